/-
  The program's permutations: an iterator that recurs over the letters that are left.
-/
import Derived.Test.YtkfcgamdlckncaaOc
import Derived.Test.YtkfcgamdlckncaaVdW
import Derived.Test.YtkfcgamdlckncaaVrn
import Derived.Test.YtkfcgamdlckncaaIuW
import Derived.Test.YtkfcgamdlckncaaWqfW
namespace Go.Proofs.Ytkfcgamdlckncaa
set_option linter.unusedVariables false
set_option linter.unusedSimpArgs false
open Go.RowKit Go.Shelf

attribute [local go_sem] Oper.semAt_some

set_option maxHeartbeats 1000000 in
theorem permutations_any (sv : ByteArray) (k : Int) (w : World) : Calls Try.prog 77 #[.string sv, .int .u8 k] w
    fun e w' => e = .returned (.func (.func 106) #[] #[.pointer (some ⟨w.heap.size + 1, 0, none⟩), .pointer (some ⟨w.heap.size, 0, none⟩)]) ∧ w' = (w.alloc (.cells #[.string sv] 9)).alloc (.cells #[.int .u8 k] 93) := by
  go_enter Try.func77, Try.ntmps77
  go_wp2
  go_ret
  exact ⟨rfl, rfl⟩

def encT (c : List UInt8) (args : Array Value) : Prop := args = #[str c]

theorem lets_once (s : Nat) : (lets s).Nodup := (show abc.Nodup by decide).filter _
theorem lets_zero {s : Nat} (hs : s < 64) : lets s = [] ↔ s = 0 := by
  constructor
  · intro h
    exact lets_inj hs (by decide) (h.trans (by decide))
  · intro h; rw [h]; decide

/-- What the loop of the iterator holds: the letters 'done' have been gone through. -/
def PermAt (J : List (List UInt8) → (Nat → Prop) → World → Prop) (l B1 B2 : Nat) (b : List UInt8) (s : Nat) (W : World) (own1 : Nat → Prop) (W2 : World) (g rn rm : Nat) (ns : ByteArray) (a : Act) (wr : World) : Prop :=
  ∃ (done todo : List UInt8) (owni : Nat → Prop) (Ds : List Nat) (u4 u5 u6 u7 u18 u19 u20 u21 u22 u23 u24 u25 u26 u27 u28 u29 u30 u31 u32 u33 u34 u35 u36 : Value),
    a = { tmps := #[.func (.yield l) #[] #[], .pointer (some ⟨B1, 0, none⟩), .pointer (some ⟨B2, 0, none⟩), .pointer (some ⟨W.heap.size, 0, none⟩), u4, u5, u6, u7, .int .u8 (s : Int), .bool false, undef, undef, undef, .int .u8 (s : Int), .string ns,
      .slice (some ⟨g, 0, none⟩) rn rm, .int .i64 rn, .int .i64 done.length, u18, u19, u20, u21, u22, u23, u24, u25, u26, u27, u28, u29, u30, u31, u32, u33, u34, u35, u36], defers := Ds.map mark } ∧
    lets s = done ++ todo ∧ J (done.flatMap (fun v => permsP (b ++ [v]) ((lets s).filter (fun u => u != v)))) owni wr ∧ Owns own1 owni W2 wr ∧
    Ds.Nodup ∧ ∀ D, D ∈ Ds → W2.heap.size ≤ D ∧ ¬ owni D ∧ wr.heap[D]? = some (.deferred (some []))

def PermOk (N : Nat) : Prop := ∀ (b : List UInt8) (s : Nat) (W : World) (B1 B2 : Nat), (lets s).length = N → s < 64 → b.length + N ≤ 6 → B1 ≠ B2 →
  Blk W B1 #[.int .u8 (s : Int)] 93 → Blk W B2 #[str b] 9 →
  IterAt Try.prog 106 #[.pointer (some ⟨B1, 0, none⟩), .pointer (some ⟨B2, 0, none⟩)] (permsP b (lets s)) encT (fun k => k = B1 ∨ k = B2) W

set_option maxRecDepth 100000 in
set_option maxHeartbeats 4000000 in
theorem perm_zero (b : List UInt8) (W : World) (B1 B2 : Nat) (hB1 : Blk W B1 #[.int .u8 0] 93) (hB2 : Blk W B2 #[str b] 9) :
    IterAt Try.prog 106 #[.pointer (some ⟨B1, 0, none⟩), .pointer (some ⟨B2, 0, none⟩)] [b] encT (fun k => k = B1 ∨ k = B2) W := by
  intro l J Jx own hJ hJx hown hprot hR h0 n
  obtain ⟨F, hF⟩ : ∃ F, F = Fence.wide := ⟨_, rfl⟩
  have hFf : ∀ f, F.fn f := by subst hF; exact fun _ => trivial
  have hdd : ∀ k : Nat, (F.depth.isSome = true → 1 ≤ k) := by subst hF; intro k h; simp [Fence.wide] at h
  have hro : F.round = none := by subst hF; rfl
  rw [← hF]
  have HF := Lib.hid hF
  clear hF
  refine callsIn_of_wp_marks Try.func106 rfl (hFf _) ?_ hro
  simp only [Try.ntmps106, List.size_toArray, List.length_cons, List.length_nil, Nat.reduceAdd, Nat.reduceSub, Array.replicate_succ, Array.replicate_zero, List.push_toArray, List.append_toArray, List.nil_append, List.cons_append]
  obtain ⟨SB, hSB⟩ : ∃ SB : ByteArray, (⟨b.toArray⟩ : ByteArray) = SB := ⟨_, rfl⟩
  unfold str at hB2
  rw [hSB] at hB2
  have HSB := Lib.hid hSB
  clear hSB
  have b1 : Blk (W.alloc (.cells #[.func (.yield l) #[] #[]] 30)) W.heap.size #[.func (.yield l) #[] #[]] 30 := Blk.new _ _ _
  have b2 := hB1.alloc (.cells #[.func (.yield l) #[] #[]] 30)
  have b3 := hB2.alloc (.cells #[.func (.yield l) #[] #[]] 30)
  have q0 : Keeps noB W (W.alloc (.cells #[.func (.yield l) #[] #[]] 30)) := (Keeps.refl _ _).alloc _
  have r0 := b1.cell 0
  have r1 := b2.cell 0
  have r2 := b3.cell 0
  simp at r0 r1 r2
  have h1 := hJ _ _ _ _ h0 (q0.mono (fun _ e => e.elim))
  obtain ⟨fn, tmps, assign, body, hy, hRd⟩ := hR (n - 1) [] b [] #[str b] own _ rfl rfl h1 (fun k hk => by have := hown k hk; simp; omega)
  unfold str at hy
  rw [HSB.out] at hy
  rw [← HF.out] at hRd
  have hB1l := hB1.lt
  have hB2l := hB2.lt
  gi_wp2
  refine ⟨hdd _, hRd.mono ?_⟩
  clear hRd hy r0 r1 r2
  rintro e W1 ⟨own1, ho1, (⟨rfl, hj1⟩ | ⟨rfl, hj1⟩)⟩
  · gi_wp2
    refine leaves_marks [] W1 List.nodup_nil (fun _ h => by cases h) (fun W' q _ => ?_)
    exact ⟨_, results_none rfl _ _ _, _, own1, rfl, ((Owns.behind q0 ho1).ahead q (fun _ e => by cases e)), .inl (hJ _ _ _ _ hj1 (q.mono (fun _ e => by cases e)))⟩
  · gi_wp2
    refine leaves_marks [] W1 List.nodup_nil (fun _ h => by cases h) (fun W' q _ => ?_)
    exact ⟨_, results_none rfl _ _ _, _, own1, rfl, ((Owns.behind q0 ho1).ahead q (fun _ e => by cases e)), .inr ⟨[b], [], rfl, hJx _ _ _ _ hj1 (q.mono (fun _ e => by cases e))⟩⟩

set_option maxRecDepth 100000 in
set_option maxHeartbeats 8000000 in
theorem perm_ok (N : Nat) (ih : ∀ m, m < N → PermOk m) : PermOk N := by
  intro b s W B1 B2 hlen hs hbN hBB hB1 hB2
  by_cases hs0 : s = 0
  · subst hs0
    have hl0 : lets 0 = [] := by decide
    rw [hl0]
    exact perm_zero b W B1 B2 hB1 hB2
  · intro l J Jx own hJ hJx hown hprot hR h0 n
    have hne : lets s ≠ [] := fun e => hs0 ((lets_zero hs).1 e)
    have hall := permsP_cons (b := b) (lets_once s) hne
    obtain ⟨F, hF⟩ : ∃ F, F = Fence.wide := ⟨_, rfl⟩
    have hFf : ∀ f, F.fn f := by subst hF; exact fun _ => trivial
    have hdd : ∀ k : Nat, (F.depth.isSome = true → 1 ≤ k) := by subst hF; intro k h; simp [Fence.wide] at h
    have hro : F.round = none := by subst hF; rfl
    have HNM : Hid (∀ n' w, CallsIn F n' Try.prog 107 #[.int .u8 (s : Int)] w (fun e w' => e = .returned (str (lets s)) ∧ Keeps noB w w')) := Lib.hid (fun n' w => by rw [hF]; exact callsIn_wide.2 (namesK_any s hs w))
    have HSO : Hid (∀ n' v w, ltr v → CallsIn F n' Try.prog 78 #[str [v]] w (fun e w' => e = .returned (.int .u8 (bitV v : Int)) ∧ Keeps noB w w')) := Lib.hid (fun n' v w hv => by
      have h := setOf_any [v] (fun u hu => by rw [List.mem_singleton] at hu; rw [hu]; exact hv) (by simp) w
      rw [bitsV_one] at h
      rw [hF]; exact callsIn_wide.2 h)
    have HWO : Hid (∀ n' v w, ltr v → CallsIn F n' Try.prog 108 #[.int .u8 (s : Int), .int .u8 (bitV v : Int)] w (fun e w' => e = .returned (.int .u8 ((strike s (bitV v) : Nat) : Int)) ∧ w' = w)) := Lib.hid (fun n' v w hv => by
      rw [hF]; exact callsIn_wide.2 (without_any hs (bitV_lt hv) w))
    have HPM : Hid (∀ n' sv k w, CallsIn F n' Try.prog 77 #[.string sv, .int .u8 k] w (fun e w' => e = .returned (.func (.func 106) #[] #[.pointer (some ⟨w.heap.size + 1, 0, none⟩), .pointer (some ⟨w.heap.size, 0, none⟩)]) ∧ w' = (w.alloc (.cells #[.string sv] 9)).alloc (.cells #[.int .u8 k] 93))) := Lib.hid (fun n' sv k w => by
      rw [hF]; exact callsIn_wide.2 (permutations_any sv k w))
    rw [← hF]
    have HF := Lib.hid hF
    clear hF
    refine callsIn_of_wp_marks Try.func106 rfl (hFf _) ?_ hro
    simp only [Try.ntmps106, List.size_toArray, List.length_cons, List.length_nil, Nat.reduceAdd, Nat.reduceSub, Array.replicate_succ, Array.replicate_zero, List.push_toArray, List.append_toArray, List.nil_append, List.cons_append]
    obtain ⟨SB, hSB⟩ : ∃ SB : ByteArray, (⟨b.toArray⟩ : ByteArray) = SB := ⟨_, rfl⟩
    unfold str at hB2
    rw [hSB] at hB2
    have HSB := Lib.hid hSB
    have hSBs : SB.size ≤ 6 := by rw [← hSB]; show b.length ≤ 6; omega
    clear hSB
    have b1 : Blk (W.alloc (.cells #[.func (.yield l) #[] #[]] 30)) W.heap.size #[.func (.yield l) #[] #[]] 30 := Blk.new _ _ _
    have b2 := hB1.alloc (.cells #[.func (.yield l) #[] #[]] 30)
    have b3 := hB2.alloc (.cells #[.func (.yield l) #[] #[]] 30)
    have q0 : Keeps noB W (W.alloc (.cells #[.func (.yield l) #[] #[]] 30)) := (Keeps.refl _ _).alloc _
    have r0 := b1.cell 0
    have r1 := b2.cell 0
    have r2 := b3.cell 0
    simp at r0 r1 r2
    have h1 := hJ _ _ _ _ h0 (q0.mono (fun _ e => e.elim))
    have HP := Lib.hid hall
    have HR := Lib.hid hR
    have hB1l := hB1.lt
    have hB2l := hB2.lt
    have hsz : ¬ (s : Int) = 0 := by omega
    have hszb : ((s : Int) == 0) = false := by simpa using hs0
    clear hR hall
    gi_wp2
    refine ⟨hdd _, (HNM.out _ _).mono ?_⟩
    rintro e W1 ⟨rfl, q1⟩
    obtain ⟨NS, hNS⟩ : ∃ NS : ByteArray, (⟨(lets s).toArray⟩ : ByteArray) = NS := ⟨_, rfl⟩
    have hNSl : NS.size = (lets s).length := by rw [← hNS]; rfl
    have hNSd : NS.data.toList = lets s := by rw [← hNS]
    obtain ⟨C, W2, hcv, q2, hs2, hC, hcell⟩ := bytes_ownK W1 NS (by rw [hNSl]; have := lets_len s; omega)
    unfold str
    rw [hNS]
    have HNS := Lib.hid (And.intro hNS (And.intro hNSl hNSd))
    have hk12 : Keeps noB W W2 := (q0.trans q1).trans q2
    have HK := Lib.hid hk12
    have HYB : Hid (Blk W2 W.heap.size #[.func (.yield l) #[] #[]] 30) := Lib.hid (q2.blk (q1.blk b1 id) id)
    have hj2 := hJ _ _ _ _ h0 (hk12.mono (fun _ e => e.elim))
    have HC : Hid (∀ wr, Keeps own W2 wr → ∀ (i : Nat) v, (lets s)[i]? = some v → wr.cell? ⟨W1.heap.size, i, none⟩ = some (.int .u8 (v.toNat : Int))) := Lib.hid (fun wr q i v hv => by
      have hi : i < (lets s).length := (List.getElem?_eq_some_iff.1 hv).1
      refine (q.cell (p := ⟨W1.heap.size, i, none⟩) (by show W1.heap.size < _; omega) (fun e => ?_)).trans ?_
      · have := hown W1.heap.size e; have := q0.size; have := q1.size; omega
      · have h := hcell i (by omega)
        rw [hNSd, List.getD_eq_getElem?_getD, hv] at h
        exact h)
    have hNS6 : NS.size ≤ 6 := by rw [hNSl]; exact lets_len s
    have hC' : (NS.size : Int) ≤ (C : Int) := by omega
    have HSZ : Hid (W.heap.size + 1 ≤ W1.heap.size ∧ W2.heap.size = W1.heap.size + 1) := Lib.hid ⟨by have := q1.size; simpa using this, hs2⟩
    clear hNS hNSl hNSd hcell q1 q2 r0 r1 r2 hk12 hs2
    gi_wp2
    clear hcv
    generalize W1.heap.size = g at HC HSZ ⊢
    refine wpIn_loop (PermAt J l B1 B2 b s W own W2 g NS.size C NS) (fun a _ => (intOf (a.tmps.getD 16 undef)).toNat - (intOf (a.tmps.getD 17 undef)).toNat) ?_ ?_
    · exact ⟨[], lets s, own, [], _, _, _, _, _, _, _, _, _, _, _, _, _, _, _, _, _, _, _, _, _, _, _, rfl, rfl, hj2, Owns.refl (fun k hk => by have := hown k hk; have := HSZ.out; omega), List.nodup_nil, fun D hD => by cases hD⟩
    · rintro a wr ⟨done, todo, owni, Ds, u4, u5, u6, u7, u18, u19, u20, u21, u22, u23, u24, u25, u26, u27, u28, u29, u30, u31, u32, u33, u34, u35, u36, rfl, hls, hji, hoi, hnd, hDs⟩
      have HL := Lib.hid hls
      have hdl := congrArg List.length hls
      rw [List.length_append, ← HNS.out.2.1] at hdl
      have HDL := Lib.hid hdl
      have hoW : Owns own owni W wr := Owns.behind HK.out hoi
      have hWr2 := hoi.keeps.size
      cases todo with
      | nil =>
        have hd : ¬ done.length < NS.size := by simp at hdl; omega
        clear hls hdl
        gi_wp2
        refine leaves_marks Ds wr hnd (fun D hD => (hDs D hD).2.2) (fun W' q _ => ?_)
        refine ⟨_, results_none rfl _ _ _, _, owni, rfl, ?_, .inl ?_⟩
        · refine hoW.ahead q (fun i hi => ?_)
          have := (hDs i hi).1; have := HSZ.out; omega
        · have hfin : permsP b (lets s) = done.flatMap (fun v => permsP (b ++ [v]) ((lets s).filter (fun u => u != v))) := by rw [HP.out]; exact congrArg (fun l => List.flatMap (fun v => permsP (b ++ [v]) ((lets s).filter (fun u => u != v))) l) (HL.out.trans (List.append_nil _))
          rw [hfin]
          refine hJ _ _ _ _ hji (q.mono (fun i hi => ⟨?_, (hDs i hi).2.1⟩))
          have := (hDs i hi).1; have := HSZ.out; omega
      | cons v todo =>
        have hd : done.length < NS.size := by simp at hdl; omega
        have hvg : (lets s)[done.length]? = some v := by rw [hls, List.getElem?_append_right (Nat.le_refl _), Nat.sub_self]; rfl
        have hvm : v ∈ lets s := List.mem_of_getElem? hvg
        have hv : ltr v := lets_ltr hvm
        have s0 := HC.out wr hoi.keeps _ _ hvg
        have HV := Lib.hid (And.intro hv (And.intro hvm (once_filter (lets_once s) hvm)))
        obtain ⟨LV, hLV⟩ : ∃ LV : ByteArray, (⟨[v].toArray⟩ : ByteArray) = LV := ⟨_, rfl⟩
        have hcl := fun W => conv_letter W hv
        unfold str at hcl
        rw [hLV] at hcl
        have hLVs : LV.size = 1 := by rw [← hLV]; rfl
        have HLV := Lib.hid hLV
        have hsum := fun W => run_string_add_sum (P := Try.prog) W SB LV (by omega)
        have HSV := Lib.hid (fun n' w => HSO.out n' v w hv)
        unfold str at HSV
        rw [hLV] at HSV
        have HWV := Lib.hid (fun n' w => HWO.out n' v w hv)
        have hnb : ∀ k, (k = B1 ∨ k = B2) → ¬ owni k := fun k hk e => (hoW.more k e).elim (hprot k hk) (fun e2 => by rcases hk with rfl | rfl <;> omega)
        have bL := hoi.keeps.blk ((HK.out).blk hB1 id) (hprot B1 (.inl rfl))
        have bA := hoi.keeps.blk ((HK.out).blk hB2 id) (hprot B2 (.inr rfl))
        have HB : Hid (∀ W', Keeps noB wr W' → W'.cell? ⟨B1, 0, none⟩ = some (.int .u8 (s : Int)) ∧ W'.cell? ⟨B2, 0, none⟩ = some (.string SB)) := Lib.hid (fun W' q => ⟨(q.blk bL id).cell 0, (q.blk bA id).cell 0⟩)
        have HDR : Hid (Keeps noB wr wr.drew) := Lib.hid (Keeps.refl _ _).drew
        have hlt1 : (done.length : Int) < (NS.size : Int) := by omega
        have hns1 : (NS.size : Int) ≤ 6 := by omega
        obtain ⟨SL, hSL⟩ : ∃ SL : ByteArray, SB ++ LV = SL := ⟨_, rfl⟩
        rw [hSL] at hsum
        have HSL : Hid (SL = ⟨(b ++ [v]).toArray⟩) := Lib.hid (by
          rw [← hSL, ← HSB.out, ← HLV.out]
          apply ByteArray.ext
          apply Array.toList_inj.1
          simp)
        clear hSL
        clear hls hdl hvg hvm hv hLV hLVs hd bL bA HSO HWO
        gi_wp2
        refine wpIn_region_seqP (fun W' => Keeps noB wr W') [(0, true), (1, true), (2, true), (3, true), (4, true), (5, false), (6, false), (7, false)] hro hFf (by kernel_rfl) (by kernel_rfl) (by kernel_rfl) rfl (by kernel_rfl) HDR.out ?_
        refine seqH_take (.string SB) rfl rfl (fun W4 q4 => by have f0 := (HB.out W4 q4).2; go_simp) (fun K hK => ?_)
        go_simp
        refine hK _ ?_
        clear hK K
        refine seqH_take (.string LV) rfl rfl (fun W4 q4 => by go_simp) (fun K hK => ?_)
        go_simp
        refine hK _ ?_
        clear hK K
        refine seqH_take (.string SL) rfl rfl (fun W4 q4 => by have f1 := hsum W4; go_simp) (fun K hK => ?_)
        go_simp
        refine hK _ ?_
        clear hK K
        refine seqH_take (.int .u8 (s : Int)) rfl rfl (fun W4 q4 => by have f0 := (HB.out W4 q4).1; go_simp) (fun K hK => ?_)
        go_simp
        refine hK _ ?_
        clear hK K
        refine seqH_take (.string LV) rfl rfl (fun W4 q4 => by go_simp) (fun K hK => ?_)
        go_simp
        refine hK _ ?_
        clear hK K
        refine seqH_loud rfl (fun K hK => ?_)
        gi_wp2
        refine ⟨hdd _, (HSV.out _ _).mono ?_⟩
        rintro e w3 ⟨rfl, q3⟩
        have HQ3 : Hid (Keeps noB wr w3) := Lib.hid (HDR.out.trans q3)
        clear q3
        gi_wp2
        refine hK _ _ HQ3.out ?_
        clear hK K
        refine seqH_loud rfl (fun K hK => ?_)
        gi_wp2
        refine ⟨hdd _, (HWV.out _ _).mono ?_⟩
        rintro e w3' ⟨rfl, rfl⟩
        gi_wp2
        refine hK _ _ HQ3.out ?_
        clear hK K
        refine seqH_loud rfl (fun K hK => ?_)
        gi_wp2
        refine ⟨hdd _, (HPM.out _ _ _ _).mono ?_⟩
        rintro e wq ⟨rfl, hwq⟩
        have q3 : Keeps noB wr wq := by rw [hwq]; exact (HQ3.out.alloc _).alloc _
        have hbA : Blk wq w3'.heap.size #[str (b ++ [v])] 9 := by
          rw [hwq]; unfold str; rw [← HSL.out]; exact (Blk.new w3' _ _).alloc _
        have hbL : Blk wq (w3'.heap.size + 1) #[.int .u8 ((strike s (bitV v) : Nat) : Int)] 93 := by
          rw [hwq]; have := Blk.new (w3'.alloc (.cells #[.string SL] 9)) #[.int .u8 ((strike s (bitV v) : Nat) : Int)] 93; rwa [World.size_alloc] at this
        have hsq : wq.heap.size = w3'.heap.size + 2 := by rw [hwq]; simp
        have HSQ := Lib.hid (And.intro hsq HQ3.out.size)
        clear hwq hsq
        generalize w3'.heap.size = M at *
        gi_wp2
        refine hK _ _ q3 ?_
        clear hK K
        simp only [wpSeqH, noPanic]
        gi_wp2
        have hmw := HSQ.out
        have hMr : wr.heap.size ≤ M := hmw.2
        have hWq2 : W.heap.size ≤ wq.heap.size := by have := hoW.keeps.size; omega
        have hsub0 : permsP (b ++ [v]) ((lets s).filter (fun u => u != v)) = permsP (b ++ [v]) (lets (strike s (bitV v))) := by rw [lets_strike s HV.out.1]
        have HALL : Hid (permsP b (lets s) = done.flatMap (fun v => permsP (b ++ [v]) ((lets s).filter (fun u => u != v))) ++ (permsP (b ++ [v]) (lets (strike s (bitV v))) ++ todo.flatMap (fun v => permsP (b ++ [v]) ((lets s).filter (fun u => u != v))))) := Lib.hid (by
          rw [HP.out]
          exact (congrArg (fun l => List.flatMap (fun v => permsP (b ++ [v]) ((lets s).filter (fun u => u != v))) l) HL.out).trans (by rw [List.flatMap_append, List.flatMap_cons, hsub0]))
        have hsub : (lets s).filter (fun u => u != v) = lets (strike s (bitV v)) := lets_strike s HV.out.1
        refine wp_range HF.out (gf := 106) (lb := #[.pointer (some ⟨M + 1, 0, none⟩), .pointer (some ⟨M, 0, none⟩)]) (all := permsP (b ++ [v]) (lets (strike s (bitV v)))) (enc := encT) (prot := fun k => k = M + 1 ∨ k = M) (own := owni)
          rfl (enters_of Try.func106 (by kernel_rfl) rfl) ?hiter
          (fun pre own' W' => J (done.flatMap (fun v => permsP (b ++ [v]) ((lets s).filter (fun u => u != v))) ++ pre) own' W' ∧ Owns owni own' wq W')
          (fun c pre own' W' => (c = .ret ∧ Jx (done.flatMap (fun v => permsP (b ++ [v]) ((lets s).filter (fun u => u != v))) ++ pre) own' W') ∧ Owns owni own' wq W') ?hI ?hIx ?hown ?hprot ?hps ?h0 ?hround ?hdone ?hstop
        case hiter =>
          intro W' q
          have hl2 : (lets (strike s (bitV v))).length + 1 = N := by rw [← hsub, HV.out.2.2, hlen]
          exact ih _ (by omega) (b ++ [v]) (strike s (bitV v)) W' (M + 1) M rfl (strike_lt _ hs) (by simp; omega) (by omega) (q.blk hbL id) (q.blk hbA id)
        case hI => exact ((hJ.mono hWq2).shift _).and Owns.stab
        case hIx =>
          intro c pre own W W' h q
          exact ⟨⟨h.1.1, (hJx.mono hWq2).shift _ _ _ _ _ h.1.2 q⟩, Owns.stab pre _ _ _ h.2 q⟩
        case hown => intro k hk; have := hoi.lt k hk; omega
        case hprot =>
          rintro k (rfl | rfl)
          · exact ⟨fun e => by have := hoi.lt _ e; omega, by omega⟩
          · exact ⟨fun e => by have := hoi.lt _ e; omega, by omega⟩
        case hps => rintro y args rfl; rfl
        case h0 => exact ⟨by rw [List.append_nil]; exact hJ _ _ _ _ hji (q3.mono (fun _ e => e.elim)), Owns.refl (fun k hk => by have := hoi.lt k hk; omega)⟩
        case hround =>
          intro lq m pre y post args own3 W3 hall henc hI3 hlt3 hql hnl hll
          obtain ⟨hj3, ho3⟩ := hI3
          have hargs : args = #[str y] := henc
          subst hargs
          have b4 : Blk W3 W.heap.size #[.func (.yield l) #[] #[]] 30 := by
            have b1' : Blk W2 W.heap.size #[.func (.yield l) #[] #[]] 30 := HYB.out
            refine ho3.keeps.blk (q3.blk (hoi.keeps.blk b1' ?_) id) ?_
            · intro e; have := hown _ e; omega
            · intro e; exact (hoi.more _ e).elim (fun e => by have := hown _ e; omega) (fun e => by have := HSZ.out; omega)
          obtain ⟨YV, hYV⟩ : ∃ YV : ByteArray, (⟨y.toArray⟩ : ByteArray) = YV := ⟨_, rfl⟩
          have hstr : str y = .string YV := by unfold str; rw [hYV]
          rw [hstr] at henc ⊢
          clear hYV
          gi_wp2
          refine ⟨Keeps.refl _ _, fun W5 q5 hs5 => ?_⟩
          have hq3 := ho3.keeps.size
          have b5 : Blk W5 W.heap.size #[.func (.yield l) #[] #[]] 30 := q5.blk b4 (show W.heap.size ≠ lq by have := hoW.keeps.size; omega)
          have k35 : Keeps (fun k => wq.heap.size ≤ k ∧ ¬ own3 k) W3 W5 := q5.mono (fun k e => by obtain rfl : k = lq := e; exact ⟨hql, hnl⟩)
          have hj5 := hJ _ _ _ _ hj3 (k35.mono (fun k e => ⟨by omega, e.2⟩))
          obtain ⟨fn2, tmps2, assign2, body2, hy2, hR2⟩ := HR.out (m - 1) _ y (post ++ todo.flatMap (fun v => permsP (b ++ [v]) ((lets s).filter (fun u => u != v)))) #[.string YV] own3 W5 (by
            rw [HALL.out, hall]; simp) henc hj5 (fun k hk => by have := hlt3 k hk; omega)
          have ho5 := ho3.ahead k35 (fun i hi => hi.1)
          clear henc hstr
          rw [← HF.out] at hR2
          have r0 := b5.cell 0
          simp at r0
          gi_wp2
          refine ⟨hdd _, (show RoundIn (F.inRound lq) _ _ _ _ _ _ _ _ _ from hR2).mono ?_⟩
          rintro e W6 ⟨own6, ho6, (⟨rfl, hj6⟩ | ⟨rfl, hj6⟩)⟩
          · gi_wp2
            exact ⟨own6, ho6, by rw [← List.append_assoc]; exact hj6, ho5.trans ho6⟩
          · gi_wp2
            exact ⟨own6, ho6, ⟨rfl, by rw [← List.append_assoc]; exact hj6⟩, ho5.trans ho6⟩
        case hdone =>
          rintro D own' W' hb ⟨hj', ho'⟩
          have hnew := behind_marks q3 hoi hb hnd hDs
          have how : Owns own own' W2 W' := (hoi.ahead q3 (fun _ e => e.elim)).trans hb.owns
          have hkd : lets s = (done ++ [v]) ++ todo := by rw [HL.out]; simp
          have hjd : J ((done ++ [v]).flatMap (fun v => permsP (b ++ [v]) ((lets s).filter (fun u => u != v)))) own' W' := by
            rw [List.flatMap_append, List.flatMap_cons, List.flatMap_nil, List.append_nil, hsub0]; exact hj'
          have HD := Lib.hid (And.intro hkd (And.intro hjd (And.intro how hnew)))
          clear hkd hjd how hnew hb hj' ho'
          dsimp only
          gi_wp2
          have e1 : (done.length : Int) + 1 = ((done ++ [v]).length : Int) := by simp
          rw [e1]
          obtain ⟨hkd, hjd, how, hnew⟩ := HD.out
          refine ⟨⟨done ++ [v], todo, own', D :: Ds, _, _, _, _, _, _, _, _, _, _, _, _, _, _, _, _, _, _, _, _, _, _, _, rfl, hkd, hjd, how, hnew.1, hnew.2⟩, ?_⟩
          simp [intOf]; omega
        case hstop =>
          rintro D c pre post own' W' hb hall ⟨⟨rfl, hj'⟩, ho'⟩
          obtain ⟨hn1, hn2⟩ := behind_marks q3 hoi hb hnd hDs
          have how : Owns own own' W W' := (hoW.ahead q3 (fun _ e => e.elim)).trans hb.owns
          have hsz2 : W.heap.size ≤ W2.heap.size := by have := HSZ.out; omega
          dsimp only
          gi_wp2
          refine leaves_marks (D :: Ds) W' hn1 (fun D' hD' => (hn2 D' hD').2.2) (fun W'' q _ => ?_)
          refine ⟨_, results_none rfl _ _ _, _, own', rfl, how.ahead q (fun i hi => by have := (hn2 i hi).1; omega), .inr ⟨_, post ++ todo.flatMap (fun v => permsP (b ++ [v]) ((lets s).filter (fun u => u != v))), ?_, hJx _ _ _ _ hj' (q.mono (fun i hi => ⟨by have := (hn2 i hi).1; omega, (hn2 i hi).2.1⟩))⟩⟩
          rw [HALL.out, hall]; simp

theorem perm_all (N : Nat) : PermOk N := Nat.strongRecOn N (fun n ih => perm_ok n ih)

end Go.Proofs.Ytkfcgamdlckncaa

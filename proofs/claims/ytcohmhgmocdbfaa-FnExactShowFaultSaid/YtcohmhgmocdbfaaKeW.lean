/-
  Walks of the program's run: slices.Backward over bytes; destroyAll.
  Walks of the program's run: how a step ends; leave.
-/
import Derived.Test.YtcohmhgmocdbfaaKcW
import Derived.RangeFuncSeq
import Derived.RangeFuncLeaves
import Derived.TacticsInMore
import Derived.LoopIn
import Derived.OwnWalkIn
import Derived.RangeFuncBox
import Derived.RangeFuncCalls
import Derived.Lib.ConvBytes
import Derived.Test.YtcohmhgmocdbfaaMemW
namespace Go.Proofs.Ytcohmhgmocdbfaa
set_option linter.unusedVariables false
set_option linter.unusedSimpArgs false
open Go.RowKit

attribute [local go_sem] Oper.semAt_some

theorem backward_any (a : Option Addr) (n c : Nat) (w : World) : Calls Try.prog 133 #[.slice a n c] w
    fun e w' => e = .returned (.func (.func 134) #[] #[ptr w.heap.size]) ∧ w' = w.alloc (.cells #[.slice a n c] 22) := by
  go_enter Try.func133, Try.ntmps133
  go_wp2
  go_ret
  exact ⟨rfl, rfl⟩

/-- What is yielded of the first m bytes, from the last one on. -/
def backTo (l : List UInt8) : Nat → List (Nat × UInt8)
  | 0 => []
  | m + 1 => (m, l.getD m 0) :: backTo l m

def encB (p : Nat × UInt8) (args : Array Value) : Prop := args = #[.int .i64 (p.1 : Int), .int .u8 (p.2.toNat : Int)]

/-- The bytes that are gone through: n of them, in block R; B: the box. -/
structure BackAt (W : World) (B R n c : Nat) (l : List UInt8) : Prop where
  box : Blk W B #[.slice (some ⟨R, 0, none⟩) n c] 22
  len : l.length = n
  cap : n ≤ c
  lt : R < W.heap.size
  cell : ∀ i, i < n → W.cell? ⟨R, i, none⟩ = some (.int .u8 ((l.getD i 0).toNat : Int))

/-- What the loop of the iterator holds. -/
def BackLoop (J : List (Nat × UInt8) → (Nat → Prop) → World → Prop) (lb B R n c : Nat) (l : List UInt8) (own : Nat → Prop) (W : World) (a : Act) (wr : World) : Prop :=
  ∃ (m : Nat) (done : List (Nat × UInt8)) (own' : Nat → Prop) (u2 u4 u5 u6 u7 u8 u9 u10 u11 u12 u13 u14 u15 u16 u17 u18 : Value),
    a = { tmps := #[.func (.yield lb) #[] #[], .pointer (some ⟨B, 0, none⟩), u2, .int .i64 ((m : Int) - 1), u4, u5, u6, u7, u8, u9, u10, u11, u12, u13, u14, u15, u16, u17, u18], defers := [] } ∧
    m ≤ n ∧ backTo l n = done ++ backTo l m ∧ J done own' wr ∧ Owns own own' W wr

set_option maxRecDepth 100000 in
set_option maxHeartbeats 4000000 in
theorem back_iter (W : World) (B R n c : Nat) (l : List UInt8) (h : BackAt W B R n c l) (hn : n ≤ 1000) : IterAt Try.prog 134 #[ptr B] (backTo l n) encB (fun k => k = B ∨ k = R) W := by
  intro lb J Jx own hJ hJx hown hprot hR h0 n0
  obtain ⟨F, hF⟩ : ∃ F, F = Fence.wide := ⟨_, rfl⟩
  have hFf : ∀ f, F.fn f := by subst hF; exact fun _ => trivial
  have hdd : ∀ k : Nat, (F.depth.isSome = true → 1 ≤ k) := by subst hF; intro k h; simp [Fence.wide] at h
  have hro : F.round = none := by subst hF; rfl
  have hds : F.depth.isSome = false := by subst hF; rfl
  rw [← hF]
  have HF := Lib.hid hF
  clear hF
  refine callsIn_of_wp_marks Try.func134 rfl (hFf _) ?_ hro
  simp only [Try.ntmps134, List.size_toArray, List.length_cons, List.length_nil, Nat.reduceAdd, Nat.reduceSub, Array.replicate_succ, Array.replicate_zero, List.push_toArray, List.append_toArray, List.nil_append, List.cons_append]
  have HH := Lib.hid h
  have r0 := h.box.cell 0
  simp at r0
  have hBl := h.box.lt
  have hRl := h.lt
  have hnB : ¬ own B := hprot B (.inl rfl)
  have hnR : ¬ own R := hprot R (.inr rfl)
  have HR := Lib.hid hR
  clear h hR
  unfold ptr
  gi_wp2
  refine wpIn_loop (BackLoop J lb B R n c l own W) (fun a _ => (intOf (a.tmps.getD 3 undef) + 1).toNat) ?_ ?_
  · exact ⟨n, [], own, _, _, _, _, _, _, _, _, _, _, _, _, _, _, _, _, rfl, Nat.le_refl _, rfl, h0, Owns.refl hown⟩
  · rintro a wr ⟨m, done, own', u2, u4, u5, u6, u7, u8, u9, u10, u11, u12, u13, u14, u15, u16, u17, u18, rfl, hmn, hall, hj, ho⟩
    have hW := ho.keeps.size
    have r0' := (ho.keeps.cell (p := ⟨B, 0, none⟩) hBl hnB).trans r0
    cases m with
    | zero =>
      have HE : Hid (∀ W', Keeps (fun k => k ∈ []) wr W' → IterEnds J Jx (backTo l n) own W (.returned (.tuple #[])) W') := by
        intro W' q
        refine ⟨_, own', rfl, ho.ahead q (fun i e => by cases e), .inl ?_⟩
        rw [hall]
        rw [show backTo l 0 = [] from rfl, List.append_nil]
        exact hJ _ _ _ _ hj (q.mono (fun _ e => by cases e))
      clear hj ho hall r0'
      gi_wp2
      refine leaves_marks [] wr List.nodup_nil (fun _ h => by cases h) (fun W' q _ => ?_)
      exact ⟨_, results_none rfl _ _ _, HE.out _ q⟩
    | succ m =>
      have e1 : ((m + 1 : Nat) : Int) - 1 = (m : Int) := by omega
      rw [e1]
      have hcell := (ho.keeps.cell (p := ⟨R, m, none⟩) hRl hnR).trans (HH.out.cell m (by omega))
      have hcap := HH.out.cap
      have hmc : (m : Int) < (n : Int) := by omega
      have hm0 : (0 : Int) ≤ (m : Int) := by omega
      obtain ⟨fn, tmps, assign, body, hy, hRd⟩ := HR.out (n0 - 1) done (m, l.getD m 0) (backTo l m) #[.int .i64 (m : Int), .int .u8 ((l.getD m 0).toNat : Int)] own' wr hall rfl hj ho.lt
      rw [← HF.out] at hRd
      have HA := Lib.hid (And.intro hall (And.intro hj ho))
      generalize ((l.getD m 0).toNat : Int) = cv at hcell hy
      clear hall hj ho e1
      gi_wp2
      refine hRd.mono ?_
      clear hRd hy hcell r0'
      rintro e W1 ⟨own1, ho1, (⟨rfl, hj1⟩ | ⟨rfl, hj1⟩)⟩
      · have HE : Hid (∀ (u2 u4 u5 u6 u7 u8 u9 u10 u11 u12 u13 u14 u15 u16 u17 u18 : Value), BackLoop J lb B R n c l own W { tmps := #[.func (.yield lb) #[] #[], .pointer (some ⟨B, 0, none⟩), u2, .int .i64 ((m : Int) - 1), u4, u5, u6, u7, u8, u9, u10, u11, u12, u13, u14, u15, u16, u17, u18], defers := [] } W1) :=
          fun u2 u4 u5 u6 u7 u8 u9 u10 u11 u12 u13 u14 u15 u16 u17 u18 => ⟨m, done ++ [(m, l.getD m 0)], own1, u2, u4, u5, u6, u7, u8, u9, u10, u11, u12, u13, u14, u15, u16, u17, u18, rfl, by omega, by rw [HA.out.1]; simp [backTo], hj1, HA.out.2.2.trans ho1⟩
        clear hj1 ho1
        gi_wp2
        refine ⟨HE.out _ _ _ _ _ _ _ _ _ _ _ _ _ _ _ _, ?_⟩
        simp [intOf]
      · have HE : Hid (∀ W', Keeps (fun k => k ∈ []) W1 W' → IterEnds J Jx (backTo l n) own W (.returned (.tuple #[])) W') := by
          intro W' q
          refine ⟨_, own1, rfl, (HA.out.2.2.trans ho1).ahead q (fun i e => by cases e), .inr ⟨done ++ [(m, l.getD m 0)], backTo l m, by rw [HA.out.1]; simp [backTo], hJx _ _ _ _ hj1 (q.mono (fun _ e => by cases e))⟩⟩
        clear hj1 ho1
        gi_wp2
        refine leaves_marks [] W1 List.nodup_nil (fun _ h => by cases h) (fun W' q _ => ?_)
        exact ⟨_, results_none rfl _ _ _, HE.out _ q⟩

/-- What has been destroyed. -/
def St.gone (s : St) (pre : List (Nat × UInt8)) : St := pre.foldl (fun s p => s.destroy p.2) s

theorem backTo_cons (v : UInt8) (r : List UInt8) : ∀ m : Nat, m ≤ r.length → backTo (v :: r) (m + 1) = (backTo r m).map (fun p => (p.1 + 1, p.2)) ++ [(0, v)]
  | 0, _ => rfl
  | m + 1, h => by
    have ih := backTo_cons v r m (by omega)
    rw [backTo, ih]
    simp [backTo]

theorem gone_all (s : St) : ∀ l : List UInt8, s.gone (backTo l l.length) = s.destroyAll l
  | [] => rfl
  | v :: r => by
    have ih := gone_all s r
    rw [List.length_cons, backTo_cons v r r.length (Nat.le_refl _)]
    unfold St.gone at *
    rw [List.foldl_append, List.foldl_map]
    simp only [List.foldl_cons, List.foldl_nil]
    rw [ih]
    rfl

theorem gone_snoc (s : St) (pre : List (Nat × UInt8)) (p : Nat × UInt8) : s.gone (pre ++ [p]) = (s.gone pre).destroy p.2 := by unfold St.gone; rw [List.foldl_append]; rfl

theorem gone_ev (s : St) : ∀ pre : List (Nat × UInt8), Evs pre.length s (s.gone pre) := by
  intro pre
  suffices h : ∀ (pre : List (Nat × UInt8)) (t : St), Evs pre.length t (pre.foldl (fun s p => s.destroy p.2) t) from h pre s
  intro pre
  induction pre with
  | nil => intro t; exact Evs.refl t
  | cons p r ih =>
    intro t
    have := (evs_destroy t p.2).trans (ih (t.destroy p.2))
    rw [List.length_cons, Nat.add_comm]
    exact this

theorem backTo_mem {l : List UInt8} : ∀ {m : Nat}, m ≤ l.length → ∀ p ∈ backTo l m, p.2 ∈ l
  | 0, _, p, hp => by cases hp
  | m + 1, h, p, hp => by
    rcases List.mem_cons.1 hp with rfl | hp
    · have hm : m < l.length := by omega
      simp [List.getD, hm]
    · exact backTo_mem (by omega) p hp

theorem backTo_len (l : List UInt8) : ∀ m : Nat, (backTo l m).length = m
  | 0 => rfl
  | m + 1 => by rw [backTo, List.length_cons, backTo_len l m]

def GoneI (b : Nat) (s : St) (ar : List UInt8) (own0 : Nat → Prop) (w2 : World) (pre : List (Nat × UInt8)) (own : Nat → Prop) (W : World) : Prop :=
  Owns own0 own w2 W ∧ ∃ ve vv, RunAt W own b (s.gone pre) ar ve vv

theorem RunAt.keeps {w W : World} {own : Nat → Prop} {b : Nat} {s : St} {ar : List UInt8} {ve vv : Value} {may : Nat → Prop} (h : RunAt w own b s ar ve vv) (q : Keeps may w W) (hm : ∀ g, own g → ¬ may g) : RunAt W own b s ar ve vv :=
  ⟨q.blk h.blk (hm b h.mine), q.ownsRow h.ev (fun g hg _ => hm g (h.ownE g hg).1), q.ownsRow h.vis (fun g hg _ => hm g (h.ownV g hg).1), h.mine, h.ownE, h.ownV⟩

theorem BackAt.keeps {W W' : World} {B R n c : Nat} {l : List UInt8} (h : BackAt W B R n c l) (q : Keeps noB W W') : BackAt W' B R n c l :=
  ⟨q.blk h.box id, h.len, h.cap, Nat.lt_of_lt_of_le h.lt q.size, fun i hi => (q.cell (p := ⟨R, i, none⟩) h.lt id).trans (h.cell i hi)⟩

/-- A text as bytes of its own. -/
theorem bytes_own (w : World) (ls : ByteArray) (hs : ls.size ≤ 1000) : ∃ C W2, (convert 9 22 (.string ls)).run Try.prog w = .ok (.slice (some ⟨w.heap.size, 0, none⟩) ls.size C) W2 ∧ Keeps noB w W2 ∧ W2.heap.size = w.heap.size + 1 ∧ ls.size ≤ C ∧
    ∀ i, i < ls.size → W2.cell? ⟨w.heap.size, i, none⟩ = some (.int .u8 ((ls.data.toList.getD i 0).toNat : Int)) := by
  refine ⟨_, _, Lib.run_convert_string_bytes w 9 22 5 ls Try.underlying9 Try.underlying22 Try.underlying5, ?_, Lib.bytesWorld_size w _ ls, grownCap_ge _ _ _ _, fun i hi => Lib.bytesWorld_cell w _ ls i hi⟩
  exact ⟨rfl, rfl, rfl, by rw [Lib.bytesWorld_size]; omega, fun k hk _ => Lib.bytesWorld_at_old w _ ls k hk⟩

set_option maxRecDepth 100000 in
set_option maxHeartbeats 4000000 in
theorem destroyAll_any (b : Nat) (s : St) (ar : List UInt8) (ve vv : Value) (own : Nat → Prop) (w : World) (h : RunAt w own b s ar ve vv) (hlt : ∀ k, own k → k < w.heap.size) (l : List UInt8) (hl : ∀ v ∈ l, lett v) (hll : l.length ≤ 80) (hn : s.ev.length ≤ 900000) :
    Calls Try.prog 128 #[.pointer (some ⟨b, 0, none⟩), .string ⟨l.toArray⟩] w (Runs w own b (s.destroyAll l) ar (.tuple #[])) := by
  refine (callsIn_wide (n := 9)).1 ?_
  obtain ⟨F, hF⟩ : ∃ F, F = Fence.wide := ⟨_, rfl⟩
  have hFf : ∀ f, F.fn f := by subst hF; exact fun _ => trivial
  have hdd : ∀ k : Nat, (F.depth.isSome = true → 1 ≤ k) := by subst hF; intro k h; simp [Fence.wide] at h
  have hro : F.round = none := by subst hF; rfl
  have hds : F.depth.isSome = false := by subst hF; rfl
  have HB : Hid (∀ m a n c w, CallsIn F m Try.prog 133 #[.slice a n c] w (fun e w' => e = .returned (.func (.func 134) #[] #[ptr w.heap.size]) ∧ w' = w.alloc (.cells #[.slice a n c] 22))) := fun m a n c w => by
    rw [hF]; exact callsIn_wide.2 (backward_any a n c w)
  rw [← hF]
  have HF := Lib.hid hF
  clear hF
  refine callsIn_of_wp_marks Try.func128 rfl (hFf _) ?_ hro
  simp only [Try.ntmps128, List.size_toArray, List.length_cons, List.length_nil, Nat.reduceAdd, Nat.reduceSub, Array.replicate_succ, Array.replicate_zero, List.push_toArray, List.append_toArray, List.nil_append, List.cons_append]
  have HH := Lib.hid h
  clear h
  obtain ⟨ls, hls⟩ : ∃ ls : ByteArray, ls = ⟨l.toArray⟩ := ⟨_, rfl⟩
  rw [← hls]
  have hlz : ls.size = l.length := by rw [hls]; simp [ByteArray.size]
  have hld : ls.data.toList = l := by rw [hls]
  have HL := Lib.hid hls
  clear hls
  have hk0 : Keeps noB w (w.alloc (.cells #[.pointer (some ⟨b, 0, none⟩)] 79)) := (Keeps.refl _ _).alloc _
  have b0 := Blk.new w #[.pointer (some ⟨b, 0, none⟩)] 79
  obtain ⟨C, W2, hcv, hk2, hs2, hC, hce⟩ := bytes_own (w.alloc (.cells #[.pointer (some ⟨b, 0, none⟩)] 79)) ls (by omega)
  have hs0 : (w.alloc (.cells #[.pointer (some ⟨b, 0, none⟩)] 79)).heap.size = w.heap.size + 1 := by simp
  rw [hs0] at hcv hs2 hce
  have b2 := hk2.blk b0 id
  have k2 : Keeps noB w W2 := hk0.trans hk2
  have HS := Lib.hid (And.intro hs2 (And.intro hC (And.intro hce (And.intro hlz hld))))
  have HK := Lib.hid (And.intro b2 k2)
  clear hk0 b0 hk2 hs2 hC hce hlz hld hs0 b2 k2
  gi_wp2
  refine (HB.out _ _ _ _ _).mono ?_
  rintro e w3 ⟨rfl, rfl⟩
  obtain ⟨w3, hw3⟩ : ∃ w3, w3 = W2.alloc (.cells #[.slice (some ⟨w.heap.size + 1, 0, none⟩) ls.size C] 22) := ⟨_, rfl⟩
  rw [← hw3]
  have q3 : Keeps noB W2 w3 := by rw [hw3]; exact (Keeps.refl _ _).alloc _
  have b3 : Blk w3 W2.heap.size #[.slice (some ⟨w.heap.size + 1, 0, none⟩) ls.size C] 22 := by rw [hw3]; exact Blk.new _ _ _
  have hs3 : w3.heap.size = W2.heap.size + 1 := by rw [hw3]; simp
  have br3 := q3.blk HK.out.1 id
  have k3 : Keeps noB w w3 := HK.out.2.trans q3
  have HA : BackAt w3 W2.heap.size (w.heap.size + 1) ls.size C l := by
    obtain ⟨h1, h2, h3, h4, h5⟩ := HS.out
    refine ⟨b3, h4.symm, h2, by omega, fun i hi => ?_⟩
    have e := (q3.cell (p := ⟨w.heap.size + 1, i, none⟩) (show w.heap.size + 1 < W2.heap.size by omega) id).trans (h3 i hi)
    rw [h5] at e
    exact e
  have hsl := HS.out.2.2.2.1
  have hsw := HS.out.1
  rw [hsw] at HA
  rw [hsw] at hs3
  rw [hsl] at HA
  have HAA := Lib.hid HA
  have HRB := Lib.hid br3
  have HK3 := Lib.hid k3
  clear hw3 HA b3 br3 k3 hcv q3
  gi_wp2
  have HZ := Lib.hid (And.intro hsl (And.intro hsw hs3))
  clear hsl hsw hs3
  refine wp_range HF.out (gf := 134) (lb := #[ptr (w.heap.size + 1 + 1)]) (all := backTo l l.length) (enc := encB) (prot := fun k => k = w.heap.size + 1 + 1 ∨ k = w.heap.size + 1) (own := own)
    rfl (enters_of Try.func134 (by kernel_rfl) rfl) (fun W q => back_iter W _ _ _ C l (HAA.out.keeps q) (by omega)) (GoneI b s ar own w3) (fun _ _ _ _ => False) ?hI ?hIx ?hown ?hprot ?hps ?h0 ?hround ?hdone ?hstop
  case hI =>
    rintro pre own1 W W' ⟨ho, ve', vv', hr⟩ q
    exact ⟨ho.ahead q (fun i e => e.1), ve', vv', hr.keeps q (fun g hg e => e.2 hg)⟩
  case hIx => rintro c pre own W W' h q; exact h
  case hown => intro k hk; have := hlt k hk; have := HZ.out.2.2; omega
  case hprot => intro k hk; exact ⟨fun e => by have := hlt k e; omega, by have := HZ.out.2.2; omega⟩
  case hps => rintro y args rfl; rfl
  case h0 => exact ⟨Owns.refl (fun k hk => by have := hlt k hk; have := HZ.out.2.2; omega), ve, vv, HH.out.keeps HK3.out (fun _ _ e => e)⟩
  case hround =>
    rintro l1 m pre p post args own1 W1 hall henc ⟨ho, ve1, vv1, hr⟩ hlt1 hl1 hnl hll1
    have henc' : args = #[.int .i64 (p.1 : Int), .int .u8 (p.2.toNat : Int)] := henc
    subst henc'
    have hlv : lett p.2 := hl _ (backTo_mem (Nat.le_refl _) p (by rw [hall]; simp))
    have hpl : pre.length ≤ 80 := by
      have e := backTo_len l l.length
      rw [hall] at e
      simp at e
      omega
    have hev := (gone_ev s pre).ev
    have HP := Lib.hid (And.intro hlv (And.intro ho hr))
    have HW := Lib.hid (And.intro hl1 (And.intro hnl hll1))
    generalize hpv : (p.2.toNat : Int) = pv
    have HPV := Lib.hid hpv
    clear hall henc hlv ho hr hl1 hnl hll1 hpv
    gi_wp2
    refine ⟨Keeps.refl _ _, fun W3 q3 hs3 => ?_⟩
    obtain ⟨hlv, ho, hr⟩ := HP.out
    obtain ⟨hl1, hnl, hll1⟩ := HW.out
    have hr3 := hr.keeps q3 (fun g hg (e : g = l1) => hnl (e ▸ hg))
    have hlt3 : ∀ k, own1 k → k < W3.heap.size := fun k hk => by rw [hs3]; exact hlt1 k hk
    have ho3 : Owns own own1 w3 W3 := ho.ahead q3 (fun i (e : i = l1) => by omega)
    have hwo : ¬ own w.heap.size := fun e => by have := hlt _ e; omega
    have rb : W3.cell? ⟨w.heap.size, 0, none⟩ = some (.pointer (some ⟨b, 0, none⟩)) := by
      have hz := HZ.out.2.2
      have e := (ho3.keeps.cell (p := ⟨w.heap.size, 0, none⟩) (show w.heap.size < w3.heap.size by omega) hwo).trans (HRB.out.cell 0)
      simpa using e
    have HD : Hid (∀ m, CallsIn (F.inRound l1) m Try.prog 124 #[.pointer (some ⟨b, 0, none⟩), .int .u8 pv] W3 (Runs W3 own1 b (s.gone (pre ++ [p])) ar (.tuple #[]))) := fun m => by
      rw [HF.out, ← HPV.out, gone_snoc]
      exact CallsIn.inRound l1 (callsIn_wide.2 (destroy_any b (s.gone pre) ar ve1 vv1 own1 W3 hr3 hlt3 p.2 hlv (by omega)))
    have HO := Lib.hid ho3
    clear hlv ho hr hl1 hnl hll1 hr3 hlt3 ho3 hwo q3 hs3 hev hpl
    gi_wp2_with (refine CallsIn.mono (HD.out _) ?_)
    rintro e w4 ⟨own4, ve4, vv4, rfl, ho4, hr4⟩
    have HE : Hid (∃ own', Owns own1 own' W3 w4 ∧ GoneI b s ar own w3 (pre ++ [p]) own' w4) := ⟨own4, ho4, HO.out.trans ho4, ve4, vv4, hr4⟩
    clear ho4 hr4
    gi_wp2
    exact HE.out
  case hdone =>
    rintro D own' W' hb ⟨ho, ve', vv', hr⟩
    have HE : Hid (∀ W2, Keeps (fun k => k ∈ [D]) W' W2 → Runs w own b (s.destroyAll l) ar (.tuple #[]) (.returned (.tuple #[])) W2) := by
      intro W2 q
      have hD := hb.new
      have hsz := HK3.out.size
      refine ⟨own', ve', vv', rfl, (Owns.behind HK3.out ho).ahead q (fun i e => by simp at e; omega), ?_⟩
      have e := hr.keeps q (fun g hg e => hb.free (by simp at e; exact e ▸ hg))
      rw [gone_all] at e
      exact e
    have HD := Lib.hid hb.none
    clear ho hr hb
    dsimp only
    gi_wp2
    refine leaves_marks [D] _ (by simp) (fun D' hD' => by simp at hD'; subst hD'; exact HD.out) (fun W2 q _ => ?_)
    exact ⟨_, results_none rfl _ _ _, HE.out _ q⟩
  case hstop => intro D c pre post own' W' _ _ h; exact h.elim

end Go.Proofs.Ytcohmhgmocdbfaa

namespace Go.Proofs.Ytcohmhgmocdbfaa
set_option linter.unusedVariables false
set_option linter.unusedSimpArgs false
open Go.RowKit

/-- How a step ends in which the run goes to o. -/
def RunEnds (w : World) (own : Nat → Prop) (b : Nat) (ar : List UInt8) : Out → Ending → World → Prop
  | .go t, e, w' => Runs w own b t ar (.tuple #[]) e w'
  | .stop y t, e, w' => Thrown y e ∧ ∃ own' ar' ve vv, Owns own own' w w' ∧ RunAt w' own' b t ar' ve vv

theorem RunEnds.after {w w1 : World} {own own1 : Nat → Prop} {b : Nat} {ar : List UInt8} {o : Out} {e : Ending} {w' : World} (ho : Owns own own1 w w1) (h : RunEnds w1 own1 b ar o e w') : RunEnds w own b ar o e w' := by
  cases o with
  | go t => exact Runs.after ho h
  | stop y t =>
    obtain ⟨h1, own', ar', ve, vv, hO, hR⟩ := h
    exact ⟨h1, own', ar', ve, vv, ho.trans hO, hR⟩

set_option maxRecDepth 100000 in
set_option maxHeartbeats 1000000 in
theorem leave_any (b : Nat) (s : St) (ar : List UInt8) (ve vv : Value) (own : Nat → Prop) (w : World) (h : RunAt w own b s ar ve vv) (hlt : ∀ k, own k → k < w.heap.size) (hl : ∀ v ∈ ar, lett v) (hll : ar.length ≤ 80) (hn : s.ev.length ≤ 900000)
    (g k e : Nat) (c : UInt8) (hg : Blk w g #[i64 k, i64 e, u8 c] 178) (hgo : ¬ own g) (hc : c = 94 ∨ c = 33) :
    Calls Try.prog 108 #[.pointer (some ⟨b, 0, none⟩), .pointer (some ⟨g, 0, none⟩)] w (RunEnds w own b ar (.stop (if c = 94 then .ret else .fail) (s.destroyAll ar))) := by
  have HD := Lib.hid (destroyAll_any b s ar ve vv own w h hlt ar hl hll hn)
  have r1 := h.blk.cell 1
  simp [runCells] at r1
  have HG : Hid (∀ own' w', Owns own own' w w' → w'.cell? ⟨g, 2, none⟩ = some (.int .u8 (c.toNat : Int))) := fun own' w' ho => ((ho.keeps.cell (p := ⟨g, 2, none⟩) hg.lt hgo).trans (hg.cell 2)).trans rfl
  generalize s.destroyAll ar = t at HD
  obtain ⟨sv, hsv⟩ : ∃ sv : ByteArray, sv = ⟨ar.toArray⟩ := ⟨_, rfl⟩
  rw [← hsv] at r1 HD
  clear h hg hsv
  rcases hc with rfl | rfl
  all_goals
    go_enter Try.func108, Try.ntmps108
    go_wp2_with (go_at_call 128; refine HD.out.mono ?_; rintro e1 w1 ⟨own1, ve1, vv1, rfl, ho1, hr1⟩; have r2 := HG.out own1 w1 ho1; simp at r2; have HE := Lib.hid (And.intro ho1 hr1); clear ho1 hr1)
    exact ⟨rfl, rfl, own1, ar, ve1, vv1, HE.out.1, HE.out.2⟩

end Go.Proofs.Ytcohmhgmocdbfaa

/-
  The program's unsaidWithin: the iterator over the points of a step and what is destroyed unsaid there.
-/
import Derived.Test.YtcpbkohpgchckaaYaW
import Derived.Test.YtcpbkohpgchckaaPyW
import Derived.Test.YtcpbkohpgchckaaWqV
import Derived.Test.YtcpbkohpgchckaaIuW
namespace Go.Proofs.Ytcpbkohpgchckaa
set_option linter.unusedVariables false
set_option linter.unusedSimpArgs false
open Go.RowKit Go.Shelf

attribute [local go_sem] Oper.semAt_some

set_option maxHeartbeats 1000000 in
theorem unsaidWithin_any (v sv dv : Value) (w : World) : Calls Try.prog 91 #[.agg #[v, sv, dv]] w
    fun e w' => e = .returned (.func (.func 130) #[] #[ptr w.heap.size]) ∧ w' = w.alloc (.cells #[v, sv, dv] 51) := by
  go_enter Try.func91, Try.ntmps91
  go_wp2
  go_ret
  exact ⟨rfl, rfl⟩

/-- What is handed to the loops over points. -/
def encU (p : Pt) (args : Array Value) : Prop := args = #[.int .i64 (p.1 : Int), .string ⟨p.2.toArray⟩]

/-- What the loop of the iterator holds: 'done' have been gone through; D: the marks of the loops over them. -/
def UnsaidAt (J : List Pt → (Nat → Prop) → World → Prop) (B : Nat) (x : Nd) (W : World) (own1 : Nat → Prop) (W2 : World) (ra : Option Addr) (rn rm : Nat) (a : Act) (wr : World) : Prop :=
  ∃ (done todo : List Nd) (owni : Nat → Prop) (Ds : List Nat) (u0 u3 u4 u5 u6 u7 u8 u9 u10 u11 u12 u13 u14 u15 u16 u17 u21 u22 u23 u24 u25 u26 u27 u28 u29 u30 u31 u32 u33 u34 u35 u36 u37 u38 u39 u40 u41 u42 u43 u44 u45 u46 u47 u48 u49 u50 u51 : Value),
    a = { tmps := #[u0, .pointer (some ⟨B, 0, none⟩), .pointer (some ⟨W.heap.size, 0, none⟩), u3, u4, u5, u6, u7, u8, u9, u10, u11, u12, u13, u14, u15, u16, u17, .slice ra rn rm, .int .i64 rn, .int .i64 done.length, u21, u22, u23, u24, u25, u26, u27, u28, u29, u30, u31, u32, u33, u34, u35, u36, u37, u38, u39, u40, u41, u42, u43, u44, u45, u46, u47, u48, u49, u50, u51], defers := Ds.map mark } ∧
    x.bodies.kids = done ++ todo ∧ J ((x.beg, unsaidN x) :: done.flatMap Nd.pts) owni wr ∧ Owns own1 owni W2 wr ∧
    Ds.Nodup ∧ ∀ D, D ∈ Ds → W2.heap.size ≤ D ∧ ¬ owni D ∧ wr.heap[D]? = some (.deferred (some []))

/-- What the iterator over a step's points is. -/
def UnsaidOk (N : Nat) : Prop := ∀ (s : ByteArray) (x : Nd) (d : Nat) (v : Value) (w0 W : World) (ok : Nat → Prop) (B : Nat), x.pre.len = N → N ≤ 200 → x.Ok s d → x.Sp → x.Fit → s.size ≤ 80 → RepI w0 ok x v → (∀ k, ok k → k < w0.heap.size) → w0.heap.size ≤ W.heap.size →
  SameOn ok w0 W → Blk W B #[v, str x.scope, i64 d] 51 →
  IterAt Try.prog 130 #[ptr B] x.pts encU (fun k => ok k ∨ k = B) W

/-- What a step says, where the blocks that 'ok' names lie as they lay. -/
theorem step_same {w W : World} {ok : Nat → Prop} {z : Nd} {ty : TypeId} {g : Nat} (hr : RepI w ok z (.iface ty (ptr g))) (hs : SameOn ok w W) : StepIs W z ty g ∧ TypeIs W z ty g ∧ ok g ∧ g < w.heap.size := by
  obtain ⟨h1, h2, h3, h4⟩ := rep_step _ _ _ _ _ hr
  have hb := hs g h3 h4
  refine ⟨⟨h1.beg, h1.fin, (World.cell?_of_block (w := w) (w' := W) (a := ⟨g, 0, none⟩) hb).trans h1.c0, (World.cell?_of_block (w := w) (w' := W) (a := ⟨g, 1, none⟩) hb).trans h1.c1, h1.tys, fun e => (h1.val e).moved (fun j => World.cell?_of_block (w := w) (w' := W) (a := ⟨g, j, none⟩) hb)⟩, ?_, h3, h4⟩
  rcases h2 with h2 | h2 | h2 | ⟨h5, h6, h7⟩ | h2
  · exact .inl h2
  · exact .inr (.inl h2)
  · exact .inr (.inr (.inl h2))
  · exact .inr (.inr (.inr (.inl ⟨h5, h6, (World.cell?_of_block (w := w) (w' := W) (a := ⟨g, 2, none⟩) hb).trans h7⟩)))
  · exact .inr (.inr (.inr (.inr h2)))

set_option maxRecDepth 100000 in
set_option maxHeartbeats 4000000 in
theorem unsaid_ok (N : Nat) (ih : ∀ m, m < N → UnsaidOk m) : UnsaidOk N := by
  intro s x d v w0 W ok B hlen hN hx hsp hft hs hr hok hsz hsame hB l J Jx own hJ hJx hown hprot hR h0 n
  obtain ⟨F, hF⟩ : ∃ F, F = Fence.wide := ⟨_, rfl⟩
  have hFf : ∀ f, F.fn f := by subst hF; exact fun _ => trivial
  have hdd : ∀ k : Nat, (F.depth.isSome = true → 1 ≤ k) := by subst hF; intro k h; simp [Fence.wide] at h
  have hro : F.round = none := by subst hF; rfl
  have hds : F.depth.isSome = false := by subst hF; rfl
  rw [← hF]
  have HF := Lib.hid hF
  clear hF
  obtain ⟨ty, g, rfl⟩ := rep_iface _ _ _ _ hr
  have hlt := vars_ltr hsp hft
  have hfin := hx.good.le
  have hspin : x.beg < x.fin := by have := Nd.pts_in x hsp hft (x.beg, unsaidN x) (by rw [Nd.pts_eq]; simp); exact this.2
  obtain ⟨sv, hsv⟩ : ∃ sv, sv = (⟨x.scope.toArray⟩ : ByteArray) := ⟨_, rfl⟩
  have hB2 : Blk W B #[.iface ty (.pointer (some ⟨g, 0, none⟩)), .string sv, .int .i64 (d : Int)] 51 := by rw [hsv]; exact hB
  have b1 : Blk (W.alloc (.cells #[.func (.yield l) #[] #[]] 145)) W.heap.size #[.func (.yield l) #[] #[]] 145 := Blk.new _ _ _
  have b2 := hB2.alloc (.cells #[.func (.yield l) #[] #[]] 145)
  have q0 : Keeps noB W (W.alloc (.cells #[.func (.yield l) #[] #[]] 145)) := (Keeps.refl _ _).alloc _
  have same0 : SameOn ok w0 (W.alloc (.cells #[.func (.yield l) #[] #[]] 145)) := hsame.keeps q0 hsz (fun _ _ e => e)
  obtain ⟨hst, hty, hog, hgl⟩ := step_same hr same0
  obtain ⟨WB, hWB⟩ : ∃ WB, WB = W.alloc (.cells #[.func (.yield l) #[] #[]] 145) := ⟨_, rfl⟩
  rw [← hWB] at b1 b2 q0 same0 hst hty
  have hWBs : WB.heap.size = W.heap.size + 1 := by rw [hWB]; simp
  have hgW : g < WB.heap.size := by omega
  have HL : Hid (∀ W4, Keeps noB WB W4 → W4.cell? ⟨W.heap.size, 0, none⟩ = some (.func (.yield l) #[] #[]) ∧ W4.cell? ⟨B, 0, none⟩ = some (.iface ty (.pointer (some ⟨g, 0, none⟩))) ∧ W4.cell? ⟨B, 1, none⟩ = some (.string sv) ∧ W4.cell? ⟨B, 2, none⟩ = some (.int .i64 (d : Int))) := fun W4 q4 =>
    ⟨((q4.blk b1 id).cell 0).trans rfl, ((q4.blk b2 id).cell 0).trans rfl, ((q4.blk b2 id).cell 1).trans rfl, ((q4.blk b2 id).cell 2).trans rfl⟩
  have HBG : Hid (∀ m W4, Keeps noB WB W4 → CallsIn F m Try.prog 64 #[.pointer (some ⟨g, 0, none⟩)] W4 (fun e w' => e = .returned (.int .i64 (x.beg : Int)) ∧ Keeps noB WB w')) := fun m W4 q4 => by
    rw [HF.out]; exact callsIn_wide.2 ((begin_any g _ _ (hst.keeps q4 hgW id).c0).mono (by rintro e w' ⟨h1, rfl⟩; exact ⟨h1, q4⟩))
  have HUB : Hid (∀ m W4, Keeps noB WB W4 → CallsIn F m Try.prog 131 #[.agg #[.iface ty (.pointer (some ⟨g, 0, none⟩)), .string sv, .int .i64 (d : Int)]] W4 (fun e w' => e = .returned (.string ⟨(unsaidN x).toArray⟩) ∧ Keeps noB WB w')) := fun m W4 q4 => by
    rw [HF.out, hsv]; exact callsIn_wide.2 ((unsaidBy_any (hst.keeps q4 hgW id) (by have := q4.size; omega) hlt (d : Int)).mono (fun e w' h => ⟨h.1, q4.trans h.2⟩))
  have hpre := Nd.pts_eq x
  have h1 : J [] own WB := hJ _ _ _ _ h0 (q0.mono (fun _ e => e.elim))
  have HY : Hid (∀ m W4, Keeps noB WB W4 → YieldAt F m Try.prog l #[.int .i64 (x.beg : Int), .string ⟨(unsaidN x).toArray⟩] W4 (RoundEnds J Jx [(x.beg, unsaidN x)] own W4)) := fun m W4 q4 => by
    rw [HF.out]
    exact hR m [] (x.beg, unsaidN x) _ _ own W4 hpre rfl (hJ _ _ _ _ h1 (q4.mono (fun _ e => e.elim))) (fun k hk => by have := hown k hk; have := q4.size; omega)
  have HSV := Lib.hid hsv
  have HWE := Lib.hid hWB
  have HP := Lib.hid hpre
  have HR := Lib.hid hR
  have hbeg := hst.beg
  simp [go_sem] at hbeg
  have HST := Lib.hid (And.intro hst hty)
  have HWB := Lib.hid (And.intro hWBs hgW)
  clear hR hpre hst hty h1 hWBs hgW hsv hWB
  refine callsIn_of_wp_marks Try.func130 rfl (hFf _) ?_ hro
  simp only [Try.ntmps130, List.size_toArray, List.length_cons, List.length_nil, Nat.reduceAdd, Nat.reduceSub, Array.replicate_succ, Array.replicate_zero, List.push_toArray, List.append_toArray, List.nil_append, List.cons_append]
  unfold ptr
  have hBn : ¬ own B := hprot B (.inr rfl)
  have hBl := hB2.lt
  gi_wp2
  rw [← HWE.out]
  refine wpIn_region_tail_plain (fun W4 => Keeps noB WB W4) 6 hro (by kernel_rfl) (by kernel_rfl) (by kernel_rfl) (by kernel_rfl) (by kernel_rfl) (by kernel_rfl) (by decide) (by kernel_rfl) ((Keeps.refl _ _).drew) ?_
  simp only [List.take, List.drop]
  refine quiet_on (Value.func (.yield l) #[] #[]) (fun _ _ f _ => hFf f) rfl (fun W4 q4 => ?_) (fun K hK => ?_)
  · obtain ⟨f0, f1, f2, f3⟩ := HL.out W4 q4
    go_simp
  go_simp
  refine hK _ ?_
  clear hK K
  refine quiet_on (Value.pointer (some ⟨B, 0, none⟩)) (fun _ _ f _ => hFf f) rfl (fun W4 q4 => ?_) (fun K hK => ?_)
  · obtain ⟨f0, f1, f2, f3⟩ := HL.out W4 q4
    go_simp
  go_simp
  refine hK _ ?_
  clear hK K
  refine quiet_on (Value.iface ty (.pointer (some ⟨g, 0, none⟩))) (fun _ _ f _ => hFf f) rfl (fun W4 q4 => ?_) (fun K hK => ?_)
  · obtain ⟨f0, f1, f2, f3⟩ := HL.out W4 q4
    go_simp
  go_simp
  refine hK _ ?_
  clear hK K
  refine quiet_on (Value.int .i64 (x.beg : Int)) (fun _ _ f _ => hFf f) rfl (fun W4 q4 => ?_) (fun K hK => ?_)
  · obtain ⟨f0, f1, f2, f3⟩ := HL.out W4 q4
    go_simp
    exact HBG.out _ _ q4
  go_simp
  refine hK _ ?_
  clear hK K
  refine quiet_on (Value.agg #[.iface ty (.pointer (some ⟨g, 0, none⟩)), .string sv, .int .i64 (d : Int)]) (fun _ _ f _ => hFf f) rfl (fun W4 q4 => ?_) (fun K hK => ?_)
  · obtain ⟨f0, f1, f2, f3⟩ := HL.out W4 q4
    go_simp
  go_simp
  refine hK _ ?_
  clear hK K
  refine quiet_on (Value.string ⟨(unsaidN x).toArray⟩) (fun _ _ f _ => hFf f) rfl (fun W4 q4 => ?_) (fun K hK => ?_)
  · obtain ⟨f0, f1, f2, f3⟩ := HL.out W4 q4
    go_simp
    exact HUB.out _ _ q4
  go_simp
  refine hK _ ?_
  clear hK K
  refine wpQuietIn_nil ?_
  intro W4 q4
  obtain ⟨fn2, tmps2, assign2, body2, hy2, hR2⟩ := HY.out (n - 1) W4 q4
  clear HY HUB HBG
  gi_wp2
  refine (show RoundIn F _ _ _ _ _ _ _ _ _ from hR2).mono ?_
  have k0 : Keeps noB W W4 := q0.trans q4
  have b14 := q4.blk b1 id
  have b24 := q4.blk b2 id
  have same4 : SameOn ok w0 W4 := same0.keeps q4 (by have := HWB.out.1; omega) (fun _ _ e => e)
  have hs4 : W.heap.size + 1 ≤ W4.heap.size := by have := q4.size; have := HWB.out.1; omega
  clear hR2 hy2 HL
  rintro e W1 ⟨own1, ho1, (⟨rfl, hj1⟩ | ⟨rfl, hj1⟩)⟩
  · have hs1 : W.heap.size + 1 ≤ W1.heap.size := by have := ho1.keeps.size; omega
    have b3 : Blk W1 B #[.iface ty (.pointer (some ⟨g, 0, none⟩)), .string sv, .int .i64 (d : Int)] 51 := ho1.keeps.blk b24 hBn
    have y3 : Blk W1 W.heap.size #[.func (.yield l) #[] #[]] 145 := ho1.keeps.blk b14 (fun e => by have := hown _ e; omega)
    have r1 := b3.cell 0
    have r2 := b3.cell 1
    have r3 := b3.cell 2
    simp at r1 r2 r3
    have same1 : SameOn ok w0 W1 := fun k hk hl => (ho1.keeps.block k (by omega) (hprot k (.inl hk))).trans (same4 k hk hl)
    have hno1B : ¬ own1 B := fun e => (ho1.more _ e).elim hBn (fun e => by omega)
    have hno1Y : ¬ own1 W.heap.size := fun e => (ho1.more _ e).elim (fun e => by have := hown _ e; omega) (fun e => by omega)
    have hprot1 : ∀ k, ok k → ¬ own1 k := fun k hk e => (ho1.more k e).elim (hprot k (.inl hk)) (fun e2 => by have := hok k hk; omega)
    have hpv : placeV (.iface ty (ptr g)) x.scope d = .agg #[.iface ty (.pointer (some ⟨g, 0, none⟩)), .string sv, .int .i64 (d : Int)] := by unfold placeV; rw [HSV.out]; rfl
    have hin := inner_any s x d (.iface ty (ptr g)) ok W1 (by omega) hx hs ((Hands.of_same same1 hok).repI _ _ hr) (fun k hk => by have := hok k hk; omega)
    rw [hpv] at hin
    have HI := Lib.hid hin
    clear hin hpv
    gi_wp2
    refine CallsIn.mono (by rw [HF.out]; exact callsIn_wide.2 HI.out) ?_
    rintro e W2 ⟨ra, rn, rm, cs, rfl, hn, hrow, hpl, q2⟩
    have HN := Lib.hid hn
    clear hn r1 r2 r3
    gi_wp2
    refine wpIn_loop (UnsaidAt J B x W own1 W2 ra rn rm) (fun a _ => (intOf (a.tmps.getD 19 undef)).toNat - (intOf (a.tmps.getD 20 undef)).toNat) ?_ ?_
    · exact ⟨[], _, own1, [], _, _, _, _, _, _, _, _, _, _, _, _, _, _, _, _, _, _, _, _, _, _, _, _, _, _, _, _, _, _, _, _, _, _, _, _, _, _, _, _, _, _, _, _, _, _, _, rfl, rfl, hJ _ _ _ _ hj1 (q2.mono (fun _ e => e.elim)), Owns.refl (fun k hk => Nat.lt_of_lt_of_le (ho1.lt k hk) q2.size), List.nodup_nil, fun D hD => by cases hD⟩
    · rintro a wr ⟨done, todo, owni, Ds, u0, u3, u4, u5, u6, u7, u8, u9, u10, u11, u12, u13, u14, u15, u16, u17, u21, u22, u23, u24, u25, u26, u27, u28, u29, u30, u31, u32, u33, u34, u35, u36, u37, u38, u39, u40, u41, u42, u43, u44, u45, u46, u47, u48, u49, u50, u51, rfl, hkids, hji, hoi, hnd, hDs⟩
      have hdl := congrArg List.length hkids
      rw [List.length_append, ← HN.out] at hdl
      have HK := Lib.hid hkids
      have HDL := Lib.hid hdl
      have hoW : Owns own owni W wr := (Owns.behind k0 ho1).trans (Owns.behind q2 hoi)
      have hWr := hoW.keeps.size
      have hW2s := q2.size
      have hW2r := hoi.keeps.size
      have bW : Blk wr B #[.iface ty (.pointer (some ⟨g, 0, none⟩)), .string sv, .int .i64 (d : Int)] 51 := hoi.keeps.blk (q2.blk b3 id) hno1B
      have yW : Blk wr W.heap.size #[.func (.yield l) #[] #[]] 145 := hoi.keeps.blk (q2.blk y3 id) hno1Y
      have sameW : SameOn ok w0 wr := fun k hk hl => (hoW.keeps.block k (by omega) (hprot k (.inl hk))).trans (hsame k hk hl)
      cases todo with
      | nil =>
        have hd : ¬ done.length < rn := by simp at hdl; omega
        obtain ⟨hstW, htyW, _, _⟩ := step_same hr sameW
        have r0 := yW.cell 0
        have r1 := bW.cell 0
        simp at r0 r1
        have HA : Hid (∀ W', Keeps (fun k => k ∈ Ds) wr W' → Owns own owni W W' ∧ J ((x.beg, unsaidN x) :: x.bodies.kids.flatMap Nd.pts) owni W') := fun W' q => by
          refine ⟨hoW.ahead q (fun i hi => by have := (hDs i hi).1; omega), ?_⟩
          rw [HK.out, List.append_nil]
          exact hJ _ _ _ _ hji (q.mono (fun i hi => ⟨by have := (hDs i hi).1; omega, (hDs i hi).2.1⟩))
        have HD := Lib.hid hDs
        clear hkids hdl hDs
        have HNO : Hid (x.kind ≠ 123 → ∀ W', Keeps (fun k => k ∈ Ds) wr W' → J x.pts owni W') := fun hk W' q => by
          have e : x.pts = (x.beg, unsaidN x) :: x.bodies.kids.flatMap Nd.pts := by rw [HP.out]; unfold lastPt; rw [if_neg hk, List.append_nil]
          rw [e]; exact (HA.out W' q).2
        rcases htyW with ⟨rfl, hk⟩ | ⟨rfl, hk⟩ | ⟨rfl, hk⟩ | ⟨rfl, hk, r2⟩ | ⟨rfl, hk⟩
        · have hk3 : x.kind ≠ 123 := by first | (rcases hk with h | h | h | h | h <;> rw [h] <;> decide) | (rcases hk with h | h <;> rw [h] <;> decide) | (rw [hk]; decide)
          have a1 := isVS (.pointer (some ⟨g, 0, none⟩))
          clear hstW hk
          gi_wp2
          refine leaves_marks Ds wr hnd (fun D hD => (HD.out D hD).2.2) (fun W' q _ => ?_)
          exact ⟨_, results_none rfl _ _ _, _, owni, rfl, (HA.out W' q).1, .inl (HNO.out hk3 W' q)⟩
        · have hk3 : x.kind ≠ 123 := by first | (rcases hk with h | h | h | h | h <;> rw [h] <;> decide) | (rcases hk with h | h <;> rw [h] <;> decide) | (rw [hk]; decide)
          have a1 := isLS (.pointer (some ⟨g, 0, none⟩))
          clear hstW hk
          gi_wp2
          refine leaves_marks Ds wr hnd (fun D hD => (HD.out D hD).2.2) (fun W' q _ => ?_)
          exact ⟨_, results_none rfl _ _ _, _, owni, rfl, (HA.out W' q).1, .inl (HNO.out hk3 W' q)⟩
        · have hk3 : x.kind ≠ 123 := by first | (rcases hk with h | h | h | h | h <;> rw [h] <;> decide) | (rcases hk with h | h <;> rw [h] <;> decide) | (rw [hk]; decide)
          have a1 := isOS (.pointer (some ⟨g, 0, none⟩))
          clear hstW hk
          gi_wp2
          refine leaves_marks Ds wr hnd (fun D hD => (HD.out D hD).2.2) (fun W' q _ => ?_)
          exact ⟨_, results_none rfl _ _ _, _, owni, rfl, (HA.out W' q).1, .inl (HNO.out hk3 W' q)⟩
        · have hall : x.pts = ((x.beg, unsaidN x) :: x.bodies.kids.flatMap Nd.pts) ++ (x.fin - 1, x.vars) :: [] := by
            rw [HP.out]; unfold lastPt; rw [if_pos hk]; rfl
          have HALL := Lib.hid hall
          have a1 := isSS (.pointer (some ⟨g, 0, none⟩))
          have hgr : g < wr.heap.size := by omega
          have HLL : Hid (∀ W4, Keeps noB wr W4 → W4.cell? ⟨W.heap.size, 0, none⟩ = some (.func (.yield l) #[] #[]) ∧ W4.cell? ⟨g, 2, none⟩ = some (.string ⟨x.vars.toArray⟩)) := fun W4 q4 =>
            ⟨((q4.blk yW id).cell 0).trans rfl, (q4.cell (p := ⟨g, 2, none⟩) hgr id).trans r2⟩
          have HEN : Hid (∀ m W4, Keeps noB wr W4 → CallsIn F m Try.prog 132 #[.pointer (some ⟨g, 0, none⟩)] W4 (fun e w' => e = .returned (.int .i64 (x.fin : Int)) ∧ Keeps noB wr w')) := fun m W4 q4 => by
            rw [HF.out]; exact callsIn_wide.2 ((end_any g _ _ (hstW.keeps q4 hgr id).c1).mono (by rintro e w' ⟨h1, rfl⟩; exact ⟨h1, q4⟩))
          have hji2 : J ((x.beg, unsaidN x) :: x.bodies.kids.flatMap Nd.pts) owni wr := (HA.out wr (Keeps.refl _ _)).2
          have HYL : Hid (∀ m W4, Keeps noB wr W4 → YieldAt F m Try.prog l #[.int .i64 ((x.fin - 1 : Nat) : Int), .string ⟨x.vars.toArray⟩] W4 (RoundEnds J Jx x.pts owni W4)) := fun m W4 q4 => by
            rw [HF.out]
            have := HR.out m _ (x.fin - 1, x.vars) [] _ owni W4 HALL.out rfl (hJ _ _ _ _ hji2 (q4.mono (fun _ e => e.elim))) (fun k hk => by have := hoi.lt k hk; have := q4.size; omega)
            rwa [← HALL.out] at this
          have hf1 : 1 ≤ x.fin := by omega
          have hf2 : x.fin ≤ 81 := by have := hx.good.le; omega
          have hfc : (x.fin : Int) - 1 = ((x.fin - 1 : Nat) : Int) := by omega
          clear hstW hall hji2
          gi_wp2

          refine wpIn_region_tail_plain (fun W4 => Keeps noB wr W4) 10 hro (by kernel_rfl) (by kernel_rfl) (by kernel_rfl) (by kernel_rfl) (by kernel_rfl) (by kernel_rfl) (by decide) (by kernel_rfl) ((Keeps.refl _ _).drew) ?_
          simp only [List.take, List.drop]
          refine quiet_on (Value.func (.yield l) #[] #[]) (fun _ _ f _ => hFf f) rfl (fun W4 q4 => ?_) (fun K hK => ?_)
          · obtain ⟨f0, f1⟩ := HLL.out W4 q4
            go_simp
          go_simp
          refine hK _ ?_
          clear hK K
          refine quiet_on (Value.pointer (some ⟨g, 0, none⟩)) (fun _ _ f _ => hFf f) rfl (fun W4 q4 => ?_) (fun K hK => ?_)
          · obtain ⟨f0, f1⟩ := HLL.out W4 q4
            go_simp
          go_simp
          refine hK _ ?_
          clear hK K
          refine quiet_on (Value.pointer (some ⟨g, 0, none⟩)) (fun _ _ f _ => hFf f) rfl (fun W4 q4 => ?_) (fun K hK => ?_)
          · obtain ⟨f0, f1⟩ := HLL.out W4 q4
            go_simp
          go_simp
          refine hK _ ?_
          clear hK K
          refine quiet_on (Value.pointer (some ⟨g, 0, none⟩)) (fun _ _ f _ => hFf f) rfl (fun W4 q4 => ?_) (fun K hK => ?_)
          · obtain ⟨f0, f1⟩ := HLL.out W4 q4
            go_simp
          go_simp
          refine hK _ ?_
          clear hK K
          refine quiet_on (Value.int .i64 (x.fin : Int)) (fun _ _ f _ => hFf f) rfl (fun W4 q4 => ?_) (fun K hK => ?_)
          · obtain ⟨f0, f1⟩ := HLL.out W4 q4
            go_simp
            exact HEN.out _ _ q4
          go_simp
          refine hK _ ?_
          clear hK K
          refine quiet_on (Value.int .i64 ((x.fin - 1 : Nat) : Int)) (fun _ _ f _ => hFf f) rfl (fun W4 q4 => ?_) (fun K hK => ?_)
          · obtain ⟨f0, f1⟩ := HLL.out W4 q4
            go_simp
            exact IntWalk.i64_in _ (by omega)
          go_simp
          refine hK _ ?_
          clear hK K
          refine quiet_on (Value.pointer (some ⟨g, 0, none⟩)) (fun _ _ f _ => hFf f) rfl (fun W4 q4 => ?_) (fun K hK => ?_)
          · obtain ⟨f0, f1⟩ := HLL.out W4 q4
            go_simp
          go_simp
          refine hK _ ?_
          clear hK K
          refine quiet_on (Value.pointer (some ⟨g, 0, none⟩)) (fun _ _ f _ => hFf f) rfl (fun W4 q4 => ?_) (fun K hK => ?_)
          · obtain ⟨f0, f1⟩ := HLL.out W4 q4
            go_simp
          go_simp
          refine hK _ ?_
          clear hK K
          refine quiet_on (Value.pointer (some ⟨g, 2, none⟩)) (fun _ _ f _ => hFf f) rfl (fun W4 q4 => ?_) (fun K hK => ?_)
          · obtain ⟨f0, f1⟩ := HLL.out W4 q4
            go_simp
          go_simp
          refine hK _ ?_
          clear hK K
          refine quiet_on (Value.string ⟨x.vars.toArray⟩) (fun _ _ f _ => hFf f) rfl (fun W4 q4 => ?_) (fun K hK => ?_)
          · obtain ⟨f0, f1⟩ := HLL.out W4 q4
            go_simp
          go_simp
          refine hK _ ?_
          clear hK K
          refine wpQuietIn_nil ?_
          intro W5 q5
          obtain ⟨fn2, tmps2, assign2, body2, hy2, hR2⟩ := HYL.out (n - 1) W5 q5
          clear HYL HEN HLL r0 r2
          gi_wp2
          refine (show RoundIn F _ _ _ _ _ _ _ _ _ from hR2).mono ?_
          clear hR2 hy2
          rintro e W6 ⟨own6, ho6, hj6⟩
          have hoW6 : Owns own own6 W W6 := (hoW.ahead q5 (fun _ e => e.elim)).trans ho6
          have hD6 : ∀ D, D ∈ Ds → W6.heap[D]? = some (.deferred (some [])) ∧ W.heap.size ≤ D ∧ ¬ own6 D := fun D hD => by
            obtain ⟨h1, h2, h3⟩ := HD.out D hD
            have hl : D < wr.heap.size := (Array.getElem?_eq_some_iff.1 h3).1
            have := q5.size
            exact ⟨(ho6.keeps.block D (by omega) h2).trans ((q5.block D hl id).trans h3), by omega, fun e => (ho6.more D e).elim h2 (fun e => by omega)⟩
          have HE : Hid (∀ W', Keeps (fun k => k ∈ Ds) W6 W' → Owns own own6 W W' ∧ (J x.pts own6 W6 → J x.pts own6 W') ∧ (Jx x.pts own6 W6 → Jx x.pts own6 W')) := fun W' q =>
            ⟨hoW6.ahead q (fun i hi => (hD6 i hi).2.1), fun h => hJ _ _ _ _ h (q.mono (fun i hi => (hD6 i hi).2)), fun h => hJx _ _ _ _ h (q.mono (fun i hi => (hD6 i hi).2))⟩
          have HD6 := Lib.hid hD6
          clear hoW6 hD6 ho6
          rcases hj6 with ⟨rfl, hj6⟩ | ⟨rfl, hj6⟩
          · gi_wp2
            refine leaves_marks Ds W6 hnd (fun D hD => (HD6.out D hD).1) (fun W' q _ => ?_)
            exact ⟨_, results_none rfl _ _ _, _, own6, rfl, (HE.out W' q).1, .inl ((HE.out W' q).2.1 hj6)⟩
          · gi_wp2
            refine leaves_marks Ds W6 hnd (fun D hD => (HD6.out D hD).1) (fun W' q _ => ?_)
            exact ⟨_, results_none rfl _ _ _, _, own6, rfl, (HE.out W' q).1, .inr ⟨x.pts, [], (List.append_nil _).symm, (HE.out W' q).2.2 hj6⟩⟩
        · have hk3 : x.kind ≠ 123 := by first | (rcases hk with h | h | h | h | h <;> rw [h] <;> decide) | (rcases hk with h | h <;> rw [h] <;> decide) | (rw [hk]; decide)
          have a1 := isBS (.pointer (some ⟨g, 0, none⟩))
          clear hstW hk
          gi_wp2
          refine leaves_marks Ds wr hnd (fun D hD => (HD.out D hD).2.2) (fun W' q _ => ?_)
          exact ⟨_, results_none rfl _ _ _, _, owni, rfl, (HA.out W' q).1, .inl (HNO.out hk3 W' q)⟩
      | cons z todo =>
        have hd : done.length < rn := by simp at hdl; omega
        obtain ⟨gc, rc, hv, hg1, hg2, hcell⟩ := row_get hrow (by omega)
        have hg1 : W1.heap.size ≤ gc := hg1
        obtain ⟨rfl, rfl⟩ : ra = some ⟨gc, 0, none⟩ ∧ rm = rc := by simpa using hv
        have hbg : wr.heap[gc]? = W2.heap[gc]? := hoi.keeps.block gc hg2 (fun e => by have := ho1.lt gc e; omega)
        obtain ⟨u, hzu, c0, c1, c2⟩ := hpl.get hkids
        have s0 := (World.cell?_of_block (w := W2) (w' := wr) (a := ⟨gc, done.length * 3, none⟩) hbg).trans (hcell _ _ c0)
        have s1 := (World.cell?_of_block (w := W2) (w' := wr) (a := ⟨gc, done.length * 3 + 1, none⟩) hbg).trans (hcell _ _ c1)
        have s2 := (World.cell?_of_block (w := W2) (w' := wr) (a := ⟨gc, done.length * 3 + 2, none⟩) hbg).trans (hcell _ _ c2)
        have hzm : z ∈ x.bodies.kids := by rw [hkids]; simp
        have hzs := kid_small hzm
        have HZF := Lib.hid (kids_fs hsp hft hzm)
        have HZK := Lib.hid ((hx.good).kids z hzm)
        obtain ⟨tz, gu, rfl⟩ := rep_iface z _ _ _ hzu
        have HZU := Lib.hid hzu
        obtain ⟨ss, hss⟩ : ∃ ss, str z.scope = .string ss := ⟨_, rfl⟩
        rw [hss] at s1
        have HSS := Lib.hid hss
        unfold i64 at s2
        have hrn : rn < 200 := by rw [HN.out]; have := kids_len x; omega
        clear hkids hdl hv hbg c0 c1 c2 hzu hss bW
        have hpw := fun m => (callsIn_wide (n := m)).2 (unsaidWithin_any (.iface tz (ptr gu)) (.string ss) (.int .i64 (inD x.kind d : Int)) (wr.alloc (.cells #[.iface tz (ptr gu), .string ss, .int .i64 (inD x.kind d : Int)] 51)))
        rw [← HF.out] at hpw
        gi_wp2
        refine (hpw _).mono ?_
        clear hpw
        rintro e w' ⟨rfl, rfl⟩
        gi_wp2
        have q3 : Keeps noB wr ((wr.alloc (.cells #[.iface tz (ptr gu), .string ss, .int .i64 (inD x.kind d : Int)] 51)).alloc (.cells #[.iface tz (ptr gu), .string ss, .int .i64 (inD x.kind d : Int)] 51)) := ((Keeps.refl _ _).alloc _).alloc _
        have bq : Blk ((wr.alloc (.cells #[.iface tz (ptr gu), .string ss, .int .i64 (inD x.kind d : Int)] 51)).alloc (.cells #[.iface tz (ptr gu), .string ss, .int .i64 (inD x.kind d : Int)] 51)) (wr.heap.size + 1) #[.iface tz (ptr gu), str z.scope, i64 (inD x.kind d)] 51 := by
          rw [HSS.out]; have := Blk.new (wr.alloc (.cells #[.iface tz (ptr gu), .string ss, .int .i64 (inD x.kind d : Int)] 51)) #[.iface tz (ptr gu), .string ss, .int .i64 (inD x.kind d : Int)] 51; rwa [World.size_alloc] at this
        have hsq : ((wr.alloc (.cells #[.iface tz (ptr gu), .string ss, .int .i64 (inD x.kind d : Int)] 51)).alloc (.cells #[.iface tz (ptr gu), .string ss, .int .i64 (inD x.kind d : Int)] 51)).heap.size = wr.heap.size + 2 := by simp
        generalize (wr.alloc (.cells #[.iface tz (ptr gu), .string ss, .int .i64 (inD x.kind d : Int)] 51)).alloc (.cells #[.iface tz (ptr gu), .string ss, .int .i64 (inD x.kind d : Int)] 51) = wq at q3 bq hsq ⊢
        have hWq : W.heap.size ≤ wq.heap.size := by omega
        have hprot3 : ∀ k, ok k → ¬ owni k := fun k hk e => (hoW.more k e).elim (hprot k (.inl hk)) (fun e2 => by have := hok k hk; omega)
        have same3 : SameOn ok w0 wq := sameW.keeps q3 (by omega) (fun _ _ e => e)
        have hnoiY : ¬ owni W.heap.size := fun e => (hoi.more _ e).elim hno1Y (fun e => by omega)
        have yq : Blk wq W.heap.size #[.func (.yield l) #[] #[]] 145 := q3.blk yW id
        have HPO := Lib.hid (And.intro HP.out HK.out)
        clear yW
        refine wp_range HF.out (gf := 130) (lb := #[ptr (wr.heap.size + 1)]) (all := z.pts) (enc := encU) (prot := fun k => ok k ∨ k = wr.heap.size + 1) (own := owni)
          rfl (enters_of Try.func130 (by kernel_rfl) rfl) ?hiter
          (fun pre own' W' => J (((x.beg, unsaidN x) :: done.flatMap Nd.pts) ++ pre) own' W' ∧ Owns owni own' wq W')
          (fun c pre own' W' => (c = .ret ∧ Jx (((x.beg, unsaidN x) :: done.flatMap Nd.pts) ++ pre) own' W') ∧ Owns owni own' wq W') ?hI ?hIx ?hown ?hprot ?hps ?h0 ?hround ?hdone ?hstop
        case hiter =>
          intro W' q
          refine ih z.pre.len (by omega) s z (inD x.kind d) (.iface tz (ptr gu)) w0 W' ok (wr.heap.size + 1) rfl (by omega) (HZK.out).2 HZF.out.1 HZF.out.2 hs ?_ hok (by have := q.size; omega) (same3.keeps q (by omega) (fun _ _ e => e)) (q.blk bq id)
          exact (Hands.back same1 hok).repI _ _ HZU.out
        case hI => exact ((hJ.mono hWq).shift _).and Owns.stab
        case hIx =>
          intro c pre own W W' h q
          exact ⟨⟨h.1.1, (hJx.mono hWq).shift _ _ _ _ _ h.1.2 q⟩, Owns.stab pre _ _ _ h.2 q⟩
        case hown => intro k hk; have := hoi.lt k hk; omega
        case hprot =>
          rintro k (hk | rfl)
          · exact ⟨hprot3 k hk, by have := hok k hk; omega⟩
          · exact ⟨fun e => by have := hoi.lt _ e; omega, by omega⟩
        case hps => rintro y args rfl; rfl
        case h0 => exact ⟨by rw [List.append_nil]; exact hJ _ _ _ _ hji (q3.mono (fun _ e => e.elim)), Owns.refl (fun k hk => by have := hoi.lt k hk; omega)⟩
        case hround =>
          intro lq m pre y post args own3 W3 hall henc hI3 hlt3 hql hnl hll
          obtain ⟨hj3, ho3⟩ := hI3
          unfold encU at henc
          subst henc
          have b4 : Blk W3 W.heap.size #[.func (.yield l) #[] #[]] 145 := ho3.keeps.blk yq hnoiY
          have hq3 := ho3.keeps.size
          have HALL : Hid (x.pts = (((x.beg, unsaidN x) :: done.flatMap Nd.pts) ++ pre) ++ y :: (post ++ (todo.flatMap Nd.pts ++ lastPt x))) := by
            have h1 := HPO.out.1
            rw [HPO.out.2] at h1
            exact Lib.hid (by rw [h1]; simp [hall])
          clear hall
          gi_wp2
          refine ⟨Keeps.refl _ _, fun W5 q5 hs5 => ?_⟩
          have b5 : Blk W5 W.heap.size #[.func (.yield l) #[] #[]] 145 := q5.blk b4 (show W.heap.size ≠ lq by omega)
          have k35 : Keeps (fun k => wq.heap.size ≤ k ∧ ¬ own3 k) W3 W5 := q5.mono (fun k e => by obtain rfl : k = lq := e; exact ⟨hql, hnl⟩)
          have hj5 := hJ _ _ _ _ hj3 (k35.mono (fun k e => ⟨by omega, e.2⟩))
          obtain ⟨fn2, tmps2, assign2, body2, hy2, hR2⟩ := HR.out (m - 1) _ y _ #[.int .i64 (y.1 : Int), .string ⟨y.2.toArray⟩] own3 W5 HALL.out rfl hj5 (fun k hk => by have := hlt3 k hk; omega)
          have ho5 := ho3.ahead k35 (fun i hi => hi.1)
          rw [← HF.out] at hR2
          have r0 := b5.cell 0
          simp at r0
          clear hs5 b5 b4 hj3
          gi_wp2
          refine (show RoundIn (F.inRound lq) _ _ _ _ _ _ _ _ _ from hR2).mono ?_
          clear hR2 hy2
          rintro e W6 ⟨own6, ho6, (⟨rfl, hj6⟩ | ⟨rfl, hj6⟩)⟩
          · have HE := Lib.hid (And.intro ho6 (And.intro hj6 (ho5.trans ho6)))
            clear ho6 hj6
            gi_wp2
            exact ⟨own6, HE.out.1, by rw [← List.append_assoc]; exact HE.out.2.1, HE.out.2.2⟩
          · have HE := Lib.hid (And.intro ho6 (And.intro hj6 (ho5.trans ho6)))
            clear ho6 hj6
            gi_wp2
            exact ⟨own6, HE.out.1, ⟨rfl, by rw [← List.append_assoc]; exact HE.out.2.1⟩, HE.out.2.2⟩
        case hdone =>
          rintro D own' W' hb ⟨hj', ho'⟩
          have hnew := behind_marks q3 hoi hb hnd hDs
          have how : Owns own1 own' W2 W' := (hoi.ahead q3 (fun _ e => e.elim)).trans hb.owns
          have hkd : x.bodies.kids = (done ++ [z]) ++ todo := by rw [HK.out]; simp
          have hjd : J ((x.beg, unsaidN x) :: (done ++ [z]).flatMap Nd.pts) own' W' := by
            rw [show (x.beg, unsaidN x) :: (done ++ [z]).flatMap Nd.pts = ((x.beg, unsaidN x) :: done.flatMap Nd.pts) ++ z.pts by simp]; exact hj'
          have HDD := Lib.hid (And.intro hkd (And.intro hjd (And.intro how hnew)))
          clear hkd hjd how hnew hb hj' ho'
          dsimp only
          gi_wp2
          have e1 : (done.length : Int) + 1 = ((done ++ [z]).length : Int) := by simp
          rw [e1]
          obtain ⟨hkd, hjd, how, hnew⟩ := HDD.out
          refine ⟨⟨done ++ [z], todo, own', D :: Ds, _, _, _, _, _, _, _, _, _, _, _, _, _, _, _, _, _, _, _, _, _, _, _, _, _, _, _, _, _, _, _, _, _, _, _, _, _, _, _, _, _, _, _, _, _, _, _, rfl, hkd, hjd, how, hnew.1, hnew.2⟩, ?_⟩
          simp [intOf]; omega
        case hstop =>
          rintro D c pre post own' W' hb hall ⟨⟨rfl, hj'⟩, ho'⟩
          obtain ⟨hn1, hn2⟩ := behind_marks q3 hoi hb hnd hDs
          have how : Owns own own' W W' := (hoW.ahead q3 (fun _ e => e.elim)).trans hb.owns
          have HALL : Hid (x.pts = (((x.beg, unsaidN x) :: done.flatMap Nd.pts) ++ pre) ++ (post ++ (todo.flatMap Nd.pts ++ lastPt x))) := by
            have h1 := HPO.out.1
            rw [HPO.out.2] at h1
            exact Lib.hid (by rw [h1]; simp [hall])
          have HST2 := Lib.hid (And.intro how hj')
          clear hall hb ho' how hj'
          dsimp only
          gi_wp2
          refine leaves_marks (D :: Ds) W' hn1 (fun D' hD' => (hn2 D' hD').2.2) (fun W'' q _ => ?_)
          exact ⟨_, results_none rfl _ _ _, _, own', rfl, HST2.out.1.ahead q (fun i hi => by have := (hn2 i hi).1; omega), .inr ⟨_, _, HALL.out, hJx _ _ _ _ HST2.out.2 (q.mono (fun i hi => ⟨by have := (hn2 i hi).1; omega, (hn2 i hi).2.1⟩))⟩⟩
  · have HE := Lib.hid (And.intro hj1 ((Owns.behind k0 ho1)))
    clear ho1 hj1
    gi_wp2
    refine leaves_marks [] W1 List.nodup_nil (fun _ h => by cases h) (fun W' q _ => ?_)
    exact ⟨_, results_none rfl _ _ _, _, own1, rfl, HE.out.2.ahead q (fun _ e => by cases e), .inr ⟨[(x.beg, unsaidN x)], _, HP.out, hJx _ _ _ _ HE.out.1 (q.mono (fun _ e => by cases e))⟩⟩

theorem unsaid_all (N : Nat) : UnsaidOk N := Nat.strongRecOn N (fun n ih => unsaid_ok n ih)

end Go.Proofs.Ytcpbkohpgchckaa

/-
  Walks of the program's survey: loop, that goes back to a label until nothing is new.
  Walks of the program's survey: every step of a program; surveyed.
-/
import Derived.Test.YtkfcgamdlckncaaGreatVl
import Derived.ScopeJumps
import Derived.WalkMore
import Derived.Test.YtkfcgamdlckncaaGreatPkW
import Derived.Test.YtkfcgamdlckncaaGreatIfW
namespace Go.Proofs.YtkfcgamdlckncaaGreat
set_option linter.unusedVariables false
set_option linter.unusedSimpArgs false
open Go.RowKit

/-- Between the walk of a loop's body and its comparing. -/
structure LoopMid (w : World) (k : Kn) (y m : Nat) (M : Notes) (W : World) : Prop where
  box : SurBox w W k y m
  map : MapAt Tryz.prog 3 W m M
theorem LoopMid.quiet {w W W' : World} {k : Kn} {y m : Nat} {M : Notes} (h : LoopMid w k y m M W) (q : Keeps noB W W') : LoopMid w k y m M W' := ⟨h.box.quiet q, h.map.keeps q id⟩

/-- What holds at the label. -/
structure LoopTop (w : World) (x : Nds) (KF : Kn) (M : Notes) (y m : Nat) (kt : Kn) (W : World) : Prop where
  left : ∃ n, loopK (fun t => Nds.know x t) n kt = KF ∧ 13 ≤ n + kt.w
  wf : kt.Wf
  box : SurBox w W kt y m
  map : ∃ Mt, MapAt Tryz.prog 3 W m Mt ∧ (Nds.note x KF).over Mt = (Nds.note x KF).over M

/-- How far it has come, as the box says. -/
def kOf (N : Nat) (W : World) : Kn := ⟨(intOf ((W.cell? ⟨N, 0, none⟩).getD undef)).toNat, (intOf ((W.cell? ⟨N, 1, none⟩).getD undef)).toNat⟩
theorem kOf_box {w W : World} {k : Kn} {y m : Nat} (h : SurBox w W k y m) : kOf w.heap.size W = k := by
  obtain ⟨t0, t1, _⟩ := h.cells
  unfold kOf
  rw [t0, t1]
  cases k
  rfl

theorem LoopTop.step {w W : World} {x : Nds} {KF : Kn} {M : Notes} {y m : Nat} {kt : Kn} (hs : Steady (fun t => Nds.know x t)) (h : LoopTop w x KF M y m kt W) :
    ((kt.join (Nds.know x kt) = kt) → KF = kt ∧ ∀ Mt, (Nds.note x KF).over Mt = (Nds.note x KF).over M → (Nds.note x kt).over Mt = (Nds.note x KF).over M) ∧
    ((kt.join (Nds.know x kt) ≠ kt) → ∀ W' Mt, (Nds.note x KF).over Mt = (Nds.note x KF).over M → SurBox w W' (kt.join (Nds.know x kt)) y m → MapAt Tryz.prog 3 W' m ((Nds.note x kt).over Mt) → LoopTop w x KF M y m (kt.join (Nds.know x kt)) W' ∧ 12 - (kt.join (Nds.know x kt)).w < 12 - kt.w) := by
  obtain ⟨n, hn, hl⟩ := h.left
  have hw := w_le kt
  cases n with
  | zero => omega
  | succ n =>
    rw [loopK] at hn
    refine ⟨fun e => ?_, fun e W' Mt hM hb hm => ?_⟩
    · rw [if_pos e] at hn
      subst hn
      exact ⟨rfl, fun Mt h => h⟩
    · rw [if_neg e] at hn
      have hwf := wf_join h.wf (hs.wf kt h.wf)
      have hlt := w_lt h.wf hwf (le_join_left _ _) (fun e' => e e'.symm)
      refine ⟨⟨⟨n, hn, by omega⟩, hwf, hb, _, hm, ?_⟩, ?_⟩
      · rw [over_again (fun j => Nds.note_dom x kt KF j)]; exact hM
      · have := w_le (kt.join (Nds.know x kt)); omega

/-- The joined ones are stored in a box of their own. -/
theorem loop_box {w W : World} {kt : Kn} {y m : Nat} {M1 : Notes} {nb : Nat} {u0 u1 : Value} (j : Kn) (h : LoopMid w kt y m M1 W) (hb : w.heap.size + 1 < nb) (c0 : W.cell? ⟨nb, 0, none⟩ = some u0) (c1 : W.cell? ⟨nb, 1, none⟩ = some u1) :
    ((W.setCell ⟨nb, 0, none⟩ (.int .u8 (j.may : Int))).setCell ⟨nb, 1, none⟩ (.int .u8 (j.must : Int))).cell? ⟨nb, 0, none⟩ = some (.int .u8 (j.may : Int)) ∧
    ((W.setCell ⟨nb, 0, none⟩ (.int .u8 (j.may : Int))).setCell ⟨nb, 1, none⟩ (.int .u8 (j.must : Int))).cell? ⟨nb, 1, none⟩ = some (.int .u8 (j.must : Int)) ∧
    LoopMid w kt y m M1 ((W.setCell ⟨nb, 0, none⟩ (.int .u8 (j.may : Int))).setCell ⟨nb, 1, none⟩ (.int .u8 (j.must : Int))) := by
  obtain ⟨e0, e1⟩ := cell_set2 c0 c1 (.int .u8 (j.may : Int)) (.int .u8 (j.must : Int))
  have hl := h.box.lt
  have hy := h.box.yl
  have q : Keeps (oneB nb) W ((W.setCell ⟨nb, 0, none⟩ (.int .u8 (j.may : Int))).setCell ⟨nb, 1, none⟩ (.int .u8 (j.must : Int))) := ((Keeps.refl (oneB nb) W).setCell (p := ⟨nb, 0, none⟩) (.inl rfl) _).setCell (p := ⟨nb, 1, none⟩) (.inl rfl) _
  have hne : ∀ i, i ≤ w.heap.size + 1 → ¬ oneB nb i := fun i hi e => by have : i = nb := e; omega
  refine ⟨e0, e1, ⟨(h.box.q.setCell (p := ⟨nb, 0, none⟩) (.inr (by show w.heap.size ≤ nb; omega)) _).setCell (p := ⟨nb, 1, none⟩) (.inr (by show w.heap.size ≤ nb; omega)) _, hl, q.blk h.box.bA (hne _ (by omega)), q.blk h.box.bB (hne _ (by omega)), q.blk h.box.bY (hne _ (by omega)), h.box.ne, hy⟩, h.map.keeps q (hne _ (by omega))⟩

theorem realloc_keeps {W w' : World} {m : Nat} {o o' : Obj} (h : Keeps (oneB m) W (w'.alloc o)) (hz : W.heap.size ≤ w'.heap.size) : Keeps (oneB m) W (w'.alloc o') := by
  have h1 := (Keeps.refl noB w').alloc o
  have h2 := (Keeps.refl noB w').alloc o'
  refine ⟨h2.os.trans (h1.os.symm.trans h.os), h2.tape.trans (h1.tape.symm.trans h.tape), h2.output.trans (h1.output.symm.trans h.output), Nat.le_trans hz h2.size, fun k hk hm => ?_⟩
  rw [h2.block k (by omega) id, ← h1.block k (by omega) id]
  exact h.block k hk hm

/-- A new box of two cells, kept. -/
theorem new_cells {W W' : World} {m : Nat} (hm : m < W.heap.size) (q : Keeps (oneB m) (W.alloc (.cells #[.int .u8 0, .int .u8 0] 111)) W') :
    W'.cell? ⟨W.heap.size, 0, none⟩ = some (.int .u8 0) ∧ W'.cell? ⟨W.heap.size, 1, none⟩ = some (.int .u8 0) ∧ W'.frozen? ⟨W.heap.size, 0, none⟩ = false ∧ W'.frozen? ⟨W.heap.size, 1, none⟩ = false := by
  have hb := q.blk (Blk.new W #[.int .u8 0, .int .u8 0] 111) (fun e => by have : W.heap.size = m := e; omega)
  exact ⟨(hb.cell 0).trans rfl, (hb.cell 1).trans rfl, hb.free 0, hb.free 1⟩
theorem old_cells {W W' : World} {nb : Nat} {u0 u1 : Value} (q : Keeps noB W W') (n0 : W.cell? ⟨nb, 0, none⟩ = some u0) (n1 : W.cell? ⟨nb, 1, none⟩ = some u1) (f0 : W.frozen? ⟨nb, 0, none⟩ = false) (f1 : W.frozen? ⟨nb, 1, none⟩ = false) :
    W'.cell? ⟨nb, 0, none⟩ = some u0 ∧ W'.cell? ⟨nb, 1, none⟩ = some u1 ∧ W'.frozen? ⟨nb, 0, none⟩ = false ∧ W'.frozen? ⟨nb, 1, none⟩ = false := by
  have hl := cell_lt n0
  exact ⟨(q.cell (p := ⟨nb, 0, none⟩) hl id).trans n0, (q.cell (p := ⟨nb, 1, none⟩) hl id).trans n1, (q.frozen (p := ⟨nb, 0, none⟩) hl id).trans f0, (q.frozen (p := ⟨nb, 1, none⟩) hl id).trans f1⟩

set_option maxRecDepth 100000 in
set_option maxHeartbeats 4000000 in
theorem surLoop_any (x : Nds) (k : Kn) (M : Notes) (w : World) (y m g b e : Nat) (vx : Value) (h : SurAt w y m M) (hg : Blk w g #[i64 b, i64 e, vx] 165) (hgm : g ≠ m) (hk : k.Wf) (hs : Steady (fun t => Nds.know x t)) (hvx : ∃ a n c, vx = .slice a n c)
    (hin : ∀ (kt : Kn) (Mt : Notes) w1, kt.Wf → Keeps (oneB m) w w1 → SurAt w1 y m Mt → Calls Tryz.prog 72 #[.pointer (some ⟨y, 0, none⟩), vx, knV kt] w1 (SurPost w1 m (Nds.know x kt) ((Nds.note x kt).over Mt))) :
    Calls Tryz.prog 74 #[.pointer (some ⟨y, 0, none⟩), .pointer (some ⟨g, 0, none⟩), knV k] w (SurPost w m (loopK (fun t => Nds.know x t) 13 k) ((Nds.note x (loopK (fun t => Nds.know x t) 13 k)).over M)) := by
  obtain ⟨xa, xn, xc, rfl⟩ := hvx
  obtain ⟨KF, hKF⟩ : ∃ KF, loopK (fun t => Nds.know x t) 13 k = KF := ⟨_, rfl⟩
  rw [hKF]
  have HI := Lib.hid hin
  have HG : Hid (∀ w1, Keeps (oneB m) w w1 → w1.cell? ⟨g, 2, none⟩ = some (.slice xa xn xc)) := fun w1 q => ((q.blk hg hgm).cell 2).trans rfl
  have HP : Hid (LoopTop w x KF M y m k ((w.alloc (.cells #[.int .u8 (k.may : Int), .int .u8 (k.must : Int)] 111)).alloc (.cells #[.int .u8 0, .int .u8 0] 111))) :=
    ⟨⟨13, hKF, by omega⟩, hk, SurBox.start h (Keeps.refl _ _), M, h.map.keeps (((Keeps.refl noB w).alloc _).alloc _) id, rfl⟩
  have HST := Lib.hid hs
  have hml := h.map.lt
  have hgl := hg.lt
  obtain ⟨km, ku⟩ := k
  unfold knV at *
  simp only at *
  clear h hg hk hs hin hKF
  go_enter Tryz.func74, Tryz.ntmps74
  go_wp2_with fail
  refine wp_scope_jumps 0 (fun a' w' => ∃ (kt : Kn) (u7 u8 u9 u10 u11 u12 u13 u14 u15 u16 u17 u18 u19 u20 u21 : Value), a' = { tmps := #[.pointer (some ⟨y, 0, none⟩), .pointer (some ⟨g, 0, none⟩), .agg #[.int .u8 (km : Int), .int .u8 (ku : Int)], undef, undef, .pointer (some ⟨w.heap.size, 0, none⟩), .pointer (some ⟨w.heap.size + 1, 0, none⟩), u7, u8, u9, u10, u11, u12, u13, u14, u15, u16, u17, u18, u19, u20, u21], defers := [] } ∧ LoopTop w x KF M y m kt w') (fun _ w' => 12 - (kOf w.heap.size w').w) rfl ?_ ?_
  · have htop := HP.out
    generalize ((w.alloc (.cells #[.int .u8 (km : Int), .int .u8 (ku : Int)] 111)).alloc (.cells #[.int .u8 0, .int .u8 0] 111)) = W at htop ⊢
    clear HP
    obtain ⟨kt, hkt⟩ : ∃ kt : Kn, kt = ⟨km, ku⟩ := ⟨_, rfl⟩
    rw [← hkt] at htop
    clear hkt
    obtain ⟨Mt, hmt, hMt⟩ := htop.map
    have hst := htop.step HST.out
    have hkw := htop.wf
    have HCJ := Lib.hid (fun w => joined_any kt (Nds.know x kt) hkw (HST.out.wf kt hkw) w)
    have HMU : Hid (kOf w.heap.size W = kt) := kOf_box htop.box
    have HI1 : Hid (∀ w1, Keeps noB W w1 → Calls Tryz.prog 72 #[.pointer (some ⟨y, 0, none⟩), .slice xa xn xc, knV kt] w1 (SurPost w1 m (Nds.know x kt) ((Nds.note x kt).over Mt))) := fun w1 q =>
      HI.out kt Mt w1 hkw (htop.box.quiet q).q ⟨(htop.box.quiet q).bY, (htop.box.quiet q).ne, hmt.keeps q id⟩
    have HBW := Lib.hid htop.box
    have HST1 := Lib.hid hst
    have HEQ := Lib.hid (And.intro hMt (hst.1))
    clear htop hst hmt HI
    by_cases hJ : kt.join (Nds.know x kt) = kt
    · have HJ := Lib.hid hJ
      have HN := kn_neq (kt.join (Nds.know x kt)) kt
      have HD : decide (kt.join (Nds.know x kt) ≠ kt) = false := by simp [hJ]
      rw [HD] at HN
      have HGD := kn_guard (kt.join (Nds.know x kt)) kt
      have HK0 := Lib.hid (And.intro (HEQ.out.2 hJ).1 ((HEQ.out.2 hJ).2 Mt HEQ.out.1))
      clear HD hJ HJ HST1 hkw hMt
      generalize kt.join (Nds.know x kt) = J at *
      generalize (Nds.note x kt).over Mt = M1 at *
      generalize Nds.know x kt = K1 at *
      obtain ⟨jm, ju⟩ := J
      obtain ⟨tm, tu⟩ := kt
      obtain ⟨nm, nu⟩ := K1
      unfold knV at *
      simp only at HI1 HCJ HN HGD
      go_wp2_with fail
      go_step3
      go_wp2_with fail
      have HBR : Hid (SurBox w W ⟨tm, tu⟩ y m) := HBW
      have hmR : m < W.heap.size := Nat.lt_of_lt_of_le hml HBR.out.q.size
      have HS0 : Hid ((fun w' => Keeps (oneB m) W w' ∧ w'.cell? ⟨w.heap.size, 0, none⟩ = some (.int .u8 (tm : Int)) ∧ w'.cell? ⟨w.heap.size, 1, none⟩ = some (.int .u8 (tu : Int)) ∧ w'.cell? ⟨g, 2, none⟩ = some (.slice xa xn xc)) W.drew) := Lib.hid (by
        have hb := HBR.out.quiet (Keeps.refl noB W).drew
        obtain ⟨t0, t1, _⟩ := hb.cells
        exact ⟨(Keeps.refl _ _).drew, t0, t1, HG.out _ hb.q⟩)
      have HS3 : Hid (∀ w' w2, (fun w' => Keeps (oneB m) W w' ∧ w'.cell? ⟨w.heap.size, 0, none⟩ = some (.int .u8 (tm : Int)) ∧ w'.cell? ⟨w.heap.size, 1, none⟩ = some (.int .u8 (tu : Int)) ∧ w'.cell? ⟨g, 2, none⟩ = some (.slice xa xn xc)) w' → Keeps (oneB m) w' w2 → (fun w' => Keeps (oneB m) W w' ∧ w'.cell? ⟨w.heap.size, 0, none⟩ = some (.int .u8 (tm : Int)) ∧ w'.cell? ⟨w.heap.size, 1, none⟩ = some (.int .u8 (tu : Int)) ∧ w'.cell? ⟨g, 2, none⟩ = some (.slice xa xn xc)) w2) := fun w' w2 h k => by
        have hb := (HBR.out.keeps h.1).keeps k
        obtain ⟨t0, t1, _⟩ := hb.cells
        exact ⟨h.1.trans k, t0, t1, HG.out w2 hb.q⟩
      have HS2 : Hid (∀ w' nb x1 y1, (fun w' => Keeps (oneB m) W w' ∧ w'.cell? ⟨w.heap.size, 0, none⟩ = some (.int .u8 (tm : Int)) ∧ w'.cell? ⟨w.heap.size, 1, none⟩ = some (.int .u8 (tu : Int)) ∧ w'.cell? ⟨g, 2, none⟩ = some (.slice xa xn xc)) w' → w.heap.size + 1 < nb → W.heap.size ≤ nb → (fun w' => Keeps (oneB m) W w' ∧ w'.cell? ⟨w.heap.size, 0, none⟩ = some (.int .u8 (tm : Int)) ∧ w'.cell? ⟨w.heap.size, 1, none⟩ = some (.int .u8 (tu : Int)) ∧ w'.cell? ⟨g, 2, none⟩ = some (.slice xa xn xc)) ((w'.setCell ⟨nb, 0, none⟩ x1).setCell ⟨nb, 1, none⟩ y1)) := fun w' nb x1 y1 h hb1 hb2 => by
        have e : ∀ A : Addr, A.block ≠ nb → ((w'.setCell ⟨nb, 0, none⟩ x1).setCell ⟨nb, 1, none⟩ y1).cell? A = w'.cell? A := fun A hA => by
          rw [World.cell?_setCell_other _ _ _ _ (fun e => hA (by rw [← e])), World.cell?_setCell_other _ _ _ _ (fun e => hA (by rw [← e]))]
        exact ⟨(h.1.setCell (p := ⟨nb, 0, none⟩) (.inr hb2) _).setCell (p := ⟨nb, 1, none⟩) (.inr hb2) _, (e _ (by show w.heap.size ≠ nb; omega)).trans h.2.1, (e _ (by show w.heap.size ≠ nb; omega)).trans h.2.2.1, (e _ (by show g ≠ nb; omega)).trans h.2.2.2⟩
      have HS6 : Hid (∀ w' : World, W.heap.size ≤ w'.heap.size → (fun w' => Keeps (oneB m) W w' ∧ w'.cell? ⟨w.heap.size, 0, none⟩ = some (.int .u8 (tm : Int)) ∧ w'.cell? ⟨w.heap.size, 1, none⟩ = some (.int .u8 (tu : Int)) ∧ w'.cell? ⟨g, 2, none⟩ = some (.slice xa xn xc)) (w'.alloc (.cells #[.int .u8 0, .int .u8 0] 111)) → (fun w' => Keeps (oneB m) W w' ∧ w'.cell? ⟨w.heap.size, 0, none⟩ = some (.int .u8 (tm : Int)) ∧ w'.cell? ⟨w.heap.size, 1, none⟩ = some (.int .u8 (tu : Int)) ∧ w'.cell? ⟨g, 2, none⟩ = some (.slice xa xn xc)) (w'.alloc (.cells #[.int .u8 (jm : Int), .int .u8 (ju : Int)] 111))) := fun w' hz h => by
        have q := realloc_keeps (o' := .cells #[.int .u8 (jm : Int), .int .u8 (ju : Int)] 111) h.1 hz
        have hb := HBR.out.keeps q
        obtain ⟨t0, t1, _⟩ := hb.cells
        exact ⟨q, t0, t1, HG.out _ hb.q⟩
      have HMK : Hid (∀ W1 w', Keeps noB W W1 → MapAt Tryz.prog 3 w' m M1 → Keeps (oneB m) W1 w' → LoopMid w ⟨tm, tu⟩ y m M1 w') := fun W1 w' q hm k => ⟨(HBR.out.quiet q).keeps k, hm⟩
      clear HBW
      go_region_held3 (fun w' => Keeps (oneB m) W w' ∧ w'.cell? ⟨w.heap.size, 0, none⟩ = some (.int .u8 (tm : Int)) ∧ w'.cell? ⟨w.heap.size, 1, none⟩ = some (.int .u8 (tu : Int)) ∧ w'.cell? ⟨g, 2, none⟩ = some (.slice xa xn xc))
        (first | exact HS0.out | exact HS3.out _ _ (by assumption) hk | exact HS3.out _ _ (by assumption) ((Keeps.refl (oneB m) _).alloc _) | exact HS6.out _ hz7 (by assumption) | exact HS2.out _ _ _ _ (by assumption) (by first | exact HBR.out.bB.lt | exact HMa.out.box.bB.lt | exact HMb.out.box.bB.lt) (by first | exact Nat.le_refl _ | exact hz6 | exact hz7))
        (first
        | (go_at_call 72; refine (HI1.out _ (by first | exact (Keeps.refl _ _).drew | exact (Keeps.refl _ _).drew.alloc _)).mono ?_; rintro e6 w6 ⟨he6, hma, hk⟩; unfold knV at he6; obtain rfl := he6
           first | have HMa := Lib.hid (HMK.out _ _ (Keeps.refl noB W).drew hma hk) | have HMa := Lib.hid (HMK.out _ _ ((Keeps.refl noB W).drew.alloc _) hma hk)
           have hz6 : W.heap.size ≤ w6.heap.size := by first | exact hk.size | exact Nat.le_trans (by simp) hk.size
           have hm6 : m < w6.heap.size := Nat.lt_of_lt_of_le hmR hz6
           first | (have hn : w6.cell? ⟨W.heap.size, 0, none⟩ = some (.int .u8 0) ∧ w6.cell? ⟨W.heap.size, 1, none⟩ = some (.int .u8 0) ∧ w6.frozen? ⟨W.heap.size, 0, none⟩ = false ∧ w6.frozen? ⟨W.heap.size, 1, none⟩ = false := new_cells (W := W.drew) hmR hk; have ⟨n0, n1, n2, n3⟩ := hn; clear hn) | skip
           clear hma)
        | (go_at_call 73; refine (HCJ.out _).mono ?_; rintro e7 w7 ⟨rfl, hk7⟩
           first | have HMb := Lib.hid (HMa.out.quiet hk7) | have HMb := Lib.hid (HMa.out.quiet (((Keeps.refl noB _).alloc _).trans hk7))
           have hz7 : W.heap.size ≤ w7.heap.size := by first | exact Nat.le_trans hz6 hk7.size | exact Nat.le_trans hz6 (Nat.le_trans (by simp) hk7.size)
           first | (have ⟨n0, n1, n2, n3⟩ := old_cells hk7 n0 n1 n2 n3) | (have ⟨n0, n1, n2, n3⟩ := new_cells hm6 (hk7.mono (fun _ e => e.elim) (may' := oneB m))) | skip
           have hk := hk7.mono (fun _ e => e.elim) (may' := oneB m)))
      · have HF := Lib.hid (HMb.out.quiet ((Keeps.refl noB w7).alloc (.cells #[.int .u8 (jm : Int), .int .u8 (ju : Int)] 111)))
        have c0 : (w7.alloc (.cells #[.int .u8 (jm : Int), .int .u8 (ju : Int)] 111)).cell? ⟨w7.heap.size, 0, none⟩ = some (.int .u8 (jm : Int)) := ((Blk.new w7 #[.int .u8 (jm : Int), .int .u8 (ju : Int)] 111).cell 0).trans rfl
        have c1 : (w7.alloc (.cells #[.int .u8 (jm : Int), .int .u8 (ju : Int)] 111)).cell? ⟨w7.heap.size, 1, none⟩ = some (.int .u8 (ju : Int)) := ((Blk.new w7 #[.int .u8 (jm : Int), .int .u8 (ju : Int)] 111).cell 1).trans rfl
        revert c0 c1 HF
        generalize w7.alloc (.cells #[.int .u8 (jm : Int), .int .u8 (ju : Int)] 111) = wF
        intro HF c0 c1
        have ⟨t0, t1, t2, t3, t4, t5, t6, t7, t8⟩ := HF.out.box.cells
        simp only at t0 t1
        have HX := Lib.hid (HF.out.box.done HF.out.map (.int .u8 (tm : Int)) (.int .u8 (tu : Int)))
        obtain ⟨f0, f1, f2, f3⟩ := HX.out
        have HY := Lib.hid f2
        have HK1 := Lib.hid HK0.out
        go_wp2_with fail
        obtain ⟨hk1, hk2⟩ := HK1.out
        refine bodyPost_ret (resKn Tryz.results74 _ (w.heap.size + 1) (tm : Int) (tu : Int) _ rfl f0 f1) rfl ⟨by rw [hk1]; rfl, ?_, f3⟩
        rw [← hk2]
        exact HY.out
      · obtain ⟨c0, c1, hmid⟩ := loop_box (nb := w6.heap.size) ⟨jm, ju⟩ HMb.out HMa.out.box.bB.lt n0 n1
        simp only at c0 c1 hmid
        have HF := Lib.hid hmid
        revert c0 c1 HF
        clear hmid
        generalize World.setCell (World.setCell _ _ _) _ _ = wF
        intro c0 c1 HF
        have ⟨t0, t1, t2, t3, t4, t5, t6, t7, t8⟩ := HF.out.box.cells
        simp only at t0 t1
        have HX := Lib.hid (HF.out.box.done HF.out.map (.int .u8 (tm : Int)) (.int .u8 (tu : Int)))
        obtain ⟨f0, f1, f2, f3⟩ := HX.out
        have HY := Lib.hid f2
        have HK1 := Lib.hid HK0.out
        go_wp2_with fail
        obtain ⟨hk1, hk2⟩ := HK1.out
        refine bodyPost_ret (resKn Tryz.results74 _ (w.heap.size + 1) (tm : Int) (tu : Int) _ rfl f0 f1) rfl ⟨by rw [hk1]; rfl, ?_, f3⟩
        rw [← hk2]
        exact HY.out
      · obtain ⟨c0, c1, hmid⟩ := loop_box (nb := W.heap.size) ⟨jm, ju⟩ HMb.out HBR.out.bB.lt n0 n1
        simp only at c0 c1 hmid
        have HF := Lib.hid hmid
        revert c0 c1 HF
        clear hmid
        generalize World.setCell (World.setCell _ _ _) _ _ = wF
        intro c0 c1 HF
        have ⟨t0, t1, t2, t3, t4, t5, t6, t7, t8⟩ := HF.out.box.cells
        simp only at t0 t1
        have HX := Lib.hid (HF.out.box.done HF.out.map (.int .u8 (tm : Int)) (.int .u8 (tu : Int)))
        obtain ⟨f0, f1, f2, f3⟩ := HX.out
        have HY := Lib.hid f2
        have HK1 := Lib.hid HK0.out
        go_wp2_with fail
        obtain ⟨hk1, hk2⟩ := HK1.out
        refine bodyPost_ret (resKn Tryz.results74 _ (w.heap.size + 1) (tm : Int) (tu : Int) _ rfl f0 f1) rfl ⟨by rw [hk1]; rfl, ?_, f3⟩
        rw [← hk2]
        exact HY.out
    · have HJ := Lib.hid hJ
      have HN := kn_neq (kt.join (Nds.know x kt)) kt
      have HD : decide (kt.join (Nds.know x kt) ≠ kt) = true := by simp [hJ]
      rw [HD] at HN
      have HGD := kn_guard (kt.join (Nds.know x kt)) kt
      have HK0 : Hid (∀ W' , SurBox w W' (kt.join (Nds.know x kt)) y m → MapAt Tryz.prog 3 W' m ((Nds.note x kt).over Mt) → LoopTop w x KF M y m (kt.join (Nds.know x kt)) W' ∧ 12 - (kt.join (Nds.know x kt)).w < 12 - kt.w) := fun W' hb hm => HST1.out.2 hJ W' Mt HEQ.out.1 hb hm
      clear HD hJ HJ HST1 hkw hMt
      generalize kt.join (Nds.know x kt) = J at *
      generalize (Nds.note x kt).over Mt = M1 at *
      generalize Nds.know x kt = K1 at *
      obtain ⟨jm, ju⟩ := J
      obtain ⟨tm, tu⟩ := kt
      obtain ⟨nm, nu⟩ := K1
      unfold knV at *
      simp only at HI1 HCJ HN HGD
      go_wp2_with fail
      go_step3
      go_wp2_with fail
      have HBR : Hid (SurBox w W ⟨tm, tu⟩ y m) := HBW
      have hmR : m < W.heap.size := Nat.lt_of_lt_of_le hml HBR.out.q.size
      have HS0 : Hid ((fun w' => Keeps (oneB m) W w' ∧ w'.cell? ⟨w.heap.size, 0, none⟩ = some (.int .u8 (tm : Int)) ∧ w'.cell? ⟨w.heap.size, 1, none⟩ = some (.int .u8 (tu : Int)) ∧ w'.cell? ⟨g, 2, none⟩ = some (.slice xa xn xc)) W.drew) := Lib.hid (by
        have hb := HBR.out.quiet (Keeps.refl noB W).drew
        obtain ⟨t0, t1, _⟩ := hb.cells
        exact ⟨(Keeps.refl _ _).drew, t0, t1, HG.out _ hb.q⟩)
      have HS3 : Hid (∀ w' w2, (fun w' => Keeps (oneB m) W w' ∧ w'.cell? ⟨w.heap.size, 0, none⟩ = some (.int .u8 (tm : Int)) ∧ w'.cell? ⟨w.heap.size, 1, none⟩ = some (.int .u8 (tu : Int)) ∧ w'.cell? ⟨g, 2, none⟩ = some (.slice xa xn xc)) w' → Keeps (oneB m) w' w2 → (fun w' => Keeps (oneB m) W w' ∧ w'.cell? ⟨w.heap.size, 0, none⟩ = some (.int .u8 (tm : Int)) ∧ w'.cell? ⟨w.heap.size, 1, none⟩ = some (.int .u8 (tu : Int)) ∧ w'.cell? ⟨g, 2, none⟩ = some (.slice xa xn xc)) w2) := fun w' w2 h k => by
        have hb := (HBR.out.keeps h.1).keeps k
        obtain ⟨t0, t1, _⟩ := hb.cells
        exact ⟨h.1.trans k, t0, t1, HG.out w2 hb.q⟩
      have HS2 : Hid (∀ w' nb x1 y1, (fun w' => Keeps (oneB m) W w' ∧ w'.cell? ⟨w.heap.size, 0, none⟩ = some (.int .u8 (tm : Int)) ∧ w'.cell? ⟨w.heap.size, 1, none⟩ = some (.int .u8 (tu : Int)) ∧ w'.cell? ⟨g, 2, none⟩ = some (.slice xa xn xc)) w' → w.heap.size + 1 < nb → W.heap.size ≤ nb → (fun w' => Keeps (oneB m) W w' ∧ w'.cell? ⟨w.heap.size, 0, none⟩ = some (.int .u8 (tm : Int)) ∧ w'.cell? ⟨w.heap.size, 1, none⟩ = some (.int .u8 (tu : Int)) ∧ w'.cell? ⟨g, 2, none⟩ = some (.slice xa xn xc)) ((w'.setCell ⟨nb, 0, none⟩ x1).setCell ⟨nb, 1, none⟩ y1)) := fun w' nb x1 y1 h hb1 hb2 => by
        have e : ∀ A : Addr, A.block ≠ nb → ((w'.setCell ⟨nb, 0, none⟩ x1).setCell ⟨nb, 1, none⟩ y1).cell? A = w'.cell? A := fun A hA => by
          rw [World.cell?_setCell_other _ _ _ _ (fun e => hA (by rw [← e])), World.cell?_setCell_other _ _ _ _ (fun e => hA (by rw [← e]))]
        exact ⟨(h.1.setCell (p := ⟨nb, 0, none⟩) (.inr hb2) _).setCell (p := ⟨nb, 1, none⟩) (.inr hb2) _, (e _ (by show w.heap.size ≠ nb; omega)).trans h.2.1, (e _ (by show w.heap.size ≠ nb; omega)).trans h.2.2.1, (e _ (by show g ≠ nb; omega)).trans h.2.2.2⟩
      have HS6 : Hid (∀ w' : World, W.heap.size ≤ w'.heap.size → (fun w' => Keeps (oneB m) W w' ∧ w'.cell? ⟨w.heap.size, 0, none⟩ = some (.int .u8 (tm : Int)) ∧ w'.cell? ⟨w.heap.size, 1, none⟩ = some (.int .u8 (tu : Int)) ∧ w'.cell? ⟨g, 2, none⟩ = some (.slice xa xn xc)) (w'.alloc (.cells #[.int .u8 0, .int .u8 0] 111)) → (fun w' => Keeps (oneB m) W w' ∧ w'.cell? ⟨w.heap.size, 0, none⟩ = some (.int .u8 (tm : Int)) ∧ w'.cell? ⟨w.heap.size, 1, none⟩ = some (.int .u8 (tu : Int)) ∧ w'.cell? ⟨g, 2, none⟩ = some (.slice xa xn xc)) (w'.alloc (.cells #[.int .u8 (jm : Int), .int .u8 (ju : Int)] 111))) := fun w' hz h => by
        have q := realloc_keeps (o' := .cells #[.int .u8 (jm : Int), .int .u8 (ju : Int)] 111) h.1 hz
        have hb := HBR.out.keeps q
        obtain ⟨t0, t1, _⟩ := hb.cells
        exact ⟨q, t0, t1, HG.out _ hb.q⟩
      have HMK : Hid (∀ W1 w', Keeps noB W W1 → MapAt Tryz.prog 3 w' m M1 → Keeps (oneB m) W1 w' → LoopMid w ⟨tm, tu⟩ y m M1 w') := fun W1 w' q hm k => ⟨(HBR.out.quiet q).keeps k, hm⟩
      clear HBW
      go_region_held3 (fun w' => Keeps (oneB m) W w' ∧ w'.cell? ⟨w.heap.size, 0, none⟩ = some (.int .u8 (tm : Int)) ∧ w'.cell? ⟨w.heap.size, 1, none⟩ = some (.int .u8 (tu : Int)) ∧ w'.cell? ⟨g, 2, none⟩ = some (.slice xa xn xc))
        (first | exact HS0.out | exact HS3.out _ _ (by assumption) hk | exact HS3.out _ _ (by assumption) ((Keeps.refl (oneB m) _).alloc _) | exact HS6.out _ hz7 (by assumption) | exact HS2.out _ _ _ _ (by assumption) (by first | exact HBR.out.bB.lt | exact HMa.out.box.bB.lt | exact HMb.out.box.bB.lt) (by first | exact Nat.le_refl _ | exact hz6 | exact hz7))
        (first
        | (go_at_call 72; refine (HI1.out _ (by first | exact (Keeps.refl _ _).drew | exact (Keeps.refl _ _).drew.alloc _)).mono ?_; rintro e6 w6 ⟨he6, hma, hk⟩; unfold knV at he6; obtain rfl := he6
           first | have HMa := Lib.hid (HMK.out _ _ (Keeps.refl noB W).drew hma hk) | have HMa := Lib.hid (HMK.out _ _ ((Keeps.refl noB W).drew.alloc _) hma hk)
           have hz6 : W.heap.size ≤ w6.heap.size := by first | exact hk.size | exact Nat.le_trans (by simp) hk.size
           have hm6 : m < w6.heap.size := Nat.lt_of_lt_of_le hmR hz6
           first | (have hn : w6.cell? ⟨W.heap.size, 0, none⟩ = some (.int .u8 0) ∧ w6.cell? ⟨W.heap.size, 1, none⟩ = some (.int .u8 0) ∧ w6.frozen? ⟨W.heap.size, 0, none⟩ = false ∧ w6.frozen? ⟨W.heap.size, 1, none⟩ = false := new_cells (W := W.drew) hmR hk; have ⟨n0, n1, n2, n3⟩ := hn; clear hn) | skip
           clear hma)
        | (go_at_call 73; refine (HCJ.out _).mono ?_; rintro e7 w7 ⟨rfl, hk7⟩
           first | have HMb := Lib.hid (HMa.out.quiet hk7) | have HMb := Lib.hid (HMa.out.quiet (((Keeps.refl noB _).alloc _).trans hk7))
           have hz7 : W.heap.size ≤ w7.heap.size := by first | exact Nat.le_trans hz6 hk7.size | exact Nat.le_trans hz6 (Nat.le_trans (by simp) hk7.size)
           first | (have ⟨n0, n1, n2, n3⟩ := old_cells hk7 n0 n1 n2 n3) | (have ⟨n0, n1, n2, n3⟩ := new_cells hm6 (hk7.mono (fun _ e => e.elim) (may' := oneB m))) | skip
           have hk := hk7.mono (fun _ e => e.elim) (may' := oneB m)))
      · have HF := Lib.hid (HMb.out.quiet ((Keeps.refl noB w7).alloc (.cells #[.int .u8 (jm : Int), .int .u8 (ju : Int)] 111)))
        have c0 : (w7.alloc (.cells #[.int .u8 (jm : Int), .int .u8 (ju : Int)] 111)).cell? ⟨w7.heap.size, 0, none⟩ = some (.int .u8 (jm : Int)) := ((Blk.new w7 #[.int .u8 (jm : Int), .int .u8 (ju : Int)] 111).cell 0).trans rfl
        have c1 : (w7.alloc (.cells #[.int .u8 (jm : Int), .int .u8 (ju : Int)] 111)).cell? ⟨w7.heap.size, 1, none⟩ = some (.int .u8 (ju : Int)) := ((Blk.new w7 #[.int .u8 (jm : Int), .int .u8 (ju : Int)] 111).cell 1).trans rfl
        revert c0 c1 HF
        generalize w7.alloc (.cells #[.int .u8 (jm : Int), .int .u8 (ju : Int)] 111) = wF
        intro HF c0 c1
        have ⟨t0, t1, t2, t3, t4, t5, t6, t7, t8⟩ := HF.out.box.cells
        simp only at t0 t1
        have HX := Lib.hid (HK0.out _ (HF.out.box.store ⟨jm, ju⟩) (HF.out.box.map HF.out.map _ _))
        go_wp2_with fail
        go_step3
        exact ⟨rfl, ⟨jm, ju⟩, _, _, _, _, _, _, _, _, _, _, _, _, _, _, _, rfl, HX.out.1⟩
      · obtain ⟨c0, c1, hmid⟩ := loop_box (nb := w6.heap.size) ⟨jm, ju⟩ HMb.out HMa.out.box.bB.lt n0 n1
        simp only at c0 c1 hmid
        have HF := Lib.hid hmid
        revert c0 c1 HF
        clear hmid
        generalize World.setCell (World.setCell _ _ _) _ _ = wF
        intro c0 c1 HF
        have ⟨t0, t1, t2, t3, t4, t5, t6, t7, t8⟩ := HF.out.box.cells
        simp only at t0 t1
        have HX := Lib.hid (HK0.out _ (HF.out.box.store ⟨jm, ju⟩) (HF.out.box.map HF.out.map _ _))
        go_wp2_with fail
        go_step3
        exact ⟨rfl, ⟨jm, ju⟩, _, _, _, _, _, _, _, _, _, _, _, _, _, _, _, rfl, HX.out.1⟩
      · obtain ⟨c0, c1, hmid⟩ := loop_box (nb := W.heap.size) ⟨jm, ju⟩ HMb.out HBR.out.bB.lt n0 n1
        simp only at c0 c1 hmid
        have HF := Lib.hid hmid
        revert c0 c1 HF
        clear hmid
        generalize World.setCell (World.setCell _ _ _) _ _ = wF
        intro c0 c1 HF
        have ⟨t0, t1, t2, t3, t4, t5, t6, t7, t8⟩ := HF.out.box.cells
        simp only at t0 t1
        have HX := Lib.hid (HK0.out _ (HF.out.box.store ⟨jm, ju⟩) (HF.out.box.map HF.out.map _ _))
        go_wp2_with fail
        go_step3
        exact ⟨rfl, ⟨jm, ju⟩, _, _, _, _, _, _, _, _, _, _, _, _, _, _, _, rfl, HX.out.1⟩
  · rintro a1 W ⟨kt, u7, u8, u9, u10, u11, u12, u13, u14, u15, u16, u17, u18, u19, u20, u21, rfl, htop⟩
    clear HP
    obtain ⟨Mt, hmt, hMt⟩ := htop.map
    have hst := htop.step HST.out
    have hkw := htop.wf
    have HCJ := Lib.hid (fun w => joined_any kt (Nds.know x kt) hkw (HST.out.wf kt hkw) w)
    have HMU : Hid (kOf w.heap.size W = kt) := kOf_box htop.box
    have HI1 : Hid (∀ w1, Keeps noB W w1 → Calls Tryz.prog 72 #[.pointer (some ⟨y, 0, none⟩), .slice xa xn xc, knV kt] w1 (SurPost w1 m (Nds.know x kt) ((Nds.note x kt).over Mt))) := fun w1 q =>
      HI.out kt Mt w1 hkw (htop.box.quiet q).q ⟨(htop.box.quiet q).bY, (htop.box.quiet q).ne, hmt.keeps q id⟩
    have HBW := Lib.hid htop.box
    have HST1 := Lib.hid hst
    have HEQ := Lib.hid (And.intro hMt (hst.1))
    clear htop hst hmt HI
    by_cases hJ : kt.join (Nds.know x kt) = kt
    · have HJ := Lib.hid hJ
      have HN := kn_neq (kt.join (Nds.know x kt)) kt
      have HD : decide (kt.join (Nds.know x kt) ≠ kt) = false := by simp [hJ]
      rw [HD] at HN
      have HGD := kn_guard (kt.join (Nds.know x kt)) kt
      have HK0 := Lib.hid (And.intro (HEQ.out.2 hJ).1 ((HEQ.out.2 hJ).2 Mt HEQ.out.1))
      clear HD hJ HJ HST1 hkw hMt
      generalize kt.join (Nds.know x kt) = J at *
      generalize (Nds.note x kt).over Mt = M1 at *
      generalize Nds.know x kt = K1 at *
      obtain ⟨jm, ju⟩ := J
      obtain ⟨tm, tu⟩ := kt
      obtain ⟨nm, nu⟩ := K1
      unfold knV at *
      simp only at HI1 HCJ HN HGD
      go_wp2_with fail
      have HBR : Hid (SurBox w W ⟨tm, tu⟩ y m) := HBW
      have hmR : m < W.heap.size := Nat.lt_of_lt_of_le hml HBR.out.q.size
      have HS0 : Hid ((fun w' => Keeps (oneB m) W w' ∧ w'.cell? ⟨w.heap.size, 0, none⟩ = some (.int .u8 (tm : Int)) ∧ w'.cell? ⟨w.heap.size, 1, none⟩ = some (.int .u8 (tu : Int)) ∧ w'.cell? ⟨g, 2, none⟩ = some (.slice xa xn xc)) W.drew) := Lib.hid (by
        have hb := HBR.out.quiet (Keeps.refl noB W).drew
        obtain ⟨t0, t1, _⟩ := hb.cells
        exact ⟨(Keeps.refl _ _).drew, t0, t1, HG.out _ hb.q⟩)
      have HS3 : Hid (∀ w' w2, (fun w' => Keeps (oneB m) W w' ∧ w'.cell? ⟨w.heap.size, 0, none⟩ = some (.int .u8 (tm : Int)) ∧ w'.cell? ⟨w.heap.size, 1, none⟩ = some (.int .u8 (tu : Int)) ∧ w'.cell? ⟨g, 2, none⟩ = some (.slice xa xn xc)) w' → Keeps (oneB m) w' w2 → (fun w' => Keeps (oneB m) W w' ∧ w'.cell? ⟨w.heap.size, 0, none⟩ = some (.int .u8 (tm : Int)) ∧ w'.cell? ⟨w.heap.size, 1, none⟩ = some (.int .u8 (tu : Int)) ∧ w'.cell? ⟨g, 2, none⟩ = some (.slice xa xn xc)) w2) := fun w' w2 h k => by
        have hb := (HBR.out.keeps h.1).keeps k
        obtain ⟨t0, t1, _⟩ := hb.cells
        exact ⟨h.1.trans k, t0, t1, HG.out w2 hb.q⟩
      have HS2 : Hid (∀ w' nb x1 y1, (fun w' => Keeps (oneB m) W w' ∧ w'.cell? ⟨w.heap.size, 0, none⟩ = some (.int .u8 (tm : Int)) ∧ w'.cell? ⟨w.heap.size, 1, none⟩ = some (.int .u8 (tu : Int)) ∧ w'.cell? ⟨g, 2, none⟩ = some (.slice xa xn xc)) w' → w.heap.size + 1 < nb → W.heap.size ≤ nb → (fun w' => Keeps (oneB m) W w' ∧ w'.cell? ⟨w.heap.size, 0, none⟩ = some (.int .u8 (tm : Int)) ∧ w'.cell? ⟨w.heap.size, 1, none⟩ = some (.int .u8 (tu : Int)) ∧ w'.cell? ⟨g, 2, none⟩ = some (.slice xa xn xc)) ((w'.setCell ⟨nb, 0, none⟩ x1).setCell ⟨nb, 1, none⟩ y1)) := fun w' nb x1 y1 h hb1 hb2 => by
        have e : ∀ A : Addr, A.block ≠ nb → ((w'.setCell ⟨nb, 0, none⟩ x1).setCell ⟨nb, 1, none⟩ y1).cell? A = w'.cell? A := fun A hA => by
          rw [World.cell?_setCell_other _ _ _ _ (fun e => hA (by rw [← e])), World.cell?_setCell_other _ _ _ _ (fun e => hA (by rw [← e]))]
        exact ⟨(h.1.setCell (p := ⟨nb, 0, none⟩) (.inr hb2) _).setCell (p := ⟨nb, 1, none⟩) (.inr hb2) _, (e _ (by show w.heap.size ≠ nb; omega)).trans h.2.1, (e _ (by show w.heap.size ≠ nb; omega)).trans h.2.2.1, (e _ (by show g ≠ nb; omega)).trans h.2.2.2⟩
      have HS6 : Hid (∀ w' : World, W.heap.size ≤ w'.heap.size → (fun w' => Keeps (oneB m) W w' ∧ w'.cell? ⟨w.heap.size, 0, none⟩ = some (.int .u8 (tm : Int)) ∧ w'.cell? ⟨w.heap.size, 1, none⟩ = some (.int .u8 (tu : Int)) ∧ w'.cell? ⟨g, 2, none⟩ = some (.slice xa xn xc)) (w'.alloc (.cells #[.int .u8 0, .int .u8 0] 111)) → (fun w' => Keeps (oneB m) W w' ∧ w'.cell? ⟨w.heap.size, 0, none⟩ = some (.int .u8 (tm : Int)) ∧ w'.cell? ⟨w.heap.size, 1, none⟩ = some (.int .u8 (tu : Int)) ∧ w'.cell? ⟨g, 2, none⟩ = some (.slice xa xn xc)) (w'.alloc (.cells #[.int .u8 (jm : Int), .int .u8 (ju : Int)] 111))) := fun w' hz h => by
        have q := realloc_keeps (o' := .cells #[.int .u8 (jm : Int), .int .u8 (ju : Int)] 111) h.1 hz
        have hb := HBR.out.keeps q
        obtain ⟨t0, t1, _⟩ := hb.cells
        exact ⟨q, t0, t1, HG.out _ hb.q⟩
      have HMK : Hid (∀ W1 w', Keeps noB W W1 → MapAt Tryz.prog 3 w' m M1 → Keeps (oneB m) W1 w' → LoopMid w ⟨tm, tu⟩ y m M1 w') := fun W1 w' q hm k => ⟨(HBR.out.quiet q).keeps k, hm⟩
      clear HBW
      go_region_held3 (fun w' => Keeps (oneB m) W w' ∧ w'.cell? ⟨w.heap.size, 0, none⟩ = some (.int .u8 (tm : Int)) ∧ w'.cell? ⟨w.heap.size, 1, none⟩ = some (.int .u8 (tu : Int)) ∧ w'.cell? ⟨g, 2, none⟩ = some (.slice xa xn xc))
        (first | exact HS0.out | exact HS3.out _ _ (by assumption) hk | exact HS3.out _ _ (by assumption) ((Keeps.refl (oneB m) _).alloc _) | exact HS6.out _ hz7 (by assumption) | exact HS2.out _ _ _ _ (by assumption) (by first | exact HBR.out.bB.lt | exact HMa.out.box.bB.lt | exact HMb.out.box.bB.lt) (by first | exact Nat.le_refl _ | exact hz6 | exact hz7))
        (first
        | (go_at_call 72; refine (HI1.out _ (by first | exact (Keeps.refl _ _).drew | exact (Keeps.refl _ _).drew.alloc _)).mono ?_; rintro e6 w6 ⟨he6, hma, hk⟩; unfold knV at he6; obtain rfl := he6
           first | have HMa := Lib.hid (HMK.out _ _ (Keeps.refl noB W).drew hma hk) | have HMa := Lib.hid (HMK.out _ _ ((Keeps.refl noB W).drew.alloc _) hma hk)
           have hz6 : W.heap.size ≤ w6.heap.size := by first | exact hk.size | exact Nat.le_trans (by simp) hk.size
           have hm6 : m < w6.heap.size := Nat.lt_of_lt_of_le hmR hz6
           first | (have hn : w6.cell? ⟨W.heap.size, 0, none⟩ = some (.int .u8 0) ∧ w6.cell? ⟨W.heap.size, 1, none⟩ = some (.int .u8 0) ∧ w6.frozen? ⟨W.heap.size, 0, none⟩ = false ∧ w6.frozen? ⟨W.heap.size, 1, none⟩ = false := new_cells (W := W.drew) hmR hk; have ⟨n0, n1, n2, n3⟩ := hn; clear hn) | skip
           clear hma)
        | (go_at_call 73; refine (HCJ.out _).mono ?_; rintro e7 w7 ⟨rfl, hk7⟩
           first | have HMb := Lib.hid (HMa.out.quiet hk7) | have HMb := Lib.hid (HMa.out.quiet (((Keeps.refl noB _).alloc _).trans hk7))
           have hz7 : W.heap.size ≤ w7.heap.size := by first | exact Nat.le_trans hz6 hk7.size | exact Nat.le_trans hz6 (Nat.le_trans (by simp) hk7.size)
           first | (have ⟨n0, n1, n2, n3⟩ := old_cells hk7 n0 n1 n2 n3) | (have ⟨n0, n1, n2, n3⟩ := new_cells hm6 (hk7.mono (fun _ e => e.elim) (may' := oneB m))) | skip
           have hk := hk7.mono (fun _ e => e.elim) (may' := oneB m)))
      · have HF := Lib.hid (HMb.out.quiet ((Keeps.refl noB w7).alloc (.cells #[.int .u8 (jm : Int), .int .u8 (ju : Int)] 111)))
        have c0 : (w7.alloc (.cells #[.int .u8 (jm : Int), .int .u8 (ju : Int)] 111)).cell? ⟨w7.heap.size, 0, none⟩ = some (.int .u8 (jm : Int)) := ((Blk.new w7 #[.int .u8 (jm : Int), .int .u8 (ju : Int)] 111).cell 0).trans rfl
        have c1 : (w7.alloc (.cells #[.int .u8 (jm : Int), .int .u8 (ju : Int)] 111)).cell? ⟨w7.heap.size, 1, none⟩ = some (.int .u8 (ju : Int)) := ((Blk.new w7 #[.int .u8 (jm : Int), .int .u8 (ju : Int)] 111).cell 1).trans rfl
        revert c0 c1 HF
        generalize w7.alloc (.cells #[.int .u8 (jm : Int), .int .u8 (ju : Int)] 111) = wF
        intro HF c0 c1
        have ⟨t0, t1, t2, t3, t4, t5, t6, t7, t8⟩ := HF.out.box.cells
        simp only at t0 t1
        have HX := Lib.hid (HF.out.box.done HF.out.map (.int .u8 (tm : Int)) (.int .u8 (tu : Int)))
        obtain ⟨f0, f1, f2, f3⟩ := HX.out
        have HY := Lib.hid f2
        have HK1 := Lib.hid HK0.out
        go_wp2_with fail
        obtain ⟨hk1, hk2⟩ := HK1.out
        refine bodyPost_ret (resKn Tryz.results74 _ (w.heap.size + 1) (tm : Int) (tu : Int) _ rfl f0 f1) rfl ⟨by rw [hk1]; rfl, ?_, f3⟩
        rw [← hk2]
        exact HY.out
      · obtain ⟨c0, c1, hmid⟩ := loop_box (nb := w6.heap.size) ⟨jm, ju⟩ HMb.out HMa.out.box.bB.lt n0 n1
        simp only at c0 c1 hmid
        have HF := Lib.hid hmid
        revert c0 c1 HF
        clear hmid
        generalize World.setCell (World.setCell _ _ _) _ _ = wF
        intro c0 c1 HF
        have ⟨t0, t1, t2, t3, t4, t5, t6, t7, t8⟩ := HF.out.box.cells
        simp only at t0 t1
        have HX := Lib.hid (HF.out.box.done HF.out.map (.int .u8 (tm : Int)) (.int .u8 (tu : Int)))
        obtain ⟨f0, f1, f2, f3⟩ := HX.out
        have HY := Lib.hid f2
        have HK1 := Lib.hid HK0.out
        go_wp2_with fail
        obtain ⟨hk1, hk2⟩ := HK1.out
        refine bodyPost_ret (resKn Tryz.results74 _ (w.heap.size + 1) (tm : Int) (tu : Int) _ rfl f0 f1) rfl ⟨by rw [hk1]; rfl, ?_, f3⟩
        rw [← hk2]
        exact HY.out
      · obtain ⟨c0, c1, hmid⟩ := loop_box (nb := W.heap.size) ⟨jm, ju⟩ HMb.out HBR.out.bB.lt n0 n1
        simp only at c0 c1 hmid
        have HF := Lib.hid hmid
        revert c0 c1 HF
        clear hmid
        generalize World.setCell (World.setCell _ _ _) _ _ = wF
        intro c0 c1 HF
        have ⟨t0, t1, t2, t3, t4, t5, t6, t7, t8⟩ := HF.out.box.cells
        simp only at t0 t1
        have HX := Lib.hid (HF.out.box.done HF.out.map (.int .u8 (tm : Int)) (.int .u8 (tu : Int)))
        obtain ⟨f0, f1, f2, f3⟩ := HX.out
        have HY := Lib.hid f2
        have HK1 := Lib.hid HK0.out
        go_wp2_with fail
        obtain ⟨hk1, hk2⟩ := HK1.out
        refine bodyPost_ret (resKn Tryz.results74 _ (w.heap.size + 1) (tm : Int) (tu : Int) _ rfl f0 f1) rfl ⟨by rw [hk1]; rfl, ?_, f3⟩
        rw [← hk2]
        exact HY.out
    · have HJ := Lib.hid hJ
      have HN := kn_neq (kt.join (Nds.know x kt)) kt
      have HD : decide (kt.join (Nds.know x kt) ≠ kt) = true := by simp [hJ]
      rw [HD] at HN
      have HGD := kn_guard (kt.join (Nds.know x kt)) kt
      have HK0 : Hid (∀ W' , SurBox w W' (kt.join (Nds.know x kt)) y m → MapAt Tryz.prog 3 W' m ((Nds.note x kt).over Mt) → LoopTop w x KF M y m (kt.join (Nds.know x kt)) W' ∧ 12 - (kt.join (Nds.know x kt)).w < 12 - kt.w) := fun W' hb hm => HST1.out.2 hJ W' Mt HEQ.out.1 hb hm
      clear HD hJ HJ HST1 hkw hMt
      generalize kt.join (Nds.know x kt) = J at *
      generalize (Nds.note x kt).over Mt = M1 at *
      generalize Nds.know x kt = K1 at *
      obtain ⟨jm, ju⟩ := J
      obtain ⟨tm, tu⟩ := kt
      obtain ⟨nm, nu⟩ := K1
      unfold knV at *
      simp only at HI1 HCJ HN HGD
      go_wp2_with fail
      have HBR : Hid (SurBox w W ⟨tm, tu⟩ y m) := HBW
      have hmR : m < W.heap.size := Nat.lt_of_lt_of_le hml HBR.out.q.size
      have HS0 : Hid ((fun w' => Keeps (oneB m) W w' ∧ w'.cell? ⟨w.heap.size, 0, none⟩ = some (.int .u8 (tm : Int)) ∧ w'.cell? ⟨w.heap.size, 1, none⟩ = some (.int .u8 (tu : Int)) ∧ w'.cell? ⟨g, 2, none⟩ = some (.slice xa xn xc)) W.drew) := Lib.hid (by
        have hb := HBR.out.quiet (Keeps.refl noB W).drew
        obtain ⟨t0, t1, _⟩ := hb.cells
        exact ⟨(Keeps.refl _ _).drew, t0, t1, HG.out _ hb.q⟩)
      have HS3 : Hid (∀ w' w2, (fun w' => Keeps (oneB m) W w' ∧ w'.cell? ⟨w.heap.size, 0, none⟩ = some (.int .u8 (tm : Int)) ∧ w'.cell? ⟨w.heap.size, 1, none⟩ = some (.int .u8 (tu : Int)) ∧ w'.cell? ⟨g, 2, none⟩ = some (.slice xa xn xc)) w' → Keeps (oneB m) w' w2 → (fun w' => Keeps (oneB m) W w' ∧ w'.cell? ⟨w.heap.size, 0, none⟩ = some (.int .u8 (tm : Int)) ∧ w'.cell? ⟨w.heap.size, 1, none⟩ = some (.int .u8 (tu : Int)) ∧ w'.cell? ⟨g, 2, none⟩ = some (.slice xa xn xc)) w2) := fun w' w2 h k => by
        have hb := (HBR.out.keeps h.1).keeps k
        obtain ⟨t0, t1, _⟩ := hb.cells
        exact ⟨h.1.trans k, t0, t1, HG.out w2 hb.q⟩
      have HS2 : Hid (∀ w' nb x1 y1, (fun w' => Keeps (oneB m) W w' ∧ w'.cell? ⟨w.heap.size, 0, none⟩ = some (.int .u8 (tm : Int)) ∧ w'.cell? ⟨w.heap.size, 1, none⟩ = some (.int .u8 (tu : Int)) ∧ w'.cell? ⟨g, 2, none⟩ = some (.slice xa xn xc)) w' → w.heap.size + 1 < nb → W.heap.size ≤ nb → (fun w' => Keeps (oneB m) W w' ∧ w'.cell? ⟨w.heap.size, 0, none⟩ = some (.int .u8 (tm : Int)) ∧ w'.cell? ⟨w.heap.size, 1, none⟩ = some (.int .u8 (tu : Int)) ∧ w'.cell? ⟨g, 2, none⟩ = some (.slice xa xn xc)) ((w'.setCell ⟨nb, 0, none⟩ x1).setCell ⟨nb, 1, none⟩ y1)) := fun w' nb x1 y1 h hb1 hb2 => by
        have e : ∀ A : Addr, A.block ≠ nb → ((w'.setCell ⟨nb, 0, none⟩ x1).setCell ⟨nb, 1, none⟩ y1).cell? A = w'.cell? A := fun A hA => by
          rw [World.cell?_setCell_other _ _ _ _ (fun e => hA (by rw [← e])), World.cell?_setCell_other _ _ _ _ (fun e => hA (by rw [← e]))]
        exact ⟨(h.1.setCell (p := ⟨nb, 0, none⟩) (.inr hb2) _).setCell (p := ⟨nb, 1, none⟩) (.inr hb2) _, (e _ (by show w.heap.size ≠ nb; omega)).trans h.2.1, (e _ (by show w.heap.size ≠ nb; omega)).trans h.2.2.1, (e _ (by show g ≠ nb; omega)).trans h.2.2.2⟩
      have HS6 : Hid (∀ w' : World, W.heap.size ≤ w'.heap.size → (fun w' => Keeps (oneB m) W w' ∧ w'.cell? ⟨w.heap.size, 0, none⟩ = some (.int .u8 (tm : Int)) ∧ w'.cell? ⟨w.heap.size, 1, none⟩ = some (.int .u8 (tu : Int)) ∧ w'.cell? ⟨g, 2, none⟩ = some (.slice xa xn xc)) (w'.alloc (.cells #[.int .u8 0, .int .u8 0] 111)) → (fun w' => Keeps (oneB m) W w' ∧ w'.cell? ⟨w.heap.size, 0, none⟩ = some (.int .u8 (tm : Int)) ∧ w'.cell? ⟨w.heap.size, 1, none⟩ = some (.int .u8 (tu : Int)) ∧ w'.cell? ⟨g, 2, none⟩ = some (.slice xa xn xc)) (w'.alloc (.cells #[.int .u8 (jm : Int), .int .u8 (ju : Int)] 111))) := fun w' hz h => by
        have q := realloc_keeps (o' := .cells #[.int .u8 (jm : Int), .int .u8 (ju : Int)] 111) h.1 hz
        have hb := HBR.out.keeps q
        obtain ⟨t0, t1, _⟩ := hb.cells
        exact ⟨q, t0, t1, HG.out _ hb.q⟩
      have HMK : Hid (∀ W1 w', Keeps noB W W1 → MapAt Tryz.prog 3 w' m M1 → Keeps (oneB m) W1 w' → LoopMid w ⟨tm, tu⟩ y m M1 w') := fun W1 w' q hm k => ⟨(HBR.out.quiet q).keeps k, hm⟩
      clear HBW
      go_region_held3 (fun w' => Keeps (oneB m) W w' ∧ w'.cell? ⟨w.heap.size, 0, none⟩ = some (.int .u8 (tm : Int)) ∧ w'.cell? ⟨w.heap.size, 1, none⟩ = some (.int .u8 (tu : Int)) ∧ w'.cell? ⟨g, 2, none⟩ = some (.slice xa xn xc))
        (first | exact HS0.out | exact HS3.out _ _ (by assumption) hk | exact HS3.out _ _ (by assumption) ((Keeps.refl (oneB m) _).alloc _) | exact HS6.out _ hz7 (by assumption) | exact HS2.out _ _ _ _ (by assumption) (by first | exact HBR.out.bB.lt | exact HMa.out.box.bB.lt | exact HMb.out.box.bB.lt) (by first | exact Nat.le_refl _ | exact hz6 | exact hz7))
        (first
        | (go_at_call 72; refine (HI1.out _ (by first | exact (Keeps.refl _ _).drew | exact (Keeps.refl _ _).drew.alloc _)).mono ?_; rintro e6 w6 ⟨he6, hma, hk⟩; unfold knV at he6; obtain rfl := he6
           first | have HMa := Lib.hid (HMK.out _ _ (Keeps.refl noB W).drew hma hk) | have HMa := Lib.hid (HMK.out _ _ ((Keeps.refl noB W).drew.alloc _) hma hk)
           have hz6 : W.heap.size ≤ w6.heap.size := by first | exact hk.size | exact Nat.le_trans (by simp) hk.size
           have hm6 : m < w6.heap.size := Nat.lt_of_lt_of_le hmR hz6
           first | (have hn : w6.cell? ⟨W.heap.size, 0, none⟩ = some (.int .u8 0) ∧ w6.cell? ⟨W.heap.size, 1, none⟩ = some (.int .u8 0) ∧ w6.frozen? ⟨W.heap.size, 0, none⟩ = false ∧ w6.frozen? ⟨W.heap.size, 1, none⟩ = false := new_cells (W := W.drew) hmR hk; have ⟨n0, n1, n2, n3⟩ := hn; clear hn) | skip
           clear hma)
        | (go_at_call 73; refine (HCJ.out _).mono ?_; rintro e7 w7 ⟨rfl, hk7⟩
           first | have HMb := Lib.hid (HMa.out.quiet hk7) | have HMb := Lib.hid (HMa.out.quiet (((Keeps.refl noB _).alloc _).trans hk7))
           have hz7 : W.heap.size ≤ w7.heap.size := by first | exact Nat.le_trans hz6 hk7.size | exact Nat.le_trans hz6 (Nat.le_trans (by simp) hk7.size)
           first | (have ⟨n0, n1, n2, n3⟩ := old_cells hk7 n0 n1 n2 n3) | (have ⟨n0, n1, n2, n3⟩ := new_cells hm6 (hk7.mono (fun _ e => e.elim) (may' := oneB m))) | skip
           have hk := hk7.mono (fun _ e => e.elim) (may' := oneB m)))
      · have HF := Lib.hid (HMb.out.quiet ((Keeps.refl noB w7).alloc (.cells #[.int .u8 (jm : Int), .int .u8 (ju : Int)] 111)))
        have c0 : (w7.alloc (.cells #[.int .u8 (jm : Int), .int .u8 (ju : Int)] 111)).cell? ⟨w7.heap.size, 0, none⟩ = some (.int .u8 (jm : Int)) := ((Blk.new w7 #[.int .u8 (jm : Int), .int .u8 (ju : Int)] 111).cell 0).trans rfl
        have c1 : (w7.alloc (.cells #[.int .u8 (jm : Int), .int .u8 (ju : Int)] 111)).cell? ⟨w7.heap.size, 1, none⟩ = some (.int .u8 (ju : Int)) := ((Blk.new w7 #[.int .u8 (jm : Int), .int .u8 (ju : Int)] 111).cell 1).trans rfl
        revert c0 c1 HF
        generalize w7.alloc (.cells #[.int .u8 (jm : Int), .int .u8 (ju : Int)] 111) = wF
        intro HF c0 c1
        have ⟨t0, t1, t2, t3, t4, t5, t6, t7, t8⟩ := HF.out.box.cells
        simp only at t0 t1
        have HX := Lib.hid (HK0.out _ (HF.out.box.store ⟨jm, ju⟩) (HF.out.box.map HF.out.map _ _))
        go_wp2_with fail
        go_step3
        refine ⟨rfl, ⟨⟨jm, ju⟩, _, _, _, _, _, _, _, _, _, _, _, _, _, _, _, rfl, HX.out.1⟩, ?_⟩
        show 12 - (kOf w.heap.size _).w < 12 - (kOf w.heap.size _).w
        rw [HMU.out, kOf_box HX.out.1.box]
        exact HX.out.2
      · obtain ⟨c0, c1, hmid⟩ := loop_box (nb := w6.heap.size) ⟨jm, ju⟩ HMb.out HMa.out.box.bB.lt n0 n1
        simp only at c0 c1 hmid
        have HF := Lib.hid hmid
        revert c0 c1 HF
        clear hmid
        generalize World.setCell (World.setCell _ _ _) _ _ = wF
        intro c0 c1 HF
        have ⟨t0, t1, t2, t3, t4, t5, t6, t7, t8⟩ := HF.out.box.cells
        simp only at t0 t1
        have HX := Lib.hid (HK0.out _ (HF.out.box.store ⟨jm, ju⟩) (HF.out.box.map HF.out.map _ _))
        go_wp2_with fail
        go_step3
        refine ⟨rfl, ⟨⟨jm, ju⟩, _, _, _, _, _, _, _, _, _, _, _, _, _, _, _, rfl, HX.out.1⟩, ?_⟩
        show 12 - (kOf w.heap.size _).w < 12 - (kOf w.heap.size _).w
        rw [HMU.out, kOf_box HX.out.1.box]
        exact HX.out.2
      · obtain ⟨c0, c1, hmid⟩ := loop_box (nb := W.heap.size) ⟨jm, ju⟩ HMb.out HBR.out.bB.lt n0 n1
        simp only at c0 c1 hmid
        have HF := Lib.hid hmid
        revert c0 c1 HF
        clear hmid
        generalize World.setCell (World.setCell _ _ _) _ _ = wF
        intro c0 c1 HF
        have ⟨t0, t1, t2, t3, t4, t5, t6, t7, t8⟩ := HF.out.box.cells
        simp only at t0 t1
        have HX := Lib.hid (HK0.out _ (HF.out.box.store ⟨jm, ju⟩) (HF.out.box.map HF.out.map _ _))
        go_wp2_with fail
        go_step3
        refine ⟨rfl, ⟨⟨jm, ju⟩, _, _, _, _, _, _, _, _, _, _, _, _, _, _, _, rfl, HX.out.1⟩, ?_⟩
        show 12 - (kOf w.heap.size _).w < 12 - (kOf w.heap.size _).w
        rw [HMU.out, kOf_box HX.out.1.box]
        exact HX.out.2

end Go.Proofs.YtkfcgamdlckncaaGreat

namespace Go.Proofs.YtkfcgamdlckncaaGreat
set_option linter.unusedVariables false
set_option linter.unusedSimpArgs false
open Go.RowKit

theorem Nds.Sp.mem : ∀ {x : Nds} {lo hi : Nat}, x.Sp lo hi → ∀ z ∈ x.list, z.Sp
  | .nil, _, _, _, z, hz => by simp [Nds.list] at hz
  | .cons x r, _, _, h, z, hz => by
    simp only [Nds.Sp] at h
    rcases List.mem_cons.1 hz with e | hz
    · rw [e]; exact h.2.1
    · exact Nds.Sp.mem h.2.2 z hz

theorem Nds.few1 : ∀ x : Nds, x.list.length ≤ x.pre.len
  | .nil => Nat.zero_le _
  | .cons x r => by
    have h1 : 1 ≤ x.pre.len := by cases x; simp [Nd.pre, Nds.len]
    have h2 := Nds.few1 r
    have e1 : (Nds.cons x r).pre.len = x.pre.len + r.pre.len := by simp [Nds.pre, Nds.len_app]
    rw [e1]
    simp only [Nds.list, List.length_cons]
    omega

/-- What a body's walk says. -/
theorem surBody {txt : ByteArray} (htxt : txt.size ≤ 80) (x : Nds) {lo hi : Nat} (hsp : x.Sp lo hi) (hc : ∀ z ∈ x.list, SurC z) {w w1 : World} {ok : Nat → Prop} {y m n : Nat} {v : Value} {xs : List Value} (hn : n ≤ 4000)
    (hrow : Row w ok 104 1 v n xs) (hrep : RepIL w ok x xs) (hok : ∀ g, ok g → g ≠ m) (kt : Kn) (Mt : Notes) (hk : kt.Wf) (q : Keeps (oneB m) w w1) (h : SurAt w1 y m Mt) :
    Calls Tryz.prog 72 #[.pointer (some ⟨y, 0, none⟩), v, knV kt] w1 (SurPost w1 m (Nds.know x kt) ((Nds.note x kt).over Mt)) := by
  have hh : Hands w w1 ok ok := Hands.of_keeps q (fun g hg _ => hok g hg) (fun g hg _ => hg)
  exact surSteps_any x kt Mt w1 ok y m n v xs (hh.row _ _ _ _ _ hrow) (Hands.repIL hh x xs hrep) hok h hk hn (fun z hz => ⟨hc z hz, Nd.steady z (hsp.mem z hz)⟩)

theorem body_few {w : World} {ok : Nat → Prop} {x : Nds} {n : Nat} {v : Value} {xs : List Value} (hrow : Row w ok 104 1 v n xs) (hrep : RepIL w ok x xs) (hf : x.list.length ≤ 4000) : n ≤ 4000 := by
  have h1 := (RepIL.nth hrep).1
  have h2 := hrow.1.1
  omega

theorem Nds.Sp.len : ∀ {x : Nds} {lo hi : Nat}, x.Sp lo hi → x.list.length ≤ hi - lo
  | .nil, _, _, _ => by simp [Nds.list]
  | .cons x r, lo, hi, h => by
    simp only [Nds.Sp] at h
    have h1 := h.2.1.lt
    have h2 := h.2.2.len
    have h3 := h.2.2.le
    simp only [Nds.list, List.length_cons]
    omega

mutual
theorem Nd.surC {txt : ByteArray} (htxt : txt.size ≤ 80) : ∀ (x : Nd) (d : Nat), x.Ok txt d → x.Sp → SurC x
  | .mk c k e vs ar .nil, d, hx, hsp => by
    intro kk M w ok y m v hrep hok h hkw
    have hgd := hx.good
    have hge := hgd.le
    simp only [Nd.fin] at hge
    simp only [Nd.Sp] at hsp
    obtain ⟨hbe, hl⟩ := hsp
    simp only [RepI] at hrep
    obtain ⟨g, hg, h1⟩ := hrep
    have hgm := hok g hg
    rcases h1 with ⟨hc, t, rfl, rfl, hb⟩ | ⟨rfl, t, u, rfl, rfl, hb⟩ | ⟨hc, rfl, rfl, hb⟩
    · have hkn : Nd.know (.mk c k e [t] ar .nil) kk = valK c [t] kk := by
        rw [Nd.know, if_neg (by rcases hc with rfl | rfl | rfl | rfl <;> decide)]
      rw [hkn]
      exact surV kk M w y m g k h (by omega) (fun w1 q => ((q.blk hb hgm).cell 0).trans rfl) _ _ rfl (fun w1 q => behind_any kk hkw c [t] hl g k e 0 w1 (.inl ⟨hc, t, rfl, q.blk hb hgm⟩))
    · exact surV kk M w y m g k h (by omega) (fun w1 q => ((q.blk hb hgm).cell 0).trans rfl) _ _ rfl (fun w1 q => behind_any kk hkw 61 [t, u] hl g k e 0 w1 (.inr ⟨rfl, t, u, rfl, q.blk hb hgm⟩))
    · have hkn : Nd.know (.mk c k e [] ar .nil) kk = Kn.no := by
        rw [Nd.know, if_pos hc]
      exact surL kk M w y m g k h (by omega) (fun w1 q => ((q.blk hb hgm).cell 0).trans rfl) _ _ rfl hkn trivial
  | .mk c k e vs ar (.cons x .nil), d, hx, hsp => by
    intro kk M w ok y m v hrep hok h hkw
    have hgd := hx.good
    have hgr := hgd.room
    have hge := hgd.le
    simp only [Nd.scope, Nd.vars, Nd.fin] at hgr hge
    have hx' := hx
    simp only [Nd.Ok, Bds.Ok] at hx'
    have hxx := hx'.2.2.2.2.2.2.2.2.1
    simp only [Nd.Sp] at hsp
    obtain ⟨hl, hbe, hsx⟩ := hsp
    have ih := Nds.surC htxt x _ _ hxx _ _ hsx
    have hlen := hsx.len
    simp only [RepI] at hrep
    obtain ⟨vx, n, xs, ⟨g, hg, h1⟩, hrow, hrepx⟩ := hrep
    have hgm := hok g hg
    have hvx : ∃ a n c, vx = .slice a n c := by obtain ⟨a, c, e⟩ := row_shape hrow; exact ⟨a, n, c, e⟩
    have hn4 := body_few hrow hrepx (by omega)
    rcases h1 with ⟨rfl, rfl, rfl, hb⟩ | ⟨rfl, rfl, hb⟩
    · refine surO kk M w y m g k h (by omega) (fun w1 q => ((q.blk hb hgm).cell 0).trans rfl) _ _ (fun w1 q hm => ?_)
      have hat : SurAt w1 y m ((point k kk).over M) := h.keeps q hm
      have hL := surLoop_any x kk ((point k kk).over M) w1 y m g k e vx hat (q.blk hb hgm) hgm hkw (Nds.steady x _ _ hsx) hvx (fun kt Mt w2 hkt q2 h2 => surBody htxt x hsx ih hn4 hrow hrepx hok kt Mt hkt (q.trans q2) h2)
      rw [← over_assoc] at hL
      exact hL
    · refine surS kk M w y m g k h (by omega) (fun w1 q => ((q.blk hb hgm).cell 0).trans rfl) _ _ (fun w1 q hm => ?_)
      have hat : SurAt w1 y m ((point k kk).over M) := h.keeps q hm
      have hL := surScope_any kk ((point k kk).over M) w1 y m g k e vs vx hat (q.blk hb hgm) hgm (by omega) (by omega) hl (by omega) hvx (Nds.know x kk) ((Nds.steady x _ _ hsx).wf kk hkw) ((Nds.note x kk).over ((point k kk).over M))
        (fun w2 q2 hm2 => surBody htxt x hsx ih hn4 hrow hrepx hok kk _ hkw (q.trans q2) (hat.keeps q2 hm2))
      rw [show (point (e - 1) (Nds.know x kk)).over ((Nds.note x kk).over ((point k kk).over M)) = ((point (e - 1) (Nds.know x kk)).over ((Nds.note x kk).over (point k kk))).over M from by simp only [over_assoc]] at hL
      exact hL
  | .mk c k e vs ar (.cons x (.cons z .nil)), d, hx, hsp => by
    intro kk M w ok y m v hrep hok h hkw
    have hgd := hx.good
    have hge := hgd.le
    simp only [Nd.fin] at hge
    have hx' := hx
    simp only [Nd.Ok, Bds.Ok] at hx'
    have hxx := hx'.2.2.2.2.2.2.2.2.1
    have hzz := hx'.2.2.2.2.2.2.2.2.2.1
    simp only [Nd.Sp] at hsp
    obtain ⟨m0, h1, h2, h3, hsx, hsz⟩ := hsp
    have ihx := Nds.surC htxt x _ _ hxx _ _ hsx
    have ihz := Nds.surC htxt z _ _ hzz _ _ hsz
    have hlx := hsx.len
    have hlz := hsz.len
    simp only [RepI] at hrep
    obtain ⟨vx, vz, n, xs, n2, zs, ⟨g, hg, rfl, rfl, rfl, hb⟩, ⟨hrx, hpx⟩, hrz, hpz⟩ := hrep
    have hgm := hok g hg
    obtain ⟨xa, xc, rfl⟩ := row_shape hrx
    obtain ⟨za, zc, rfl⟩ := row_shape hrz
    have hnx := body_few hrx hpx (by omega)
    have hnz := body_few hrz hpz (by omega)
    have hL := surB kk M w y m g k h (by omega) (fun w1 q => ((q.blk hb hgm).cell 0).trans rfl) ((Nds.know x kk).join (Nds.know z kk)) (Nds.know x kk) (Nds.know z kk) ((Nds.note x kk).over ((point k kk).over M)) ((Nds.note z kk).over ((Nds.note x kk).over ((point k kk).over M))) rfl
      ((Nds.steady x _ _ hsx).wf kk hkw) ((Nds.steady z _ _ hsz).wf kk hkw) hgm hb.lt xa za n xc n2 zc (fun w1 q => ⟨((q.blk hb hgm).cell 2).trans rfl, ((q.blk hb hgm).cell 3).trans rfl⟩)
      (fun w1 q hm => surBody htxt x hsx ihx hnx hrx hpx hok kk _ hkw q (h.keeps q hm)) (fun w1 q hm => surBody htxt z hsz ihz hnz hrz hpz hok kk _ hkw q (h.keeps q hm))
    rw [← over_assoc, ← over_assoc, over_assoc (Nds.note z kk)] at hL
    exact hL
  | .mk _ _ _ _ _ (.cons _ (.cons _ (.cons _ _))), _, _, _ => by
    intro kk M w ok y m v hrep
    simp only [RepI] at hrep
theorem Nds.surC {txt : ByteArray} (htxt : txt.size ≤ 80) : ∀ (x : Nds) (sc : List UInt8) (d : Nat), x.Ok txt sc d → ∀ (lo hi : Nat), x.Sp lo hi → ∀ z ∈ x.list, SurC z
  | .nil, _, _, _, _, _, _ => fun z hz => by cases hz
  | .cons x r, sc, d, hx, lo, hi, hsp => by
    simp only [Nds.Ok] at hx
    simp only [Nds.Sp] at hsp
    have h1 := Nd.surC htxt x d hx.2.1 hsp.2.1
    have h2 := Nds.surC htxt r sc d hx.2.2 _ _ hsp.2.2
    intro z hz
    rcases List.mem_cons.1 hz with e | hz
    · rw [e]; exact h1
    · exact h2 z hz
end

set_option maxRecDepth 100000 in
set_option maxHeartbeats 4000000 in
theorem surveyed_any {s : ByteArray} {x : Nd} (hp : progP s = some x) (w : World) (ok : Nat → Prop) (g : Nat) (hrep : RepI w ok x (.iface 64 (ptr g))) :
    Calls Tryz.prog 34 #[ptr g] w (fun e w' => ∃ m, e = .returned (.map (some m)) ∧ MapAt Tryz.prog 3 w' m (notesP x) ∧ Keeps noB w w' ∧ w.heap.size ≤ m) := by
  have hmm := @run_makeMap Tryz.prog
  unfold ptr at *
  obtain ⟨_, h2, _, _, _, h6⟩ := progP_ok hp
  have hsz : (w.alloc (.map #[] 0)).heap.size = w.heap.size + 1 := by simp only [World.alloc, Array.size_push]
  have hB := Blk.new (w.alloc (.map #[] 0)) #[.map (some w.heap.size)] 118
  rw [hsz] at hB
  have q0 : Keeps noB w ((w.alloc (.map #[] 0)).alloc (.cells #[.map (some w.heap.size)] 118)) := ((Keeps.refl _ _).alloc _).alloc _
  have hm0 : MapAt Tryz.prog 3 ((w.alloc (.map #[] 0)).alloc (.cells #[.map (some w.heap.size)] 118)) w.heap.size blank := (MapAt.made Tryz.prog 3 w).keeps ((Keeps.refl noB _).alloc _) id
  have hh : Hands w ((w.alloc (.map #[] 0)).alloc (.cells #[.map (some w.heap.size)] 118)) ok (fun i => i < w.heap.size) := Hands.of_keeps q0 (fun _ _ _ => id) (fun i _ hl => hl)
  have HS := Lib.hid (Nd.surC h6 x 0 h2 (progP_sp hp) ⟨0, 0⟩ blank _ (fun i => i < w.heap.size) (w.heap.size + 1) w.heap.size _ (hh.repI x _ hrep) (fun i hi => by omega) ⟨hB, by omega, hm0⟩ wf_start)
  have HX : Hid (∀ w3, MapAt Tryz.prog 3 w3 w.heap.size ((Nd.note x ⟨0, 0⟩).over blank) → Keeps (oneB w.heap.size) ((w.alloc (.map #[] 0)).alloc (.cells #[.map (some w.heap.size)] 118)) w3 →
      w3.cell? ⟨w.heap.size + 1, 0, none⟩ = some (.map (some w.heap.size)) ∧ MapAt Tryz.prog 3 w3 w.heap.size (notesP x) ∧ Keeps noB w w3) := fun w3 hm q => by
    rw [over_blank] at hm
    exact ⟨((q.blk hB (fun e => by have : w.heap.size + 1 = w.heap.size := e; omega)).cell 0).trans rfl, hm, q0.transNew q (fun i hi e => by have : i = w.heap.size := e; omega)⟩
  unfold knV at HS
  clear hp hrep h2 h6 hsz hB q0 hm0 hh
  go_enter Tryz.func34, Tryz.ntmps34
  go_wp2_with (go_at_call 49; refine HS.out.mono ?_; rintro e3 w3 ⟨rfl, hm3, q3⟩; have hh := HX.out w3 hm3 q3; have ⟨c0, hm4, q4⟩ := hh; have HF := Lib.hid (And.intro hm4 q4); clear hm3 q3 hh hm4 q4)
  go_ret
  exact ⟨w.heap.size, rfl, HF.out.1, HF.out.2, Nat.le_refl _⟩

end Go.Proofs.YtkfcgamdlckncaaGreat

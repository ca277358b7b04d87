/-
  Walks of the program's survey: loop, that goes back to a label until nothing is new.
-/
import Derived.Test.YtlilkmemgomnjaaVl
import Derived.ScopeJumps
import Derived.WalkMore
namespace Go.Proofs.Ytlilkmemgomnjaa
set_option linter.unusedVariables false
set_option linter.unusedSimpArgs false
open Go.RowKit

/-- Between the walk of a loop's body and its comparing. -/
structure LoopMid (w : World) (k : Kn) (y m : Nat) (M : Notes) (W : World) : Prop where
  box : SurBox w W k y m
  map : MapAt Try.prog 3 W m M
theorem LoopMid.quiet {w W W' : World} {k : Kn} {y m : Nat} {M : Notes} (h : LoopMid w k y m M W) (q : Keeps noB W W') : LoopMid w k y m M W' := ⟨h.box.quiet q, h.map.keeps q id⟩

/-- What holds at the label. -/
structure LoopTop (w : World) (x : Nds) (KF : Kn) (M : Notes) (y m : Nat) (kt : Kn) (W : World) : Prop where
  left : ∃ n, loopK (fun t => Nds.know x t) n kt = KF ∧ 13 ≤ n + kt.w
  wf : kt.Wf
  box : SurBox w W kt y m
  map : ∃ Mt, MapAt Try.prog 3 W m Mt ∧ (Nds.note x KF).over Mt = (Nds.note x KF).over M

/-- How far it has come, as the box says. -/
def kOf (N : Nat) (W : World) : Kn := ⟨(intOf ((W.cell? ⟨N, 0, none⟩).getD undef)).toNat, (intOf ((W.cell? ⟨N, 1, none⟩).getD undef)).toNat⟩
theorem kOf_box {w W : World} {k : Kn} {y m : Nat} (h : SurBox w W k y m) : kOf w.heap.size W = k := by
  obtain ⟨t0, t1, _⟩ := h.cells
  unfold kOf
  rw [t0, t1]
  cases k
  rfl

theorem LoopTop.step {w W : World} {x : Nds} {KF : Kn} {M : Notes} {y m : Nat} {kt : Kn} (hs : Steady (fun t => Nds.know x t)) (h : LoopTop w x KF M y m kt W) :
    ((kt.join (Nds.know x kt) = kt) → KF = kt ∧ ∀ Mt, (Nds.note x KF).over Mt = (Nds.note x KF).over M → (Nds.note x kt).over Mt = (Nds.note x KF).over M) ∧
    ((kt.join (Nds.know x kt) ≠ kt) → ∀ W' Mt, (Nds.note x KF).over Mt = (Nds.note x KF).over M → SurBox w W' (kt.join (Nds.know x kt)) y m → MapAt Try.prog 3 W' m ((Nds.note x kt).over Mt) → LoopTop w x KF M y m (kt.join (Nds.know x kt)) W' ∧ 12 - (kt.join (Nds.know x kt)).w < 12 - kt.w) := by
  obtain ⟨n, hn, hl⟩ := h.left
  have hw := w_le kt
  cases n with
  | zero => omega
  | succ n =>
    rw [loopK] at hn
    refine ⟨fun e => ?_, fun e W' Mt hM hb hm => ?_⟩
    · rw [if_pos e] at hn
      subst hn
      exact ⟨rfl, fun Mt h => h⟩
    · rw [if_neg e] at hn
      have hwf := wf_join h.wf (hs.wf kt h.wf)
      have hlt := w_lt h.wf hwf (le_join_left _ _) (fun e' => e e'.symm)
      refine ⟨⟨⟨n, hn, by omega⟩, hwf, hb, _, hm, ?_⟩, ?_⟩
      · rw [over_again (fun j => Nds.note_dom x kt KF j)]; exact hM
      · have := w_le (kt.join (Nds.know x kt)); omega

/-- The joined ones are stored in a box of their own. -/
theorem loop_box {w W : World} {kt : Kn} {y m : Nat} {M1 : Notes} {nb : Nat} {u0 u1 : Value} (j : Kn) (h : LoopMid w kt y m M1 W) (hb : w.heap.size + 1 < nb) (c0 : W.cell? ⟨nb, 0, none⟩ = some u0) (c1 : W.cell? ⟨nb, 1, none⟩ = some u1) :
    ((W.setCell ⟨nb, 0, none⟩ (.int .u8 (j.may : Int))).setCell ⟨nb, 1, none⟩ (.int .u8 (j.must : Int))).cell? ⟨nb, 0, none⟩ = some (.int .u8 (j.may : Int)) ∧
    ((W.setCell ⟨nb, 0, none⟩ (.int .u8 (j.may : Int))).setCell ⟨nb, 1, none⟩ (.int .u8 (j.must : Int))).cell? ⟨nb, 1, none⟩ = some (.int .u8 (j.must : Int)) ∧
    LoopMid w kt y m M1 ((W.setCell ⟨nb, 0, none⟩ (.int .u8 (j.may : Int))).setCell ⟨nb, 1, none⟩ (.int .u8 (j.must : Int))) := by
  obtain ⟨e0, e1⟩ := cell_set2 c0 c1 (.int .u8 (j.may : Int)) (.int .u8 (j.must : Int))
  have hl := h.box.lt
  have hy := h.box.yl
  have q : Keeps (oneB nb) W ((W.setCell ⟨nb, 0, none⟩ (.int .u8 (j.may : Int))).setCell ⟨nb, 1, none⟩ (.int .u8 (j.must : Int))) := ((Keeps.refl (oneB nb) W).setCell (p := ⟨nb, 0, none⟩) (.inl rfl) _).setCell (p := ⟨nb, 1, none⟩) (.inl rfl) _
  have hne : ∀ i, i ≤ w.heap.size + 1 → ¬ oneB nb i := fun i hi e => by have : i = nb := e; omega
  refine ⟨e0, e1, ⟨(h.box.q.setCell (p := ⟨nb, 0, none⟩) (.inr (by show w.heap.size ≤ nb; omega)) _).setCell (p := ⟨nb, 1, none⟩) (.inr (by show w.heap.size ≤ nb; omega)) _, hl, q.blk h.box.bA (hne _ (by omega)), q.blk h.box.bB (hne _ (by omega)), q.blk h.box.bY (hne _ (by omega)), h.box.ne, hy⟩, h.map.keeps q (hne _ (by omega))⟩

theorem realloc_keeps {W w' : World} {m : Nat} {o o' : Obj} (h : Keeps (oneB m) W (w'.alloc o)) (hz : W.heap.size ≤ w'.heap.size) : Keeps (oneB m) W (w'.alloc o') := by
  have h1 := (Keeps.refl noB w').alloc o
  have h2 := (Keeps.refl noB w').alloc o'
  refine ⟨h2.os.trans (h1.os.symm.trans h.os), h2.tape.trans (h1.tape.symm.trans h.tape), h2.output.trans (h1.output.symm.trans h.output), Nat.le_trans hz h2.size, fun k hk hm => ?_⟩
  rw [h2.block k (by omega) id, ← h1.block k (by omega) id]
  exact h.block k hk hm

/-- A new box of two cells, kept. -/
theorem new_cells {W W' : World} {m : Nat} (hm : m < W.heap.size) (q : Keeps (oneB m) (W.alloc (.cells #[.int .u8 0, .int .u8 0] 81)) W') :
    W'.cell? ⟨W.heap.size, 0, none⟩ = some (.int .u8 0) ∧ W'.cell? ⟨W.heap.size, 1, none⟩ = some (.int .u8 0) ∧ W'.frozen? ⟨W.heap.size, 0, none⟩ = false ∧ W'.frozen? ⟨W.heap.size, 1, none⟩ = false := by
  have hb := q.blk (Blk.new W #[.int .u8 0, .int .u8 0] 81) (fun e => by have : W.heap.size = m := e; omega)
  exact ⟨(hb.cell 0).trans rfl, (hb.cell 1).trans rfl, hb.free 0, hb.free 1⟩
theorem old_cells {W W' : World} {nb : Nat} {u0 u1 : Value} (q : Keeps noB W W') (n0 : W.cell? ⟨nb, 0, none⟩ = some u0) (n1 : W.cell? ⟨nb, 1, none⟩ = some u1) (f0 : W.frozen? ⟨nb, 0, none⟩ = false) (f1 : W.frozen? ⟨nb, 1, none⟩ = false) :
    W'.cell? ⟨nb, 0, none⟩ = some u0 ∧ W'.cell? ⟨nb, 1, none⟩ = some u1 ∧ W'.frozen? ⟨nb, 0, none⟩ = false ∧ W'.frozen? ⟨nb, 1, none⟩ = false := by
  have hl := cell_lt n0
  exact ⟨(q.cell (p := ⟨nb, 0, none⟩) hl id).trans n0, (q.cell (p := ⟨nb, 1, none⟩) hl id).trans n1, (q.frozen (p := ⟨nb, 0, none⟩) hl id).trans f0, (q.frozen (p := ⟨nb, 1, none⟩) hl id).trans f1⟩

set_option maxRecDepth 100000 in
set_option maxHeartbeats 4000000 in
theorem surLoop_any (x : Nds) (k : Kn) (M : Notes) (w : World) (y m g b e : Nat) (vx : Value) (h : SurAt w y m M) (hg : Blk w g #[i64 b, i64 e, vx] 147) (hgm : g ≠ m) (hk : k.Wf) (hs : Steady (fun t => Nds.know x t)) (hvx : ∃ a n c, vx = .slice a n c)
    (hin : ∀ (kt : Kn) (Mt : Notes) w1, kt.Wf → Keeps (oneB m) w w1 → SurAt w1 y m Mt → Calls Try.prog 120 #[.pointer (some ⟨y, 0, none⟩), vx, knV kt] w1 (SurPost w1 m (Nds.know x kt) ((Nds.note x kt).over Mt))) :
    Calls Try.prog 122 #[.pointer (some ⟨y, 0, none⟩), .pointer (some ⟨g, 0, none⟩), knV k] w (SurPost w m (loopK (fun t => Nds.know x t) 13 k) ((Nds.note x (loopK (fun t => Nds.know x t) 13 k)).over M)) := by
  obtain ⟨xa, xn, xc, rfl⟩ := hvx
  obtain ⟨KF, hKF⟩ : ∃ KF, loopK (fun t => Nds.know x t) 13 k = KF := ⟨_, rfl⟩
  rw [hKF]
  have HI := Lib.hid hin
  have HG : Hid (∀ w1, Keeps (oneB m) w w1 → w1.cell? ⟨g, 2, none⟩ = some (.slice xa xn xc)) := fun w1 q => ((q.blk hg hgm).cell 2).trans rfl
  have HP : Hid (LoopTop w x KF M y m k ((w.alloc (.cells #[.int .u8 (k.may : Int), .int .u8 (k.must : Int)] 81)).alloc (.cells #[.int .u8 0, .int .u8 0] 81))) :=
    ⟨⟨13, hKF, by omega⟩, hk, SurBox.start h (Keeps.refl _ _), M, h.map.keeps (((Keeps.refl noB w).alloc _).alloc _) id, rfl⟩
  have HST := Lib.hid hs
  have hml := h.map.lt
  have hgl := hg.lt
  obtain ⟨km, ku⟩ := k
  unfold knV at *
  simp only at *
  clear h hg hk hs hin hKF
  go_enter Try.func122, Try.ntmps122
  go_wp2_with fail
  refine wp_scope_jumps 0 (fun a' w' => ∃ (kt : Kn) (u7 u8 u9 u10 u11 u12 u13 u14 u15 u16 u17 u18 u19 u20 u21 : Value), a' = { tmps := #[.pointer (some ⟨y, 0, none⟩), .pointer (some ⟨g, 0, none⟩), .agg #[.int .u8 (km : Int), .int .u8 (ku : Int)], undef, undef, .pointer (some ⟨w.heap.size, 0, none⟩), .pointer (some ⟨w.heap.size + 1, 0, none⟩), u7, u8, u9, u10, u11, u12, u13, u14, u15, u16, u17, u18, u19, u20, u21], defers := [] } ∧ LoopTop w x KF M y m kt w') (fun _ w' => 12 - (kOf w.heap.size w').w) rfl ?_ ?_
  · have htop := HP.out
    generalize ((w.alloc (.cells #[.int .u8 (km : Int), .int .u8 (ku : Int)] 81)).alloc (.cells #[.int .u8 0, .int .u8 0] 81)) = W at htop ⊢
    clear HP
    obtain ⟨kt, hkt⟩ : ∃ kt : Kn, kt = ⟨km, ku⟩ := ⟨_, rfl⟩
    rw [← hkt] at htop
    clear hkt
    obtain ⟨Mt, hmt, hMt⟩ := htop.map
    have hst := htop.step HST.out
    have hkw := htop.wf
    have HCJ := Lib.hid (fun w => joined_any kt (Nds.know x kt) hkw (HST.out.wf kt hkw) w)
    have HMU : Hid (kOf w.heap.size W = kt) := kOf_box htop.box
    have HI1 : Hid (∀ w1, Keeps noB W w1 → Calls Try.prog 120 #[.pointer (some ⟨y, 0, none⟩), .slice xa xn xc, knV kt] w1 (SurPost w1 m (Nds.know x kt) ((Nds.note x kt).over Mt))) := fun w1 q =>
      HI.out kt Mt w1 hkw (htop.box.quiet q).q ⟨(htop.box.quiet q).bY, (htop.box.quiet q).ne, hmt.keeps q id⟩
    have HBW := Lib.hid htop.box
    have HST1 := Lib.hid hst
    have HEQ := Lib.hid (And.intro hMt (hst.1))
    clear htop hst hmt HI
    by_cases hJ : kt.join (Nds.know x kt) = kt
    · have HJ := Lib.hid hJ
      have HN := kn_neq (kt.join (Nds.know x kt)) kt
      have HD : decide (kt.join (Nds.know x kt) ≠ kt) = false := by simp [hJ]
      rw [HD] at HN
      have HGD := kn_guard (kt.join (Nds.know x kt)) kt
      have HK0 := Lib.hid (And.intro (HEQ.out.2 hJ).1 ((HEQ.out.2 hJ).2 Mt HEQ.out.1))
      clear HD hJ HJ HST1 hkw hMt
      generalize kt.join (Nds.know x kt) = J at *
      generalize (Nds.note x kt).over Mt = M1 at *
      generalize Nds.know x kt = K1 at *
      obtain ⟨jm, ju⟩ := J
      obtain ⟨tm, tu⟩ := kt
      obtain ⟨nm, nu⟩ := K1
      unfold knV at *
      simp only at HI1 HCJ HN HGD
      go_wp2_with fail
      go_step3
      go_wp2_with fail
      have HBR : Hid (SurBox w W ⟨tm, tu⟩ y m) := HBW
      have hmR : m < W.heap.size := Nat.lt_of_lt_of_le hml HBR.out.q.size
      have HS0 : Hid ((fun w' => Keeps (oneB m) W w' ∧ w'.cell? ⟨w.heap.size, 0, none⟩ = some (.int .u8 (tm : Int)) ∧ w'.cell? ⟨w.heap.size, 1, none⟩ = some (.int .u8 (tu : Int)) ∧ w'.cell? ⟨g, 2, none⟩ = some (.slice xa xn xc)) W.drew) := Lib.hid (by
        have hb := HBR.out.quiet (Keeps.refl noB W).drew
        obtain ⟨t0, t1, _⟩ := hb.cells
        exact ⟨(Keeps.refl _ _).drew, t0, t1, HG.out _ hb.q⟩)
      have HS3 : Hid (∀ w' w2, (fun w' => Keeps (oneB m) W w' ∧ w'.cell? ⟨w.heap.size, 0, none⟩ = some (.int .u8 (tm : Int)) ∧ w'.cell? ⟨w.heap.size, 1, none⟩ = some (.int .u8 (tu : Int)) ∧ w'.cell? ⟨g, 2, none⟩ = some (.slice xa xn xc)) w' → Keeps (oneB m) w' w2 → (fun w' => Keeps (oneB m) W w' ∧ w'.cell? ⟨w.heap.size, 0, none⟩ = some (.int .u8 (tm : Int)) ∧ w'.cell? ⟨w.heap.size, 1, none⟩ = some (.int .u8 (tu : Int)) ∧ w'.cell? ⟨g, 2, none⟩ = some (.slice xa xn xc)) w2) := fun w' w2 h k => by
        have hb := (HBR.out.keeps h.1).keeps k
        obtain ⟨t0, t1, _⟩ := hb.cells
        exact ⟨h.1.trans k, t0, t1, HG.out w2 hb.q⟩
      have HS2 : Hid (∀ w' nb x1 y1, (fun w' => Keeps (oneB m) W w' ∧ w'.cell? ⟨w.heap.size, 0, none⟩ = some (.int .u8 (tm : Int)) ∧ w'.cell? ⟨w.heap.size, 1, none⟩ = some (.int .u8 (tu : Int)) ∧ w'.cell? ⟨g, 2, none⟩ = some (.slice xa xn xc)) w' → w.heap.size + 1 < nb → W.heap.size ≤ nb → (fun w' => Keeps (oneB m) W w' ∧ w'.cell? ⟨w.heap.size, 0, none⟩ = some (.int .u8 (tm : Int)) ∧ w'.cell? ⟨w.heap.size, 1, none⟩ = some (.int .u8 (tu : Int)) ∧ w'.cell? ⟨g, 2, none⟩ = some (.slice xa xn xc)) ((w'.setCell ⟨nb, 0, none⟩ x1).setCell ⟨nb, 1, none⟩ y1)) := fun w' nb x1 y1 h hb1 hb2 => by
        have e : ∀ A : Addr, A.block ≠ nb → ((w'.setCell ⟨nb, 0, none⟩ x1).setCell ⟨nb, 1, none⟩ y1).cell? A = w'.cell? A := fun A hA => by
          rw [World.cell?_setCell_other _ _ _ _ (fun e => hA (by rw [← e])), World.cell?_setCell_other _ _ _ _ (fun e => hA (by rw [← e]))]
        exact ⟨(h.1.setCell (p := ⟨nb, 0, none⟩) (.inr hb2) _).setCell (p := ⟨nb, 1, none⟩) (.inr hb2) _, (e _ (by show w.heap.size ≠ nb; omega)).trans h.2.1, (e _ (by show w.heap.size ≠ nb; omega)).trans h.2.2.1, (e _ (by show g ≠ nb; omega)).trans h.2.2.2⟩
      have HS6 : Hid (∀ w' : World, W.heap.size ≤ w'.heap.size → (fun w' => Keeps (oneB m) W w' ∧ w'.cell? ⟨w.heap.size, 0, none⟩ = some (.int .u8 (tm : Int)) ∧ w'.cell? ⟨w.heap.size, 1, none⟩ = some (.int .u8 (tu : Int)) ∧ w'.cell? ⟨g, 2, none⟩ = some (.slice xa xn xc)) (w'.alloc (.cells #[.int .u8 0, .int .u8 0] 81)) → (fun w' => Keeps (oneB m) W w' ∧ w'.cell? ⟨w.heap.size, 0, none⟩ = some (.int .u8 (tm : Int)) ∧ w'.cell? ⟨w.heap.size, 1, none⟩ = some (.int .u8 (tu : Int)) ∧ w'.cell? ⟨g, 2, none⟩ = some (.slice xa xn xc)) (w'.alloc (.cells #[.int .u8 (jm : Int), .int .u8 (ju : Int)] 81))) := fun w' hz h => by
        have q := realloc_keeps (o' := .cells #[.int .u8 (jm : Int), .int .u8 (ju : Int)] 81) h.1 hz
        have hb := HBR.out.keeps q
        obtain ⟨t0, t1, _⟩ := hb.cells
        exact ⟨q, t0, t1, HG.out _ hb.q⟩
      have HMK : Hid (∀ W1 w', Keeps noB W W1 → MapAt Try.prog 3 w' m M1 → Keeps (oneB m) W1 w' → LoopMid w ⟨tm, tu⟩ y m M1 w') := fun W1 w' q hm k => ⟨(HBR.out.quiet q).keeps k, hm⟩
      clear HBW
      go_region_held3 (fun w' => Keeps (oneB m) W w' ∧ w'.cell? ⟨w.heap.size, 0, none⟩ = some (.int .u8 (tm : Int)) ∧ w'.cell? ⟨w.heap.size, 1, none⟩ = some (.int .u8 (tu : Int)) ∧ w'.cell? ⟨g, 2, none⟩ = some (.slice xa xn xc))
        (first | exact HS0.out | exact HS3.out _ _ (by assumption) hk | exact HS3.out _ _ (by assumption) ((Keeps.refl (oneB m) _).alloc _) | exact HS6.out _ hz7 (by assumption) | exact HS2.out _ _ _ _ (by assumption) (by first | exact HBR.out.bB.lt | exact HMa.out.box.bB.lt | exact HMb.out.box.bB.lt) (by first | exact Nat.le_refl _ | exact hz6 | exact hz7))
        (first
        | (go_at_call 120; refine (HI1.out _ (by first | exact (Keeps.refl _ _).drew | exact (Keeps.refl _ _).drew.alloc _)).mono ?_; rintro e6 w6 ⟨he6, hma, hk⟩; unfold knV at he6; obtain rfl := he6
           first | have HMa := Lib.hid (HMK.out _ _ (Keeps.refl noB W).drew hma hk) | have HMa := Lib.hid (HMK.out _ _ ((Keeps.refl noB W).drew.alloc _) hma hk)
           have hz6 : W.heap.size ≤ w6.heap.size := by first | exact hk.size | exact Nat.le_trans (by simp) hk.size
           have hm6 : m < w6.heap.size := Nat.lt_of_lt_of_le hmR hz6
           first | (have hn : w6.cell? ⟨W.heap.size, 0, none⟩ = some (.int .u8 0) ∧ w6.cell? ⟨W.heap.size, 1, none⟩ = some (.int .u8 0) ∧ w6.frozen? ⟨W.heap.size, 0, none⟩ = false ∧ w6.frozen? ⟨W.heap.size, 1, none⟩ = false := new_cells (W := W.drew) hmR hk; have ⟨n0, n1, n2, n3⟩ := hn; clear hn) | skip
           clear hma)
        | (go_at_call 121; refine (HCJ.out _).mono ?_; rintro e7 w7 ⟨rfl, hk7⟩
           first | have HMb := Lib.hid (HMa.out.quiet hk7) | have HMb := Lib.hid (HMa.out.quiet (((Keeps.refl noB _).alloc _).trans hk7))
           have hz7 : W.heap.size ≤ w7.heap.size := by first | exact Nat.le_trans hz6 hk7.size | exact Nat.le_trans hz6 (Nat.le_trans (by simp) hk7.size)
           first | (have ⟨n0, n1, n2, n3⟩ := old_cells hk7 n0 n1 n2 n3) | (have ⟨n0, n1, n2, n3⟩ := new_cells hm6 (hk7.mono (fun _ e => e.elim) (may' := oneB m))) | skip
           have hk := hk7.mono (fun _ e => e.elim) (may' := oneB m)))
      · have HF := Lib.hid (HMb.out.quiet ((Keeps.refl noB w7).alloc (.cells #[.int .u8 (jm : Int), .int .u8 (ju : Int)] 81)))
        have c0 : (w7.alloc (.cells #[.int .u8 (jm : Int), .int .u8 (ju : Int)] 81)).cell? ⟨w7.heap.size, 0, none⟩ = some (.int .u8 (jm : Int)) := ((Blk.new w7 #[.int .u8 (jm : Int), .int .u8 (ju : Int)] 81).cell 0).trans rfl
        have c1 : (w7.alloc (.cells #[.int .u8 (jm : Int), .int .u8 (ju : Int)] 81)).cell? ⟨w7.heap.size, 1, none⟩ = some (.int .u8 (ju : Int)) := ((Blk.new w7 #[.int .u8 (jm : Int), .int .u8 (ju : Int)] 81).cell 1).trans rfl
        revert c0 c1 HF
        generalize w7.alloc (.cells #[.int .u8 (jm : Int), .int .u8 (ju : Int)] 81) = wF
        intro HF c0 c1
        have ⟨t0, t1, t2, t3, t4, t5, t6, t7, t8⟩ := HF.out.box.cells
        simp only at t0 t1
        have HX := Lib.hid (HF.out.box.done HF.out.map (.int .u8 (tm : Int)) (.int .u8 (tu : Int)))
        obtain ⟨f0, f1, f2, f3⟩ := HX.out
        have HY := Lib.hid f2
        have HK1 := Lib.hid HK0.out
        go_wp2_with fail
        obtain ⟨hk1, hk2⟩ := HK1.out
        refine bodyPost_ret (resKn Try.results122 _ (w.heap.size + 1) (tm : Int) (tu : Int) _ rfl f0 f1) rfl ⟨by rw [hk1]; rfl, ?_, f3⟩
        rw [← hk2]
        exact HY.out
      · obtain ⟨c0, c1, hmid⟩ := loop_box (nb := w6.heap.size) ⟨jm, ju⟩ HMb.out HMa.out.box.bB.lt n0 n1
        simp only at c0 c1 hmid
        have HF := Lib.hid hmid
        revert c0 c1 HF
        clear hmid
        generalize World.setCell (World.setCell _ _ _) _ _ = wF
        intro c0 c1 HF
        have ⟨t0, t1, t2, t3, t4, t5, t6, t7, t8⟩ := HF.out.box.cells
        simp only at t0 t1
        have HX := Lib.hid (HF.out.box.done HF.out.map (.int .u8 (tm : Int)) (.int .u8 (tu : Int)))
        obtain ⟨f0, f1, f2, f3⟩ := HX.out
        have HY := Lib.hid f2
        have HK1 := Lib.hid HK0.out
        go_wp2_with fail
        obtain ⟨hk1, hk2⟩ := HK1.out
        refine bodyPost_ret (resKn Try.results122 _ (w.heap.size + 1) (tm : Int) (tu : Int) _ rfl f0 f1) rfl ⟨by rw [hk1]; rfl, ?_, f3⟩
        rw [← hk2]
        exact HY.out
      · obtain ⟨c0, c1, hmid⟩ := loop_box (nb := W.heap.size) ⟨jm, ju⟩ HMb.out HBR.out.bB.lt n0 n1
        simp only at c0 c1 hmid
        have HF := Lib.hid hmid
        revert c0 c1 HF
        clear hmid
        generalize World.setCell (World.setCell _ _ _) _ _ = wF
        intro c0 c1 HF
        have ⟨t0, t1, t2, t3, t4, t5, t6, t7, t8⟩ := HF.out.box.cells
        simp only at t0 t1
        have HX := Lib.hid (HF.out.box.done HF.out.map (.int .u8 (tm : Int)) (.int .u8 (tu : Int)))
        obtain ⟨f0, f1, f2, f3⟩ := HX.out
        have HY := Lib.hid f2
        have HK1 := Lib.hid HK0.out
        go_wp2_with fail
        obtain ⟨hk1, hk2⟩ := HK1.out
        refine bodyPost_ret (resKn Try.results122 _ (w.heap.size + 1) (tm : Int) (tu : Int) _ rfl f0 f1) rfl ⟨by rw [hk1]; rfl, ?_, f3⟩
        rw [← hk2]
        exact HY.out
    · have HJ := Lib.hid hJ
      have HN := kn_neq (kt.join (Nds.know x kt)) kt
      have HD : decide (kt.join (Nds.know x kt) ≠ kt) = true := by simp [hJ]
      rw [HD] at HN
      have HGD := kn_guard (kt.join (Nds.know x kt)) kt
      have HK0 : Hid (∀ W' , SurBox w W' (kt.join (Nds.know x kt)) y m → MapAt Try.prog 3 W' m ((Nds.note x kt).over Mt) → LoopTop w x KF M y m (kt.join (Nds.know x kt)) W' ∧ 12 - (kt.join (Nds.know x kt)).w < 12 - kt.w) := fun W' hb hm => HST1.out.2 hJ W' Mt HEQ.out.1 hb hm
      clear HD hJ HJ HST1 hkw hMt
      generalize kt.join (Nds.know x kt) = J at *
      generalize (Nds.note x kt).over Mt = M1 at *
      generalize Nds.know x kt = K1 at *
      obtain ⟨jm, ju⟩ := J
      obtain ⟨tm, tu⟩ := kt
      obtain ⟨nm, nu⟩ := K1
      unfold knV at *
      simp only at HI1 HCJ HN HGD
      go_wp2_with fail
      go_step3
      go_wp2_with fail
      have HBR : Hid (SurBox w W ⟨tm, tu⟩ y m) := HBW
      have hmR : m < W.heap.size := Nat.lt_of_lt_of_le hml HBR.out.q.size
      have HS0 : Hid ((fun w' => Keeps (oneB m) W w' ∧ w'.cell? ⟨w.heap.size, 0, none⟩ = some (.int .u8 (tm : Int)) ∧ w'.cell? ⟨w.heap.size, 1, none⟩ = some (.int .u8 (tu : Int)) ∧ w'.cell? ⟨g, 2, none⟩ = some (.slice xa xn xc)) W.drew) := Lib.hid (by
        have hb := HBR.out.quiet (Keeps.refl noB W).drew
        obtain ⟨t0, t1, _⟩ := hb.cells
        exact ⟨(Keeps.refl _ _).drew, t0, t1, HG.out _ hb.q⟩)
      have HS3 : Hid (∀ w' w2, (fun w' => Keeps (oneB m) W w' ∧ w'.cell? ⟨w.heap.size, 0, none⟩ = some (.int .u8 (tm : Int)) ∧ w'.cell? ⟨w.heap.size, 1, none⟩ = some (.int .u8 (tu : Int)) ∧ w'.cell? ⟨g, 2, none⟩ = some (.slice xa xn xc)) w' → Keeps (oneB m) w' w2 → (fun w' => Keeps (oneB m) W w' ∧ w'.cell? ⟨w.heap.size, 0, none⟩ = some (.int .u8 (tm : Int)) ∧ w'.cell? ⟨w.heap.size, 1, none⟩ = some (.int .u8 (tu : Int)) ∧ w'.cell? ⟨g, 2, none⟩ = some (.slice xa xn xc)) w2) := fun w' w2 h k => by
        have hb := (HBR.out.keeps h.1).keeps k
        obtain ⟨t0, t1, _⟩ := hb.cells
        exact ⟨h.1.trans k, t0, t1, HG.out w2 hb.q⟩
      have HS2 : Hid (∀ w' nb x1 y1, (fun w' => Keeps (oneB m) W w' ∧ w'.cell? ⟨w.heap.size, 0, none⟩ = some (.int .u8 (tm : Int)) ∧ w'.cell? ⟨w.heap.size, 1, none⟩ = some (.int .u8 (tu : Int)) ∧ w'.cell? ⟨g, 2, none⟩ = some (.slice xa xn xc)) w' → w.heap.size + 1 < nb → W.heap.size ≤ nb → (fun w' => Keeps (oneB m) W w' ∧ w'.cell? ⟨w.heap.size, 0, none⟩ = some (.int .u8 (tm : Int)) ∧ w'.cell? ⟨w.heap.size, 1, none⟩ = some (.int .u8 (tu : Int)) ∧ w'.cell? ⟨g, 2, none⟩ = some (.slice xa xn xc)) ((w'.setCell ⟨nb, 0, none⟩ x1).setCell ⟨nb, 1, none⟩ y1)) := fun w' nb x1 y1 h hb1 hb2 => by
        have e : ∀ A : Addr, A.block ≠ nb → ((w'.setCell ⟨nb, 0, none⟩ x1).setCell ⟨nb, 1, none⟩ y1).cell? A = w'.cell? A := fun A hA => by
          rw [World.cell?_setCell_other _ _ _ _ (fun e => hA (by rw [← e])), World.cell?_setCell_other _ _ _ _ (fun e => hA (by rw [← e]))]
        exact ⟨(h.1.setCell (p := ⟨nb, 0, none⟩) (.inr hb2) _).setCell (p := ⟨nb, 1, none⟩) (.inr hb2) _, (e _ (by show w.heap.size ≠ nb; omega)).trans h.2.1, (e _ (by show w.heap.size ≠ nb; omega)).trans h.2.2.1, (e _ (by show g ≠ nb; omega)).trans h.2.2.2⟩
      have HS6 : Hid (∀ w' : World, W.heap.size ≤ w'.heap.size → (fun w' => Keeps (oneB m) W w' ∧ w'.cell? ⟨w.heap.size, 0, none⟩ = some (.int .u8 (tm : Int)) ∧ w'.cell? ⟨w.heap.size, 1, none⟩ = some (.int .u8 (tu : Int)) ∧ w'.cell? ⟨g, 2, none⟩ = some (.slice xa xn xc)) (w'.alloc (.cells #[.int .u8 0, .int .u8 0] 81)) → (fun w' => Keeps (oneB m) W w' ∧ w'.cell? ⟨w.heap.size, 0, none⟩ = some (.int .u8 (tm : Int)) ∧ w'.cell? ⟨w.heap.size, 1, none⟩ = some (.int .u8 (tu : Int)) ∧ w'.cell? ⟨g, 2, none⟩ = some (.slice xa xn xc)) (w'.alloc (.cells #[.int .u8 (jm : Int), .int .u8 (ju : Int)] 81))) := fun w' hz h => by
        have q := realloc_keeps (o' := .cells #[.int .u8 (jm : Int), .int .u8 (ju : Int)] 81) h.1 hz
        have hb := HBR.out.keeps q
        obtain ⟨t0, t1, _⟩ := hb.cells
        exact ⟨q, t0, t1, HG.out _ hb.q⟩
      have HMK : Hid (∀ W1 w', Keeps noB W W1 → MapAt Try.prog 3 w' m M1 → Keeps (oneB m) W1 w' → LoopMid w ⟨tm, tu⟩ y m M1 w') := fun W1 w' q hm k => ⟨(HBR.out.quiet q).keeps k, hm⟩
      clear HBW
      go_region_held3 (fun w' => Keeps (oneB m) W w' ∧ w'.cell? ⟨w.heap.size, 0, none⟩ = some (.int .u8 (tm : Int)) ∧ w'.cell? ⟨w.heap.size, 1, none⟩ = some (.int .u8 (tu : Int)) ∧ w'.cell? ⟨g, 2, none⟩ = some (.slice xa xn xc))
        (first | exact HS0.out | exact HS3.out _ _ (by assumption) hk | exact HS3.out _ _ (by assumption) ((Keeps.refl (oneB m) _).alloc _) | exact HS6.out _ hz7 (by assumption) | exact HS2.out _ _ _ _ (by assumption) (by first | exact HBR.out.bB.lt | exact HMa.out.box.bB.lt | exact HMb.out.box.bB.lt) (by first | exact Nat.le_refl _ | exact hz6 | exact hz7))
        (first
        | (go_at_call 120; refine (HI1.out _ (by first | exact (Keeps.refl _ _).drew | exact (Keeps.refl _ _).drew.alloc _)).mono ?_; rintro e6 w6 ⟨he6, hma, hk⟩; unfold knV at he6; obtain rfl := he6
           first | have HMa := Lib.hid (HMK.out _ _ (Keeps.refl noB W).drew hma hk) | have HMa := Lib.hid (HMK.out _ _ ((Keeps.refl noB W).drew.alloc _) hma hk)
           have hz6 : W.heap.size ≤ w6.heap.size := by first | exact hk.size | exact Nat.le_trans (by simp) hk.size
           have hm6 : m < w6.heap.size := Nat.lt_of_lt_of_le hmR hz6
           first | (have hn : w6.cell? ⟨W.heap.size, 0, none⟩ = some (.int .u8 0) ∧ w6.cell? ⟨W.heap.size, 1, none⟩ = some (.int .u8 0) ∧ w6.frozen? ⟨W.heap.size, 0, none⟩ = false ∧ w6.frozen? ⟨W.heap.size, 1, none⟩ = false := new_cells (W := W.drew) hmR hk; have ⟨n0, n1, n2, n3⟩ := hn; clear hn) | skip
           clear hma)
        | (go_at_call 121; refine (HCJ.out _).mono ?_; rintro e7 w7 ⟨rfl, hk7⟩
           first | have HMb := Lib.hid (HMa.out.quiet hk7) | have HMb := Lib.hid (HMa.out.quiet (((Keeps.refl noB _).alloc _).trans hk7))
           have hz7 : W.heap.size ≤ w7.heap.size := by first | exact Nat.le_trans hz6 hk7.size | exact Nat.le_trans hz6 (Nat.le_trans (by simp) hk7.size)
           first | (have ⟨n0, n1, n2, n3⟩ := old_cells hk7 n0 n1 n2 n3) | (have ⟨n0, n1, n2, n3⟩ := new_cells hm6 (hk7.mono (fun _ e => e.elim) (may' := oneB m))) | skip
           have hk := hk7.mono (fun _ e => e.elim) (may' := oneB m)))
      · have HF := Lib.hid (HMb.out.quiet ((Keeps.refl noB w7).alloc (.cells #[.int .u8 (jm : Int), .int .u8 (ju : Int)] 81)))
        have c0 : (w7.alloc (.cells #[.int .u8 (jm : Int), .int .u8 (ju : Int)] 81)).cell? ⟨w7.heap.size, 0, none⟩ = some (.int .u8 (jm : Int)) := ((Blk.new w7 #[.int .u8 (jm : Int), .int .u8 (ju : Int)] 81).cell 0).trans rfl
        have c1 : (w7.alloc (.cells #[.int .u8 (jm : Int), .int .u8 (ju : Int)] 81)).cell? ⟨w7.heap.size, 1, none⟩ = some (.int .u8 (ju : Int)) := ((Blk.new w7 #[.int .u8 (jm : Int), .int .u8 (ju : Int)] 81).cell 1).trans rfl
        revert c0 c1 HF
        generalize w7.alloc (.cells #[.int .u8 (jm : Int), .int .u8 (ju : Int)] 81) = wF
        intro HF c0 c1
        have ⟨t0, t1, t2, t3, t4, t5, t6, t7, t8⟩ := HF.out.box.cells
        simp only at t0 t1
        have HX := Lib.hid (HK0.out _ (HF.out.box.store ⟨jm, ju⟩) (HF.out.box.map HF.out.map _ _))
        go_wp2_with fail
        go_step3
        exact ⟨rfl, ⟨jm, ju⟩, _, _, _, _, _, _, _, _, _, _, _, _, _, _, _, rfl, HX.out.1⟩
      · obtain ⟨c0, c1, hmid⟩ := loop_box (nb := w6.heap.size) ⟨jm, ju⟩ HMb.out HMa.out.box.bB.lt n0 n1
        simp only at c0 c1 hmid
        have HF := Lib.hid hmid
        revert c0 c1 HF
        clear hmid
        generalize World.setCell (World.setCell _ _ _) _ _ = wF
        intro c0 c1 HF
        have ⟨t0, t1, t2, t3, t4, t5, t6, t7, t8⟩ := HF.out.box.cells
        simp only at t0 t1
        have HX := Lib.hid (HK0.out _ (HF.out.box.store ⟨jm, ju⟩) (HF.out.box.map HF.out.map _ _))
        go_wp2_with fail
        go_step3
        exact ⟨rfl, ⟨jm, ju⟩, _, _, _, _, _, _, _, _, _, _, _, _, _, _, _, rfl, HX.out.1⟩
      · obtain ⟨c0, c1, hmid⟩ := loop_box (nb := W.heap.size) ⟨jm, ju⟩ HMb.out HBR.out.bB.lt n0 n1
        simp only at c0 c1 hmid
        have HF := Lib.hid hmid
        revert c0 c1 HF
        clear hmid
        generalize World.setCell (World.setCell _ _ _) _ _ = wF
        intro c0 c1 HF
        have ⟨t0, t1, t2, t3, t4, t5, t6, t7, t8⟩ := HF.out.box.cells
        simp only at t0 t1
        have HX := Lib.hid (HK0.out _ (HF.out.box.store ⟨jm, ju⟩) (HF.out.box.map HF.out.map _ _))
        go_wp2_with fail
        go_step3
        exact ⟨rfl, ⟨jm, ju⟩, _, _, _, _, _, _, _, _, _, _, _, _, _, _, _, rfl, HX.out.1⟩
  · rintro a1 W ⟨kt, u7, u8, u9, u10, u11, u12, u13, u14, u15, u16, u17, u18, u19, u20, u21, rfl, htop⟩
    clear HP
    obtain ⟨Mt, hmt, hMt⟩ := htop.map
    have hst := htop.step HST.out
    have hkw := htop.wf
    have HCJ := Lib.hid (fun w => joined_any kt (Nds.know x kt) hkw (HST.out.wf kt hkw) w)
    have HMU : Hid (kOf w.heap.size W = kt) := kOf_box htop.box
    have HI1 : Hid (∀ w1, Keeps noB W w1 → Calls Try.prog 120 #[.pointer (some ⟨y, 0, none⟩), .slice xa xn xc, knV kt] w1 (SurPost w1 m (Nds.know x kt) ((Nds.note x kt).over Mt))) := fun w1 q =>
      HI.out kt Mt w1 hkw (htop.box.quiet q).q ⟨(htop.box.quiet q).bY, (htop.box.quiet q).ne, hmt.keeps q id⟩
    have HBW := Lib.hid htop.box
    have HST1 := Lib.hid hst
    have HEQ := Lib.hid (And.intro hMt (hst.1))
    clear htop hst hmt HI
    by_cases hJ : kt.join (Nds.know x kt) = kt
    · have HJ := Lib.hid hJ
      have HN := kn_neq (kt.join (Nds.know x kt)) kt
      have HD : decide (kt.join (Nds.know x kt) ≠ kt) = false := by simp [hJ]
      rw [HD] at HN
      have HGD := kn_guard (kt.join (Nds.know x kt)) kt
      have HK0 := Lib.hid (And.intro (HEQ.out.2 hJ).1 ((HEQ.out.2 hJ).2 Mt HEQ.out.1))
      clear HD hJ HJ HST1 hkw hMt
      generalize kt.join (Nds.know x kt) = J at *
      generalize (Nds.note x kt).over Mt = M1 at *
      generalize Nds.know x kt = K1 at *
      obtain ⟨jm, ju⟩ := J
      obtain ⟨tm, tu⟩ := kt
      obtain ⟨nm, nu⟩ := K1
      unfold knV at *
      simp only at HI1 HCJ HN HGD
      go_wp2_with fail
      have HBR : Hid (SurBox w W ⟨tm, tu⟩ y m) := HBW
      have hmR : m < W.heap.size := Nat.lt_of_lt_of_le hml HBR.out.q.size
      have HS0 : Hid ((fun w' => Keeps (oneB m) W w' ∧ w'.cell? ⟨w.heap.size, 0, none⟩ = some (.int .u8 (tm : Int)) ∧ w'.cell? ⟨w.heap.size, 1, none⟩ = some (.int .u8 (tu : Int)) ∧ w'.cell? ⟨g, 2, none⟩ = some (.slice xa xn xc)) W.drew) := Lib.hid (by
        have hb := HBR.out.quiet (Keeps.refl noB W).drew
        obtain ⟨t0, t1, _⟩ := hb.cells
        exact ⟨(Keeps.refl _ _).drew, t0, t1, HG.out _ hb.q⟩)
      have HS3 : Hid (∀ w' w2, (fun w' => Keeps (oneB m) W w' ∧ w'.cell? ⟨w.heap.size, 0, none⟩ = some (.int .u8 (tm : Int)) ∧ w'.cell? ⟨w.heap.size, 1, none⟩ = some (.int .u8 (tu : Int)) ∧ w'.cell? ⟨g, 2, none⟩ = some (.slice xa xn xc)) w' → Keeps (oneB m) w' w2 → (fun w' => Keeps (oneB m) W w' ∧ w'.cell? ⟨w.heap.size, 0, none⟩ = some (.int .u8 (tm : Int)) ∧ w'.cell? ⟨w.heap.size, 1, none⟩ = some (.int .u8 (tu : Int)) ∧ w'.cell? ⟨g, 2, none⟩ = some (.slice xa xn xc)) w2) := fun w' w2 h k => by
        have hb := (HBR.out.keeps h.1).keeps k
        obtain ⟨t0, t1, _⟩ := hb.cells
        exact ⟨h.1.trans k, t0, t1, HG.out w2 hb.q⟩
      have HS2 : Hid (∀ w' nb x1 y1, (fun w' => Keeps (oneB m) W w' ∧ w'.cell? ⟨w.heap.size, 0, none⟩ = some (.int .u8 (tm : Int)) ∧ w'.cell? ⟨w.heap.size, 1, none⟩ = some (.int .u8 (tu : Int)) ∧ w'.cell? ⟨g, 2, none⟩ = some (.slice xa xn xc)) w' → w.heap.size + 1 < nb → W.heap.size ≤ nb → (fun w' => Keeps (oneB m) W w' ∧ w'.cell? ⟨w.heap.size, 0, none⟩ = some (.int .u8 (tm : Int)) ∧ w'.cell? ⟨w.heap.size, 1, none⟩ = some (.int .u8 (tu : Int)) ∧ w'.cell? ⟨g, 2, none⟩ = some (.slice xa xn xc)) ((w'.setCell ⟨nb, 0, none⟩ x1).setCell ⟨nb, 1, none⟩ y1)) := fun w' nb x1 y1 h hb1 hb2 => by
        have e : ∀ A : Addr, A.block ≠ nb → ((w'.setCell ⟨nb, 0, none⟩ x1).setCell ⟨nb, 1, none⟩ y1).cell? A = w'.cell? A := fun A hA => by
          rw [World.cell?_setCell_other _ _ _ _ (fun e => hA (by rw [← e])), World.cell?_setCell_other _ _ _ _ (fun e => hA (by rw [← e]))]
        exact ⟨(h.1.setCell (p := ⟨nb, 0, none⟩) (.inr hb2) _).setCell (p := ⟨nb, 1, none⟩) (.inr hb2) _, (e _ (by show w.heap.size ≠ nb; omega)).trans h.2.1, (e _ (by show w.heap.size ≠ nb; omega)).trans h.2.2.1, (e _ (by show g ≠ nb; omega)).trans h.2.2.2⟩
      have HS6 : Hid (∀ w' : World, W.heap.size ≤ w'.heap.size → (fun w' => Keeps (oneB m) W w' ∧ w'.cell? ⟨w.heap.size, 0, none⟩ = some (.int .u8 (tm : Int)) ∧ w'.cell? ⟨w.heap.size, 1, none⟩ = some (.int .u8 (tu : Int)) ∧ w'.cell? ⟨g, 2, none⟩ = some (.slice xa xn xc)) (w'.alloc (.cells #[.int .u8 0, .int .u8 0] 81)) → (fun w' => Keeps (oneB m) W w' ∧ w'.cell? ⟨w.heap.size, 0, none⟩ = some (.int .u8 (tm : Int)) ∧ w'.cell? ⟨w.heap.size, 1, none⟩ = some (.int .u8 (tu : Int)) ∧ w'.cell? ⟨g, 2, none⟩ = some (.slice xa xn xc)) (w'.alloc (.cells #[.int .u8 (jm : Int), .int .u8 (ju : Int)] 81))) := fun w' hz h => by
        have q := realloc_keeps (o' := .cells #[.int .u8 (jm : Int), .int .u8 (ju : Int)] 81) h.1 hz
        have hb := HBR.out.keeps q
        obtain ⟨t0, t1, _⟩ := hb.cells
        exact ⟨q, t0, t1, HG.out _ hb.q⟩
      have HMK : Hid (∀ W1 w', Keeps noB W W1 → MapAt Try.prog 3 w' m M1 → Keeps (oneB m) W1 w' → LoopMid w ⟨tm, tu⟩ y m M1 w') := fun W1 w' q hm k => ⟨(HBR.out.quiet q).keeps k, hm⟩
      clear HBW
      go_region_held3 (fun w' => Keeps (oneB m) W w' ∧ w'.cell? ⟨w.heap.size, 0, none⟩ = some (.int .u8 (tm : Int)) ∧ w'.cell? ⟨w.heap.size, 1, none⟩ = some (.int .u8 (tu : Int)) ∧ w'.cell? ⟨g, 2, none⟩ = some (.slice xa xn xc))
        (first | exact HS0.out | exact HS3.out _ _ (by assumption) hk | exact HS3.out _ _ (by assumption) ((Keeps.refl (oneB m) _).alloc _) | exact HS6.out _ hz7 (by assumption) | exact HS2.out _ _ _ _ (by assumption) (by first | exact HBR.out.bB.lt | exact HMa.out.box.bB.lt | exact HMb.out.box.bB.lt) (by first | exact Nat.le_refl _ | exact hz6 | exact hz7))
        (first
        | (go_at_call 120; refine (HI1.out _ (by first | exact (Keeps.refl _ _).drew | exact (Keeps.refl _ _).drew.alloc _)).mono ?_; rintro e6 w6 ⟨he6, hma, hk⟩; unfold knV at he6; obtain rfl := he6
           first | have HMa := Lib.hid (HMK.out _ _ (Keeps.refl noB W).drew hma hk) | have HMa := Lib.hid (HMK.out _ _ ((Keeps.refl noB W).drew.alloc _) hma hk)
           have hz6 : W.heap.size ≤ w6.heap.size := by first | exact hk.size | exact Nat.le_trans (by simp) hk.size
           have hm6 : m < w6.heap.size := Nat.lt_of_lt_of_le hmR hz6
           first | (have hn : w6.cell? ⟨W.heap.size, 0, none⟩ = some (.int .u8 0) ∧ w6.cell? ⟨W.heap.size, 1, none⟩ = some (.int .u8 0) ∧ w6.frozen? ⟨W.heap.size, 0, none⟩ = false ∧ w6.frozen? ⟨W.heap.size, 1, none⟩ = false := new_cells (W := W.drew) hmR hk; have ⟨n0, n1, n2, n3⟩ := hn; clear hn) | skip
           clear hma)
        | (go_at_call 121; refine (HCJ.out _).mono ?_; rintro e7 w7 ⟨rfl, hk7⟩
           first | have HMb := Lib.hid (HMa.out.quiet hk7) | have HMb := Lib.hid (HMa.out.quiet (((Keeps.refl noB _).alloc _).trans hk7))
           have hz7 : W.heap.size ≤ w7.heap.size := by first | exact Nat.le_trans hz6 hk7.size | exact Nat.le_trans hz6 (Nat.le_trans (by simp) hk7.size)
           first | (have ⟨n0, n1, n2, n3⟩ := old_cells hk7 n0 n1 n2 n3) | (have ⟨n0, n1, n2, n3⟩ := new_cells hm6 (hk7.mono (fun _ e => e.elim) (may' := oneB m))) | skip
           have hk := hk7.mono (fun _ e => e.elim) (may' := oneB m)))
      · have HF := Lib.hid (HMb.out.quiet ((Keeps.refl noB w7).alloc (.cells #[.int .u8 (jm : Int), .int .u8 (ju : Int)] 81)))
        have c0 : (w7.alloc (.cells #[.int .u8 (jm : Int), .int .u8 (ju : Int)] 81)).cell? ⟨w7.heap.size, 0, none⟩ = some (.int .u8 (jm : Int)) := ((Blk.new w7 #[.int .u8 (jm : Int), .int .u8 (ju : Int)] 81).cell 0).trans rfl
        have c1 : (w7.alloc (.cells #[.int .u8 (jm : Int), .int .u8 (ju : Int)] 81)).cell? ⟨w7.heap.size, 1, none⟩ = some (.int .u8 (ju : Int)) := ((Blk.new w7 #[.int .u8 (jm : Int), .int .u8 (ju : Int)] 81).cell 1).trans rfl
        revert c0 c1 HF
        generalize w7.alloc (.cells #[.int .u8 (jm : Int), .int .u8 (ju : Int)] 81) = wF
        intro HF c0 c1
        have ⟨t0, t1, t2, t3, t4, t5, t6, t7, t8⟩ := HF.out.box.cells
        simp only at t0 t1
        have HX := Lib.hid (HF.out.box.done HF.out.map (.int .u8 (tm : Int)) (.int .u8 (tu : Int)))
        obtain ⟨f0, f1, f2, f3⟩ := HX.out
        have HY := Lib.hid f2
        have HK1 := Lib.hid HK0.out
        go_wp2_with fail
        obtain ⟨hk1, hk2⟩ := HK1.out
        refine bodyPost_ret (resKn Try.results122 _ (w.heap.size + 1) (tm : Int) (tu : Int) _ rfl f0 f1) rfl ⟨by rw [hk1]; rfl, ?_, f3⟩
        rw [← hk2]
        exact HY.out
      · obtain ⟨c0, c1, hmid⟩ := loop_box (nb := w6.heap.size) ⟨jm, ju⟩ HMb.out HMa.out.box.bB.lt n0 n1
        simp only at c0 c1 hmid
        have HF := Lib.hid hmid
        revert c0 c1 HF
        clear hmid
        generalize World.setCell (World.setCell _ _ _) _ _ = wF
        intro c0 c1 HF
        have ⟨t0, t1, t2, t3, t4, t5, t6, t7, t8⟩ := HF.out.box.cells
        simp only at t0 t1
        have HX := Lib.hid (HF.out.box.done HF.out.map (.int .u8 (tm : Int)) (.int .u8 (tu : Int)))
        obtain ⟨f0, f1, f2, f3⟩ := HX.out
        have HY := Lib.hid f2
        have HK1 := Lib.hid HK0.out
        go_wp2_with fail
        obtain ⟨hk1, hk2⟩ := HK1.out
        refine bodyPost_ret (resKn Try.results122 _ (w.heap.size + 1) (tm : Int) (tu : Int) _ rfl f0 f1) rfl ⟨by rw [hk1]; rfl, ?_, f3⟩
        rw [← hk2]
        exact HY.out
      · obtain ⟨c0, c1, hmid⟩ := loop_box (nb := W.heap.size) ⟨jm, ju⟩ HMb.out HBR.out.bB.lt n0 n1
        simp only at c0 c1 hmid
        have HF := Lib.hid hmid
        revert c0 c1 HF
        clear hmid
        generalize World.setCell (World.setCell _ _ _) _ _ = wF
        intro c0 c1 HF
        have ⟨t0, t1, t2, t3, t4, t5, t6, t7, t8⟩ := HF.out.box.cells
        simp only at t0 t1
        have HX := Lib.hid (HF.out.box.done HF.out.map (.int .u8 (tm : Int)) (.int .u8 (tu : Int)))
        obtain ⟨f0, f1, f2, f3⟩ := HX.out
        have HY := Lib.hid f2
        have HK1 := Lib.hid HK0.out
        go_wp2_with fail
        obtain ⟨hk1, hk2⟩ := HK1.out
        refine bodyPost_ret (resKn Try.results122 _ (w.heap.size + 1) (tm : Int) (tu : Int) _ rfl f0 f1) rfl ⟨by rw [hk1]; rfl, ?_, f3⟩
        rw [← hk2]
        exact HY.out
    · have HJ := Lib.hid hJ
      have HN := kn_neq (kt.join (Nds.know x kt)) kt
      have HD : decide (kt.join (Nds.know x kt) ≠ kt) = true := by simp [hJ]
      rw [HD] at HN
      have HGD := kn_guard (kt.join (Nds.know x kt)) kt
      have HK0 : Hid (∀ W' , SurBox w W' (kt.join (Nds.know x kt)) y m → MapAt Try.prog 3 W' m ((Nds.note x kt).over Mt) → LoopTop w x KF M y m (kt.join (Nds.know x kt)) W' ∧ 12 - (kt.join (Nds.know x kt)).w < 12 - kt.w) := fun W' hb hm => HST1.out.2 hJ W' Mt HEQ.out.1 hb hm
      clear HD hJ HJ HST1 hkw hMt
      generalize kt.join (Nds.know x kt) = J at *
      generalize (Nds.note x kt).over Mt = M1 at *
      generalize Nds.know x kt = K1 at *
      obtain ⟨jm, ju⟩ := J
      obtain ⟨tm, tu⟩ := kt
      obtain ⟨nm, nu⟩ := K1
      unfold knV at *
      simp only at HI1 HCJ HN HGD
      go_wp2_with fail
      have HBR : Hid (SurBox w W ⟨tm, tu⟩ y m) := HBW
      have hmR : m < W.heap.size := Nat.lt_of_lt_of_le hml HBR.out.q.size
      have HS0 : Hid ((fun w' => Keeps (oneB m) W w' ∧ w'.cell? ⟨w.heap.size, 0, none⟩ = some (.int .u8 (tm : Int)) ∧ w'.cell? ⟨w.heap.size, 1, none⟩ = some (.int .u8 (tu : Int)) ∧ w'.cell? ⟨g, 2, none⟩ = some (.slice xa xn xc)) W.drew) := Lib.hid (by
        have hb := HBR.out.quiet (Keeps.refl noB W).drew
        obtain ⟨t0, t1, _⟩ := hb.cells
        exact ⟨(Keeps.refl _ _).drew, t0, t1, HG.out _ hb.q⟩)
      have HS3 : Hid (∀ w' w2, (fun w' => Keeps (oneB m) W w' ∧ w'.cell? ⟨w.heap.size, 0, none⟩ = some (.int .u8 (tm : Int)) ∧ w'.cell? ⟨w.heap.size, 1, none⟩ = some (.int .u8 (tu : Int)) ∧ w'.cell? ⟨g, 2, none⟩ = some (.slice xa xn xc)) w' → Keeps (oneB m) w' w2 → (fun w' => Keeps (oneB m) W w' ∧ w'.cell? ⟨w.heap.size, 0, none⟩ = some (.int .u8 (tm : Int)) ∧ w'.cell? ⟨w.heap.size, 1, none⟩ = some (.int .u8 (tu : Int)) ∧ w'.cell? ⟨g, 2, none⟩ = some (.slice xa xn xc)) w2) := fun w' w2 h k => by
        have hb := (HBR.out.keeps h.1).keeps k
        obtain ⟨t0, t1, _⟩ := hb.cells
        exact ⟨h.1.trans k, t0, t1, HG.out w2 hb.q⟩
      have HS2 : Hid (∀ w' nb x1 y1, (fun w' => Keeps (oneB m) W w' ∧ w'.cell? ⟨w.heap.size, 0, none⟩ = some (.int .u8 (tm : Int)) ∧ w'.cell? ⟨w.heap.size, 1, none⟩ = some (.int .u8 (tu : Int)) ∧ w'.cell? ⟨g, 2, none⟩ = some (.slice xa xn xc)) w' → w.heap.size + 1 < nb → W.heap.size ≤ nb → (fun w' => Keeps (oneB m) W w' ∧ w'.cell? ⟨w.heap.size, 0, none⟩ = some (.int .u8 (tm : Int)) ∧ w'.cell? ⟨w.heap.size, 1, none⟩ = some (.int .u8 (tu : Int)) ∧ w'.cell? ⟨g, 2, none⟩ = some (.slice xa xn xc)) ((w'.setCell ⟨nb, 0, none⟩ x1).setCell ⟨nb, 1, none⟩ y1)) := fun w' nb x1 y1 h hb1 hb2 => by
        have e : ∀ A : Addr, A.block ≠ nb → ((w'.setCell ⟨nb, 0, none⟩ x1).setCell ⟨nb, 1, none⟩ y1).cell? A = w'.cell? A := fun A hA => by
          rw [World.cell?_setCell_other _ _ _ _ (fun e => hA (by rw [← e])), World.cell?_setCell_other _ _ _ _ (fun e => hA (by rw [← e]))]
        exact ⟨(h.1.setCell (p := ⟨nb, 0, none⟩) (.inr hb2) _).setCell (p := ⟨nb, 1, none⟩) (.inr hb2) _, (e _ (by show w.heap.size ≠ nb; omega)).trans h.2.1, (e _ (by show w.heap.size ≠ nb; omega)).trans h.2.2.1, (e _ (by show g ≠ nb; omega)).trans h.2.2.2⟩
      have HS6 : Hid (∀ w' : World, W.heap.size ≤ w'.heap.size → (fun w' => Keeps (oneB m) W w' ∧ w'.cell? ⟨w.heap.size, 0, none⟩ = some (.int .u8 (tm : Int)) ∧ w'.cell? ⟨w.heap.size, 1, none⟩ = some (.int .u8 (tu : Int)) ∧ w'.cell? ⟨g, 2, none⟩ = some (.slice xa xn xc)) (w'.alloc (.cells #[.int .u8 0, .int .u8 0] 81)) → (fun w' => Keeps (oneB m) W w' ∧ w'.cell? ⟨w.heap.size, 0, none⟩ = some (.int .u8 (tm : Int)) ∧ w'.cell? ⟨w.heap.size, 1, none⟩ = some (.int .u8 (tu : Int)) ∧ w'.cell? ⟨g, 2, none⟩ = some (.slice xa xn xc)) (w'.alloc (.cells #[.int .u8 (jm : Int), .int .u8 (ju : Int)] 81))) := fun w' hz h => by
        have q := realloc_keeps (o' := .cells #[.int .u8 (jm : Int), .int .u8 (ju : Int)] 81) h.1 hz
        have hb := HBR.out.keeps q
        obtain ⟨t0, t1, _⟩ := hb.cells
        exact ⟨q, t0, t1, HG.out _ hb.q⟩
      have HMK : Hid (∀ W1 w', Keeps noB W W1 → MapAt Try.prog 3 w' m M1 → Keeps (oneB m) W1 w' → LoopMid w ⟨tm, tu⟩ y m M1 w') := fun W1 w' q hm k => ⟨(HBR.out.quiet q).keeps k, hm⟩
      clear HBW
      go_region_held3 (fun w' => Keeps (oneB m) W w' ∧ w'.cell? ⟨w.heap.size, 0, none⟩ = some (.int .u8 (tm : Int)) ∧ w'.cell? ⟨w.heap.size, 1, none⟩ = some (.int .u8 (tu : Int)) ∧ w'.cell? ⟨g, 2, none⟩ = some (.slice xa xn xc))
        (first | exact HS0.out | exact HS3.out _ _ (by assumption) hk | exact HS3.out _ _ (by assumption) ((Keeps.refl (oneB m) _).alloc _) | exact HS6.out _ hz7 (by assumption) | exact HS2.out _ _ _ _ (by assumption) (by first | exact HBR.out.bB.lt | exact HMa.out.box.bB.lt | exact HMb.out.box.bB.lt) (by first | exact Nat.le_refl _ | exact hz6 | exact hz7))
        (first
        | (go_at_call 120; refine (HI1.out _ (by first | exact (Keeps.refl _ _).drew | exact (Keeps.refl _ _).drew.alloc _)).mono ?_; rintro e6 w6 ⟨he6, hma, hk⟩; unfold knV at he6; obtain rfl := he6
           first | have HMa := Lib.hid (HMK.out _ _ (Keeps.refl noB W).drew hma hk) | have HMa := Lib.hid (HMK.out _ _ ((Keeps.refl noB W).drew.alloc _) hma hk)
           have hz6 : W.heap.size ≤ w6.heap.size := by first | exact hk.size | exact Nat.le_trans (by simp) hk.size
           have hm6 : m < w6.heap.size := Nat.lt_of_lt_of_le hmR hz6
           first | (have hn : w6.cell? ⟨W.heap.size, 0, none⟩ = some (.int .u8 0) ∧ w6.cell? ⟨W.heap.size, 1, none⟩ = some (.int .u8 0) ∧ w6.frozen? ⟨W.heap.size, 0, none⟩ = false ∧ w6.frozen? ⟨W.heap.size, 1, none⟩ = false := new_cells (W := W.drew) hmR hk; have ⟨n0, n1, n2, n3⟩ := hn; clear hn) | skip
           clear hma)
        | (go_at_call 121; refine (HCJ.out _).mono ?_; rintro e7 w7 ⟨rfl, hk7⟩
           first | have HMb := Lib.hid (HMa.out.quiet hk7) | have HMb := Lib.hid (HMa.out.quiet (((Keeps.refl noB _).alloc _).trans hk7))
           have hz7 : W.heap.size ≤ w7.heap.size := by first | exact Nat.le_trans hz6 hk7.size | exact Nat.le_trans hz6 (Nat.le_trans (by simp) hk7.size)
           first | (have ⟨n0, n1, n2, n3⟩ := old_cells hk7 n0 n1 n2 n3) | (have ⟨n0, n1, n2, n3⟩ := new_cells hm6 (hk7.mono (fun _ e => e.elim) (may' := oneB m))) | skip
           have hk := hk7.mono (fun _ e => e.elim) (may' := oneB m)))
      · have HF := Lib.hid (HMb.out.quiet ((Keeps.refl noB w7).alloc (.cells #[.int .u8 (jm : Int), .int .u8 (ju : Int)] 81)))
        have c0 : (w7.alloc (.cells #[.int .u8 (jm : Int), .int .u8 (ju : Int)] 81)).cell? ⟨w7.heap.size, 0, none⟩ = some (.int .u8 (jm : Int)) := ((Blk.new w7 #[.int .u8 (jm : Int), .int .u8 (ju : Int)] 81).cell 0).trans rfl
        have c1 : (w7.alloc (.cells #[.int .u8 (jm : Int), .int .u8 (ju : Int)] 81)).cell? ⟨w7.heap.size, 1, none⟩ = some (.int .u8 (ju : Int)) := ((Blk.new w7 #[.int .u8 (jm : Int), .int .u8 (ju : Int)] 81).cell 1).trans rfl
        revert c0 c1 HF
        generalize w7.alloc (.cells #[.int .u8 (jm : Int), .int .u8 (ju : Int)] 81) = wF
        intro HF c0 c1
        have ⟨t0, t1, t2, t3, t4, t5, t6, t7, t8⟩ := HF.out.box.cells
        simp only at t0 t1
        have HX := Lib.hid (HK0.out _ (HF.out.box.store ⟨jm, ju⟩) (HF.out.box.map HF.out.map _ _))
        go_wp2_with fail
        go_step3
        refine ⟨rfl, ⟨⟨jm, ju⟩, _, _, _, _, _, _, _, _, _, _, _, _, _, _, _, rfl, HX.out.1⟩, ?_⟩
        show 12 - (kOf w.heap.size _).w < 12 - (kOf w.heap.size _).w
        rw [HMU.out, kOf_box HX.out.1.box]
        exact HX.out.2
      · obtain ⟨c0, c1, hmid⟩ := loop_box (nb := w6.heap.size) ⟨jm, ju⟩ HMb.out HMa.out.box.bB.lt n0 n1
        simp only at c0 c1 hmid
        have HF := Lib.hid hmid
        revert c0 c1 HF
        clear hmid
        generalize World.setCell (World.setCell _ _ _) _ _ = wF
        intro c0 c1 HF
        have ⟨t0, t1, t2, t3, t4, t5, t6, t7, t8⟩ := HF.out.box.cells
        simp only at t0 t1
        have HX := Lib.hid (HK0.out _ (HF.out.box.store ⟨jm, ju⟩) (HF.out.box.map HF.out.map _ _))
        go_wp2_with fail
        go_step3
        refine ⟨rfl, ⟨⟨jm, ju⟩, _, _, _, _, _, _, _, _, _, _, _, _, _, _, _, rfl, HX.out.1⟩, ?_⟩
        show 12 - (kOf w.heap.size _).w < 12 - (kOf w.heap.size _).w
        rw [HMU.out, kOf_box HX.out.1.box]
        exact HX.out.2
      · obtain ⟨c0, c1, hmid⟩ := loop_box (nb := W.heap.size) ⟨jm, ju⟩ HMb.out HBR.out.bB.lt n0 n1
        simp only at c0 c1 hmid
        have HF := Lib.hid hmid
        revert c0 c1 HF
        clear hmid
        generalize World.setCell (World.setCell _ _ _) _ _ = wF
        intro c0 c1 HF
        have ⟨t0, t1, t2, t3, t4, t5, t6, t7, t8⟩ := HF.out.box.cells
        simp only at t0 t1
        have HX := Lib.hid (HK0.out _ (HF.out.box.store ⟨jm, ju⟩) (HF.out.box.map HF.out.map _ _))
        go_wp2_with fail
        go_step3
        refine ⟨rfl, ⟨⟨jm, ju⟩, _, _, _, _, _, _, _, _, _, _, _, _, _, _, _, rfl, HX.out.1⟩, ?_⟩
        show 12 - (kOf w.heap.size _).w < 12 - (kOf w.heap.size _).w
        rw [HMU.out, kOf_box HX.out.1.box]
        exact HX.out.2

end Go.Proofs.Ytlilkmemgomnjaa

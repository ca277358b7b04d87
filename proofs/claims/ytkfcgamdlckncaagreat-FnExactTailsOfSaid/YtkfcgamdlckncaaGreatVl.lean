/-
  Walks of the program's survey: scope; a step that is a branch.
-/
import Derived.Test.YtkfcgamdlckncaaGreatVeW
namespace Go.Proofs.YtkfcgamdlckncaaGreat
set_option linter.unusedVariables false
set_option linter.unusedSimpArgs false
open Go.RowKit

def twoV (a b : Nat) : Nat → Prop := fun i => i = a ∨ i = b

/-- What a region holds that asks other functions and stores the answer. -/
def TwS (w wR : World) (a b : Int) (g m : Nat) (p2 p3 : Value) (Z : World → Nat → Value) (w' : World) : Prop :=
  Keeps (twoV (w.heap.size + 1) m) wR w' ∧ w'.cell? ⟨w.heap.size, 0, none⟩ = some (.int .u8 a) ∧ w'.cell? ⟨w.heap.size, 1, none⟩ = some (.int .u8 b) ∧
      w'.cell? ⟨w.heap.size + 1, 0, none⟩ = some (Z w' 0) ∧ w'.cell? ⟨w.heap.size + 1, 1, none⟩ = some (Z w' 1) ∧ w'.frozen? ⟨w.heap.size + 1, 0, none⟩ = false ∧ w'.frozen? ⟨w.heap.size + 1, 1, none⟩ = false ∧ w'.cell? ⟨g, 2, none⟩ = some p2 ∧ w'.cell? ⟨g, 3, none⟩ = some p3

theorem twS {w wR : World} {k : Kn} {y g m : Nat} {p2 p3 : Value} (Z : World → Nat → Value) (hZ : ∀ W j, Z W j = (W.cell? ⟨w.heap.size + 1, j, none⟩).getD undef) (h : SurBox w wR k y m) (h2 : wR.cell? ⟨g, 2, none⟩ = some p2) (h3 : wR.cell? ⟨g, 3, none⟩ = some p3) : TwS w wR (k.may : Int) (k.must : Int) g m p2 p3 Z wR := by
  obtain ⟨t0, t1, t2, t3, t4, t5, t6, t7, t8⟩ := h.cells
  exact ⟨Keeps.refl _ _, t0, t1, by rw [hZ, t2]; rfl, by rw [hZ, t3]; rfl, t6, t7, h2, h3⟩

theorem cell_lt {w : World} {i j : Nat} {v : Value} (h : w.cell? ⟨i, j, none⟩ = some v) : i < w.heap.size := by
  rcases Nat.lt_or_ge i w.heap.size with h' | h'
  · exact h'
  · exfalso
    have : w.heap[i]? = none := Array.getElem?_eq_none h'
    simp [World.cell?, this] at h

theorem twS3 {w wR w' w2 : World} {a b : Int} {g m : Nat} {p2 p3 : Value} (Z : World → Nat → Value) (hZ : ∀ W j, Z W j = (W.cell? ⟨w.heap.size + 1, j, none⟩).getD undef) (hml : m < w.heap.size) (hgm : g ≠ m) (h : TwS w wR a b g m p2 p3 Z w') (k : Keeps (oneB m) w' w2) : TwS w wR a b g m p2 p3 Z w2 := by
  obtain ⟨q, a0, a1, b0, b1, z0, z1, g2, g3⟩ := h
  have e : ∀ (i j : Nat), i ≠ m → i < w'.heap.size → w2.cell? ⟨i, j, none⟩ = w'.cell? ⟨i, j, none⟩ := fun i j hi hl => k.cell (p := ⟨i, j, none⟩) hl hi
  have f : ∀ (i j : Nat), i ≠ m → i < w'.heap.size → w2.frozen? ⟨i, j, none⟩ = w'.frozen? ⟨i, j, none⟩ := fun i j hi hl => k.frozen (p := ⟨i, j, none⟩) hl hi
  have n0 : w.heap.size ≠ m := by omega
  have n1 : w.heap.size + 1 ≠ m := by omega
  have l0 := cell_lt a0
  have l1 := cell_lt b0
  have lg := cell_lt g2
  refine ⟨q.trans (k.mono (fun i e => .inr e)), (e _ _ n0 l0).trans a0, (e _ _ n0 l0).trans a1, ?_, ?_, (f _ _ n1 l1).trans z0, (f _ _ n1 l1).trans z1, (e _ _ hgm lg).trans g2, (e _ _ hgm lg).trans g3⟩
  · rw [hZ, e _ _ n1 l1, b0]; rfl
  · rw [hZ, e _ _ n1 l1, b1]; rfl

theorem twS2 {w wR w' : World} {a b : Int} {g m : Nat} {p2 p3 : Value} (Z : World → Nat → Value) (hZ : ∀ W j, Z W j = (W.cell? ⟨w.heap.size + 1, j, none⟩).getD undef) (hgl : g < w.heap.size) (h : TwS w wR a b g m p2 p3 Z w') (x y : Value) :
    TwS w wR a b g m p2 p3 Z ((w'.setCell ⟨w.heap.size + 1, 0, none⟩ x).setCell ⟨w.heap.size + 1, 1, none⟩ y) := by
  obtain ⟨q, a0, a1, b0, b1, z0, z1, g2, g3⟩ := h
  obtain ⟨e0, e1⟩ := cell_set2 b0 b1 x y
  have ho : ∀ A : Addr, A.block ≠ w.heap.size + 1 → ((w'.setCell ⟨w.heap.size + 1, 0, none⟩ x).setCell ⟨w.heap.size + 1, 1, none⟩ y).cell? A = w'.cell? A := fun A hA => by
    rw [World.cell?_setCell_other _ _ _ _ (fun e => hA (by rw [← e])), World.cell?_setCell_other _ _ _ _ (fun e => hA (by rw [← e]))]
  refine ⟨(q.setCell (p := ⟨w.heap.size + 1, 0, none⟩) (.inl (.inl rfl)) x).setCell (p := ⟨w.heap.size + 1, 1, none⟩) (.inl (.inl rfl)) y, ?_, ?_, ?_, ?_, ?_, ?_, ?_, ?_⟩
  · rw [ho _ (by show w.heap.size ≠ w.heap.size + 1; omega)]; exact a0
  · rw [ho _ (by show w.heap.size ≠ w.heap.size + 1; omega)]; exact a1
  · rw [hZ, e0]; rfl
  · rw [hZ, e1]; rfl
  · rw [World.frozen?_setCell, World.frozen?_setCell]; exact z0
  · rw [World.frozen?_setCell, World.frozen?_setCell]; exact z1
  · rw [ho _ (by show g ≠ w.heap.size + 1; omega)]; exact g2
  · rw [ho _ (by show g ≠ w.heap.size + 1; omega)]; exact g3

theorem twS4 {w wR w' : World} {a b : Int} {g m : Nat} {p2 p3 : Value} {Z : World → Nat → Value} {x y : Value} (hq : Keeps (oneB m) w wR) (h : TwS w wR a b g m p2 p3 Z ((w'.setCell ⟨w.heap.size + 1, 0, none⟩ x).setCell ⟨w.heap.size + 1, 1, none⟩ y)) :
    ((w'.setCell ⟨w.heap.size + 1, 0, none⟩ x).setCell ⟨w.heap.size + 1, 1, none⟩ y).cell? ⟨w.heap.size + 1, 0, none⟩ = some x ∧ ((w'.setCell ⟨w.heap.size + 1, 0, none⟩ x).setCell ⟨w.heap.size + 1, 1, none⟩ y).cell? ⟨w.heap.size + 1, 1, none⟩ = some y ∧
    Keeps (oneB m) w ((w'.setCell ⟨w.heap.size + 1, 0, none⟩ x).setCell ⟨w.heap.size + 1, 1, none⟩ y) := by
  obtain ⟨q, a0, a1, b0, b1, z0, z1, g2, g3⟩ := h
  have e1 := cell_back b1
  have b0' := b0
  rw [World.cell?_setCell_other _ _ _ _ (by simp)] at b0'
  have e0 := cell_back b0'
  exact ⟨by rw [b0, e0], by rw [b1, e1], hq.transNew q (fun i hi e => by rcases e with e | e; omega; exact e)⟩

theorem map_put {w w' : World} {m : Nat} {M : Notes} (hm : m < w.heap.size) (h : MapAt Tryz.prog 3 w' m M) (x y : Value) : MapAt Tryz.prog 3 ((w'.setCell ⟨w.heap.size + 1, 0, none⟩ x).setCell ⟨w.heap.size + 1, 1, none⟩ y) m M := by
  have qs : Keeps (oneB (w.heap.size + 1)) w' ((w'.setCell ⟨w.heap.size + 1, 0, none⟩ x).setCell ⟨w.heap.size + 1, 1, none⟩ y) := ((Keeps.refl (oneB (w.heap.size + 1)) w').setCell (p := ⟨w.heap.size + 1, 0, none⟩) (.inl rfl) x).setCell (p := ⟨w.heap.size + 1, 1, none⟩) (.inl rfl) y
  exact h.keeps qs (fun e => by have : m = w.heap.size + 1 := e; omega)

set_option maxRecDepth 100000 in
set_option maxHeartbeats 4000000 in
theorem surScope_any (k : Kn) (M : Notes) (w : World) (y m g b e : Nat) (vs : List UInt8) (vx : Value) (h : SurAt w y m M) (hg : Blk w g #[i64 b, i64 e, str vs, vx] 133) (hgm : g ≠ m) (he1 : 1 ≤ e) (he2 : e ≤ 81)
    (hl : ∀ v ∈ vs, ltr v) (hll : vs.length ≤ 1000) (hvx : ∃ a n c, vx = .slice a n c) (K1 : Kn) (hK1 : K1.Wf) (M1 : Notes)
    (hin : ∀ w1, Keeps (oneB m) w w1 → MapAt Tryz.prog 3 w1 m M → Calls Tryz.prog 72 #[.pointer (some ⟨y, 0, none⟩), vx, knV k] w1 (SurPost w1 m K1 M1)) :
    Calls Tryz.prog 75 #[.pointer (some ⟨y, 0, none⟩), .pointer (some ⟨g, 0, none⟩), knV k] w (SurPost w m (K1.changed 0 (bitsV vs)) ((point (e - 1) K1).over M1)) := by
  obtain ⟨xa, xn, xc, rfl⟩ := hvx
  have HI := Lib.hid hin
  have hml := h.map.lt
  have hgl := hg.lt
  have HB0 := Lib.hid (fun w1 q => SurBox.start (w := w) (w1 := w1) (k := k) h q)
  have HM := Lib.hid h.map
  have HG : Hid (∀ w1, Keeps (oneB m) w w1 → w1.cell? ⟨g, 1, none⟩ = some (.int .i64 (e : Int)) ∧ w1.cell? ⟨g, 2, none⟩ = some (str vs) ∧ w1.cell? ⟨g, 3, none⟩ = some (.slice xa xn xc)) := fun w1 q => by
    have hb := q.blk hg hgm
    exact ⟨(hb.cell 1).trans rfl, (hb.cell 2).trans rfl, (hb.cell 3).trans rfl⟩
  have HV := Lib.hid (fun w1 => setOf_any vs hl hll w1)
  have HC := Lib.hid (fun w => changed_any K1 hK1 (f := 0) (e := bitsV vs) (by omega) (bitsV_lt hl) w)
  have he3 : (e : Int) - 1 = ((e - 1 : Nat) : Int) := by omega
  have he4 : e - 1 < 81 := by omega
  generalize K1.changed 0 (bitsV vs) = kr at *
  generalize bitsV vs = bv at *
  obtain ⟨km, ku⟩ := k
  obtain ⟨rm, ru⟩ := kr
  unfold knV at *
  unfold str at *
  simp only at *
  obtain ⟨tv, htv⟩ : ∃ tv : ByteArray, tv = ⟨vs.toArray⟩ := ⟨_, rfl⟩
  rw [← htv] at HV HG
  have HK1 := Lib.hid hK1
  clear htv h hin hg hl hll hK1
  go_enter Tryz.func75, Tryz.ntmps75
  go_wp2_with fail
  refine wp_region_still_tail 6 (by kernel_rfl) (by kernel_rfl) ?_
  simp only [List.take_succ_cons, List.take_zero, List.drop_succ_cons, List.drop_zero]
  change wpStill _ _ (World.drew _) (fun a' => wpList _ _ _ _ a' (World.drew _)) _ _
  have HD : Hid (SurBox w (World.drew ((w.alloc (.cells #[.int .u8 (km : Int), .int .u8 (ku : Int)] 111)).alloc (.cells #[.int .u8 0, .int .u8 0] 111))) ⟨km, ku⟩ y m) := HB0.out _ (Keeps.refl _ _).drew
  have HM0 : Hid (MapAt Tryz.prog 3 (World.drew ((w.alloc (.cells #[.int .u8 (km : Int), .int .u8 (ku : Int)] 111)).alloc (.cells #[.int .u8 0, .int .u8 0] 111))) m M) := HM.out.keeps ((((Keeps.refl noB w).alloc _).alloc _).drew) id
  clear HM HB0
  generalize World.drew ((w.alloc (.cells #[.int .u8 (km : Int), .int .u8 (ku : Int)] 111)).alloc (.cells #[.int .u8 0, .int .u8 0] 111)) = w0 at *
  have ⟨t0, t1, t2, t3, t4, t5, t6, t7, t8⟩ := HD.out.cells
  have ⟨hg1, hg2, hg3⟩ := HG.out w0 HD.out.q
  simp only at t0 t1
  still_step
  still_step
  still_step
  still_step
  still_step
  still_step
  refine wpStill_nil ?_
  clear t0 t1 t2 t3 t4 t5 t6 t7 t8 hg1 hg2 hg3
  obtain ⟨nm, nu⟩ := K1
  have HX : Hid (∀ w3, MapAt Tryz.prog 3 w3 m M1 → Keeps (oneB m) w0 w3 → SurCells w w3 (km : Int) (ku : Int) y m ∧ SurBox w ((w3.setCell ⟨w.heap.size, 0, none⟩ (.int .u8 (nm : Int))).setCell ⟨w.heap.size, 1, none⟩ (.int .u8 (nu : Int))) ⟨nm, nu⟩ y m ∧
      MapAt Tryz.prog 3 ((w3.setCell ⟨w.heap.size, 0, none⟩ (.int .u8 (nm : Int))).setCell ⟨w.heap.size, 1, none⟩ (.int .u8 (nu : Int))) m M1) := fun w3 hm3 q3 => by
    have hb3 := HD.out.keeps q3
    exact ⟨hb3.cells, hb3.store ⟨nm, nu⟩, hb3.map hm3 _ _⟩
  go_wp2_with (go_at_call 72; refine (HI.out _ HD.out.q HM0.out).mono ?_; rintro e3 w3 ⟨he3', hm3, q3⟩; unfold knV at he3'; obtain rfl := he3'; have hh := HX.out w3 hm3 q3; have ⟨⟨r0, r1, r2, r3, r4, r5, r6, r7, r8⟩, hl⟩ := hh; have HL := Lib.hid hl; clear hm3 q3 hh hl)
  clear r0 r1 r2 r3 r4 r5 r6 r7 r8 HX HI HM0 HD
  refine wp_region_still_tail 10 (by kernel_rfl) (by kernel_rfl) ?_
  simp only [List.take_succ_cons, List.take_zero, List.drop_succ_cons, List.drop_zero]
  change wpStill _ _ (World.drew _) (fun a' => wpList _ _ _ _ a' (World.drew _)) _ _
  have HD : Hid (SurBox w (World.drew ((w3.setCell ⟨w.heap.size, 0, none⟩ (.int .u8 (nm : Int))).setCell ⟨w.heap.size, 1, none⟩ (.int .u8 (nu : Int)))) ⟨nm, nu⟩ y m) := HL.out.1.quiet (Keeps.refl _ _).drew
  have HM0 : Hid (MapAt Tryz.prog 3 (World.drew ((w3.setCell ⟨w.heap.size, 0, none⟩ (.int .u8 (nm : Int))).setCell ⟨w.heap.size, 1, none⟩ (.int .u8 (nu : Int)))) m M1) := HL.out.2.keeps (Keeps.refl noB _).drew id
  clear HL
  generalize World.drew ((w3.setCell ⟨w.heap.size, 0, none⟩ (.int .u8 (nm : Int))).setCell ⟨w.heap.size, 1, none⟩ (.int .u8 (nu : Int))) = w4 at *
  have ⟨t0, t1, t2, t3, t4, t5, t6, t7, t8⟩ := HD.out.cells
  have ⟨hg1, hg2, hg3⟩ := HG.out w4 HD.out.q
  simp only at t0 t1
  still_step
  still_step
  still_step
  still_step
  still_step
  still_step
  still_step
  still_call (end_any g _ _ hg1)
  still_step
  still_step
  refine wpStill_nil ?_
  clear t0 t1 t2 t3 t4 t5 t6 t7 t8 hg1 hg2 hg3
  refine wpList_noteMap _ rfl _ _ _ 70 rfl (kt := 3) Tryz.underlying3 Tryz.underlying70 HM0.out he4 ⟨nm, nu⟩ rfl (congrArg (Value.int IntKind.i64) (IntWalk.i64_in _ (by omega))) rfl ?_
  intro w5 hm5 q5
  have HB5 := Lib.hid (HD.out.keeps q5)
  have HM5 := Lib.hid hm5
  clear hm5 q5 HM0 HD he3
  go_wp2_with fail
  obtain ⟨wR, hwR⟩ : ∃ wR, wR = w5.drew := ⟨_, rfl⟩
  have HBR : Hid (SurBox w wR ⟨nm, nu⟩ y m) := Lib.hid (by rw [hwR]; exact HB5.out.quiet (Keeps.refl _ _).drew)
  have HMR : Hid (MapAt Tryz.prog 3 wR m ((point (e - 1) ⟨nm, nu⟩).over M1)) := Lib.hid (by rw [hwR]; exact HM5.out.keeps (Keeps.refl noB _).drew id)
  clear HB5 HM5
  obtain ⟨Z, hZ⟩ : ∃ Z : World → Nat → Value, ∀ W j, Z W j = (W.cell? ⟨w.heap.size + 1, j, none⟩).getD undef := ⟨_, fun _ _ => rfl⟩
  have HS0 : Hid ((fun w' => Keeps (twoV (w.heap.size + 1) m) wR w' ∧ w'.cell? ⟨w.heap.size, 0, none⟩ = some (.int .u8 (nm : Int)) ∧ w'.cell? ⟨w.heap.size, 1, none⟩ = some (.int .u8 (nu : Int)) ∧
      w'.cell? ⟨w.heap.size + 1, 0, none⟩ = some (Z w' 0) ∧ w'.cell? ⟨w.heap.size + 1, 1, none⟩ = some (Z w' 1) ∧ w'.frozen? ⟨w.heap.size + 1, 0, none⟩ = false ∧ w'.frozen? ⟨w.heap.size + 1, 1, none⟩ = false ∧ w'.cell? ⟨g, 2, none⟩ = some (.string tv) ∧ w'.cell? ⟨g, 3, none⟩ = some (.slice xa xn xc)) w5.drew) := Lib.hid (by
    have hh := HG.out wR HBR.out.q
    have := twS (w := w) (wR := wR) (k := ⟨nm, nu⟩) (g := g) Z hZ HBR.out hh.2.1 hh.2.2
    rw [← hwR]; exact this)
  have HS2 := Lib.hid (fun w' q x y => twS2 (w := w) (wR := wR) (w' := w') (a := (nm : Int)) (b := (nu : Int)) (g := g) (m := m) (p2 := .string tv) (p3 := .slice xa xn xc) Z hZ hgl q x y)
  have HS3 := Lib.hid (fun w' w2 q (hk : Keeps noB w' w2) => twS3 (w := w) (wR := wR) (w' := w') (w2 := w2) (a := (nm : Int)) (b := (nu : Int)) (g := g) (m := m) (p2 := .string tv) (p3 := .slice xa xn xc) Z hZ hml hgm q (hk.mono (fun _ e => e.elim)))
  have HS4 := Lib.hid (fun w' x y q => twS4 (w := w) (wR := wR) (w' := w') (a := (nm : Int)) (b := (nu : Int)) (g := g) (m := m) (p2 := .string tv) (p3 := .slice xa xn xc) (Z := Z) (x := x) (y := y) HBR.out.q q)
  have HP := Lib.hid (fun w' x y hm => map_put (w := w) (w' := w') (m := m) (M := (point (e - 1) ⟨nm, nu⟩).over M1) hml hm x y)
  have HMR' : Hid (MapAt Tryz.prog 3 w5.drew m ((point (e - 1) ⟨nm, nu⟩).over M1)) := Lib.hid (by rw [← hwR]; exact HMR.out)
  clear hZ hwR HMR
  go_region_held3 (fun w' => Keeps (twoV (w.heap.size + 1) m) wR w' ∧ w'.cell? ⟨w.heap.size, 0, none⟩ = some (.int .u8 (nm : Int)) ∧ w'.cell? ⟨w.heap.size, 1, none⟩ = some (.int .u8 (nu : Int)) ∧
      w'.cell? ⟨w.heap.size + 1, 0, none⟩ = some (Z w' 0) ∧ w'.cell? ⟨w.heap.size + 1, 1, none⟩ = some (Z w' 1) ∧ w'.frozen? ⟨w.heap.size + 1, 0, none⟩ = false ∧ w'.frozen? ⟨w.heap.size + 1, 1, none⟩ = false ∧ w'.cell? ⟨g, 2, none⟩ = some (.string tv) ∧ w'.cell? ⟨g, 3, none⟩ = some (.slice xa xn xc))
    (first | exact HS0.out | exact HS3.out _ _ (by assumption) hk | exact HS2.out _ (by assumption) _ _)
    (first
    | (go_at_call 92; refine (HV.out _).mono ?_; rintro e w' ⟨rfl, hk⟩; have HMa := Lib.hid (HMR'.out.keeps hk id))
    | (go_at_call 93; refine (HC.out _).mono ?_; rintro e w' ⟨rfl, hk⟩; have HMb := Lib.hid (HMa.out.keeps hk id)))
  all_goals
    go_wp2_with fail
    exact bodyPost_ret (resKn Tryz.results75 _ (w.heap.size + 1) _ _ _ rfl (HS4.out _ _ _ (by assumption)).1 (HS4.out _ _ _ (by assumption)).2.1) rfl ⟨rfl, HP.out _ _ _ HMb.out, (HS4.out _ _ _ (by assumption)).2.2⟩

set_option maxRecDepth 100000 in
set_option maxHeartbeats 4000000 in
theorem surB (k : Kn) (M : Notes) (w : World) (y m g b : Nat) (h : SurAt w y m M) (hb : b < 81) (hg : ∀ w1, Keeps (oneB m) w w1 → w1.cell? ⟨g, 0, none⟩ = some (.int .i64 (b : Int))) (K K1 K2 : Kn) (M1 MF : Notes) (hK : K = K1.join K2) (h1 : K1.Wf) (h2 : K2.Wf) (hgm : g ≠ m) (hgl : g < w.heap.size) (xa ya : Option Addr) (xn xc yn yc : Nat) (hgg : ∀ w1, Keeps (oneB m) w w1 → w1.cell? ⟨g, 2, none⟩ = some (.slice xa xn xc) ∧ w1.cell? ⟨g, 3, none⟩ = some (.slice ya yn yc))
    (hin : ∀ w1, Keeps (oneB m) w w1 → MapAt Tryz.prog 3 w1 m ((point b k).over M) → Calls Tryz.prog 72 #[.pointer (some ⟨y, 0, none⟩), .slice xa xn xc, knV k] w1 (SurPost w1 m K1 M1))
    (hjn : ∀ w1, Keeps (oneB m) w w1 → MapAt Tryz.prog 3 w1 m M1 → Calls Tryz.prog 72 #[.pointer (some ⟨y, 0, none⟩), .slice ya yn yc, knV k] w1 (SurPost w1 m K2 MF)) :
    Calls Tryz.prog 49 #[.pointer (some ⟨y, 0, none⟩), .iface 145 (.pointer (some ⟨g, 0, none⟩)), knV k] w (SurPost w m K MF) := by
  have HI := Lib.hid hin
  have HJ := Lib.hid hjn
  have HGG := Lib.hid hgg
  have HC := Lib.hid (fun w => joined_any K1 K2 h1 h2 w)
  rw [← hK] at HC
  have HB0 := Lib.hid (fun w1 q => SurBox.start (w := w) (w1 := w1) (k := k) h q)
  clear hK h1 h2 hjn hgg
  have hbeg := begB g
  simp [go_sem] at hbeg
  have a0 := isBV (.pointer (some ⟨g, 0, none⟩))
  have a1 := isBL (.pointer (some ⟨g, 0, none⟩))
  have a2 := isBB (.pointer (some ⟨g, 0, none⟩))
  have hml := h.map.lt
  have HS := Lib.hid (fun w1 q => surIn (w := w) (w1 := w1) (a := (k.may : Int)) (b := (k.must : Int)) h q)
  have HE := Lib.hid (fun w1 M' q (hm : MapAt Tryz.prog 3 w1 m M') x y => sur_end (w := w) (w1 := w1) (a := (k.may : Int)) (b := (k.must : Int)) hml q hm x y)
  have HM := Lib.hid h.map
  have HG := Lib.hid hg
  obtain ⟨km, ku⟩ := k
  obtain ⟨km1, ku1⟩ := K1
  obtain ⟨km2, ku2⟩ := K2
  obtain ⟨rm, ru⟩ := K
  unfold knV at *
  simp only at *
  clear h hin hg
  go_enter Tryz.func49, Tryz.ntmps49
  go_wp2_with fail
  refine wp_region_still_tail 7 (by kernel_rfl) (by kernel_rfl) ?_
  simp only [List.take_succ_cons, List.take_zero, List.drop_succ_cons, List.drop_zero]
  change wpStill _ _ (World.drew _) (fun a' => wpList _ _ _ _ a' (World.drew _)) _ _
  have HD : Hid (Keeps (oneB m) ((w.alloc (.cells #[.int .u8 (km : Int), .int .u8 (ku : Int)] 111)).alloc (.cells #[.int .u8 0, .int .u8 0] 111)) (World.drew ((w.alloc (.cells #[.int .u8 (km : Int), .int .u8 (ku : Int)] 111)).alloc (.cells #[.int .u8 0, .int .u8 0] 111)))) := (Keeps.refl _ _).drew
  have HM0 : Hid (MapAt Tryz.prog 3 (World.drew ((w.alloc (.cells #[.int .u8 (km : Int), .int .u8 (ku : Int)] 111)).alloc (.cells #[.int .u8 0, .int .u8 0] 111))) m M) := HM.out.keeps ((((Keeps.refl noB w).alloc _).alloc _).drew) id
  clear HM
  generalize World.drew ((w.alloc (.cells #[.int .u8 (km : Int), .int .u8 (ku : Int)] 111)).alloc (.cells #[.int .u8 0, .int .u8 0] 111)) = w0 at *
  have hw0 := (HS.out w0 HD.out)
  have ⟨t0, t1, t2, t3, t4, t5, t6, t7, t8, t9⟩ := hw0
  have hg0 := HG.out w0 t0
  clear hw0 t0 t3 t4 t5 t6 t7 t8
  still_step
  still_step
  still_step
  still_step
  still_step
  still_call (begin_any g _ _ hg0)
  still_step
  refine wpStill_nil ?_
  clear t1 t2 t9 hg0
  refine wpList_noteMap _ rfl _ _ _ 70 rfl (kt := 3) Tryz.underlying3 Tryz.underlying70 HM0.out hb ⟨km, ku⟩ rfl rfl rfl ?_
  intro w2 hm2 q2
  have q2 := HD.out.trans q2
  have hh := HS.out w2 q2
  have ⟨s0, s1, s2, s3, s4, s5, s6, s7, s8, s9⟩ := hh
  have H2 := Lib.hid (And.intro hm2 (And.intro q2 s0))
  clear hm2 q2 hh s0 HM0 HD
  clear s1 s2 s3 s4 s5 s6 s7 s8 s9
  go_wp2_with fail
  obtain ⟨wR, hwR⟩ : ∃ wR, wR = w2.drew := ⟨_, rfl⟩
  have HBR : Hid (SurBox w wR ⟨km, ku⟩ y m) := Lib.hid (by rw [hwR]; exact HB0.out _ H2.out.2.1.drew)
  have HMR' : Hid (MapAt Tryz.prog 3 w2.drew m ((point b ⟨km, ku⟩).over M)) := H2.out.1.keeps (Keeps.refl noB _).drew id
  have HKR : Hid (Keeps (oneB m) w w2.drew) := H2.out.2.2.drew
  clear H2 HB0
  obtain ⟨Z, hZ⟩ : ∃ Z : World → Nat → Value, ∀ W j, Z W j = (W.cell? ⟨w.heap.size + 1, j, none⟩).getD undef := ⟨_, fun _ _ => rfl⟩
  have HS0 : Hid ((fun w' => Keeps (twoV (w.heap.size + 1) m) wR w' ∧ w'.cell? ⟨w.heap.size, 0, none⟩ = some (.int .u8 (km : Int)) ∧ w'.cell? ⟨w.heap.size, 1, none⟩ = some (.int .u8 (ku : Int)) ∧
      w'.cell? ⟨w.heap.size + 1, 0, none⟩ = some (Z w' 0) ∧ w'.cell? ⟨w.heap.size + 1, 1, none⟩ = some (Z w' 1) ∧ w'.frozen? ⟨w.heap.size + 1, 0, none⟩ = false ∧ w'.frozen? ⟨w.heap.size + 1, 1, none⟩ = false ∧ w'.cell? ⟨g, 2, none⟩ = some (.slice xa xn xc) ∧ w'.cell? ⟨g, 3, none⟩ = some (.slice ya yn yc)) w2.drew) := Lib.hid (by
    have hh := HGG.out wR HBR.out.q
    have := twS (w := w) (wR := wR) (k := ⟨km, ku⟩) (g := g) Z hZ HBR.out hh.1 hh.2
    rw [← hwR]; exact this)
  have HS2 := Lib.hid (fun w' q x y => twS2 (w := w) (wR := wR) (w' := w') (a := (km : Int)) (b := (ku : Int)) (g := g) (m := m) (p2 := .slice xa xn xc) (p3 := .slice ya yn yc) Z hZ hgl q x y)
  have HS3 := Lib.hid (fun w' w2 q (hk : Keeps (oneB m) w' w2) => twS3 (w := w) (wR := wR) (w' := w') (w2 := w2) (a := (km : Int)) (b := (ku : Int)) (g := g) (m := m) (p2 := .slice xa xn xc) (p3 := .slice ya yn yc) Z hZ hml hgm q hk)
  have HS4 := Lib.hid (fun w' x y q => twS4 (w := w) (wR := wR) (w' := w') (a := (km : Int)) (b := (ku : Int)) (g := g) (m := m) (p2 := .slice xa xn xc) (p3 := .slice ya yn yc) (Z := Z) (x := x) (y := y) HBR.out.q q)
  have HP := Lib.hid (fun w' x y hm => map_put (w := w) (w' := w') (m := m) (M := MF) hml hm x y)
  clear hZ hwR
  go_region_held3 (fun w' => Keeps (twoV (w.heap.size + 1) m) wR w' ∧ w'.cell? ⟨w.heap.size, 0, none⟩ = some (.int .u8 (km : Int)) ∧ w'.cell? ⟨w.heap.size, 1, none⟩ = some (.int .u8 (ku : Int)) ∧
      w'.cell? ⟨w.heap.size + 1, 0, none⟩ = some (Z w' 0) ∧ w'.cell? ⟨w.heap.size + 1, 1, none⟩ = some (Z w' 1) ∧ w'.frozen? ⟨w.heap.size + 1, 0, none⟩ = false ∧ w'.frozen? ⟨w.heap.size + 1, 1, none⟩ = false ∧ w'.cell? ⟨g, 2, none⟩ = some (.slice xa xn xc) ∧ w'.cell? ⟨g, 3, none⟩ = some (.slice ya yn yc))
    (first | exact HS0.out | exact HS3.out _ _ (by assumption) hk | exact HS2.out _ (by assumption) _ _)
    (first
    | (go_at_call 72; refine (HJ.out _ HMa.out.2 HMa.out.1).mono ?_; rintro e w' ⟨he', hmb, hk⟩; unfold knV at he'; obtain rfl := he'; have HMb := Lib.hid hmb; clear hmb)
    | (go_at_call 72; refine (HI.out _ HKR.out HMR'.out).mono ?_; rintro e w' ⟨he', hma, hk⟩; unfold knV at he'; obtain rfl := he'; have HMa := Lib.hid (And.intro hma (HKR.out.trans hk)); clear hma)
    | (go_at_call 73; refine (HC.out _).mono ?_; rintro e w' ⟨rfl, hk⟩; have HMc := Lib.hid (HMb.out.keeps hk id); replace hk := hk.mono (fun _ e => e.elim) (may' := oneB m)))
  all_goals
    go_wp2_with fail
    exact bodyPost_ret (resKn Tryz.results49 _ (w.heap.size + 1) _ _ _ rfl (HS4.out _ _ _ (by assumption)).1 (HS4.out _ _ _ (by assumption)).2.1) rfl ⟨rfl, HP.out _ _ _ HMc.out, (HS4.out _ _ _ (by assumption)).2.2⟩

 end Go.Proofs.YtkfcgamdlckncaaGreat

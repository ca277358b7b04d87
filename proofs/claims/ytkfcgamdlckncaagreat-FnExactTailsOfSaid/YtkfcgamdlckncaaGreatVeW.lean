/-
  Walks of the program's survey: a step by its type.
  Walks of the program's survey: steps.
-/
import Derived.Test.YtkfcgamdlckncaaGreatVdW
import Derived.Test.YtkfcgamdlckncaaGreatIjW
import Derived.Maps.OwnOps
import Derived.StillTailTactics
namespace Go.Proofs.YtkfcgamdlckncaaGreat
set_option linter.unusedVariables false
set_option linter.unusedSimpArgs false
open Go.RowKit

/-- How a call ends that leaves the map with these notes. -/
def SurPost (w : World) (m : Nat) (K : Kn) (M : Notes) (e : Ending) (w' : World) : Prop :=
  e = .returned (knV K) ∧ MapAt Tryz.prog 3 w' m M ∧ Keeps (oneB m) w w'

/-- The survey's two blocks. -/
structure SurAt (w : World) (y m : Nat) (M : Notes) : Prop where
  blk : Blk w y #[.map (some m)] 118
  ne : y ≠ m
  map : MapAt Tryz.prog 3 w m M

theorem SurAt.keeps {w w1 : World} {y m : Nat} {M M' : Notes} (h : SurAt w y m M) (q : Keeps (oneB m) w w1) (hm : MapAt Tryz.prog 3 w1 m M') : SurAt w1 y m M' :=
  ⟨q.blk h.blk h.ne, h.ne, hm⟩

/-- What a function of the survey has at hand: its two boxes, and the survey. -/
structure SurIn (w w1 : World) (a b : Int) (y m : Nat) : Prop where
  q : Keeps (oneB m) w w1
  a0 : w1.cell? ⟨w.heap.size, 0, none⟩ = some (.int .u8 a)
  a1 : w1.cell? ⟨w.heap.size, 1, none⟩ = some (.int .u8 b)
  b0 : w1.cell? ⟨w.heap.size + 1, 0, none⟩ = some (.int .u8 0)
  b1 : w1.cell? ⟨w.heap.size + 1, 1, none⟩ = some (.int .u8 0)
  c0 : w1.frozen? ⟨w.heap.size, 0, none⟩ = false
  c1 : w1.frozen? ⟨w.heap.size, 1, none⟩ = false
  z0 : w1.frozen? ⟨w.heap.size + 1, 0, none⟩ = false
  z1 : w1.frozen? ⟨w.heap.size + 1, 1, none⟩ = false
  y0 : w1.cell? ⟨y, 0, none⟩ = some (.map (some m))

theorem two_blk {w w1 : World} {a b : Int} {m : Nat} (hm : m < w.heap.size) (q : Keeps (oneB m) ((w.alloc (.cells #[.int .u8 a, .int .u8 b] 111)).alloc (.cells #[.int .u8 0, .int .u8 0] 111)) w1) :
    Keeps (oneB m) w w1 ∧ Blk w1 w.heap.size #[.int .u8 a, .int .u8 b] 111 ∧ Blk w1 (w.heap.size + 1) #[.int .u8 0, .int .u8 0] 111 := by
  have hA := (Blk.new w #[.int .u8 a, .int .u8 b] 111).alloc (.cells #[.int .u8 0, .int .u8 0] 111)
  have hB := Blk.new (w.alloc (.cells #[.int .u8 a, .int .u8 b] 111)) #[.int .u8 0, .int .u8 0] 111
  have hZ : (w.alloc (.cells #[.int .u8 a, .int .u8 b] 111)).heap.size = w.heap.size + 1 := by simp only [World.alloc, Array.size_push]
  rw [hZ] at hB
  exact ⟨(((Keeps.refl _ w).alloc _).alloc _).trans q, q.blk hA (fun e => by have : w.heap.size = m := e; omega), q.blk hB (fun e => by have : w.heap.size + 1 = m := e; omega)⟩

theorem surIn {w w1 : World} {a b : Int} {y m : Nat} {M : Notes} (h : SurAt w y m M) (q : Keeps (oneB m) ((w.alloc (.cells #[.int .u8 a, .int .u8 b] 111)).alloc (.cells #[.int .u8 0, .int .u8 0] 111)) w1) : SurIn w w1 a b y m := by
  have hm := h.map.lt
  obtain ⟨q0, bA, bB⟩ := two_blk hm q
  have bY := q0.blk h.blk h.ne
  exact ⟨q0, (bA.cell 0).trans rfl, (bA.cell 1).trans rfl, (bB.cell 0).trans rfl, (bB.cell 1).trans rfl, bA.free 0, bA.free 1, bB.free 0, bB.free 1, (bY.cell 0).trans rfl⟩

/-- The answer is stored. -/
theorem sur_end {w w1 : World} {a b : Int} {m : Nat} {M : Notes} (hm : m < w.heap.size) (q : Keeps (oneB m) ((w.alloc (.cells #[.int .u8 a, .int .u8 b] 111)).alloc (.cells #[.int .u8 0, .int .u8 0] 111)) w1) (h : MapAt Tryz.prog 3 w1 m M) (x y : Value) :
    ((w1.setCell ⟨w.heap.size + 1, 0, none⟩ x).setCell ⟨w.heap.size + 1, 1, none⟩ y).cell? ⟨w.heap.size + 1, 0, none⟩ = some x ∧ ((w1.setCell ⟨w.heap.size + 1, 0, none⟩ x).setCell ⟨w.heap.size + 1, 1, none⟩ y).cell? ⟨w.heap.size + 1, 1, none⟩ = some y ∧
    MapAt Tryz.prog 3 ((w1.setCell ⟨w.heap.size + 1, 0, none⟩ x).setCell ⟨w.heap.size + 1, 1, none⟩ y) m M ∧ Keeps (oneB m) w ((w1.setCell ⟨w.heap.size + 1, 0, none⟩ x).setCell ⟨w.heap.size + 1, 1, none⟩ y) := by
  obtain ⟨q0, bA, bB⟩ := two_blk hm q
  obtain ⟨e0, e1⟩ := cell_set2 ((bB.cell 0).trans rfl) ((bB.cell 1).trans rfl) x y
  have qs : Keeps (oneB (w.heap.size + 1)) w1 ((w1.setCell ⟨w.heap.size + 1, 0, none⟩ x).setCell ⟨w.heap.size + 1, 1, none⟩ y) := ((Keeps.refl (oneB (w.heap.size + 1)) w1).setCell (p := ⟨w.heap.size + 1, 0, none⟩) (.inl rfl) x).setCell (p := ⟨w.heap.size + 1, 1, none⟩) (.inl rfl) y
  exact ⟨e0, e1, h.keeps qs (fun e => by have : m = w.heap.size + 1 := e; omega), (q0.setCell (.inr (by show w.heap.size ≤ w.heap.size + 1; omega)) x).setCell (.inr (by show w.heap.size ≤ w.heap.size + 1; omega)) y⟩

/-- 'm[k] = v' at the operation. -/
theorem wpList_noteMap {P : Program} (w : World) {ops : Array Oper} {rest : List Oper} {o : Oper} {a : Act} {Q : Exit → Act → World → Prop} (hg : o.guard = none) (m x v : Operand) (t : TypeId) (hop : o.op = Op.mapUpdate t m x v) {kt e : TypeId} (hk : P.underlying kt = some (.int .i64)) (ht : P.underlying t = some (.map kt e)) {b : Nat} {M : Notes} (h : MapAt P kt w b M) {j : Nat} (hj : j < 81) (k : Kn)
    (hm : a.eval m = .map (some b)) (hx : a.eval x = .int .i64 (j : Int)) (hv : a.eval v = knV k)
    (hK : ∀ w', MapAt P kt w' b ((point j k).over M) → Keeps (oneB b) w w' → wpList P ops Q rest (a.put o.dst undef) w') : wpList P ops Q (o :: rest) a w := by
  refine wpList_plain hg fun K' hK' => ?_
  obtain ⟨w', hrun, r1, r2⟩ := h.update hk ht hj k
  unfold Oper.wp
  simp [execOp, hop, hm, hx, hv, hrun, Result.andThen]
  exact hK' _ _ (hK w' r1 r2)

set_option maxRecDepth 100000 in
set_option maxHeartbeats 4000000 in
theorem surV (k : Kn) (M : Notes) (w : World) (y m g b : Nat) (h : SurAt w y m M) (hb : b < 81) (hg : ∀ w1, Keeps (oneB m) w w1 → w1.cell? ⟨g, 0, none⟩ = some (.int .i64 (b : Int))) (K : Kn) (MF : Notes) (hMF : MF = ((point b k).over M))
    (hin : ∀ w1, Keeps (oneB m) w w1 → Calls Tryz.prog 71 #[knV k, .pointer (some ⟨g, 0, none⟩)] w1 (fun e w' => e = .returned (knV K) ∧ Keeps noB w1 w')) :
    Calls Tryz.prog 49 #[.pointer (some ⟨y, 0, none⟩), .iface 141 (.pointer (some ⟨g, 0, none⟩)), knV k] w (SurPost w m K MF) := by
  have HI := Lib.hid hin
  have hbeg := begV g
  simp [go_sem] at hbeg
  have a0 := isVV (.pointer (some ⟨g, 0, none⟩))
  have hml := h.map.lt
  have HS := Lib.hid (fun w1 q => surIn (w := w) (w1 := w1) (a := (k.may : Int)) (b := (k.must : Int)) h q)
  have HE := Lib.hid (fun w1 M' q (hm : MapAt Tryz.prog 3 w1 m M') x y => sur_end (w := w) (w1 := w1) (a := (k.may : Int)) (b := (k.must : Int)) hml q hm x y)
  have HM := Lib.hid h.map
  have HG := Lib.hid hg
  obtain ⟨km, ku⟩ := k
  subst hMF
  obtain ⟨rm, ru⟩ := K
  unfold knV at *
  simp only at *
  clear h hin hg
  go_enter Tryz.func49, Tryz.ntmps49
  go_wp2_with fail
  refine wp_region_still_tail 7 (by kernel_rfl) (by kernel_rfl) ?_
  simp only [List.take_succ_cons, List.take_zero, List.drop_succ_cons, List.drop_zero]
  change wpStill _ _ (World.drew _) (fun a' => wpList _ _ _ _ a' (World.drew _)) _ _
  have HD : Hid (Keeps (oneB m) ((w.alloc (.cells #[.int .u8 (km : Int), .int .u8 (ku : Int)] 111)).alloc (.cells #[.int .u8 0, .int .u8 0] 111)) (World.drew ((w.alloc (.cells #[.int .u8 (km : Int), .int .u8 (ku : Int)] 111)).alloc (.cells #[.int .u8 0, .int .u8 0] 111)))) := (Keeps.refl _ _).drew
  have HM0 : Hid (MapAt Tryz.prog 3 (World.drew ((w.alloc (.cells #[.int .u8 (km : Int), .int .u8 (ku : Int)] 111)).alloc (.cells #[.int .u8 0, .int .u8 0] 111))) m M) := HM.out.keeps ((((Keeps.refl noB w).alloc _).alloc _).drew) id
  clear HM
  generalize World.drew ((w.alloc (.cells #[.int .u8 (km : Int), .int .u8 (ku : Int)] 111)).alloc (.cells #[.int .u8 0, .int .u8 0] 111)) = w0 at *
  have hw0 := (HS.out w0 HD.out)
  have ⟨t0, t1, t2, t3, t4, t5, t6, t7, t8, t9⟩ := hw0
  have hg0 := HG.out w0 t0
  clear hw0 t0 t3 t4 t5 t6 t7 t8
  still_step
  still_step
  still_step
  still_step
  still_step
  still_call (begin_any g _ _ hg0)
  still_step
  refine wpStill_nil ?_
  clear t1 t2 t9 hg0
  refine wpList_noteMap _ rfl _ _ _ 70 rfl (kt := 3) Tryz.underlying3 Tryz.underlying70 HM0.out hb ⟨km, ku⟩ rfl rfl rfl ?_
  intro w2 hm2 q2
  have q2 := HD.out.trans q2
  have hh := HS.out w2 q2
  have ⟨s0, s1, s2, s3, s4, s5, s6, s7, s8, s9⟩ := hh
  have H2 := Lib.hid (And.intro hm2 (And.intro q2 s0))
  clear hm2 q2 hh s0 HM0 HD
  go_wp2_with (go_at_call 71; refine (HI.out _ H2.out.2.2).mono ?_; rintro e3 w3 ⟨rfl, q3⟩; have hm3 := H2.out.1.keeps q3 id; have q3 := H2.out.2.1.trans (q3.mono (fun _ e => e.elim)); have hh := HS.out w3 q3; have ⟨r0, r1, r2, r3, r4, r5, r6, r7, r8, r9⟩ := hh; have HF := Lib.hid (HE.out w3 _ q3 hm3 (.int .u8 (rm : Int)) (.int .u8 (ru : Int))); clear q3 hm3 hh r0)
  obtain ⟨f0, f1, f2, f3⟩ := HF.out
  exact bodyPost_ret (resKn Tryz.results49 _ (w.heap.size + 1) _ _ _ rfl f0 f1) rfl ⟨rfl, f2, f3⟩

set_option maxRecDepth 100000 in
set_option maxHeartbeats 4000000 in
theorem surL (k : Kn) (M : Notes) (w : World) (y m g b : Nat) (h : SurAt w y m M) (hb : b < 81) (hg : ∀ w1, Keeps (oneB m) w w1 → w1.cell? ⟨g, 0, none⟩ = some (.int .i64 (b : Int))) (K : Kn) (MF : Notes) (hMF : MF = ((point b k).over M)) (hK : K = Kn.no)
    (hin : True) :
    Calls Tryz.prog 49 #[.pointer (some ⟨y, 0, none⟩), .iface 107 (.pointer (some ⟨g, 0, none⟩)), knV k] w (SurPost w m K MF) := by
  have HI := Lib.hid hin
  have hbeg := begL g
  simp [go_sem] at hbeg
  have a0 := isLV (.pointer (some ⟨g, 0, none⟩))
  have a1 := isLL (.pointer (some ⟨g, 0, none⟩))
  have hml := h.map.lt
  have HS := Lib.hid (fun w1 q => surIn (w := w) (w1 := w1) (a := (k.may : Int)) (b := (k.must : Int)) h q)
  have HE := Lib.hid (fun w1 M' q (hm : MapAt Tryz.prog 3 w1 m M') x y => sur_end (w := w) (w1 := w1) (a := (k.may : Int)) (b := (k.must : Int)) hml q hm x y)
  have HM := Lib.hid h.map
  have HG := Lib.hid hg
  obtain ⟨km, ku⟩ := k
  subst hMF
  obtain ⟨rm, ru⟩ := K
  unfold knV at *
  simp only at *
  clear h hin hg
  go_enter Tryz.func49, Tryz.ntmps49
  go_wp2_with fail
  refine wp_region_still_tail 7 (by kernel_rfl) (by kernel_rfl) ?_
  simp only [List.take_succ_cons, List.take_zero, List.drop_succ_cons, List.drop_zero]
  change wpStill _ _ (World.drew _) (fun a' => wpList _ _ _ _ a' (World.drew _)) _ _
  have HD : Hid (Keeps (oneB m) ((w.alloc (.cells #[.int .u8 (km : Int), .int .u8 (ku : Int)] 111)).alloc (.cells #[.int .u8 0, .int .u8 0] 111)) (World.drew ((w.alloc (.cells #[.int .u8 (km : Int), .int .u8 (ku : Int)] 111)).alloc (.cells #[.int .u8 0, .int .u8 0] 111)))) := (Keeps.refl _ _).drew
  have HM0 : Hid (MapAt Tryz.prog 3 (World.drew ((w.alloc (.cells #[.int .u8 (km : Int), .int .u8 (ku : Int)] 111)).alloc (.cells #[.int .u8 0, .int .u8 0] 111))) m M) := HM.out.keeps ((((Keeps.refl noB w).alloc _).alloc _).drew) id
  clear HM
  generalize World.drew ((w.alloc (.cells #[.int .u8 (km : Int), .int .u8 (ku : Int)] 111)).alloc (.cells #[.int .u8 0, .int .u8 0] 111)) = w0 at *
  have hw0 := (HS.out w0 HD.out)
  have ⟨t0, t1, t2, t3, t4, t5, t6, t7, t8, t9⟩ := hw0
  have hg0 := HG.out w0 t0
  clear hw0 t0 t3 t4 t5 t6 t7 t8
  still_step
  still_step
  still_step
  still_step
  still_step
  still_call (begin_any g _ _ hg0)
  still_step
  refine wpStill_nil ?_
  clear t1 t2 t9 hg0
  refine wpList_noteMap _ rfl _ _ _ 70 rfl (kt := 3) Tryz.underlying3 Tryz.underlying70 HM0.out hb ⟨km, ku⟩ rfl rfl rfl ?_
  intro w2 hm2 q2
  have q2 := HD.out.trans q2
  have hh := HS.out w2 q2
  have ⟨s0, s1, s2, s3, s4, s5, s6, s7, s8, s9⟩ := hh
  have H2 := Lib.hid (And.intro hm2 (And.intro q2 s0))
  clear hm2 q2 hh s0 HM0 HD
  go_wp2_with (go_at_call 67; refine (nowhere_any _).mono ?_; rintro e3 w3 ⟨he3, q3⟩; unfold knV at he3; rw [show Kn.no = ⟨rm, ru⟩ from hK.symm] at he3; obtain rfl := he3; have hm3 := H2.out.1.keeps q3 id; have q3 := H2.out.2.1.trans (q3.mono (fun _ e => e.elim)); have hh := HS.out w3 q3; have ⟨r0, r1, r2, r3, r4, r5, r6, r7, r8, r9⟩ := hh; have HF := Lib.hid (HE.out w3 _ q3 hm3 (.int .u8 (rm : Int)) (.int .u8 (ru : Int))); clear q3 hm3 hh r0)
  obtain ⟨f0, f1, f2, f3⟩ := HF.out
  exact bodyPost_ret (resKn Tryz.results49 _ (w.heap.size + 1) _ _ _ rfl f0 f1) rfl ⟨rfl, f2, f3⟩

set_option maxRecDepth 100000 in
set_option maxHeartbeats 4000000 in
theorem surO (k : Kn) (M : Notes) (w : World) (y m g b : Nat) (h : SurAt w y m M) (hb : b < 81) (hg : ∀ w1, Keeps (oneB m) w w1 → w1.cell? ⟨g, 0, none⟩ = some (.int .i64 (b : Int))) (K : Kn) (MF : Notes)
    (hin : ∀ w1, Keeps (oneB m) w w1 → MapAt Tryz.prog 3 w1 m ((point b k).over M) → Calls Tryz.prog 74 #[.pointer (some ⟨y, 0, none⟩), .pointer (some ⟨g, 0, none⟩), knV k] w1 (SurPost w1 m K MF)) :
    Calls Tryz.prog 49 #[.pointer (some ⟨y, 0, none⟩), .iface 150 (.pointer (some ⟨g, 0, none⟩)), knV k] w (SurPost w m K MF) := by
  have HI := Lib.hid hin
  have hbeg := begO g
  simp [go_sem] at hbeg
  have a0 := isOV (.pointer (some ⟨g, 0, none⟩))
  have a1 := isOL (.pointer (some ⟨g, 0, none⟩))
  have a2 := isOB (.pointer (some ⟨g, 0, none⟩))
  have a3 := isOO (.pointer (some ⟨g, 0, none⟩))
  have hml := h.map.lt
  have HS := Lib.hid (fun w1 q => surIn (w := w) (w1 := w1) (a := (k.may : Int)) (b := (k.must : Int)) h q)
  have HE := Lib.hid (fun w1 M' q (hm : MapAt Tryz.prog 3 w1 m M') x y => sur_end (w := w) (w1 := w1) (a := (k.may : Int)) (b := (k.must : Int)) hml q hm x y)
  have HM := Lib.hid h.map
  have HG := Lib.hid hg
  obtain ⟨km, ku⟩ := k
  obtain ⟨rm, ru⟩ := K
  unfold knV at *
  simp only at *
  clear h hin hg
  go_enter Tryz.func49, Tryz.ntmps49
  go_wp2_with fail
  refine wp_region_still_tail 7 (by kernel_rfl) (by kernel_rfl) ?_
  simp only [List.take_succ_cons, List.take_zero, List.drop_succ_cons, List.drop_zero]
  change wpStill _ _ (World.drew _) (fun a' => wpList _ _ _ _ a' (World.drew _)) _ _
  have HD : Hid (Keeps (oneB m) ((w.alloc (.cells #[.int .u8 (km : Int), .int .u8 (ku : Int)] 111)).alloc (.cells #[.int .u8 0, .int .u8 0] 111)) (World.drew ((w.alloc (.cells #[.int .u8 (km : Int), .int .u8 (ku : Int)] 111)).alloc (.cells #[.int .u8 0, .int .u8 0] 111)))) := (Keeps.refl _ _).drew
  have HM0 : Hid (MapAt Tryz.prog 3 (World.drew ((w.alloc (.cells #[.int .u8 (km : Int), .int .u8 (ku : Int)] 111)).alloc (.cells #[.int .u8 0, .int .u8 0] 111))) m M) := HM.out.keeps ((((Keeps.refl noB w).alloc _).alloc _).drew) id
  clear HM
  generalize World.drew ((w.alloc (.cells #[.int .u8 (km : Int), .int .u8 (ku : Int)] 111)).alloc (.cells #[.int .u8 0, .int .u8 0] 111)) = w0 at *
  have hw0 := (HS.out w0 HD.out)
  have ⟨t0, t1, t2, t3, t4, t5, t6, t7, t8, t9⟩ := hw0
  have hg0 := HG.out w0 t0
  clear hw0 t0 t3 t4 t5 t6 t7 t8
  still_step
  still_step
  still_step
  still_step
  still_step
  still_call (begin_any g _ _ hg0)
  still_step
  refine wpStill_nil ?_
  clear t1 t2 t9 hg0
  refine wpList_noteMap _ rfl _ _ _ 70 rfl (kt := 3) Tryz.underlying3 Tryz.underlying70 HM0.out hb ⟨km, ku⟩ rfl rfl rfl ?_
  intro w2 hm2 q2
  have q2 := HD.out.trans q2
  have hh := HS.out w2 q2
  have ⟨s0, s1, s2, s3, s4, s5, s6, s7, s8, s9⟩ := hh
  have H2 := Lib.hid (And.intro hm2 (And.intro q2 s0))
  clear hm2 q2 hh s0 HM0 HD
  go_wp2_with (go_at_call 74; refine (HI.out _ H2.out.2.2 H2.out.1).mono ?_; rintro e3 w3 ⟨he3, hm3, q3⟩; unfold knV at he3; obtain rfl := he3; have q3 := H2.out.2.1.trans q3; have hh := HS.out w3 q3; have ⟨r0, r1, r2, r3, r4, r5, r6, r7, r8, r9⟩ := hh; have HF := Lib.hid (HE.out w3 _ q3 hm3 (.int .u8 (rm : Int)) (.int .u8 (ru : Int))); clear q3 hm3 hh r0)
  obtain ⟨f0, f1, f2, f3⟩ := HF.out
  exact bodyPost_ret (resKn Tryz.results49 _ (w.heap.size + 1) _ _ _ rfl f0 f1) rfl ⟨rfl, f2, f3⟩

set_option maxRecDepth 100000 in
set_option maxHeartbeats 4000000 in
theorem surS (k : Kn) (M : Notes) (w : World) (y m g b : Nat) (h : SurAt w y m M) (hb : b < 81) (hg : ∀ w1, Keeps (oneB m) w w1 → w1.cell? ⟨g, 0, none⟩ = some (.int .i64 (b : Int))) (K : Kn) (MF : Notes)
    (hin : ∀ w1, Keeps (oneB m) w w1 → MapAt Tryz.prog 3 w1 m ((point b k).over M) → Calls Tryz.prog 75 #[.pointer (some ⟨y, 0, none⟩), .pointer (some ⟨g, 0, none⟩), knV k] w1 (SurPost w1 m K MF)) :
    Calls Tryz.prog 49 #[.pointer (some ⟨y, 0, none⟩), .iface 64 (.pointer (some ⟨g, 0, none⟩)), knV k] w (SurPost w m K MF) := by
  have HI := Lib.hid hin
  have hbeg := begS g
  simp [go_sem] at hbeg
  have a0 := isSV (.pointer (some ⟨g, 0, none⟩))
  have a1 := isSL (.pointer (some ⟨g, 0, none⟩))
  have a2 := isSB (.pointer (some ⟨g, 0, none⟩))
  have a3 := isSO (.pointer (some ⟨g, 0, none⟩))
  have a4 := isSS (.pointer (some ⟨g, 0, none⟩))
  have hml := h.map.lt
  have HS := Lib.hid (fun w1 q => surIn (w := w) (w1 := w1) (a := (k.may : Int)) (b := (k.must : Int)) h q)
  have HE := Lib.hid (fun w1 M' q (hm : MapAt Tryz.prog 3 w1 m M') x y => sur_end (w := w) (w1 := w1) (a := (k.may : Int)) (b := (k.must : Int)) hml q hm x y)
  have HM := Lib.hid h.map
  have HG := Lib.hid hg
  obtain ⟨km, ku⟩ := k
  obtain ⟨rm, ru⟩ := K
  unfold knV at *
  simp only at *
  clear h hin hg
  go_enter Tryz.func49, Tryz.ntmps49
  go_wp2_with fail
  refine wp_region_still_tail 7 (by kernel_rfl) (by kernel_rfl) ?_
  simp only [List.take_succ_cons, List.take_zero, List.drop_succ_cons, List.drop_zero]
  change wpStill _ _ (World.drew _) (fun a' => wpList _ _ _ _ a' (World.drew _)) _ _
  have HD : Hid (Keeps (oneB m) ((w.alloc (.cells #[.int .u8 (km : Int), .int .u8 (ku : Int)] 111)).alloc (.cells #[.int .u8 0, .int .u8 0] 111)) (World.drew ((w.alloc (.cells #[.int .u8 (km : Int), .int .u8 (ku : Int)] 111)).alloc (.cells #[.int .u8 0, .int .u8 0] 111)))) := (Keeps.refl _ _).drew
  have HM0 : Hid (MapAt Tryz.prog 3 (World.drew ((w.alloc (.cells #[.int .u8 (km : Int), .int .u8 (ku : Int)] 111)).alloc (.cells #[.int .u8 0, .int .u8 0] 111))) m M) := HM.out.keeps ((((Keeps.refl noB w).alloc _).alloc _).drew) id
  clear HM
  generalize World.drew ((w.alloc (.cells #[.int .u8 (km : Int), .int .u8 (ku : Int)] 111)).alloc (.cells #[.int .u8 0, .int .u8 0] 111)) = w0 at *
  have hw0 := (HS.out w0 HD.out)
  have ⟨t0, t1, t2, t3, t4, t5, t6, t7, t8, t9⟩ := hw0
  have hg0 := HG.out w0 t0
  clear hw0 t0 t3 t4 t5 t6 t7 t8
  still_step
  still_step
  still_step
  still_step
  still_step
  still_call (begin_any g _ _ hg0)
  still_step
  refine wpStill_nil ?_
  clear t1 t2 t9 hg0
  refine wpList_noteMap _ rfl _ _ _ 70 rfl (kt := 3) Tryz.underlying3 Tryz.underlying70 HM0.out hb ⟨km, ku⟩ rfl rfl rfl ?_
  intro w2 hm2 q2
  have q2 := HD.out.trans q2
  have hh := HS.out w2 q2
  have ⟨s0, s1, s2, s3, s4, s5, s6, s7, s8, s9⟩ := hh
  have H2 := Lib.hid (And.intro hm2 (And.intro q2 s0))
  clear hm2 q2 hh s0 HM0 HD
  go_wp2_with (go_at_call 75; refine (HI.out _ H2.out.2.2 H2.out.1).mono ?_; rintro e3 w3 ⟨he3, hm3, q3⟩; unfold knV at he3; obtain rfl := he3; have q3 := H2.out.2.1.trans q3; have hh := HS.out w3 q3; have ⟨r0, r1, r2, r3, r4, r5, r6, r7, r8, r9⟩ := hh; have HF := Lib.hid (HE.out w3 _ q3 hm3 (.int .u8 (rm : Int)) (.int .u8 (ru : Int))); clear q3 hm3 hh r0)
  obtain ⟨f0, f1, f2, f3⟩ := HF.out
  exact bodyPost_ret (resKn Tryz.results49 _ (w.heap.size + 1) _ _ _ rfl f0 f1) rfl ⟨rfl, f2, f3⟩

end Go.Proofs.YtkfcgamdlckncaaGreat

namespace Go.Proofs.YtkfcgamdlckncaaGreat
set_option linter.unusedVariables false
set_option linter.unusedSimpArgs false
open Go.RowKit

/-- What a step's walk says. -/
def SurC (z : Nd) : Prop := ∀ (k : Kn) (M : Notes) (w : World) (ok : Nat → Prop) (y m : Nat) (v : Value), RepI w ok z v → (∀ g, ok g → g ≠ m) → SurAt w y m M → k.Wf →
  Calls Tryz.prog 49 #[.pointer (some ⟨y, 0, none⟩), v, knV k] w (SurPost w m (z.know k) ((z.note k).over M))

/-- A function's two boxes, wherever it stands. -/
structure SurBox (w w1 : World) (k : Kn) (y m : Nat) : Prop where
  q : Keeps (oneB m) w w1
  lt : m < w.heap.size
  bA : Blk w1 w.heap.size #[.int .u8 (k.may : Int), .int .u8 (k.must : Int)] 111
  bB : Blk w1 (w.heap.size + 1) #[.int .u8 0, .int .u8 0] 111
  bY : Blk w1 y #[.map (some m)] 118
  ne : y ≠ m
  yl : y < w.heap.size

theorem SurBox.start {w w1 : World} {k : Kn} {y m : Nat} {M : Notes} (h : SurAt w y m M) (q : Keeps (oneB m) ((w.alloc (.cells #[.int .u8 (k.may : Int), .int .u8 (k.must : Int)] 111)).alloc (.cells #[.int .u8 0, .int .u8 0] 111)) w1) : SurBox w w1 k y m := by
  obtain ⟨q0, bA, bB⟩ := two_blk h.map.lt q
  exact ⟨q0, h.map.lt, bA, bB, q0.blk h.blk h.ne, h.ne, h.blk.lt⟩
theorem SurBox.keeps {w w1 w2 : World} {k : Kn} {y m : Nat} (h : SurBox w w1 k y m) (q : Keeps (oneB m) w1 w2) : SurBox w w2 k y m := by
  have := h.lt
  exact ⟨h.q.trans q, h.lt, q.blk h.bA (fun e => by have : w.heap.size = m := e; omega), q.blk h.bB (fun e => by have : w.heap.size + 1 = m := e; omega), q.blk h.bY h.ne, h.ne, h.yl⟩
theorem SurBox.quiet {w w1 w2 : World} {k : Kn} {y m : Nat} (h : SurBox w w1 k y m) (q : Keeps noB w1 w2) : SurBox w w2 k y m := h.keeps (q.mono (fun _ e => e.elim))
/-- What is known is stored. -/
theorem SurBox.store {w w1 : World} {k : Kn} {y m : Nat} (h : SurBox w w1 k y m) (t : Kn) : SurBox w ((w1.setCell ⟨w.heap.size, 0, none⟩ (.int .u8 (t.may : Int))).setCell ⟨w.heap.size, 1, none⟩ (.int .u8 (t.must : Int))) t y m := by
  have hl := h.lt
  have hy := h.yl
  have q : Keeps (oneB w.heap.size) w1 ((w1.setCell ⟨w.heap.size, 0, none⟩ (.int .u8 (t.may : Int))).setCell ⟨w.heap.size, 1, none⟩ (.int .u8 (t.must : Int))) := ((Keeps.refl (oneB w.heap.size) w1).setCell (p := ⟨w.heap.size, 0, none⟩) (.inl rfl) _).setCell (p := ⟨w.heap.size, 1, none⟩) (.inl rfl) _
  refine ⟨(h.q.setCell (.inr (Nat.le_refl _)) _).setCell (.inr (Nat.le_refl _)) _, h.lt, ?_, q.blk h.bB (fun e => by have : w.heap.size + 1 = w.heap.size := e; omega), q.blk h.bY (fun e => by have : y = w.heap.size := e; omega), h.ne, h.yl⟩
  exact (h.bA.set 0 _).set 1 _
theorem SurBox.map {w w1 : World} {k : Kn} {y m : Nat} {M : Notes} (h : SurBox w w1 k y m) (hm : MapAt Tryz.prog 3 w1 m M) (u v : Value) : MapAt Tryz.prog 3 ((w1.setCell ⟨w.heap.size, 0, none⟩ u).setCell ⟨w.heap.size, 1, none⟩ v) m M := by
  have hl := h.lt
  have q : Keeps (oneB w.heap.size) w1 ((w1.setCell ⟨w.heap.size, 0, none⟩ u).setCell ⟨w.heap.size, 1, none⟩ v) := ((Keeps.refl (oneB w.heap.size) w1).setCell (p := ⟨w.heap.size, 0, none⟩) (.inl rfl) _).setCell (p := ⟨w.heap.size, 1, none⟩) (.inl rfl) _
  exact hm.keeps q (fun e => by have : m = w.heap.size := e; omega)

/-- The cells that a function reads. -/
def SurCells (w w1 : World) (a b : Int) (y m : Nat) : Prop :=
  w1.cell? ⟨w.heap.size, 0, none⟩ = some (.int .u8 a) ∧ w1.cell? ⟨w.heap.size, 1, none⟩ = some (.int .u8 b) ∧ w1.cell? ⟨w.heap.size + 1, 0, none⟩ = some (.int .u8 0) ∧ w1.cell? ⟨w.heap.size + 1, 1, none⟩ = some (.int .u8 0) ∧
  w1.frozen? ⟨w.heap.size, 0, none⟩ = false ∧ w1.frozen? ⟨w.heap.size, 1, none⟩ = false ∧ w1.frozen? ⟨w.heap.size + 1, 0, none⟩ = false ∧ w1.frozen? ⟨w.heap.size + 1, 1, none⟩ = false ∧ w1.cell? ⟨y, 0, none⟩ = some (.map (some m))
theorem SurBox.cells {w w1 : World} {k : Kn} {y m : Nat} (h : SurBox w w1 k y m) : SurCells w w1 (k.may : Int) (k.must : Int) y m :=
  ⟨(h.bA.cell 0).trans rfl, (h.bA.cell 1).trans rfl, (h.bB.cell 0).trans rfl, (h.bB.cell 1).trans rfl, h.bA.free 0, h.bA.free 1, h.bB.free 0, h.bB.free 1, (h.bY.cell 0).trans rfl⟩
/-- The answer is stored. -/
theorem SurBox.done {w w1 : World} {k : Kn} {y m : Nat} {M : Notes} (h : SurBox w w1 k y m) (hm : MapAt Tryz.prog 3 w1 m M) (u v : Value) :
    ((w1.setCell ⟨w.heap.size + 1, 0, none⟩ u).setCell ⟨w.heap.size + 1, 1, none⟩ v).cell? ⟨w.heap.size + 1, 0, none⟩ = some u ∧ ((w1.setCell ⟨w.heap.size + 1, 0, none⟩ u).setCell ⟨w.heap.size + 1, 1, none⟩ v).cell? ⟨w.heap.size + 1, 1, none⟩ = some v ∧
    MapAt Tryz.prog 3 ((w1.setCell ⟨w.heap.size + 1, 0, none⟩ u).setCell ⟨w.heap.size + 1, 1, none⟩ v) m M ∧ Keeps (oneB m) w ((w1.setCell ⟨w.heap.size + 1, 0, none⟩ u).setCell ⟨w.heap.size + 1, 1, none⟩ v) := by
  have hl := h.lt
  obtain ⟨e0, e1⟩ := cell_set2 ((h.bB.cell 0).trans rfl) ((h.bB.cell 1).trans rfl) u v
  have qs : Keeps (oneB (w.heap.size + 1)) w1 ((w1.setCell ⟨w.heap.size + 1, 0, none⟩ u).setCell ⟨w.heap.size + 1, 1, none⟩ v) := ((Keeps.refl (oneB (w.heap.size + 1)) w1).setCell (p := ⟨w.heap.size + 1, 0, none⟩) (.inl rfl) u).setCell (p := ⟨w.heap.size + 1, 1, none⟩) (.inl rfl) v
  exact ⟨e0, e1, hm.keeps qs (fun e => by have : m = w.heap.size + 1 := e; omega), (h.q.setCell (.inr (by show w.heap.size ≤ w.heap.size + 1; omega)) u).setCell (.inr (by show w.heap.size ≤ w.heap.size + 1; omega)) v⟩

/-- What the loop over steps holds. -/
def SurLoop (w : World) (y m : Nat) (x : Nds) (K : Kn) (MF : Notes) (v11 : Value) (wr : World) : Prop :=
  ∃ (pre : List Nd) (rest : Nds) (kt : Kn) (Mt : Notes), x.list = pre ++ rest.list ∧ v11 = .int .i64 (pre.length : Int) ∧ Nds.know rest kt = K ∧ (Nds.note rest kt).over Mt = MF ∧ kt.Wf ∧ SurBox w wr kt y m ∧ MapAt Tryz.prog 3 wr m Mt

set_option maxRecDepth 100000 in
set_option maxHeartbeats 4000000 in
theorem surSteps_any (x : Nds) (k : Kn) (M : Notes) (w : World) (ok : Nat → Prop) (y m n : Nat) (v : Value) (xs : List Value) (hrow : Row w ok 104 1 v n xs) (hrep : RepIL w ok x xs)
    (hok : ∀ g, ok g → g ≠ m) (h : SurAt w y m M) (hk : k.Wf) (hn : n ≤ 4000) (hstep : ∀ z ∈ x.list, SurC z ∧ Steady z.know) :
    Calls Tryz.prog 72 #[.pointer (some ⟨y, 0, none⟩), v, knV k] w (SurPost w m (x.know k) ((x.note k).over M)) := by
  obtain ⟨a, c, rfl⟩ := row_shape hrow
  have hnx : n = x.list.length := by
    have h1 := (RepIL.nth hrep).1
    have h2 := hrow.1.1
    omega
  have HP : Hid (SurLoop w y m x (x.know k) ((x.note k).over M) (.int .i64 0) ((w.alloc (.cells #[.int .u8 (k.may : Int), .int .u8 (k.must : Int)] 111)).alloc (.cells #[.int .u8 0, .int .u8 0] 111))) :=
    ⟨[], x, k, M, rfl, rfl, rfl, rfl, hk, SurBox.start h (Keeps.refl _ _), (h.map.keeps ((Keeps.refl noB w).alloc _) id).keeps ((Keeps.refl noB _).alloc _) id⟩
  have HG := Lib.hid (And.intro hrow (And.intro hrep (And.intro hok hstep)))
  have HNX := Lib.hid hnx
  generalize x.know k = K at *
  generalize (x.note k).over M = MF at *
  obtain ⟨km, ku⟩ := k
  unfold knV at *
  simp only at *
  clear hrow hrep hok h hk hnx hstep
  go_enter Tryz.func72, Tryz.ntmps72
  go_wp2_with fail
  go_loopw [11] (fun v11 wr => SurLoop w y m x K MF v11 wr) (fun v11 _ => n - (intOf v11).toNat)
  case atStart => exact HP.out
  case round =>
    clear HP
    obtain ⟨pre, rest, kt, Mt, hpp, rfl, hkn, hnt, hkw, hbx, hmp⟩ := hrel
    have hpl := congrArg List.length hpp
    rw [List.length_append, ← HNX.out] at hpl
    have ⟨t0, t1, t2, t3, t4, t5, t6, t7, t8⟩ := hbx.cells
    cases rest with
    | nil =>
      have hd : ¬ pre.length < n := by simp [Nds.list] at hpl; omega
      rw [Nds.know] at hkn
      rw [Nds.note] at hnt
      have e1 : Mt = MF := hnt
      subst hkn e1
      obtain ⟨tm, tu⟩ := kt
      have HF := Lib.hid (hbx.done hmp (.int .u8 (tm : Int)) (.int .u8 (tu : Int)))
      clear hpp hkw hbx hmp hpl hnt
      simp only at t0 t1
      go_wp2_with fail
      obtain ⟨f0, f1, f2, f3⟩ := HF.out
      exact bodyPost_ret (resKn Tryz.results72 _ (w.heap.size + 1) _ _ _ rfl f0 f1) rfl ⟨rfl, f2, f3⟩
    | cons z r =>
      obtain ⟨hrow, hrep, hok, hstep⟩ := HG.out
      have hd : pre.length < n := by simp [Nds.list] at hpl; omega
      have hh : Hands w wr ok ok := Hands.of_keeps hbx.q (fun g hg _ => hok g hg) (fun g hg _ => hg)
      have hrow1 := hh.row _ _ _ _ _ hrow
      have hrep1 := Hands.repIL hh x xs hrep
      obtain ⟨g0, c0, hv, hg1, hg2, hcell⟩ := row_get hrow1 (by omega)
      obtain ⟨rfl, rfl⟩ : a = some ⟨g0, 0, none⟩ ∧ c = c0 := by simpa using hv
      obtain ⟨hll, hnth⟩ := RepIL.nth hrep1
      obtain ⟨u, hu, hzu⟩ := hnth pre.length z (by rw [hpp]; simp [Nds.list])
      have s0 := hcell _ _ hu
      obtain ⟨tz, gz, rfl⟩ := rep_iface _ _ _ _ hzu
      obtain ⟨hzc, hzs⟩ := hstep z (by rw [hpp]; simp [Nds.list])
      have HS := Lib.hid (hzc kt Mt wr ok y m _ hzu hok ⟨hbx.bY, hbx.ne, hmp⟩ hkw)
      rw [Nds.know] at hkn
      rw [Nds.note, over_assoc] at hnt
      have HN : Hid (∀ w3, MapAt Tryz.prog 3 w3 m ((z.note kt).over Mt) → Keeps (oneB m) wr w3 → SurCells w w3 (kt.may : Int) (kt.must : Int) y m ∧ SurLoop w y m x K MF (.int .i64 ((pre.length : Int) + 1)) ((w3.setCell ⟨w.heap.size, 0, none⟩ (.int .u8 ((z.know kt).may : Int))).setCell ⟨w.heap.size, 1, none⟩ (.int .u8 ((z.know kt).must : Int)))) := by
        intro w3 hm3 q3
        have hb3 := hbx.keeps q3
        exact ⟨hb3.cells, pre ++ [z], r, z.know kt, _, by rw [hpp]; simp [Nds.list], by simp, hkn, hnt, hzs.wf kt hkw, hb3.store _, hb3.map hm3 _ _⟩
      generalize z.know kt = kz at *
      obtain ⟨tm, tu⟩ := kt
      obtain ⟨zm, zu⟩ := kz
      simp only at t0 t1
      clear hrow hrep hok hstep hpp hpl hrow1 hrep1 hcell hnth hu hzu hzc hzs hkn hnt hkw hbx hmp hh hv hll HG
      unfold ptr at HS s0
      unfold knV at HS
      simp only at HN HS
      go_wp2_with (go_at_call 49; refine HS.out.mono ?_; rintro e3 w3 ⟨he3, hm3, q3⟩; unfold knV at he3; obtain rfl := he3; have hh := HN.out w3 hm3 q3; have ⟨⟨r0, r1, r2, r3, r4, r5, r6, r7, r8⟩, hl⟩ := hh; have HL := Lib.hid hl; clear hm3 q3 hh hl)
      go_roundw
      case rel => exact HL.out
      case measure => simp [intOf]; omega

end Go.Proofs.YtkfcgamdlckncaaGreat

/-
  Walks of the program's survey: a step by its type.
-/
import Derived.Test.YtlilkmemgomnjaaVd
import Derived.Test.YtlilkmemgomnjaaIk
import Derived.Maps.OwnOps
import Derived.StillTailTactics
namespace Go.Proofs.Ytlilkmemgomnjaa
set_option linter.unusedVariables false
set_option linter.unusedSimpArgs false
open Go.RowKit

/-- How a call ends that leaves the map with these notes. -/
def SurPost (w : World) (m : Nat) (K : Kn) (M : Notes) (e : Ending) (w' : World) : Prop :=
  e = .returned (knV K) ∧ MapAt Try.prog 3 w' m M ∧ Keeps (oneB m) w w'

/-- The survey's two blocks. -/
structure SurAt (w : World) (y m : Nat) (M : Notes) : Prop where
  blk : Blk w y #[.map (some m)] 139
  ne : y ≠ m
  map : MapAt Try.prog 3 w m M

theorem SurAt.keeps {w w1 : World} {y m : Nat} {M M' : Notes} (h : SurAt w y m M) (q : Keeps (oneB m) w w1) (hm : MapAt Try.prog 3 w1 m M') : SurAt w1 y m M' :=
  ⟨q.blk h.blk h.ne, h.ne, hm⟩

/-- What a function of the survey has at hand: its two boxes, and the survey. -/
structure SurIn (w w1 : World) (a b : Int) (y m : Nat) : Prop where
  q : Keeps (oneB m) w w1
  a0 : w1.cell? ⟨w.heap.size, 0, none⟩ = some (.int .u8 a)
  a1 : w1.cell? ⟨w.heap.size, 1, none⟩ = some (.int .u8 b)
  b0 : w1.cell? ⟨w.heap.size + 1, 0, none⟩ = some (.int .u8 0)
  b1 : w1.cell? ⟨w.heap.size + 1, 1, none⟩ = some (.int .u8 0)
  c0 : w1.frozen? ⟨w.heap.size, 0, none⟩ = false
  c1 : w1.frozen? ⟨w.heap.size, 1, none⟩ = false
  z0 : w1.frozen? ⟨w.heap.size + 1, 0, none⟩ = false
  z1 : w1.frozen? ⟨w.heap.size + 1, 1, none⟩ = false
  y0 : w1.cell? ⟨y, 0, none⟩ = some (.map (some m))

theorem two_blk {w w1 : World} {a b : Int} {m : Nat} (hm : m < w.heap.size) (q : Keeps (oneB m) ((w.alloc (.cells #[.int .u8 a, .int .u8 b] 81)).alloc (.cells #[.int .u8 0, .int .u8 0] 81)) w1) :
    Keeps (oneB m) w w1 ∧ Blk w1 w.heap.size #[.int .u8 a, .int .u8 b] 81 ∧ Blk w1 (w.heap.size + 1) #[.int .u8 0, .int .u8 0] 81 := by
  have hA := (Blk.new w #[.int .u8 a, .int .u8 b] 81).alloc (.cells #[.int .u8 0, .int .u8 0] 81)
  have hB := Blk.new (w.alloc (.cells #[.int .u8 a, .int .u8 b] 81)) #[.int .u8 0, .int .u8 0] 81
  have hZ : (w.alloc (.cells #[.int .u8 a, .int .u8 b] 81)).heap.size = w.heap.size + 1 := by simp only [World.alloc, Array.size_push]
  rw [hZ] at hB
  exact ⟨(((Keeps.refl _ w).alloc _).alloc _).trans q, q.blk hA (fun e => by have : w.heap.size = m := e; omega), q.blk hB (fun e => by have : w.heap.size + 1 = m := e; omega)⟩

theorem surIn {w w1 : World} {a b : Int} {y m : Nat} {M : Notes} (h : SurAt w y m M) (q : Keeps (oneB m) ((w.alloc (.cells #[.int .u8 a, .int .u8 b] 81)).alloc (.cells #[.int .u8 0, .int .u8 0] 81)) w1) : SurIn w w1 a b y m := by
  have hm := h.map.lt
  obtain ⟨q0, bA, bB⟩ := two_blk hm q
  have bY := q0.blk h.blk h.ne
  exact ⟨q0, (bA.cell 0).trans rfl, (bA.cell 1).trans rfl, (bB.cell 0).trans rfl, (bB.cell 1).trans rfl, bA.free 0, bA.free 1, bB.free 0, bB.free 1, (bY.cell 0).trans rfl⟩

/-- The answer is stored. -/
theorem sur_end {w w1 : World} {a b : Int} {m : Nat} {M : Notes} (hm : m < w.heap.size) (q : Keeps (oneB m) ((w.alloc (.cells #[.int .u8 a, .int .u8 b] 81)).alloc (.cells #[.int .u8 0, .int .u8 0] 81)) w1) (h : MapAt Try.prog 3 w1 m M) (x y : Value) :
    ((w1.setCell ⟨w.heap.size + 1, 0, none⟩ x).setCell ⟨w.heap.size + 1, 1, none⟩ y).cell? ⟨w.heap.size + 1, 0, none⟩ = some x ∧ ((w1.setCell ⟨w.heap.size + 1, 0, none⟩ x).setCell ⟨w.heap.size + 1, 1, none⟩ y).cell? ⟨w.heap.size + 1, 1, none⟩ = some y ∧
    MapAt Try.prog 3 ((w1.setCell ⟨w.heap.size + 1, 0, none⟩ x).setCell ⟨w.heap.size + 1, 1, none⟩ y) m M ∧ Keeps (oneB m) w ((w1.setCell ⟨w.heap.size + 1, 0, none⟩ x).setCell ⟨w.heap.size + 1, 1, none⟩ y) := by
  obtain ⟨q0, bA, bB⟩ := two_blk hm q
  obtain ⟨e0, e1⟩ := cell_set2 ((bB.cell 0).trans rfl) ((bB.cell 1).trans rfl) x y
  have qs : Keeps (oneB (w.heap.size + 1)) w1 ((w1.setCell ⟨w.heap.size + 1, 0, none⟩ x).setCell ⟨w.heap.size + 1, 1, none⟩ y) := ((Keeps.refl (oneB (w.heap.size + 1)) w1).setCell (p := ⟨w.heap.size + 1, 0, none⟩) (.inl rfl) x).setCell (p := ⟨w.heap.size + 1, 1, none⟩) (.inl rfl) y
  exact ⟨e0, e1, h.keeps qs (fun e => by have : m = w.heap.size + 1 := e; omega), (q0.setCell (.inr (by show w.heap.size ≤ w.heap.size + 1; omega)) x).setCell (.inr (by show w.heap.size ≤ w.heap.size + 1; omega)) y⟩

/-- 'm[k] = v' at the operation. -/
theorem wpList_noteMap {P : Program} (w : World) {ops : Array Oper} {rest : List Oper} {o : Oper} {a : Act} {Q : Exit → Act → World → Prop} (hg : o.guard = none) (m x v : Operand) (t : TypeId) (hop : o.op = Op.mapUpdate t m x v) {kt e : TypeId} (hk : P.underlying kt = some (.int .i64)) (ht : P.underlying t = some (.map kt e)) {b : Nat} {M : Notes} (h : MapAt P kt w b M) {j : Nat} (hj : j < 81) (k : Kn)
    (hm : a.eval m = .map (some b)) (hx : a.eval x = .int .i64 (j : Int)) (hv : a.eval v = knV k)
    (hK : ∀ w', MapAt P kt w' b ((point j k).over M) → Keeps (oneB b) w w' → wpList P ops Q rest (a.put o.dst undef) w') : wpList P ops Q (o :: rest) a w := by
  refine wpList_plain hg fun K' hK' => ?_
  obtain ⟨w', hrun, r1, r2⟩ := h.update hk ht hj k
  unfold Oper.wp
  simp [execOp, hop, hm, hx, hv, hrun, Result.andThen]
  exact hK' _ _ (hK w' r1 r2)

set_option maxRecDepth 100000 in
set_option maxHeartbeats 4000000 in
theorem surV (k : Kn) (M : Notes) (w : World) (y m g b : Nat) (h : SurAt w y m M) (hb : b < 81) (hg : ∀ w1, Keeps (oneB m) w w1 → w1.cell? ⟨g, 0, none⟩ = some (.int .i64 (b : Int))) (K : Kn) (MF : Notes) (hMF : MF = ((point b k).over M))
    (hin : ∀ w1, Keeps (oneB m) w w1 → Calls Try.prog 119 #[knV k, .pointer (some ⟨g, 0, none⟩)] w1 (fun e w' => e = .returned (knV K) ∧ Keeps noB w1 w')) :
    Calls Try.prog 99 #[.pointer (some ⟨y, 0, none⟩), .iface 159 (.pointer (some ⟨g, 0, none⟩)), knV k] w (SurPost w m K MF) := by
  have HI := Lib.hid hin
  have hbeg := begV g
  simp [go_sem] at hbeg
  have a0 := isVV (.pointer (some ⟨g, 0, none⟩))
  have hml := h.map.lt
  have HS := Lib.hid (fun w1 q => surIn (w := w) (w1 := w1) (a := (k.may : Int)) (b := (k.must : Int)) h q)
  have HE := Lib.hid (fun w1 M' q (hm : MapAt Try.prog 3 w1 m M') x y => sur_end (w := w) (w1 := w1) (a := (k.may : Int)) (b := (k.must : Int)) hml q hm x y)
  have HM := Lib.hid h.map
  have HG := Lib.hid hg
  obtain ⟨km, ku⟩ := k
  subst hMF
  obtain ⟨rm, ru⟩ := K
  unfold knV at *
  simp only at *
  clear h hin hg
  go_enter Try.func99, Try.ntmps99
  go_wp2_with fail
  refine wp_region_still_tail 7 (by kernel_rfl) (by kernel_rfl) ?_
  simp only [List.take_succ_cons, List.take_zero, List.drop_succ_cons, List.drop_zero]
  change wpStill _ _ (World.drew _) (fun a' => wpList _ _ _ _ a' (World.drew _)) _ _
  have HD : Hid (Keeps (oneB m) ((w.alloc (.cells #[.int .u8 (km : Int), .int .u8 (ku : Int)] 81)).alloc (.cells #[.int .u8 0, .int .u8 0] 81)) (World.drew ((w.alloc (.cells #[.int .u8 (km : Int), .int .u8 (ku : Int)] 81)).alloc (.cells #[.int .u8 0, .int .u8 0] 81)))) := (Keeps.refl _ _).drew
  have HM0 : Hid (MapAt Try.prog 3 (World.drew ((w.alloc (.cells #[.int .u8 (km : Int), .int .u8 (ku : Int)] 81)).alloc (.cells #[.int .u8 0, .int .u8 0] 81))) m M) := HM.out.keeps ((((Keeps.refl noB w).alloc _).alloc _).drew) id
  clear HM
  generalize World.drew ((w.alloc (.cells #[.int .u8 (km : Int), .int .u8 (ku : Int)] 81)).alloc (.cells #[.int .u8 0, .int .u8 0] 81)) = w0 at *
  have hw0 := (HS.out w0 HD.out)
  have ⟨t0, t1, t2, t3, t4, t5, t6, t7, t8, t9⟩ := hw0
  have hg0 := HG.out w0 t0
  clear hw0 t0 t3 t4 t5 t6 t7 t8
  still_step
  still_step
  still_step
  still_step
  still_step
  still_call (begin_any g _ _ hg0)
  still_step
  refine wpStill_nil ?_
  clear t1 t2 t9 hg0
  refine wpList_noteMap _ rfl _ _ _ 108 rfl (kt := 3) Try.underlying3 Try.underlying108 HM0.out hb ⟨km, ku⟩ rfl rfl rfl ?_
  intro w2 hm2 q2
  have q2 := HD.out.trans q2
  have hh := HS.out w2 q2
  have ⟨s0, s1, s2, s3, s4, s5, s6, s7, s8, s9⟩ := hh
  have H2 := Lib.hid (And.intro hm2 (And.intro q2 s0))
  clear hm2 q2 hh s0 HM0 HD
  go_wp2_with (go_at_call 119; refine (HI.out _ H2.out.2.2).mono ?_; rintro e3 w3 ⟨rfl, q3⟩; have hm3 := H2.out.1.keeps q3 id; have q3 := H2.out.2.1.trans (q3.mono (fun _ e => e.elim)); have hh := HS.out w3 q3; have ⟨r0, r1, r2, r3, r4, r5, r6, r7, r8, r9⟩ := hh; have HF := Lib.hid (HE.out w3 _ q3 hm3 (.int .u8 (rm : Int)) (.int .u8 (ru : Int))); clear q3 hm3 hh r0)
  obtain ⟨f0, f1, f2, f3⟩ := HF.out
  exact bodyPost_ret (resKn Try.results99 _ (w.heap.size + 1) _ _ _ rfl f0 f1) rfl ⟨rfl, f2, f3⟩

set_option maxRecDepth 100000 in
set_option maxHeartbeats 4000000 in
theorem surL (k : Kn) (M : Notes) (w : World) (y m g b : Nat) (h : SurAt w y m M) (hb : b < 81) (hg : ∀ w1, Keeps (oneB m) w w1 → w1.cell? ⟨g, 0, none⟩ = some (.int .i64 (b : Int))) (K : Kn) (MF : Notes) (hMF : MF = ((point b k).over M)) (hK : K = Kn.no)
    (hin : True) :
    Calls Try.prog 99 #[.pointer (some ⟨y, 0, none⟩), .iface 161 (.pointer (some ⟨g, 0, none⟩)), knV k] w (SurPost w m K MF) := by
  have HI := Lib.hid hin
  have hbeg := begL g
  simp [go_sem] at hbeg
  have a0 := isLV (.pointer (some ⟨g, 0, none⟩))
  have a1 := isLL (.pointer (some ⟨g, 0, none⟩))
  have hml := h.map.lt
  have HS := Lib.hid (fun w1 q => surIn (w := w) (w1 := w1) (a := (k.may : Int)) (b := (k.must : Int)) h q)
  have HE := Lib.hid (fun w1 M' q (hm : MapAt Try.prog 3 w1 m M') x y => sur_end (w := w) (w1 := w1) (a := (k.may : Int)) (b := (k.must : Int)) hml q hm x y)
  have HM := Lib.hid h.map
  have HG := Lib.hid hg
  obtain ⟨km, ku⟩ := k
  subst hMF
  obtain ⟨rm, ru⟩ := K
  unfold knV at *
  simp only at *
  clear h hin hg
  go_enter Try.func99, Try.ntmps99
  go_wp2_with fail
  refine wp_region_still_tail 7 (by kernel_rfl) (by kernel_rfl) ?_
  simp only [List.take_succ_cons, List.take_zero, List.drop_succ_cons, List.drop_zero]
  change wpStill _ _ (World.drew _) (fun a' => wpList _ _ _ _ a' (World.drew _)) _ _
  have HD : Hid (Keeps (oneB m) ((w.alloc (.cells #[.int .u8 (km : Int), .int .u8 (ku : Int)] 81)).alloc (.cells #[.int .u8 0, .int .u8 0] 81)) (World.drew ((w.alloc (.cells #[.int .u8 (km : Int), .int .u8 (ku : Int)] 81)).alloc (.cells #[.int .u8 0, .int .u8 0] 81)))) := (Keeps.refl _ _).drew
  have HM0 : Hid (MapAt Try.prog 3 (World.drew ((w.alloc (.cells #[.int .u8 (km : Int), .int .u8 (ku : Int)] 81)).alloc (.cells #[.int .u8 0, .int .u8 0] 81))) m M) := HM.out.keeps ((((Keeps.refl noB w).alloc _).alloc _).drew) id
  clear HM
  generalize World.drew ((w.alloc (.cells #[.int .u8 (km : Int), .int .u8 (ku : Int)] 81)).alloc (.cells #[.int .u8 0, .int .u8 0] 81)) = w0 at *
  have hw0 := (HS.out w0 HD.out)
  have ⟨t0, t1, t2, t3, t4, t5, t6, t7, t8, t9⟩ := hw0
  have hg0 := HG.out w0 t0
  clear hw0 t0 t3 t4 t5 t6 t7 t8
  still_step
  still_step
  still_step
  still_step
  still_step
  still_call (begin_any g _ _ hg0)
  still_step
  refine wpStill_nil ?_
  clear t1 t2 t9 hg0
  refine wpList_noteMap _ rfl _ _ _ 108 rfl (kt := 3) Try.underlying3 Try.underlying108 HM0.out hb ⟨km, ku⟩ rfl rfl rfl ?_
  intro w2 hm2 q2
  have q2 := HD.out.trans q2
  have hh := HS.out w2 q2
  have ⟨s0, s1, s2, s3, s4, s5, s6, s7, s8, s9⟩ := hh
  have H2 := Lib.hid (And.intro hm2 (And.intro q2 s0))
  clear hm2 q2 hh s0 HM0 HD
  go_wp2_with (go_at_call 100; refine (nowhere_any _).mono ?_; rintro e3 w3 ⟨he3, q3⟩; unfold knV at he3; rw [show Kn.no = ⟨rm, ru⟩ from hK.symm] at he3; obtain rfl := he3; have hm3 := H2.out.1.keeps q3 id; have q3 := H2.out.2.1.trans (q3.mono (fun _ e => e.elim)); have hh := HS.out w3 q3; have ⟨r0, r1, r2, r3, r4, r5, r6, r7, r8, r9⟩ := hh; have HF := Lib.hid (HE.out w3 _ q3 hm3 (.int .u8 (rm : Int)) (.int .u8 (ru : Int))); clear q3 hm3 hh r0)
  obtain ⟨f0, f1, f2, f3⟩ := HF.out
  exact bodyPost_ret (resKn Try.results99 _ (w.heap.size + 1) _ _ _ rfl f0 f1) rfl ⟨rfl, f2, f3⟩

set_option maxRecDepth 100000 in
set_option maxHeartbeats 4000000 in
theorem surO (k : Kn) (M : Notes) (w : World) (y m g b : Nat) (h : SurAt w y m M) (hb : b < 81) (hg : ∀ w1, Keeps (oneB m) w w1 → w1.cell? ⟨g, 0, none⟩ = some (.int .i64 (b : Int))) (K : Kn) (MF : Notes)
    (hin : ∀ w1, Keeps (oneB m) w w1 → MapAt Try.prog 3 w1 m ((point b k).over M) → Calls Try.prog 122 #[.pointer (some ⟨y, 0, none⟩), .pointer (some ⟨g, 0, none⟩), knV k] w1 (SurPost w1 m K MF)) :
    Calls Try.prog 99 #[.pointer (some ⟨y, 0, none⟩), .iface 69 (.pointer (some ⟨g, 0, none⟩)), knV k] w (SurPost w m K MF) := by
  have HI := Lib.hid hin
  have hbeg := begO g
  simp [go_sem] at hbeg
  have a0 := isOV (.pointer (some ⟨g, 0, none⟩))
  have a1 := isOL (.pointer (some ⟨g, 0, none⟩))
  have a2 := isOB (.pointer (some ⟨g, 0, none⟩))
  have a3 := isOO (.pointer (some ⟨g, 0, none⟩))
  have hml := h.map.lt
  have HS := Lib.hid (fun w1 q => surIn (w := w) (w1 := w1) (a := (k.may : Int)) (b := (k.must : Int)) h q)
  have HE := Lib.hid (fun w1 M' q (hm : MapAt Try.prog 3 w1 m M') x y => sur_end (w := w) (w1 := w1) (a := (k.may : Int)) (b := (k.must : Int)) hml q hm x y)
  have HM := Lib.hid h.map
  have HG := Lib.hid hg
  obtain ⟨km, ku⟩ := k
  obtain ⟨rm, ru⟩ := K
  unfold knV at *
  simp only at *
  clear h hin hg
  go_enter Try.func99, Try.ntmps99
  go_wp2_with fail
  refine wp_region_still_tail 7 (by kernel_rfl) (by kernel_rfl) ?_
  simp only [List.take_succ_cons, List.take_zero, List.drop_succ_cons, List.drop_zero]
  change wpStill _ _ (World.drew _) (fun a' => wpList _ _ _ _ a' (World.drew _)) _ _
  have HD : Hid (Keeps (oneB m) ((w.alloc (.cells #[.int .u8 (km : Int), .int .u8 (ku : Int)] 81)).alloc (.cells #[.int .u8 0, .int .u8 0] 81)) (World.drew ((w.alloc (.cells #[.int .u8 (km : Int), .int .u8 (ku : Int)] 81)).alloc (.cells #[.int .u8 0, .int .u8 0] 81)))) := (Keeps.refl _ _).drew
  have HM0 : Hid (MapAt Try.prog 3 (World.drew ((w.alloc (.cells #[.int .u8 (km : Int), .int .u8 (ku : Int)] 81)).alloc (.cells #[.int .u8 0, .int .u8 0] 81))) m M) := HM.out.keeps ((((Keeps.refl noB w).alloc _).alloc _).drew) id
  clear HM
  generalize World.drew ((w.alloc (.cells #[.int .u8 (km : Int), .int .u8 (ku : Int)] 81)).alloc (.cells #[.int .u8 0, .int .u8 0] 81)) = w0 at *
  have hw0 := (HS.out w0 HD.out)
  have ⟨t0, t1, t2, t3, t4, t5, t6, t7, t8, t9⟩ := hw0
  have hg0 := HG.out w0 t0
  clear hw0 t0 t3 t4 t5 t6 t7 t8
  still_step
  still_step
  still_step
  still_step
  still_step
  still_call (begin_any g _ _ hg0)
  still_step
  refine wpStill_nil ?_
  clear t1 t2 t9 hg0
  refine wpList_noteMap _ rfl _ _ _ 108 rfl (kt := 3) Try.underlying3 Try.underlying108 HM0.out hb ⟨km, ku⟩ rfl rfl rfl ?_
  intro w2 hm2 q2
  have q2 := HD.out.trans q2
  have hh := HS.out w2 q2
  have ⟨s0, s1, s2, s3, s4, s5, s6, s7, s8, s9⟩ := hh
  have H2 := Lib.hid (And.intro hm2 (And.intro q2 s0))
  clear hm2 q2 hh s0 HM0 HD
  go_wp2_with (go_at_call 122; refine (HI.out _ H2.out.2.2 H2.out.1).mono ?_; rintro e3 w3 ⟨he3, hm3, q3⟩; unfold knV at he3; obtain rfl := he3; have q3 := H2.out.2.1.trans q3; have hh := HS.out w3 q3; have ⟨r0, r1, r2, r3, r4, r5, r6, r7, r8, r9⟩ := hh; have HF := Lib.hid (HE.out w3 _ q3 hm3 (.int .u8 (rm : Int)) (.int .u8 (ru : Int))); clear q3 hm3 hh r0)
  obtain ⟨f0, f1, f2, f3⟩ := HF.out
  exact bodyPost_ret (resKn Try.results99 _ (w.heap.size + 1) _ _ _ rfl f0 f1) rfl ⟨rfl, f2, f3⟩

set_option maxRecDepth 100000 in
set_option maxHeartbeats 4000000 in
theorem surS (k : Kn) (M : Notes) (w : World) (y m g b : Nat) (h : SurAt w y m M) (hb : b < 81) (hg : ∀ w1, Keeps (oneB m) w w1 → w1.cell? ⟨g, 0, none⟩ = some (.int .i64 (b : Int))) (K : Kn) (MF : Notes)
    (hin : ∀ w1, Keeps (oneB m) w w1 → MapAt Try.prog 3 w1 m ((point b k).over M) → Calls Try.prog 123 #[.pointer (some ⟨y, 0, none⟩), .pointer (some ⟨g, 0, none⟩), knV k] w1 (SurPost w1 m K MF)) :
    Calls Try.prog 99 #[.pointer (some ⟨y, 0, none⟩), .iface 57 (.pointer (some ⟨g, 0, none⟩)), knV k] w (SurPost w m K MF) := by
  have HI := Lib.hid hin
  have hbeg := begS g
  simp [go_sem] at hbeg
  have a0 := isSV (.pointer (some ⟨g, 0, none⟩))
  have a1 := isSL (.pointer (some ⟨g, 0, none⟩))
  have a2 := isSB (.pointer (some ⟨g, 0, none⟩))
  have a3 := isSO (.pointer (some ⟨g, 0, none⟩))
  have a4 := isSS (.pointer (some ⟨g, 0, none⟩))
  have hml := h.map.lt
  have HS := Lib.hid (fun w1 q => surIn (w := w) (w1 := w1) (a := (k.may : Int)) (b := (k.must : Int)) h q)
  have HE := Lib.hid (fun w1 M' q (hm : MapAt Try.prog 3 w1 m M') x y => sur_end (w := w) (w1 := w1) (a := (k.may : Int)) (b := (k.must : Int)) hml q hm x y)
  have HM := Lib.hid h.map
  have HG := Lib.hid hg
  obtain ⟨km, ku⟩ := k
  obtain ⟨rm, ru⟩ := K
  unfold knV at *
  simp only at *
  clear h hin hg
  go_enter Try.func99, Try.ntmps99
  go_wp2_with fail
  refine wp_region_still_tail 7 (by kernel_rfl) (by kernel_rfl) ?_
  simp only [List.take_succ_cons, List.take_zero, List.drop_succ_cons, List.drop_zero]
  change wpStill _ _ (World.drew _) (fun a' => wpList _ _ _ _ a' (World.drew _)) _ _
  have HD : Hid (Keeps (oneB m) ((w.alloc (.cells #[.int .u8 (km : Int), .int .u8 (ku : Int)] 81)).alloc (.cells #[.int .u8 0, .int .u8 0] 81)) (World.drew ((w.alloc (.cells #[.int .u8 (km : Int), .int .u8 (ku : Int)] 81)).alloc (.cells #[.int .u8 0, .int .u8 0] 81)))) := (Keeps.refl _ _).drew
  have HM0 : Hid (MapAt Try.prog 3 (World.drew ((w.alloc (.cells #[.int .u8 (km : Int), .int .u8 (ku : Int)] 81)).alloc (.cells #[.int .u8 0, .int .u8 0] 81))) m M) := HM.out.keeps ((((Keeps.refl noB w).alloc _).alloc _).drew) id
  clear HM
  generalize World.drew ((w.alloc (.cells #[.int .u8 (km : Int), .int .u8 (ku : Int)] 81)).alloc (.cells #[.int .u8 0, .int .u8 0] 81)) = w0 at *
  have hw0 := (HS.out w0 HD.out)
  have ⟨t0, t1, t2, t3, t4, t5, t6, t7, t8, t9⟩ := hw0
  have hg0 := HG.out w0 t0
  clear hw0 t0 t3 t4 t5 t6 t7 t8
  still_step
  still_step
  still_step
  still_step
  still_step
  still_call (begin_any g _ _ hg0)
  still_step
  refine wpStill_nil ?_
  clear t1 t2 t9 hg0
  refine wpList_noteMap _ rfl _ _ _ 108 rfl (kt := 3) Try.underlying3 Try.underlying108 HM0.out hb ⟨km, ku⟩ rfl rfl rfl ?_
  intro w2 hm2 q2
  have q2 := HD.out.trans q2
  have hh := HS.out w2 q2
  have ⟨s0, s1, s2, s3, s4, s5, s6, s7, s8, s9⟩ := hh
  have H2 := Lib.hid (And.intro hm2 (And.intro q2 s0))
  clear hm2 q2 hh s0 HM0 HD
  go_wp2_with (go_at_call 123; refine (HI.out _ H2.out.2.2 H2.out.1).mono ?_; rintro e3 w3 ⟨he3, hm3, q3⟩; unfold knV at he3; obtain rfl := he3; have q3 := H2.out.2.1.trans q3; have hh := HS.out w3 q3; have ⟨r0, r1, r2, r3, r4, r5, r6, r7, r8, r9⟩ := hh; have HF := Lib.hid (HE.out w3 _ q3 hm3 (.int .u8 (rm : Int)) (.int .u8 (ru : Int))); clear q3 hm3 hh r0)
  obtain ⟨f0, f1, f2, f3⟩ := HF.out
  exact bodyPost_ret (resKn Try.results99 _ (w.heap.size + 1) _ _ _ rfl f0 f1) rfl ⟨rfl, f2, f3⟩

end Go.Proofs.Ytlilkmemgomnjaa

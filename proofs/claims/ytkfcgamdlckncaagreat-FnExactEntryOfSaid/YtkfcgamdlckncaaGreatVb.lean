/-
  Walks of the program's sets of variables and of what is known: each answers as the plain account has it, and nothing turns.
-/
import Derived.Test.YtkfcgamdlckncaaGreatPkW
import Derived.Test.YtkfcgamdlckncaaGreatProg
import Derived.WalkKit
import Derived.Laws.BitsLemmas
import Derived.Laws.StructEq
import Derived.Lib.Hide
import Derived.Deep.RegionHeld3
namespace Go.Proofs.YtkfcgamdlckncaaGreat
set_option linter.unusedVariables false
set_option linter.unusedSimpArgs false
open Go.RowKit

theorem bOr {a b : Nat} (ha : a < 64) (hb : b < 64) : bits .or .u8 (a : Int) (b : Int) = ((a ||| b : Nat) : Int) := (bits_nat .u8 8 (by decide) wraps_u8 a b (by omega) (by omega)).2
theorem bAnd {a b : Nat} (ha : a < 64) (hb : b < 64) : bits .and .u8 (a : Int) (b : Int) = ((a &&& b : Nat) : Int) := (bits_nat .u8 8 (by decide) wraps_u8 a b (by omega) (by omega)).1
theorem bNot {a b : Nat} (ha : a < 64) (hb : b < 64) : bits .andNot .u8 (a : Int) (b : Int) = ((strike a b : Nat) : Int) := by
  have h1 : a % 2 ^ 8 = a := Nat.mod_eq_of_lt (by omega)
  have h2 : b % 2 ^ 8 = b := Nat.mod_eq_of_lt (by omega)
  have h3 : a &&& (2 ^ 8 - 1 - b) = strike a b := by
    refine Nat.eq_of_testBit_eq fun i => ?_
    rw [strike_bit, Nat.testBit_and]
    have e : 2 ^ 8 - 1 - b = 2 ^ 8 - (b + 1) := by omega
    rw [e, Nat.testBit_two_pow_sub_succ (by omega)]
    by_cases hi : i < 6
    · have : i < 8 := by omega
      simp [hi, this]
    · rw [lt64.1 ha i (by omega)]; rfl
  simp only [bits, BitVec.ofInt_natCast, BitVec.toNat_and, BitVec.toNat_not, BitVec.toNat_ofNat]
  show IntKind.u8.wrap ((a % 2 ^ 8 &&& (2 ^ 8 - 1 - b % 2 ^ 8) : Nat) : Int) = _
  rw [h1, h2, h3]
  have := strike_lt b ha
  exact wraps_u8 _ (by omega) (by omega)

theorem hasV_and_ne {s : Nat} (v : UInt8) : (s &&& bitV v ≠ 0) ↔ hasV s v = true := by
  constructor
  · intro h
    cases e : hasV s v
    · exfalso; apply h
      refine Nat.eq_of_testBit_eq fun i => ?_
      rw [Nat.testBit_and, bitV_bit, Nat.zero_testBit]
      by_cases hi : i = v.toNat - 97
      · subst hi; unfold hasV at e; rw [e]; rfl
      · simp [hi]
    · rfl
  · intro h e
    have := congrArg (fun n => n.testBit (v.toNat - 97)) e
    simp only [Nat.testBit_and, bitV_bit, Nat.zero_testBit, decide_true, Bool.and_true] at this
    unfold hasV at h
    rw [this] at h; cases h

theorem six_letters {v : UInt8} (h : ltr v) : v = 97 ∨ v = 98 ∨ v = 99 ∨ v = 100 ∨ v = 101 ∨ v = 102 := by
  have := mem_abc.2 h
  simpa [abc] using this

theorem with_any {a b : Nat} (ha : a < 64) (hb : b < 64) (w : World) : Calls Tryz.prog 95 #[.int .u8 (a : Int), .int .u8 (b : Int)] w (fun e w' => e = .returned (.int .u8 ((a ||| b : Nat) : Int)) ∧ w' = w) := by
  have h := Lib.hid (bOr ha hb)
  go_enter Tryz.func95, Tryz.ntmps95
  go_wp2_with fail
  rw [h.out]
  go_ret
  exact ⟨rfl, rfl⟩

theorem common_any {a b : Nat} (ha : a < 64) (hb : b < 64) (w : World) : Calls Tryz.prog 96 #[.int .u8 (a : Int), .int .u8 (b : Int)] w (fun e w' => e = .returned (.int .u8 ((a &&& b : Nat) : Int)) ∧ w' = w) := by
  have h := Lib.hid (bAnd ha hb)
  go_enter Tryz.func96, Tryz.ntmps96
  go_wp2_with fail
  rw [h.out]
  go_ret
  exact ⟨rfl, rfl⟩

theorem without_any {a b : Nat} (ha : a < 64) (hb : b < 64) (w : World) : Calls Tryz.prog 116 #[.int .u8 (a : Int), .int .u8 (b : Int)] w (fun e w' => e = .returned (.int .u8 ((strike a b : Nat) : Int)) ∧ w' = w) := by
  have h := Lib.hid (bNot ha hb)
  go_enter Tryz.func116, Tryz.ntmps116
  go_wp2_with fail
  rw [h.out]
  go_ret
  exact ⟨rfl, rfl⟩

theorem has_any {s : Nat} (hs : s < 64) {v : UInt8} (hv : ltr v) (w : World) : Calls Tryz.prog 70 #[.int .u8 (s : Int), .int .u8 (v.toNat : Int)] w (fun e w' => e = .returned (.bool (hasV s v)) ∧ w' = w) := by
  have hb := bitV_lt hv
  have h := Lib.hid (bAnd hs hb)
  have h2 : (((s &&& bitV v : Nat) : Int) != 0) = hasV s v := by
    have := hasV_and_ne (s := s) v
    cases e : hasV s v
    · rw [e] at this
      have h0 : s &&& bitV v = 0 := Classical.byContradiction (fun hh => Bool.noConfusion (this.1 hh))
      rw [h0]; rfl
    · have h0 := this.2 e
      simp only [bne_iff_ne]; omega
  have H2 := Lib.hid h2
  have e1 : ∀ w, (Op.shift BinOp.shl IntKind.u8 1 IntKind.u8 (((v.toNat : Int) - 97) % 256)).run Tryz.prog w = .ok (.int .u8 (bitV v : Int)) w := by
    intro w
    rcases six_letters hv with rfl | rfl | rfl | rfl | rfl | rfl <;> kernel_rfl
  clear h2
  go_enter Tryz.func70, Tryz.ntmps70
  go_wp2_with fail
  rw [h.out, H2.out]
  go_ret
  exact ⟨rfl, rfl⟩

/-- A result that lies in a cell of its own: what is known. -/
theorem resKn {f : Func} {t : Tmp} (hf : f.results = #[.cell t 111]) (W : World) (N : Nat) (a b : Int) (tmps : Array Value) (h : tmps.getD t undef = .pointer (some ⟨N, 0, none⟩))
    (c0 : W.cell? ⟨N, 0, none⟩ = some (.int .u8 a)) (c1 : W.cell? ⟨N, 1, none⟩ = some (.int .u8 b)) : (results f tmps).run Tryz.prog W = .ok (.agg #[.int .u8 a, .int .u8 b]) W := by
  have h' : tmps[t]?.getD undef = .pointer (some ⟨N, 0, none⟩) := by simpa using h
  simp [results, hf, go_sem, h', c0, c1]

theorem nowhere_any (w : World) : Calls Tryz.prog 67 #[] w (fun e w' => e = .returned (knV Kn.no) ∧ Keeps noB w w') := by
  go_enter Tryz.func67, Tryz.ntmps67
  go_wp2_with fail
  refine bodyPost_ret (resKn Tryz.results67 _ w.heap.size 0 63 _ rfl (by simp) (by simp)) rfl ?_
  exact ⟨rfl, (Keeps.refl _ _).alloc _⟩

set_option maxRecDepth 100000 in
set_option maxHeartbeats 2000000 in
theorem joined_any (a b : Kn) (ha : a.Wf) (hb : b.Wf) (w : World) : Calls Tryz.prog 73 #[knV a, knV b] w (fun e w' => e = .returned (knV (a.join b)) ∧ Keeps noB w w') := by
  obtain ⟨am, au⟩ := a
  obtain ⟨bm, bu⟩ := b
  have H1 := Lib.hid (fun w => with_any ha.may hb.may w)
  have H2 := Lib.hid (fun w => common_any ha.must hb.must w)
  simp only at H1 H2
  clear ha hb
  unfold knV Kn.join
  go_enter Tryz.func73, Tryz.ntmps73
  go_wp2_with fail
  go_region_held3 (fun w' => w'.cell? ⟨w.heap.size, 0, none⟩ = some (.int .u8 (am : Int)) ∧ w'.cell? ⟨w.heap.size, 1, none⟩ = some (.int .u8 (au : Int)) ∧ w'.cell? ⟨w.heap.size + 1, 0, none⟩ = some (.int .u8 (bm : Int)) ∧ w'.cell? ⟨w.heap.size + 1, 1, none⟩ = some (.int .u8 (bu : Int)))
    (go_keep)
    (first
    | (go_at_call 95; refine (H1.out _).mono ?_; rintro e w' ⟨rfl, rfl⟩)
    | (go_at_call 96; refine (H2.out _).mono ?_; rintro e w' ⟨rfl, rfl⟩))
  go_wp2_with fail
  have hB := Blk.new ((w.alloc (Obj.cells #[Value.int IntKind.u8 (am : Int), Value.int IntKind.u8 (au : Int)] 111)).alloc (Obj.cells #[Value.int IntKind.u8 (bm : Int), Value.int IntKind.u8 (bu : Int)] 111)) #[Value.int IntKind.u8 ((am ||| bm : Nat) : Int), Value.int IntKind.u8 ((au &&& bu : Nat) : Int)] 111
  have hZ : ((w.alloc (Obj.cells #[Value.int IntKind.u8 (am : Int), Value.int IntKind.u8 (au : Int)] 111)).alloc (Obj.cells #[Value.int IntKind.u8 (bm : Int), Value.int IntKind.u8 (bu : Int)] 111)).heap.size = w.heap.size + 1 + 1 := by simp only [World.alloc, Array.size_push]
  rw [hZ] at hB
  refine bodyPost_ret (resKn Tryz.results73 _ (w.heap.size + 1 + 1) ((am ||| bm : Nat) : Int) ((au &&& bu : Nat) : Int) _ rfl ((hB.cell 0).trans rfl) ((hB.cell 1).trans rfl)) rfl ?_
  exact ⟨rfl, ((((Keeps.refl _ _).alloc _).alloc _).alloc _).drew⟩

theorem keeps_cell2 {W w' : World} {N : Nat} {a b : Value} {t : TypeId} (hb : Blk W N #[a, b] t) (q : Keeps noB W w') : w'.cell? ⟨N, 0, none⟩ = some a ∧ w'.cell? ⟨N, 1, none⟩ = some b :=
  ⟨(q.cell (p := ⟨N, 0, none⟩) hb.lt id).trans ((hb.cell 0).trans rfl), (q.cell (p := ⟨N, 1, none⟩) hb.lt id).trans ((hb.cell 1).trans rfl)⟩

/-- What is known, compared. -/
theorem kn_same (a b : Kn) (w : World) : (Op.equalIn 10000 111 (knV a) (knV b)).run Tryz.prog w = .ok (decide (a = b)) w := by
  have hS : Tryz.prog.underlying 111 = some (.struct (Tryz.prog.fieldsOf 111)) := by kernel_rfl
  have hp : Tryz.prog.stoodInHeld 111 = false := by kernel_rfl
  unfold knV
  rw [show (10000 : Nat) = 9999 + 1 from rfl, run_equalIn_agg w 9999 111 _ _ hS hp]
  obtain ⟨am, au⟩ := a
  obtain ⟨bm, bu⟩ := b
  simp [Program.fieldsOf, Tryz.underlying111, go_sem]
  by_cases h1 : am = bm
  · subst h1
    by_cases h2 : au = bu
    · subst h2; simp
    · have h2' : ¬ ((au : Int) = (bu : Int)) := by omega
      simp [h2, h2']
  · have h1' : ¬ ((am : Int) = (bm : Int)) := by omega
    simp [h1, h1']

theorem kn_neq (a b : Kn) (w : World) : (binOp .neq 111 (knV a) (knV b)).run Tryz.prog w = .ok (.bool (decide (a ≠ b))) w := by
  have h := kn_same a b w
  unfold knV at *
  rw [run_neq_struct, h]
  simp [Result.andThen]

theorem kn_guard (a b : Kn) (x y : Operand) (w : World) : (eqGuard .neq 111 x y (knV a) (knV b)).run Tryz.prog w = .ok () w := by
  unfold knV
  exact run_eqGuard_agg w _ _ x y _ _ (by kernel_rfl)

set_option maxRecDepth 100000 in
set_option maxHeartbeats 2000000 in
theorem isReached_any (k : Kn) (w : World) : Calls Tryz.prog 46 #[knV k] w (fun e w' => e = .returned (.bool (decide (k ≠ Kn.no))) ∧ Keeps noB w w') := by
  have HN := Lib.hid (fun w => nowhere_any w)
  have HG := kn_guard k Kn.no
  have HQ := kn_neq k Kn.no
  have hk0 : knV k = .agg #[.int .u8 (k.may : Int), .int .u8 (k.must : Int)] := rfl
  obtain ⟨km, ku⟩ := k
  simp only at hk0
  rw [hk0] at HG HQ
  rw [hk0]
  have HW : Keeps noB w (w.alloc (.cells #[.int .u8 (km : Int), .int .u8 (ku : Int)] 111)) := (Keeps.refl _ _).alloc _
  have HB := Blk.new w #[.int .u8 (km : Int), .int .u8 (ku : Int)] 111
  have HS : Hid (∀ w', Keeps noB (w.alloc (.cells #[.int .u8 (km : Int), .int .u8 (ku : Int)] 111)) w' → Keeps noB w w' ∧ w'.cell? ⟨w.heap.size, 0, none⟩ = some (.int .u8 (km : Int)) ∧ w'.cell? ⟨w.heap.size, 1, none⟩ = some (.int .u8 (ku : Int))) :=
    fun w' q => ⟨HW.trans q, keeps_cell2 HB q⟩
  clear HW HB
  go_enter Tryz.func46, Tryz.ntmps46
  go_wp2_with fail
  go_region_held3 (fun w' => Keeps noB w w' ∧ w'.cell? ⟨w.heap.size, 0, none⟩ = some (.int .u8 (km : Int)) ∧ w'.cell? ⟨w.heap.size, 1, none⟩ = some (.int .u8 (ku : Int)))
    (first | exact HS.out _ (Keeps.refl _ _).drew | exact HS.out _ ((Keeps.refl _ _).drew.trans hk))
    (first
    | (go_at_call 67; refine (HN.out _).mono ?_; rintro e w' ⟨rfl, hk⟩))
  go_wp2_with fail
  go_ret
  rename_i hHeld
  exact ⟨by rw [decide_not]; rfl, hHeld.1⟩

theorem isReached_no (w : World) : Calls Tryz.prog 46 #[knV Kn.no] w (fun e w' => e = .returned (.bool false) ∧ Keeps noB w w') :=
  (isReached_any Kn.no w).mono (fun e w' h => ⟨h.1, h.2⟩)
theorem isReached_yes {k : Kn} (hn : k ≠ Kn.no) (w : World) : Calls Tryz.prog 46 #[knV k] w (fun e w' => e = .returned (.bool true) ∧ Keeps noB w w') :=
  (isReached_any k w).mono (fun e w' h => ⟨by rw [h.1, decide_eq_true hn], h.2⟩)

/-- Two boxes that a function lays first: what is known, and its answer. -/
structure TwoAt (w w1 : World) (a b : Int) : Prop where
  q : Keeps noB w w1
  a0 : w1.cell? ⟨w.heap.size, 0, none⟩ = some (.int .u8 a)
  a1 : w1.cell? ⟨w.heap.size, 1, none⟩ = some (.int .u8 b)
  b0 : w1.cell? ⟨w.heap.size + 1, 0, none⟩ = some (.int .u8 0)
  b1 : w1.cell? ⟨w.heap.size + 1, 1, none⟩ = some (.int .u8 0)
  z0 : w1.frozen? ⟨w.heap.size + 1, 0, none⟩ = false
  z1 : w1.frozen? ⟨w.heap.size + 1, 1, none⟩ = false
  fin : ∀ x y, ((w1.setCell ⟨w.heap.size + 1, 0, none⟩ x).setCell ⟨w.heap.size + 1, 1, none⟩ y).cell? ⟨w.heap.size + 1, 0, none⟩ = some x ∧
    ((w1.setCell ⟨w.heap.size + 1, 0, none⟩ x).setCell ⟨w.heap.size + 1, 1, none⟩ y).cell? ⟨w.heap.size + 1, 1, none⟩ = some y ∧ Keeps noB w ((w1.setCell ⟨w.heap.size + 1, 0, none⟩ x).setCell ⟨w.heap.size + 1, 1, none⟩ y)

theorem twoAt (w w1 : World) (a b : Int) (q : Keeps noB ((w.alloc (.cells #[.int .u8 a, .int .u8 b] 111)).alloc (.cells #[.int .u8 0, .int .u8 0] 111)) w1) : TwoAt w w1 a b := by
  have hA := (Blk.new w #[.int .u8 a, .int .u8 b] 111).alloc (.cells #[.int .u8 0, .int .u8 0] 111)
  have hB := Blk.new (w.alloc (.cells #[.int .u8 a, .int .u8 b] 111)) #[.int .u8 0, .int .u8 0] 111
  have hZ : (w.alloc (.cells #[.int .u8 a, .int .u8 b] 111)).heap.size = w.heap.size + 1 := by simp only [World.alloc, Array.size_push]
  rw [hZ] at hB
  have q0 : Keeps noB w w1 := (((Keeps.refl noB w).alloc _).alloc _).trans q
  have bA := q.blk hA id
  have bB := q.blk hB id
  refine ⟨q0, (bA.cell 0).trans rfl, (bA.cell 1).trans rfl, (bB.cell 0).trans rfl, (bB.cell 1).trans rfl, bB.free 0, bB.free 1, fun x y => ?_⟩
  have b2 := (bB.set 0 x).set 1 y
  refine ⟨(b2.cell 0).trans rfl, (b2.cell 1).trans rfl, ?_⟩
  exact (q0.setCell (.inr (by show w.heap.size ≤ w.heap.size + 1; omega)) x).setCell (.inr (by show w.heap.size ≤ w.heap.size + 1; omega)) y

theorem twoNew (w : World) (a b x y : Int) : ((w.alloc (.cells #[.int .u8 a, .int .u8 b] 111)).alloc (.cells #[.int .u8 x, .int .u8 y] 111)).cell? ⟨w.heap.size + 1, 0, none⟩ = some (.int .u8 x) ∧
    ((w.alloc (.cells #[.int .u8 a, .int .u8 b] 111)).alloc (.cells #[.int .u8 x, .int .u8 y] 111)).cell? ⟨w.heap.size + 1, 1, none⟩ = some (.int .u8 y) ∧
    Keeps noB w ((w.alloc (.cells #[.int .u8 a, .int .u8 b] 111)).alloc (.cells #[.int .u8 x, .int .u8 y] 111)) := by
  have hB := Blk.new (w.alloc (.cells #[.int .u8 a, .int .u8 b] 111)) #[.int .u8 x, .int .u8 y] 111
  have hZ : (w.alloc (.cells #[.int .u8 a, .int .u8 b] 111)).heap.size = w.heap.size + 1 := by simp only [World.alloc, Array.size_push]
  rw [hZ] at hB
  exact ⟨(hB.cell 0).trans rfl, (hB.cell 1).trans rfl, ((Keeps.refl noB w).alloc _).alloc _⟩

set_option maxRecDepth 100000 in
set_option maxHeartbeats 2000000 in
theorem changed_any (k : Kn) (hk : k.Wf) {f e : Nat} (hf : f < 64) (he : e < 64) (w : World) : Calls Tryz.prog 93 #[knV k, .int .u8 (f : Int), .int .u8 (e : Int)] w (fun e' w' => e' = .returned (knV (k.changed f e)) ∧ Keeps noB w w') := by
  by_cases hn : k = Kn.no
  · have e0 : k.changed f e = k := by simp [Kn.changed, hn]
    rw [e0]
    have HR : Hid (∀ w, Calls Tryz.prog 46 #[knV k] w (fun e w' => e = .returned (.bool false) ∧ Keeps noB w w')) := fun w => by rw [hn]; exact isReached_no w
    obtain ⟨km, ku⟩ := k
    clear hn e0
    unfold knV at *
    simp only at *
    have HT := Lib.hid (fun w1 => twoAt w w1 (km : Int) (ku : Int))
    go_enter Tryz.func93, Tryz.ntmps93
    go_wp2_with (go_at_call 46; refine (HR.out _).mono ?_; rintro e1 w1 ⟨rfl, q1⟩; have ⟨t0, t1, t2, t3, t4, t5, t6, t7⟩ := HT.out w1 q1; have HF := Lib.hid (t7 (.int .u8 (km : Int)) (.int .u8 (ku : Int))); clear t7)
    obtain ⟨f0, f1, f2⟩ := HF.out
    exact bodyPost_ret (resKn Tryz.results93 _ (w.heap.size + 1) _ _ _ rfl f0 f1) rfl ⟨rfl, f2⟩
  · have e0 : k.changed f e = ⟨strike (k.may ||| f) e, strike (k.must ||| f) e⟩ := by simp [Kn.changed, hn]
    rw [e0]
    have HR := Lib.hid (fun w => isReached_yes hn w)
    have H1 := Lib.hid (fun w => with_any hk.may hf w)
    have H2 := Lib.hid (fun w => without_any (or_lt64 hk.may hf) he w)
    have H3 := Lib.hid (fun w => with_any hk.must hf w)
    have H4 := Lib.hid (fun w => without_any (or_lt64 hk.must hf) he w)
    obtain ⟨km, ku⟩ := k
    simp only at *
    clear hk hn e0 hf he
    generalize km ||| f = m1 at *
    generalize ku ||| f = u1 at *
    generalize strike m1 e = m2 at *
    generalize strike u1 e = u2 at *
    unfold knV at *
    simp only at *
    have HT := Lib.hid (fun w1 => twoAt w w1 (km : Int) (ku : Int))
    go_enter Tryz.func93, Tryz.ntmps93
    go_wp2_with (go_at_call 46; refine (HR.out _).mono ?_; rintro e1 w1 ⟨rfl, q1⟩; have ⟨t0, t1, t2, t3, t4, t5, t6, t8⟩ := HT.out w1 q1; have t7 := (HT.out w1.drew q1.drew).fin; have HF := Lib.hid (t7 (.int .u8 (m2 : Int)) (.int .u8 (u2 : Int))); clear t7 t8 t0)
    go_region_held3 (fun w' => w'.cell? ⟨w.heap.size, 0, none⟩ = some (.int .u8 (km : Int)) ∧ w'.cell? ⟨w.heap.size, 1, none⟩ = some (.int .u8 (ku : Int)))
      (go_keep)
      (first
      | (go_at_call 95; refine (H1.out _).mono ?_; rintro e w' ⟨rfl, rfl⟩)
      | (go_at_call 116; refine (H2.out _).mono ?_; rintro e w' ⟨rfl, rfl⟩)
      | (go_at_call 95; refine (H3.out _).mono ?_; rintro e w' ⟨rfl, rfl⟩)
      | (go_at_call 116; refine (H4.out _).mono ?_; rintro e w' ⟨rfl, rfl⟩))
    go_wp2_with fail
    obtain ⟨f0, f1, f2⟩ := HF.out
    exact bodyPost_ret (resKn Tryz.results93 _ (w.heap.size + 1) _ _ _ rfl f0 f1) rfl ⟨rfl, f2⟩

set_option maxRecDepth 100000 in
set_option maxHeartbeats 2000000 in
theorem needing_any (k : Kn) (hk : k.Wf) {v : UInt8} (hv : ltr v) (w : World) : Calls Tryz.prog 94 #[knV k, .int .u8 (v.toNat : Int)] w (fun e' w' => e' = .returned (knV (k.needs v)) ∧ Keeps noB w w') := by
  have HH := Lib.hid (fun w => has_any hk.may hv w)
  have HN := Lib.hid (fun w => nowhere_any w)
  have HT := Lib.hid (fun w1 => twoAt w w1 (k.may : Int) (k.must : Int))
  have HQ : Hid (Keeps noB ((w.alloc (.cells #[.int .u8 (k.may : Int), .int .u8 (k.must : Int)] 111)).alloc (.cells #[.int .u8 0, .int .u8 0] 111)) ((w.alloc (.cells #[.int .u8 (k.may : Int), .int .u8 (k.must : Int)] 111)).alloc (.cells #[.int .u8 0, .int .u8 0] 111))) := Keeps.refl _ _
  unfold Kn.needs
  cases hh : hasV k.may v with
  | true =>
    rw [if_pos rfl]
    rw [hh] at HH
    obtain ⟨km, ku⟩ := k
    unfold knV at *
    simp only at *
    clear hk hh
    have HF := Lib.hid (twoNew w (km : Int) (ku : Int) (km : Int) (ku : Int))
    go_enter Tryz.func94, Tryz.ntmps94
    go_wp2_with (go_at_call 70; refine (HH.out _).mono ?_; rintro e1 w1 ⟨rfl, rfl⟩)
    obtain ⟨f0, f1, f2⟩ := HF.out
    exact bodyPost_ret (resKn Tryz.results94 _ (w.heap.size + 1) _ _ _ rfl f0 f1) rfl ⟨rfl, f2⟩
  | false =>
    rw [if_neg (by simp)]
    rw [hh] at HH
    obtain ⟨km, ku⟩ := k
    unfold knV Kn.no at *
    simp only at *
    clear hk hh
    go_enter Tryz.func94, Tryz.ntmps94
    go_wp2_with (first
      | (go_at_call 70; refine (HH.out _).mono ?_; rintro e1 w1 ⟨rfl, rfl⟩)
      | (go_at_call 67; refine (HN.out _).mono ?_; rintro e1 w1 ⟨rfl, q1⟩; have ⟨t0, t1, t2, t3, t4, t5, t6, t7⟩ := HT.out w1 q1; have HF := Lib.hid (t7 (.int .u8 0) (.int .u8 63)); clear t7))
    obtain ⟨f0, f1, f2⟩ := HF.out
    exact bodyPost_ret (resKn Tryz.results94 _ (w.heap.size + 1) _ _ _ rfl f0 f1) rfl ⟨rfl, f2⟩

end Go.Proofs.YtkfcgamdlckncaaGreat

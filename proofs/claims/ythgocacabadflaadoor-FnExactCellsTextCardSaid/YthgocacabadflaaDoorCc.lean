/-
  Six hundred numbers at once: comparing them, reading and writing them in the middle of a block.
-/
import Derived.Test.YthgocacabadflaaDoorCb
import Derived.Deep.MidRow
namespace Go.Proofs.YthgocacabadflaaDoor
set_option linter.unusedVariables false
set_option linter.unusedSimpArgs false
open Go.RowKit

def icell (x : Int) : Value := .int .i64 x
theorem all_range_ints : ∀ (xs ys : List Int), xs.length = ys.length → ((List.range xs.length).all fun i => xs.getD i 0 == ys.getD i 0) = (xs == ys)
  | [], [], _ => rfl
  | x :: xs, y :: ys, h => by
    have ih := all_range_ints xs ys (by simpa using h)
    rw [List.length_cons, List.range_succ_eq_map, List.all_cons, List.all_map]
    simp only [List.getD_cons_zero, Function.comp_def, List.getD_cons_succ, ih]
    simp [List.cons_beq_cons]
  | [], _ :: _, h => by simp at h
  | _ :: _, [], h => by simp at h
theorem run_equalIn_ints {P : Program} (w : World) (d : Nat) (t e : TypeId) (n : Nat) (ht : P.underlying t = some (.array n e)) (he : P.underlying e = some (.int .i64)) (hsz : ∀ w, (sizeOf e).run P w = .ok 1 w)
    (xs ys : List Int) (hx : xs.length = n) (hy : ys.length = n) :
    (Op.equalIn (d + 2) t (.agg (xs.map icell).toArray) (.agg (ys.map icell).toArray)).run P w = .ok (xs == ys) w := by
  rw [← all_range_ints xs ys (hx.trans hy.symm), hx, List.range_eq_range', Op.equalIn]
  simp only [Sem.run_bind, run_underlying ht, Result.andThen_ok, hsz, Std.Legacy.Range.forIn_eq_forIn_range', Std.Legacy.Range.size, Nat.sub_zero, Nat.add_sub_cancel, Nat.div_one]
  have hl : ∀ i ∈ List.range' 0 n 1, i < n := fun i hi => by simpa using (List.mem_range'_1.1 hi).2
  generalize List.range' 0 n 1 = l at hl ⊢
  induction l with
  | nil => simp
  | cons i l ih =>
    have hi : i < n := hl i (by simp)
    have px : (part e (xs.map icell).toArray (i * 1)).run P w = .ok (icell (xs.getD i 0)) w := by
      simp [part, isAgg, run_underlying he, List.getD, List.getElem?_eq_getElem (show i < xs.length by omega)]
    have py : (part e (ys.map icell).toArray (i * 1)).run P w = .ok (icell (ys.getD i 0)) w := by
      simp [part, isAgg, run_underlying he, List.getD, List.getElem?_eq_getElem (show i < ys.length by omega)]
    have pe : (Op.equalIn (d + 1) e (icell (xs.getD i 0)) (icell (ys.getD i 0))).run P w = .ok (xs.getD i 0 == ys.getD i 0) w := by
      rw [icell, icell, run_equalIn_int w d e .i64 .i64 _ _ he]
    simp only [List.forIn_cons, Sem.run_bind, px, py, pe, Result.andThen_ok, List.all_cons]
    cases hb : (xs.getD i 0 == ys.getD i 0)
    · simp
    · simp only [Bool.not_true, Bool.false_eq_true, if_false, Sem.run_pure, Result.andThen_ok, Bool.true_and]
      exact ih (fun j hj => hl j (by simp [hj]))
theorem run_neq_ints {P : Program} (w : World) (t e : TypeId) (n : Nat) (ht : P.underlying t = some (.array n e)) (he : P.underlying e = some (.int .i64)) (hsz : ∀ w, (sizeOf e).run P w = .ok 1 w)
    (xs ys : List Int) (hx : xs.length = n) (hy : ys.length = n) :
    (binOp .neq t (.agg (xs.map icell).toArray) (.agg (ys.map icell).toArray)).run P w = .ok (.bool (xs != ys)) w := by
  have h := run_equalIn_ints (P := P) w 9998 t e n ht he hsz xs ys hx hy
  simp only [binOp]
  simp [Op.equal, Op.maxDepth, h]
  cases hq : xs == ys <;> simp [bne, hq]

/-- The cells that a room has, as numbers. -/
def insL (ins : Nat → Nat) : List Int := (List.range 600).map (fun i => (ins i : Int))
theorem insL_len (ins : Nat → Nat) : (insL ins).length = 600 := by unfold insL; simp
theorem insL_get (ins : Nat → Nat) (i : Nat) (h : i < 600) : (insL ins)[i]? = some (ins i : Int) := by unfold insL; simp [h]
theorem insL_eq {a b : Nat → Nat} : insL a = insL b ↔ ∀ i, i < 600 → a i = b i := by
  constructor
  · intro h i hi
    have h1 := insL_get a i hi
    rw [h, insL_get b i hi] at h1
    have := Option.some.inj h1
    omega
  · intro h
    apply List.ext_getElem?
    intro i
    by_cases hi : i < 600
    · rw [insL_get a i hi, insL_get b i hi, h i hi]
    · rw [List.getElem?_eq_none (by rw [insL_len]; omega), List.getElem?_eq_none (by rw [insL_len]; omega)]

/-- Cells written one behind the other. -/
def setL (cs : Array Value) (o : Nat) : List Value → Array Value
  | [] => cs
  | v :: r => setL (cs.setIfInBounds o v) (o + 1) r
theorem setL_size : ∀ (vs : List Value) (cs : Array Value) (o : Nat), (setL cs o vs).size = cs.size
  | [], _, _ => rfl
  | v :: r, cs, o => by unfold setL; rw [setL_size r]; simp
theorem setL_out : ∀ (vs : List Value) (cs : Array Value) (o j : Nat), (j < o ∨ o + vs.length ≤ j) → (setL cs o vs)[j]? = cs[j]?
  | [], _, _, _, _ => rfl
  | v :: r, cs, o, j, h => by
    unfold setL
    have h' : j < o ∨ o + (r.length + 1) ≤ j := by simpa using h
    rw [setL_out r _ _ _ (by omega), arr_set_ne (by omega)]
theorem setL_in : ∀ (vs : List Value) (cs : Array Value) (o i : Nat), i < vs.length → o + vs.length ≤ cs.size → (setL cs o vs)[o + i]? = vs[i]?
  | [], _, _, _, h, _ => by simp at h
  | v :: r, cs, o, 0, _, h2 => by
    unfold setL
    rw [setL_out r _ _ _ (by omega)]
    simp only [Nat.add_zero, List.getElem?_cons_zero]
    exact arr_set_eq (by simp at h2; omega) _
  | v :: r, cs, o, i + 1, h, h2 => by
    unfold setL
    have := setL_in r (cs.setIfInBounds o v) (o + 1) i (by simpa using h) (by simp at h2 ⊢; omega)
    rw [show o + (i + 1) = o + 1 + i by omega, this]
    simp
theorem Blk.setCells {b : Nat} {t : TypeId} : ∀ (vs : List Value) (w : World) (cs : Array Value) (o : Nat), Blk w b cs t → Blk (w.setCells b o vs) b (setL cs o vs) t
  | [], _, _, _, h => h
  | v :: r, w, cs, o, h => by
    rw [World.setCells]
    unfold setL
    exact Blk.setCells r _ _ _ (h.set o v)
theorem Keeps.setCells {b : Nat} {may : Nat → Prop} (hb : may b) : ∀ (vs : List Value) (w0 w : World) (o : Nat), Keeps may w0 w → Keeps may w0 (w.setCells b o vs)
  | [], _, _, _, h => h
  | v :: r, w0, w, o, h => by
    rw [World.setCells]
    exact Keeps.setCells hb r _ _ _ (h.setCell (p := ⟨b, o, none⟩) (.inl hb) v)

theorem Tryd.sizeContents : (Tryd.prog.info? 76).map (·.size) = some 600 := by kernel_rfl
theorem Tryd.sizeIntC (w : World) : (sizeOf 3).run Tryd.prog w = .ok 1 w := by
  obtain ⟨i, hi, hs⟩ := Option.map_eq_some_iff.1 (show (Tryd.prog.info? 3).map (·.size) = some 1 by kernel_rfl)
  simp [sizeOf, typeInfo, hi, hs]

theorem load_ins {w : World} {b o : Nat} (ins : Nat → Nat) (h : ∀ i, i < 600 → w.cell? ⟨b, o + i, none⟩ = some (.int .i64 (ins i : Int))) :
    (Instr.loadAt 76 (.pointer (some ⟨b, o, none⟩))).run Tryd.prog w = .ok (.agg ((insL ins).map icell).toArray) w := by
  refine run_loadAt_mid w b o 76 ((insL ins).map icell) _ (fun j v hv => ?_) Tryd.underlying76 rfl (by rw [Tryd.sizeContents, List.length_map, insL_len])
  have hj : j < 600 := by
    have := (List.getElem?_eq_some_iff.1 hv).1
    rwa [List.length_map, insL_len] at this
  rw [List.getElem?_map, insL_get ins j hj] at hv
  rw [h j hj]
  exact hv
theorem store_ins {w : World} {b o : Nat} {cs : Array Value} {t : TypeId} (ins : Nat → Nat) (h : Blk w b cs t) (hs : o + 600 ≤ cs.size) :
    (Instr.storeAt 76 (.pointer (some ⟨b, o, none⟩)) (.agg ((insL ins).map icell).toArray)).run Tryd.prog w = .ok () (w.setCells b o ((insL ins).map icell)) := by
  have hl : ((insL ins).map icell).toArray.size = 600 := by rw [List.size_toArray, List.length_map, insL_len]
  have := run_storeAt_mid (P := Tryd.prog) w b o 76 ((insL ins).map icell).toArray (fun j hj => ?_) (by rw [Tryd.sizeContents, hl]) (all_oneCell_toArray (fun v hv => by
    obtain ⟨x, _, rfl⟩ := List.mem_map.1 hv
    rfl))
  · simpa using this
  · rw [hl] at hj
    exact ⟨by rw [h.cell]; simp; omega, h.free _⟩
theorem neq_ins (a b : Nat → Nat) (w : World) : (binOp .neq 76 (.agg ((insL a).map icell).toArray) (.agg ((insL b).map icell).toArray)).run Tryd.prog w = .ok (.bool (insL a != insL b)) w :=
  run_neq_ints w _ _ 600 Tryd.underlying76 Tryd.underlying3 Tryd.sizeIntC _ _ (insL_len a) (insL_len b)

end Go.Proofs.YthgocacabadflaaDoor

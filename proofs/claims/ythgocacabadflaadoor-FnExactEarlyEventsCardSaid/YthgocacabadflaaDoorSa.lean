/-
  Lives, sorted by their last use: between the walk's rows of lives and the sort's own words on memory; the comparing function byUse.
-/
import Derived.Test.YthgocacabadflaaDoorRb
import Derived.Test.YthgocacabadflaaDoorShelf
import Derived.Shelf.GgSortFunc.InsertionK
import Derived.Shelf.SlSortCmp.InsertionK
namespace Go.Proofs.YthgocacabadflaaDoor
set_option linter.unusedVariables false
set_option linter.unusedSimpArgs false
open Go.RowKit Go.Shelf
open Go.Sort (flatK HoldsK putRowK get_flatK size_flatK grow alloc_eq_grow grow_grow heap_grow_old)

instance : Inhabited Lf := ⟨⟨0, 0, 0⟩⟩
def encLf (f : Lf) : List Value := [.int .i64 f.b, .int .i64 f.u, .int .i64 f.d]

theorem lfC_at (s : List Lf) (t : Nat) (h : t < s.length * 3) : (lfC s)[t]? = some ((encLf s[t / 3]!)[t % 3]!) := by
  have hi : t / 3 < s.length := by omega
  have hm := List.getElem?_eq_getElem (l := s) (i := t / 3) hi
  obtain ⟨g0, g1, g2⟩ := lfC_get s (t / 3) _ hm
  rw [getElem!_pos s (t / 3) hi]
  have h3 : t % 3 = 0 ∨ t % 3 = 1 ∨ t % 3 = 2 := by omega
  rcases h3 with h3 | h3 | h3
  · rw [show 3 * (t / 3) = t by omega] at g0; rw [g0, h3]; rfl
  · rw [show 3 * (t / 3) + 1 = t by omega] at g1; rw [g1, h3]; rfl
  · rw [show 3 * (t / 3) + 2 = t by omega] at g2; rw [g2, h3]; rfl

theorem flat_lf (s : List Lf) : (flatK encLf 3 s.toArray).toList = lfC s := by
  apply List.ext_getElem?
  intro t
  by_cases h : t < s.length * 3
  · rw [lfC_at s t h]
    simp [flatK, h]
  · rw [List.getElem?_eq_none (by simp [flatK]; omega), List.getElem?_eq_none (by rw [lfC_len]; omega)]

theorem holds_lives {w : World} {g cap : Nat} {s : List Lf} (h : LRow w (.slice (some ⟨g, 0, none⟩) s.length cap) s) : HoldsK encLf 3 w g 0 s.toArray := by
  intro j hj
  have hj' : j < s.length * 3 := by simpa [flatK] using hj
  obtain ⟨g', c', e, _, _, hh⟩ := row_capM (ok := fun _ => True) h (by omega)
  simp only [Value.slice.injEq, Option.some.injEq, Addr.mk.injEq, and_true, true_and] at e
  obtain ⟨rfl, rfl⟩ := e
  have := hh j _ (lfC_at s j hj')
  rw [get_flatK encLf 3 s.toArray j (by simpa using hj'), Nat.zero_add]
  simpa using this

/-- Behind the sort the same slice owns the sorted lives, and nothing else has turned. -/
theorem lrow_sorted {w : World} {g cap : Nat} {s s' : List Lf} (h : LRow w (.slice (some ⟨g, 0, none⟩) s.length cap) s) (hn : 0 < s.length) (hl : s'.length = s.length) (m : Nat) (os : Array Obj) :
    LRow (sortWorldK encLf 3 w g 0 m s'.toArray os) (.slice (some ⟨g, 0, none⟩) s'.length cap) s' ∧ Keeps (oneB g) w (sortWorldK encLf 3 w g 0 m s'.toArray os) := by
  obtain ⟨h1, h2⟩ := h
  rcases h2 with ⟨e, _⟩ | ⟨g', c', cur, e, hb, hh, hnc, hcm, hcs, htk⟩
  · cases e
  · injection e with e1 e2 e3
    injection e1 with e1
    injection e1 with e1 _ _
    subst e1
    subst e3
    have hg : g < w.heap.size := (Array.getElem?_eq_some_iff.1 hh).1
    have hheap : (sortWorldK encLf 3 w g 0 m s'.toArray os).heap[g]? = some (.cells (Sort.putCells id 0 (flatK encLf 3 s'.toArray) cur) 41 (0, 0)) := by
      unfold sortWorldK putRowK
      rw [heap_grow_old _ _ (by simpa using hg)]
      simp [Sort.putRow, Sort.mapBlock, Sort.ahead, Array.getElem?_modify, hh, Sort.onCells]
    refine ⟨⟨by rw [lfC_len], .inr ⟨g, cap, _, rfl, Nat.zero_le _, hheap, by rw [hl]; exact hnc, hcm, by simp [Sort.putCells, hcs], ?_⟩⟩, rfl, rfl, rfl, by simp [sortWorldK, putRowK], fun k hk hne => ?_⟩
    · rw [← flat_lf s']
      apply List.ext_getElem?
      intro j
      have hfl : (flatK encLf 3 s'.toArray).size = s'.length * 3 := by simp [flatK]
      by_cases hj : j < s'.length * 3
      · rw [List.getElem?_take_of_lt hj, Array.getElem?_toList, Array.getElem?_toList]
        have hjc : j < cur.size := by
          have : s'.length * 3 ≤ cap * 3 := by rw [hl]; exact Nat.mul_le_mul_right _ hnc
          omega
        simp [Sort.putCells, hj, hjc, hfl]
      · rw [List.getElem?_take_eq_none (by omega), List.getElem?_eq_none (by simp [hfl]; omega)]
    · unfold sortWorldK putRowK
      rw [heap_grow_old _ _ (by simpa using hk)]
      have : g ≠ k := fun e => hne e.symm
      simp [Sort.putRow, Sort.mapBlock, Sort.ahead, Array.getElem?_modify, this]

/-! ### the comparing function -/
def cfU (f g : Lf) : Int := Lib.compareInt f.u g.u
set_option maxHeartbeats 1000000 in
theorem byUse_any (f g : Lf) (W : World) : Calls Tryd.prog 61 #[.agg #[.int .i64 f.b, .int .i64 f.u, .int .i64 f.d], .agg #[.int .i64 g.b, .int .i64 g.u, .int .i64 g.d]] W fun e w' => e = .returned (.int .i64 (cfU f g)) ∧ ∃ q os', w' = grow (W.drewN q) os' := by
  have hcon : Hid (∀ W', Calls Tryd.prog 75 #[.int .i64 f.u, .int .i64 g.u] W' fun e w' => e = .returned (.int .i64 (Lib.compareInt f.u g.u)) ∧ w' = W') := fun W' => Tryd.cmp_Compare_int f.u g.u W'
  unfold cfU
  generalize Lib.compareInt f.u g.u = r at hcon ⊢
  go_enter Tryd.func61, Tryd.ntmps61
  go_wp2_with (go_at_call 75; refine (hcon.out _).mono ?_; rintro e w' ⟨rfl, rfl⟩)
  go_ret
  exact ⟨rfl, 0, _, by rw [alloc_eq_grow, alloc_eq_grow, grow_grow]; rfl⟩

theorem byUse_lays (blk off size : Nat) (w : World) : CmpLays Tryd.prog 61 #[] encLf 3 cfU blk off size w := fun _ _ _ _ x y => byUse_any x y _

theorem ltU (f g : Lf) : ltOf cfU f g = decide (f.u < g.u) := by
  unfold ltOf cfU Lib.compareInt
  by_cases h1 : f.u < g.u
  · simp [h1]
  · by_cases h2 : g.u < f.u <;> simp [h1, h2]

end Go.Proofs.YthgocacabadflaaDoor

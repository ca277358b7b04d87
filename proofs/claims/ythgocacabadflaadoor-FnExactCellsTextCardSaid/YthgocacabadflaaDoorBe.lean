/-
  strings.Builder: Len and String.
-/
import Derived.Test.YthgocacabadflaaDoorBc
import Derived.Shelf.Strings.Builder1
namespace Go.Proofs.YthgocacabadflaaDoor
set_option linter.unusedVariables false
set_option linter.unusedSimpArgs false
open Go.RowKit

theorem BuildAt.row {w : World} {own : Nat → Prop} {b : Nat} {l : List UInt8} (h : BuildAt w own b l) : ∃ p a c, Blk w b #[p, .slice a l.length c] 74 ∧ w.ownsRow 0 5 1 (.slice a l.length c) l.length (Lib.byteCells l) ∧ ∀ g, (Value.slice a l.length c).ownBlock = some g → own g ∧ g ≠ b := by
  obtain ⟨p, v, hp, hb, hrow, hob, hv⟩ := h
  obtain ⟨a, c, rfl⟩ := row_shape (ok := fun _ => True) ⟨hrow, fun _ _ => trivial⟩
  exact ⟨p, a, c, hb, hrow, hv⟩

set_option maxRecDepth 100000 in
set_option maxHeartbeats 2000000 in
theorem blen_any (b : Nat) (l : List UInt8) (own : Nat → Prop) (w : World) (h : BuildAt w own b l) :
    Calls Tryd.prog 55 #[.pointer (some ⟨b, 0, none⟩)] w fun e w' => e = .returned (.int .i64 (l.length : Int)) ∧ w' = w := by
  obtain ⟨p, a, c, hb, _, _⟩ := h.row
  have c1 := hb.cell 1
  simp at c1
  obtain ⟨n, hn⟩ : ∃ n, n = l.length := ⟨_, rfl⟩
  rw [← hn] at c1 ⊢
  clear hn hb h
  go_enter Tryd.func55, Tryd.ntmps55
  go_wp2
  go_ret
  exact ⟨rfl, rfl⟩

theorem Keeps.freeze {may : Nat → Prop} {w : World} {g : Nat} (hg : may g) (n : Nat) : Keeps may w (w.drew.freeze ⟨g, 0, none⟩ n) := by
  unfold World.freeze
  split
  · exact (Keeps.refl may w).drew
  · exact ⟨rfl, rfl, rfl, by simp, fun k hk hm => by
      simp only [Array.getElem?_modify]
      rw [if_neg (by rintro rfl; exact hm hg)]
      rfl⟩

theorem Tryd.cellsByte : Tryd.prog.cellsOf 5 = 1 := by kernel_rfl

set_option maxRecDepth 100000 in
set_option maxHeartbeats 2000000 in
theorem bstring_any (b : Nat) (l : List UInt8) (own : Nat → Prop) (w : World) (h : BuildAt w own b l) (h0 : l ≠ []) :
    Calls Tryd.prog 47 #[.pointer (some ⟨b, 0, none⟩)] w fun e w' => e = .returned (.string ⟨l.toArray⟩) ∧ Keeps own w w' := by
  obtain ⟨p, a, c, hb, hown, hv⟩ := h.row
  have hl0 : l.length ≠ 0 := by simpa using h0
  obtain ⟨g, cap, cur, hv2, hgb, hg, hnc, hcm, hcs, htake⟩ : ∃ g cap cur, Value.slice a l.length c = .slice (some ⟨g, 0, none⟩) l.length cap ∧ 0 ≤ g ∧ w.heap[g]? = some (.cells cur 5 (0, 0)) ∧ l.length ≤ cap ∧ cap ≤ maxLen ∧ cur.size = cap * 1 ∧ cur.toList.take (l.length * 1) = Lib.byteCells l := by
    rcases hown.2 with ⟨_, hz⟩ | ⟨g, cap, cur, hv, r⟩
    · exact absurd hz hl0
    · exact ⟨g, cap, cur, hv, r⟩
  rw [hv2] at hb hown hv
  have hog := (hv g rfl).1
  have c1 : w.drew.cell? ⟨b, 1, none⟩ = some (.slice (some ⟨g, 0, none⟩) l.length cap) := by
    have hb2 : Blk w.drew b #[p, .slice (some ⟨g, 0, none⟩) l.length cap] 74 := hb
    exact (hb2.cell 1).trans rfl
  have hSD : (Builtin.unsafeSliceData_ #[72] 111 #[.slice (some ⟨g, 0, none⟩) l.length cap]).run Tryd.prog w.drew = .ok (.pointer (some ⟨g, 0, none⟩)) w.drew :=
    Lib.run_unsafeSliceData_row _ _ _ _ _ _ (by omega)
  have hUS : (Builtin.unsafeString_ #[111, 3] 9 #[.pointer (some ⟨g, 0, none⟩), .int .i64 l.length]).run Tryd.prog w.drew = .ok (.string ⟨l.toArray⟩) (w.drew.freeze ⟨g, 0, none⟩ l.length) := by
    refine Lib.run_unsafeString_row w.drew 111 3 9 5 Tryd.underlying111 Tryd.cellsByte g cur.size (by have hg' : w.drew.heap[g]? = some (.cells cur 5 (0, 0)) := hg; simp [World.shape?, hg']) l h0 (by omega) (by unfold maxLen at hcm; omega) ?_
    intro j x hx
    have := hown.cells (g := g) rfl j (.int .u8 x.toNat) (by simp [Lib.byteCells, hx])
    exact this
  have HE := Lib.hid (Keeps.freeze (w := w) (may := own) hog l.length)
  obtain ⟨n, hn⟩ : ∃ n, n = l.length := ⟨_, rfl⟩
  obtain ⟨S, hS⟩ : ∃ S : ByteArray, S = ⟨l.toArray⟩ := ⟨_, rfl⟩
  rw [← hn] at c1 hSD hUS HE
  rw [← hS] at hUS ⊢
  have mixed : Tryd.prog.follows .mixedOrders = true := by kernel_rfl
  clear hn hS hv2 hgb hg hnc hcm hcs htake hb hown hv hog hl0 h0 h
  go_enter Tryd.func47, Tryd.ntmps47
  go_wp2
  go_region_o
  all_goals (go_wp2; go_ret; exact ⟨rfl, HE.out⟩)

end Go.Proofs.YthgocacabadflaaDoor

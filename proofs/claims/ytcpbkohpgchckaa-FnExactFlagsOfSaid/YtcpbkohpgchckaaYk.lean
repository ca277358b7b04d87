/-
  The program's flags: names, the variables that were added in ascending order.
-/
import Derived.Test.YtcpbkohpgchckaaYj
import Derived.Test.YtcpbkohpgchckaaTz
import Derived.Deep.QuietTactic
import Derived.BigQuiet
namespace Go.Proofs.Ytcpbkohpgchckaa
set_option linter.unusedVariables false
set_option linter.unusedSimpArgs false
open Go.RowKit

theorem flagsA_get (s : List UInt8) {i : Nat} (h : i < 6) : (flagsA s)[i]? = some (.bool (s.contains (UInt8.ofNat (97 + i)))) := by
  have : i = 0 ∨ i = 1 ∨ i = 2 ∨ i = 3 ∨ i = 4 ∨ i = 5 := by omega
  rcases this with rfl | rfl | rfl | rfl | rfl | rfl <;> simp [flagsA, abc] <;> rfl

/-- What the loop of names holds: a row of bytes of its own. -/
def NamesAt5 (w : World) (s : List UInt8) (v3 v7 : Value) (wr : World) : Prop :=
  ∃ (i : Nat), i ≤ 6 ∧ v7 = .int .i64 (i : Int) ∧ wr.ownsRow 0 5 1 v3 (sortedUpTo s i).length ((sortedUpTo s i).map byteP) ∧ (∀ g, v3.ownBlock = some g → w.heap.size ≤ g) ∧ Keeps noB w wr

set_option maxRecDepth 100000 in
set_option maxHeartbeats 4000000 in
theorem names5_any (N : Nat) (s : List UInt8) (w : World) (hb : Blk w N (flagsA s) 90) : Calls Try.prog 65 #[.pointer (some ⟨N, 0, none⟩)] w (fun e w' => e = .returned (.string ⟨(sortedOf s).toArray⟩) ∧ Keeps noB w w') := by
  obtain ⟨i0, hi, hz0, hz1, hz2⟩ := info_parts Try.infoB5
  have HP : Hid (NamesAt5 w s (.slice none 0 0) (.int .i64 0) w) := ⟨0, by omega, rfl, ⟨rfl, .inl ⟨rfl, rfl⟩⟩, fun g e => by simp [Value.ownBlock] at e, Keeps.refl _ _⟩
  have HI := Lib.hid (And.intro hi (And.intro hz0 (And.intro hz1 hz2)))
  have HB := Lib.hid hb
  clear hi hz0 hz1 hz2 hb
  go_enter Try.func65, Try.ntmps65
  go_wp2_with fail
  go_loopw [3, 7] (fun v3 v7 wr => NamesAt5 w s v3 v7 wr) (fun _ v7 _ => 6 - (intOf v7).toNat)
  case atStart => exact HP.out
  case round =>
    clear HP
    obtain ⟨i, hi6, rfl, hrow, hfr, q⟩ := hrel
    by_cases h6 : i < 6
    · obtain ⟨hv1, hcn⟩ := abc_get h6
      have hnx := sorted_next (l := s) h6
      have hlen := sorted_len s i
      have hcell : wr.cell? ⟨N, i, none⟩ = some (.bool (s.contains (UInt8.ofNat (97 + i)))) := ((q.blk HB.out id).cell i).trans (flagsA_get s h6)
      have hi1 : (i : Int) < 6 := by omega
      have hi0 : (0 : Int) ≤ (i : Int) := by omega
      have hw0 : IntKind.u8.wrap (i : Int) = (i : Int) := by rw [IntKind.wrap]; simp [IntKind.signed, IntKind.bits]; omega
      have hw1 : IntKind.u8.wrap (97 + (i : Int)) = 97 + (i : Int) := by rw [IntKind.wrap]; simp [IntKind.signed, IntKind.bits]; omega
      have HQ := Lib.hid (And.intro hrow (And.intro hfr q))
      obtain ⟨ad, cc, rfl⟩ := row_shape (ok := fun _ => True) ⟨hrow, fun _ _ => trivial⟩
      generalize sortedUpTo s i = pre at hrow hnx hlen HQ
      cases h0 : s.contains (UInt8.ofNat (97 + i)) with
      | false =>
        rw [h0] at hnx hcell
        have HN := Lib.hid hnx
        clear hrow hfr q hnx h0 hcn hv1 HI
        go_wp2_with fail
        go_quiet (fail)
        go_wp2_with fail
        have hN : sortedUpTo s (i + 1) = pre := by have := HN.out; simpa using this
        obtain ⟨q1, q2, q3⟩ := HQ.out
        exact ⟨⟨i + 1, by omega, by go_num, by rw [hN]; exact q1, q2, q3.drawnN _⟩, by simp [intOf]; omega⟩
      | true =>
        rw [h0] at hnx hcell
        have HN := Lib.hid hnx
        have HC := Lib.hid hcn
        clear hrow hfr q hnx h0 hcn hv1
        obtain ⟨hi, hz0, hz1, hz2⟩ := HI.out
        go_wp2_with fail
        go_quiet (fail)
        go_wp2_with (at_builtin; refine wpList_append_fresh _ rfl _ _ 22 rfl 5 i0 _ 1 1 Try.underlying22 hi hz0 hz1 hz2 rfl (by decide) (.slice ad pre.length cc) pre.length (pre.map byteP) rfl ?own ⟨wr.heap.size, 0, none⟩ 1 1 [.int .u8 (97 + (i : Int))] rfl ?c1 ?c2 ?c3 ?c4 ?c5 ?_)
        case own => exact (show (wr.drewN nq).ownsRow 0 _ 1 _ _ _ from HQ.out.1).alloc _
        case c1 => rfl
        case c2 => exact cells_one (wr.drewN nq) (.int .u8 (97 + (i : Int))) 5
        case c3 => intro u hu; simp at hu; subst hu; rfl
        case c4 => unfold maxLen; omega
        case c5 => omega
        intro v' w3 hown' hgrow hfresh
        have hN : sortedUpTo s (i + 1) = pre ++ [UInt8.ofNat (97 + i)] := by have := HN.out; simpa using this
        have hnew : NamesAt5 w s v' (.int .i64 ((i + 1 : Nat) : Int)) w3 := by
          obtain ⟨q1, q2, q3⟩ := HQ.out
          have qs := q3.size
          have qa : Keeps (fun g => (Value.slice ad pre.length cc).ownBlock = some g) wr w3 := (((Keeps.refl _ wr).drawnN nq).alloc _).grown hgrow (fun g hg => .inl hg)
          refine ⟨i + 1, by omega, rfl, ?_, fun g hg => ?_, q3.transNew qa (fun j hj e => by have := q2 j e; omega)⟩
          · rw [hN, List.length_append, List.map_append]
            have e1 : [UInt8.ofNat (97 + i)].map byteP = [.int .u8 (97 + (i : Int))] := by show [byteP _] = _; unfold byteP; rw [HC.out]
            rw [e1]
            exact hown'
          · rcases hfresh with h | h
            · exact q2 g (h ▸ hg)
            · have h5 := h g hg
              simp at h5
              omega
        obtain ⟨a', c', rfl⟩ := row_slice (ok := fun _ => True) ⟨hown', fun _ _ => trivial⟩
        have HE := Lib.hid hnew
        clear hown' hgrow hfresh hnew
        go_wp2_with fail
        go_roundw
        case rel => exact HE.out
        case measure => simp [intOf]; omega
    · have hie : i = 6 := by omega
      have hd : ¬ (i : Int) < 6 := by omega
      have hl : sortedUpTo s i = sortedOf s := by rw [hie]; rfl
      rw [hl] at hrow
      have hcv := conv_bytesP wr _ (sortedOf s) hrow
      obtain ⟨ad, cc, rfl⟩ := row_shape (ok := fun _ => True) ⟨hrow, fun _ _ => trivial⟩
      have HQ := Lib.hid q
      clear hrow hfr q HI hl hie
      go_wp2_with fail
      go_ret
      exact ⟨rfl, HQ.out⟩

end Go.Proofs.Ytcpbkohpgchckaa

/-
  Walks of the program's sets of variables: names.
-/
import Derived.Test.YtkfcgamdlckncaaVb
import Derived.Test.YtkfcgamdlckncaaMemW
import Derived.Test.YtkfcgamdlckncaaScW
import Derived.Test.YtkfcgamdlckncaaIjW
import Derived.Test.YtkfcgamdlckncaaVoW
namespace Go.Proofs.Ytkfcgamdlckncaa
set_option linter.unusedVariables false
set_option linter.unusedSimpArgs false
open Go.RowKit

theorem Try.zeroK5 : (Try.prog.info? 5).map (fun i => (i.zero, i.size, i.bytes)) = some (some (.int .u8 0), 1, 1) := by kernel_rfl

/-- A byte's value. -/
def byteVK (c : UInt8) : Value := .int .u8 (c.toNat : Int)

/-- A row of bytes as a text. -/
theorem conv_rowK (W : World) (v : Value) (l : List UInt8) (h : W.ownsRow 0 5 1 v l.length (l.map byteVK)) : (convert 22 9 v).run Try.prog W = .ok (str l) W := by
  have h2 := h.2
  rcases h2 with ⟨rfl, h0⟩ | ⟨g, cap, cur, rfl, _⟩
  · have hl : l = [] := List.length_eq_zero_iff.1 h0
    subst hl
    rw [run_convert_bytes_string W 22 9 5 none 0 0 Try.underlying22 Try.underlying5 Try.underlying9]
    rfl
  · refine run_convert_bytes_back W 22 9 5 ⟨g, 0, none⟩ cap l Try.underlying22 Try.underlying5 Try.underlying9 (fun j hj => ?_)
    exact h.cells rfl j _ (by rw [List.getElem?_map, List.getElem?_eq_getElem hj]; rfl)

def letsUp (a i : Nat) : List UInt8 := (abc.take i).filter (fun v => hasV a v)

theorem abc_at {i : Nat} (h : i < 6) : ∃ v, abc[i]? = some v ∧ ltr v ∧ (v.toNat : Int) = 97 + (i : Int) := by
  have : i = 0 ∨ i = 1 ∨ i = 2 ∨ i = 3 ∨ i = 4 ∨ i = 5 := by omega
  rcases this with rfl | rfl | rfl | rfl | rfl | rfl <;> exact ⟨_, rfl, ⟨by decide, by decide⟩, rfl⟩

theorem letsUp_next {a i : Nat} {v : UInt8} (h : abc[i]? = some v) : letsUp a (i + 1) = letsUp a i ++ (if hasV a v then [v] else []) := by
  unfold letsUp
  rw [List.take_add_one, h, List.filter_append]
  congr 1
  cases e : hasV a v <;> simp [e]
theorem letsUp_len (a i : Nat) : (letsUp a i).length ≤ 6 := by
  refine Nat.le_trans (List.length_filter_le _ _) ?_
  rw [List.length_take]
  exact Nat.min_le_right _ _
theorem letsUp_six (a : Nat) : letsUp a 6 = lets a := rfl

/-- What the loop of names holds: a row of bytes of its own. -/
def NamesAtK (w : World) (a : Nat) (v3 v4 : Value) (wr : World) : Prop :=
  ∃ (i : Nat), i ≤ 6 ∧ v4 = .int .u8 (97 + (i : Int)) ∧ wr.ownsRow 0 5 1 v3 (letsUp a i).length ((letsUp a i).map byteVK) ∧ (∀ g, v3.ownBlock = some g → w.heap.size ≤ g) ∧ Keeps noB w wr

set_option maxRecDepth 100000 in
set_option maxHeartbeats 4000000 in
theorem namesK_any (a : Nat) (ha : a < 64) (w : World) : Calls Try.prog 107 #[.int .u8 (a : Int)] w (fun e w' => e = .returned (str (lets a)) ∧ Keeps noB w w') := by
  obtain ⟨i0, hi, hz0, hz1, hz2⟩ := info_parts Try.zeroK5
  have HP : Hid (NamesAtK w a (.slice none 0 0) (.int .u8 97) w) := ⟨0, by omega, rfl, ⟨rfl, .inl ⟨rfl, rfl⟩⟩, fun g e => by simp [Value.ownBlock] at e, Keeps.refl _ _⟩
  have HI := Lib.hid (And.intro hi (And.intro hz0 (And.intro hz1 hz2)))
  have HH := Lib.hid (fun (v : UInt8) (hv : ltr v) w => has_any ha hv w)
  clear hi hz0 hz1 hz2 ha
  go_enter Try.func107, Try.ntmps107
  go_wp2_with fail
  go_loopw [3, 4] (fun v3 v4 wr => NamesAtK w a v3 v4 wr) (fun _ v4 _ => 103 - (intOf v4).toNat)
  case atStart => exact HP.out
  case round =>
    clear HP
    obtain ⟨i, hi6, rfl, hrow, hfr, q⟩ := hrel
    by_cases h6 : i < 6
    · obtain ⟨v, hv1, hv2, hcn⟩ := abc_at h6
      have hnx := letsUp_next (a := a) hv1
      have hlen := letsUp_len a i
      have HHv := Lib.hid (HH.out v hv2)
      rw [hcn] at HHv
      have hi1 : (97 : Int) + (i : Int) ≤ 102 := by omega
      have hi0 : (97 : Int) ≤ 97 + (i : Int) := by omega
      have hw1 : IntKind.u8.wrap (97 + (i : Int) + 1) = 97 + (i : Int) + 1 := by rw [IntKind.wrap]; simp [IntKind.signed, IntKind.bits]; omega
      have HQ := Lib.hid (And.intro hrow (And.intro hfr q))
      obtain ⟨ad, cc, rfl⟩ := row_shape (ok := fun _ => True) ⟨hrow, fun _ _ => trivial⟩
      generalize letsUp a i = pre at hrow hnx hlen HQ
      cases h0 : hasV a v with
      | false =>
        rw [h0] at hnx HHv
        have HN := Lib.hid hnx
        clear hrow hfr q hnx h0 hcn hv1 hv2 HH HI
        go_wp2_with (go_at_call 133; refine (HHv.out _).mono ?_; rintro e w2 ⟨rfl, rfl⟩)
        have hN : letsUp a (i + 1) = pre := by have := HN.out; simpa using this
        obtain ⟨q1, q2, q3⟩ := HQ.out
        exact ⟨⟨i + 1, by omega, by go_num, by rw [hN]; exact q1, q2, q3⟩, by simp [intOf]; omega⟩
      | true =>
        rw [h0] at hnx HHv
        have HN := Lib.hid hnx
        have HC := Lib.hid hcn
        clear hrow hfr q hnx h0 hcn hv1 hv2 HH
        obtain ⟨hi, hz0, hz1, hz2⟩ := HI.out
        go_wp2_with (first
          | (go_at_call 133; refine (HHv.out _).mono ?_; rintro e w2 ⟨rfl, rfl⟩)
          | (at_builtin; refine wpList_append_fresh _ rfl _ _ 22 rfl 5 i0 _ 1 1 Try.underlying22 hi hz0 hz1 hz2 rfl (by decide) (.slice ad pre.length cc) pre.length (pre.map byteVK) rfl ?own ⟨w2.heap.size, 0, none⟩ 1 1 [.int .u8 (97 + (i : Int))] rfl ?c1 ?c2 ?c3 ?c4 ?c5 ?_))
        case own => exact HQ.out.1.alloc _
        case c1 => rfl
        case c2 => exact cells_one w2 (.int .u8 (97 + (i : Int))) 5
        case c3 => intro u hu; simp at hu; subst hu; rfl
        case c4 => unfold maxLen; omega
        case c5 => omega
        intro v' w3 hown' hgrow hfresh
        have hN : letsUp a (i + 1) = pre ++ [v] := by have := HN.out; simpa using this
        have hnew : NamesAtK w a v' (.int .u8 (97 + (i : Int) + 1)) w3 := by
          obtain ⟨q1, q2, q3⟩ := HQ.out
          have qs := q3.size
          have qa : Keeps (fun g => (Value.slice ad pre.length cc).ownBlock = some g) w2 w3 := ((Keeps.refl _ w2).alloc _).grown hgrow (fun g hg => .inl hg)
          refine ⟨i + 1, by omega, by go_num, ?_, fun g hg => ?_, q3.transNew qa (fun j hj e => by have := q2 j e; omega)⟩
          · rw [hN, List.length_append, List.map_append]
            have e1 : [v].map byteVK = [.int .u8 (97 + (i : Int))] := by show [byteVK v] = _; unfold byteVK; rw [HC.out]
            rw [e1]
            exact hown'
          · rcases hfresh with h | h
            · exact q2 g (h ▸ hg)
            · have h5 := h g hg
              simp at h5
              omega
        obtain ⟨a', c', rfl⟩ := row_slice (ok := fun _ => True) ⟨hown', fun _ _ => trivial⟩
        have HE := Lib.hid hnew
        clear hown' hgrow hfresh hnew
        go_wp2_with fail
        exact ⟨HE.out, by simp [intOf]; omega⟩
    · have hie : i = 6 := by omega
      have hd : ¬ (97 : Int) + (i : Int) ≤ 102 := by omega
      have hl : letsUp a i = lets a := by rw [hie]; rfl
      rw [hl] at hrow
      have hcv := conv_rowK wr _ (lets a) hrow
      obtain ⟨ad, cc, rfl⟩ := row_shape (ok := fun _ => True) ⟨hrow, fun _ _ => trivial⟩
      have HQ := Lib.hid q
      unfold str at hcv
      clear hrow hfr q HH HI hl hie
      go_wp2_with fail
      go_ret
      exact ⟨rfl, HQ.out⟩

end Go.Proofs.Ytkfcgamdlckncaa

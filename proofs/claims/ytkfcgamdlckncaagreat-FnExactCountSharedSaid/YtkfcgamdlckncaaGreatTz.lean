/-
  Walks of the model's run: l1Sorted.
-/
import Derived.Test.YtkfcgamdlckncaaGreatPureW
import Derived.Test.YtkfcgamdlckncaaGreatSbV
import Derived.Deep.RegionHeld3
namespace Go.Proofs.YtkfcgamdlckncaaGreat
set_option linter.unusedVariables false
set_option linter.unusedSimpArgs false
open Go.RowKit

theorem str_eq {a : ByteArray} {l : List UInt8} (h : a.data.toList = l) : Value.string a = str l := by
  subst h
  rfl

/-! ### l1Sorted. -/
def sortedUpTo (l : List UInt8) (i : Nat) : List UInt8 := (abc.take i).filter (fun v => l.contains v)

theorem abc_get {i : Nat} (h : i < 6) : abc[i]? = some (UInt8.ofNat (97 + i)) ∧ ((UInt8.ofNat (97 + i)).toNat : Int) = 97 + (i : Int) := by
  have : i = 0 ∨ i = 1 ∨ i = 2 ∨ i = 3 ∨ i = 4 ∨ i = 5 := by omega
  rcases this with rfl | rfl | rfl | rfl | rfl | rfl <;> exact ⟨rfl, rfl⟩

theorem sorted_next {l : List UInt8} {i : Nat} (h : i < 6) : sortedUpTo l (i + 1) = sortedUpTo l i ++ (if l.contains (UInt8.ofNat (97 + i)) then [UInt8.ofNat (97 + i)] else []) := by
  unfold sortedUpTo
  rw [List.take_add_one, (abc_get h).1, List.filter_append]
  congr 1
  simp only [Option.toList, List.filter_cons, List.filter_nil]

theorem sorted_len (l : List UInt8) (i : Nat) : (sortedUpTo l i).length ≤ 6 := by
  unfold sortedUpTo
  refine Nat.le_trans (List.length_filter_le _ _) ?_
  rw [List.length_take]
  exact Nat.min_le_right _ _

/-- What the loop of l1Sorted holds. -/
def SortAt (w : World) (l : List UInt8) (v3 v4 : Value) (wr : World) : Prop :=
  ∃ (i : Nat) (out : ByteArray), i ≤ 6 ∧ v4 = .int .u8 (97 + (i : Int)) ∧ v3 = .string out ∧ out.data.toList = sortedUpTo l i ∧ Keeps noB w wr

set_option maxRecDepth 100000 in
set_option maxHeartbeats 2000000 in
theorem sorted_any (a : ByteArray) (ha : a.size ≤ 1048576) (w : World) : Calls Tryz.prog 108 #[.string a] w (fun e w' => e = .returned (str (sortedOf a.data.toList)) ∧ Keeps noB w w') := by
  have HP : Hid (SortAt w a.data.toList (.string ⟨#[]⟩) (.int .u8 97) w) := ⟨0, ⟨#[]⟩, by omega, rfl, rfl, rfl, Keeps.refl _ _⟩
  have HF := Lib.hid (fun c w => find_any a c w ha)
  have HM : Hid (∀ c, c ∈ a.data.toList → 0 ≤ findI a c) := fun c hc => findI_mem hc
  have HO : Hid (∀ c, ¬ c ∈ a.data.toList → findI a c = -1) := fun c hc => findI_not hc
  generalize a.data.toList = l at HP HM HO ⊢
  go_enter Tryz.func108, Tryz.ntmps108
  go_wp2_with fail
  go_loopw [3, 4] (fun v3 v4 wr => SortAt w l v3 v4 wr) (fun _ v4 _ => 103 - (intOf v4).toNat)
  case atStart => exact HP.out
  case round =>
    clear HP
    obtain ⟨i, out, hi, rfl, rfl, hd, q⟩ := hrel
    by_cases h6 : i < 6
    · obtain ⟨_, hc⟩ := abc_get h6
      have hnx := sorted_next (l := l) h6
      generalize UInt8.ofNat (97 + i) = c at hc hnx
      have hsz : out.size = (sortedUpTo l i).length := by rw [← hd]; simp
      have hlen := sorted_len l i
      have hos : (out.size : Int) + 1 ≤ 9223372036854775807 := by omega
      have hconv := fun W => conv_new W wr.heap.size c
      have HFc := Lib.hid (fun w => HF.out c w)
      rw [hc] at hconv HFc
      have hw1 : IntKind.u8.wrap (97 + (i : Int) + 1) = 97 + (i : Int) + 1 := by rw [IntKind.wrap]; simp [IntKind.signed, IntKind.bits]; omega
      have hle : 97 + (i : Int) ≤ 102 := by omega
      have HN : Hid (∀ (o : ByteArray) W, o.data.toList = sortedUpTo l (i + 1) → Keeps noB wr W → SortAt w l (.string o) (.int .u8 (97 + (i : Int) + 1)) W ∧ 103 - (intOf (.int .u8 (97 + (i : Int) + 1))).toNat < 103 - (intOf (.int .u8 (97 + (i : Int)))).toNat) := fun o W ho qq =>
        ⟨⟨i + 1, o, by omega, by simp; omega, rfl, ho, q.trans qq⟩, by simp [intOf]; omega⟩
      by_cases hm : c ∈ l
      · have hf : 0 ≤ findI a c := HM.out c hm
        have HX : Hid (∀ W, Keeps noB wr W → SortAt w l (.string (out ++ ⟨#[c]⟩)) (.int .u8 (97 + (i : Int) + 1)) W ∧ 103 - (intOf (.int .u8 (97 + (i : Int) + 1))).toNat < 103 - (intOf (.int .u8 (97 + (i : Int)))).toNat) := fun W qq =>
          HN.out _ W (by rw [ByteArray.data_append, Array.toList_append, hd, hnx, if_pos (by simpa using hm)]) qq
        generalize findI a c = fi at hf HFc
        clear hd hnx hm HN HM HO HF hsz hlen q hc h6 hi
        generalize 97 + (i : Int) = vi at *
        go_wp2_with (go_at_call 40; refine (HFc.out _).mono ?_; rintro e w ⟨rfl, rfl⟩)
        exact HX.out _ ((Keeps.refl _ _).alloc _)
      · have hf : findI a c = -1 := HO.out c hm
        have hd1 : decide ((0 : Int) ≤ -1) = false := rfl
        rw [hf] at HFc
        have HX : Hid (∀ W, Keeps noB wr W → SortAt w l (.string out) (.int .u8 (97 + (i : Int) + 1)) W ∧ 103 - (intOf (.int .u8 (97 + (i : Int) + 1))).toNat < 103 - (intOf (.int .u8 (97 + (i : Int)))).toNat) := fun W qq =>
          HN.out _ W (by rw [hd, hnx, if_neg (by simpa using hm), List.append_nil]) qq
        clear hd hnx hm HN HM HO HF hsz hlen q hc h6 hi hconv hf
        generalize 97 + (i : Int) = vi at *
        go_wp2_with (go_at_call 40; refine (HFc.out _).mono ?_; rintro e w ⟨rfl, rfl⟩)
        exact HX.out _ (Keeps.refl _ _)
    · have hi6 : i = 6 := by omega
      subst hi6
      have HE : Hid (Value.string out = str (sortedOf l) ∧ Keeps noB w wr) := ⟨str_eq (by rw [hd]; rfl), q⟩
      clear hd q h6 HF HM HO hi
      go_wp2_with fail
      go_ret
      exact ⟨congrArg Ending.returned HE.out.1, HE.out.2⟩

end Go.Proofs.YtkfcgamdlckncaaGreat

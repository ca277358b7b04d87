/-
  What must hold a value may, and the others are unsure: plain; a letter in a text.
  The law's elHas: whether a letter is in a text.
-/
import Derived.Test.YthpjkickpodmcaaPkW
import Derived.Test.YthpjkickpodmcaaMemW
import Derived.Test.YthpjkickpodmcaaGd
namespace Go.Proofs.Ythpjkickpodmcaa
set_option linter.unusedVariables false
set_option linter.unusedSimpArgs false
open Go.RowKit

/-- The three texts of what is known. -/
def KnownFits (may must unsure : List UInt8) : Prop := (∀ c ∈ must, c ∈ may ∧ c ∉ unsure) ∧ may.length = must.length + unsure.length

theorem fits_all : ∀ a, a < 64 → ∀ b, b < 64 → b &&& a = b → ((lets b).all (fun c => (lets a).contains c && !(lets (strike a b)).contains c) && (lets a).length == (lets b).length + (lets (strike a b)).length) = true := by
  decide +kernel

theorem known_fits (s : ByteArray) (z : Int) : ∃ A B C : List UInt8, mayT (knownP s z) = ⟨A.toArray⟩ ∧ mustT (knownP s z) = ⟨B.toArray⟩ ∧ unsureT (knownP s z) = ⟨C.toArray⟩ ∧ KnownFits A B C ∧ A.length ≤ 6 ∧ B.length ≤ 6 ∧ C.length ≤ 6 := by
  cases h : knownP s z with
  | none => exact ⟨[], [], [], rfl, rfl, rfl, ⟨(fun c hc => by cases hc), rfl⟩, by decide, by decide, by decide⟩
  | some k =>
    refine ⟨lets k.may, lets k.must, lets (strike k.may k.must), rfl, rfl, rfl, ?_, lets_len _, lets_len _, lets_len _⟩
    unfold knownP at h
    cases hp : progP s with
    | none => rw [hp] at h; cases h
    | some x =>
      rw [hp] at h
      obtain ⟨h1, h2⟩ := seen_some h
      have hw := noteI_wf (progP_sp hp) h1
      have hs : k.must &&& k.may = k.must := by
        rcases hw.sub with e | e
        · exact absurd e h2
        · exact e
      have hf := fits_all k.may hw.may k.must hw.must hs
      rw [Bool.and_eq_true, List.all_eq_true, beq_iff_eq] at hf
      refine ⟨fun c hc => ?_, hf.2⟩
      have := hf.1 c hc
      rw [Bool.and_eq_true] at this
      refine ⟨by simpa using this.1, by simpa using this.2⟩

end Go.Proofs.Ythpjkickpodmcaa

namespace Go.Proofs.Ythpjkickpodmcaa
set_option linter.unusedVariables false
set_option linter.unusedSimpArgs false
open Go.RowKit

/-- The text of one letter of a text. -/
theorem letter_run {l : List UInt8} {i : Nat} {c : UInt8} (h : l[i]? = some c) : ∀ wx, (Instr.slice 9 (.string ⟨l.toArray⟩) (some (.int .i64 (i : Int))) (some (.int .i64 ((i : Int) + 1))) none).run Try.prog wx = .ok (.string ⟨#[c]⟩) wx := fun wx => by
  have hi : i < l.length := by
    by_cases h1 : i < l.length
    · exact h1
    · rw [List.getElem?_eq_none (by omega)] at h; cases h
  have hsz : (⟨l.toArray⟩ : ByteArray).size = l.length := by show l.toArray.size = _; simp
  have := run_slice_string (P := Try.prog) wx 9 ⟨l.toArray⟩ .i64 .i64 (i : Int) ((i + 1 : Nat) : Int) Try.underlying9 (by omega) (by omega) (by rw [hsz]; omega)
  have e : (⟨l.toArray⟩ : ByteArray).extract i (i + 1) = ⟨#[c]⟩ := by
    apply ByteArray.ext
    apply Array.ext'
    rw [ByteArray.data_extract, Array.toList_extract]
    simp only [List.extract_eq_take_drop]
    rw [show i + 1 - i = 1 by omega]
    have e0 : l[i] = c := by rw [List.getElem?_eq_getElem hi] at h; exact Option.some.inj h
    rw [List.drop_eq_getElem_cons hi, e0]
    rfl
  simp only [Int.toNat_natCast] at this
  rw [e] at this
  exact this

/-- What the loop of elHas holds. -/
def ElHasAt (l : List UInt8) (c : UInt8) (w : World) (vi : Value) (wr : World) : Prop :=
  ∃ i : Nat, i ≤ l.length ∧ vi = .int .i64 (i : Int) ∧ c ∉ l.take i ∧ Keeps noB w wr

set_option maxRecDepth 100000 in
set_option maxHeartbeats 2000000 in
theorem elHas_any (l : List UInt8) (c : UInt8) (hl : l.length ≤ 100) (w : World) : Calls Try.prog 23 #[.string ⟨l.toArray⟩, .string ⟨#[c]⟩] w (fun e w' => e = .returned (.bool (l.contains c)) ∧ Keeps noB w w') := by
  have hsz : (⟨l.toArray⟩ : ByteArray).size = l.length := by show l.toArray.size = _; simp
  have HL : Hid (∀ (i : Nat) (c' : UInt8), l[i]? = some c' → ∃ C : ByteArray, (∀ wx, (Instr.slice 9 (.string ⟨l.toArray⟩) (some (.int .i64 (i : Int))) (some (.int .i64 ((i : Int) + 1))) none).run Try.prog wx = .ok (.string C) wx) ∧ (C.toList == (⟨#[c]⟩ : ByteArray).toList) = decide (c' = c)) := Lib.hid (fun i c' h => ⟨⟨#[c']⟩, letter_run (l := l) (i := i) (c := c') h, by
    rw [Go.ByteArray.toList_eq, Go.ByteArray.toList_eq]
    by_cases e : c' = c
    · subst e; simp
    · simp [e]⟩)
  have HP : Hid (ElHasAt l c w (.int .i64 0) w) := Lib.hid ⟨0, Nat.zero_le _, rfl, by simp, Keeps.refl _ _⟩
  obtain ⟨b, hb⟩ : ∃ b, l.contains c = b := ⟨_, rfl⟩
  rw [hb]
  have HB := Lib.hid hb
  clear hb
  generalize (⟨l.toArray⟩ : ByteArray) = S at *
  generalize (⟨#[c]⟩ : ByteArray) = D at *
  obtain ⟨n, hN⟩ : ∃ n, l.length = n := ⟨_, rfl⟩
  rw [hN] at hsz hl
  have HN := Lib.hid hN
  have hn6 : (S.size : Int) ≤ 100 := by omega
  have HS := Lib.hid hsz
  clear hN hsz
  go_enter Try.func23, Try.ntmps23
  go_wp2_with fail
  go_loopw [8] (fun vi wr => ElHasAt l c w vi wr) (fun vi _ => n - (intOf vi).toNat)
  case atStart => exact HP.out
  case round =>
    clear HP
    obtain ⟨i, hin, rfl, hno, q⟩ := hrel
    rw [HN.out] at hin
    have HQ := Lib.hid (And.intro hno q)
    clear hno q
    by_cases hlt : i < n
    · obtain ⟨c', hc⟩ : ∃ c', l[i]? = some c' := ⟨_, List.getElem?_eq_getElem (by rw [HN.out]; exact hlt)⟩
      obtain ⟨C, hsl, hcmp⟩ := HL.out i c' hc
      have hi1 : (i : Int) < (S.size : Int) := by have := HS.out; omega
      have HC := Lib.hid hc
      clear hc
      by_cases he : c' = c
      · obtain rfl : b = true := by
          rw [← HB.out, List.contains_iff_mem]
          exact he ▸ List.mem_of_getElem? HC.out
        have hcmp : (C.toList == D.toList) = true := by rw [hcmp]; simpa using he
        go_wp2_with fail
        go_ret
        exact ⟨rfl, HQ.out.2⟩
      · have HE : Hid (ElHasAt l c w (.int .i64 ((i : Int) + 1)) wr) := Lib.hid ⟨i + 1, by rw [HN.out]; exact hlt, rfl, by
          rw [List.take_add_one, HC.out]
          intro hm
          rcases List.mem_append.1 hm with h | h
          · exact HQ.out.1 h
          · have e : c = c' := by simpa using h
            exact he e.symm, HQ.out.2⟩
        have hcmp : (C.toList == D.toList) = false := by rw [hcmp]; simpa using he
        go_wp2_with fail
        go_roundw
        case rel => exact HE.out
        case measure => simp [intOf]; omega
    · have hi1 : ¬ (i : Int) < (S.size : Int) := by have := HS.out; omega
      obtain rfl : b = false := by
        have h := HQ.out.1
        rw [List.take_of_length_le (by rw [HN.out]; omega)] at h
        rw [← HB.out]
        simpa using h
      go_wp2_with fail
      go_ret
      exact ⟨rfl, HQ.out.2⟩

end Go.Proofs.Ythpjkickpodmcaa

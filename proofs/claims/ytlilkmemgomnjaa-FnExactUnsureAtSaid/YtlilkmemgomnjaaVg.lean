/-
  Walks of the model's texts of variables: l3With, l3Without.
-/
import Derived.Test.YtlilkmemgomnjaaPn
import Derived.Test.YtlilkmemgomnjaaTz
import Derived.Deep.RegionHeld3
namespace Go.Proofs.Ytlilkmemgomnjaa
set_option linter.unusedVariables false
set_option linter.unusedSimpArgs false
open Go.RowKit

theorem size_arr (l : List UInt8) : (⟨l.toArray⟩ : ByteArray).size = l.length := by simp [ByteArray.size]

set_option maxRecDepth 100000 in
set_option maxHeartbeats 1000000 in
theorem swith_any (a : Nat) {v : UInt8} (hv : ltr v) (w : World) : Calls Try.prog 142 #[str (lets a), u8 v] w (fun e w' => e = .returned (str (lets (a ||| bitV v))) ∧ Keeps noB w w') := by
  have hsz : (⟨(lets a).toArray⟩ : ByteArray).size ≤ 6 := by rw [size_arr]; exact lets_len a
  have HS : Hid (∀ w, Calls Try.prog 45 #[.string ((⟨(lets a).toArray⟩ : ByteArray) ++ ⟨#[v]⟩)] w (fun e w' => e = .returned (str (lets (a ||| bitV v))) ∧ Keeps noB w w')) := fun w => by
    have := sorted_any ((⟨(lets a).toArray⟩ : ByteArray) ++ ⟨#[v]⟩) (by rw [ByteArray.size_append]; show _ + 1 ≤ _; omega) w
    rw [ByteArray.data_append, Array.toList_append] at this
    have e : sortedOf ((lets a).toArray.toList ++ (#[v] : Array UInt8).toList) = lets (a ||| bitV v) := by
      rw [List.toList_toArray]; exact lets_with a hv
    rwa [e] at this
  have hconv := fun W => conv_new W w.heap.size v
  generalize lets (a ||| bitV v) = res at *
  unfold str u8
  unfold str at HS
  generalize (⟨(lets a).toArray⟩ : ByteArray) = sa at *
  have hos : (sa.size : Int) + 1 ≤ 9223372036854775807 := by omega
  go_enter Try.func142, Try.ntmps142
  go_wp2_with (go_at_call 45; refine (HS.out _).mono ?_; rintro e w1 ⟨rfl, q1⟩)
  go_ret
  exact ⟨rfl, ((Keeps.refl _ _).alloc _).trans q1⟩

/-- What the loop of l3Without holds. -/
def WoAt (w : World) (l : List UInt8) (v : UInt8) (vo vi : Value) (wr : World) : Prop :=
  ∃ (i : Nat) (out : ByteArray), i ≤ l.length ∧ vi = .int .i64 (i : Int) ∧ vo = .string out ∧ out.data.toList = (l.take i).filter (fun u => u != v) ∧ wr = w

set_option maxRecDepth 100000 in
set_option maxHeartbeats 2000000 in
theorem swithout_any (l : List UInt8) (hl : l.length ≤ 6) (v : UInt8) (w : World) : Calls Try.prog 56 #[str l, u8 v] w (fun e w' => e = .returned (str (l.filter (fun u => u != v))) ∧ w' = w) := by
  obtain ⟨sv, hsv⟩ : ∃ sv : ByteArray, sv = ⟨l.toArray⟩ := ⟨_, rfl⟩
  unfold str u8
  rw [← hsv]
  have hsz : sv.size = l.length := by rw [hsv]; exact size_arr l
  have hget : ∀ (i : Nat) (hi : i < sv.size), l[i]? = some sv[i] := by
    intro i hi
    subst hsv
    rw [List.getElem?_eq_getElem (by omega)]
    rfl
  have HP : Hid (WoAt w l v (.string ⟨#[]⟩) (.int .i64 0) w) := ⟨0, ⟨#[]⟩, Nat.zero_le _, rfl, rfl, rfl, rfl⟩
  have hsz1 : (sv.size : Int) ≤ 6 := by omega
  have HS := Lib.hid hsz
  have HX : Hid (∀ (i : Nat) (hi : i < sv.size), (l.take (i + 1)).filter (fun u => u != v) = (l.take i).filter (fun u => u != v) ++ (if sv[i] = v then [] else [sv[i]])) := fun i hi => by
    rw [List.take_add_one, hget i hi, List.filter_append]
    congr 1
    by_cases h : sv[i] = v
    · simp [h]
    · simp [h]
  clear hsv hget hsz hl
  go_enter Try.func56, Try.ntmps56
  go_wp2_with fail
  go_loopw [5, 9] (fun vo vi wr => WoAt w l v vo vi wr) (fun _ vi _ => sv.size - (intOf vi).toNat)
  case atStart => exact HP.out
  case round =>
    clear HP
    obtain ⟨i, out, hil, rfl, rfl, hout, rfl⟩ := hrel
    by_cases hi : i < sv.size
    · have hnx := HX.out i hi
      have hoz : out.size ≤ 6 := by
        have e : out.size = ((l.take i).filter (fun u => u != v)).length := by rw [← hout]; simp
        rw [e]
        refine Nat.le_trans (List.length_filter_le _ _) ?_
        rw [List.length_take]
        have := HS.out
        omega
      have hi0 : (0 : Int) ≤ (i : Int) := by omega
      have hi1 : (i : Int) < (sv.size : Int) := by omega
      have h3 : ((i : Int) + 1).toNat = i + 1 := by omega
      have h5 : (i : Int) + 1 ≤ (sv.size : Int) := by omega
      have h6 : (i : Int) ≤ (i : Int) + 1 := by omega
      have h7 : (0 : Int) ≤ (i : Int) + 1 := by omega
      have hxo := extract_one hi
      have hilt : i + 1 ≤ l.length := by have := HS.out; omega
      have HN : Hid (∀ (o : ByteArray), o.data.toList = (l.take (i + 1)).filter (fun u => u != v) → WoAt wr l v (.string o) (.int .i64 ((i : Int) + 1)) wr) := fun o ho =>
        ⟨i + 1, o, hilt, by simp, rfl, ho, rfl⟩
      by_cases hv : sv[i] = v
      · rw [if_pos hv, List.append_nil] at hnx
        have HY : Hid (out.data.toList = (l.take (i + 1)).filter (fun u => u != v)) := Lib.hid (by rw [hnx, hout])
        have hne : ((sv[i].toNat : Int) != (v.toNat : Int)) = false := by rw [hv]; simp
        clear hnx hout hxo hoz HX
        obtain ⟨x1, hx1⟩ : ∃ x1 : Int, (sv[i].toNat : Int) = x1 := ⟨_, rfl⟩
        rw [hx1] at hne
        generalize (v.toNat : Int) = x2 at *
        clear hv
        go_wp2_with fail
        exact ⟨HN.out _ HY.out, by simp [intOf]; omega⟩
      · rw [if_neg hv] at hnx
        have hxz : (sv.extract i (i + 1)).size = 1 := by
          have e : (sv.extract i (i + 1)).size = (sv.extract i (i + 1)).data.toList.length := by rw [Array.length_toList]; rfl
          rw [e, hxo]; rfl
        have hcz : out.size + (sv.extract i (i + 1)).size ≤ 9223372036854775807 := by omega
        have HY : Hid ((out ++ sv.extract i (i + 1)).data.toList = (l.take (i + 1)).filter (fun u => u != v)) := Lib.hid (by rw [hnx, ByteArray.data_append, Array.toList_append, hout, hxo])
        have hne : ((sv[i].toNat : Int) != (v.toNat : Int)) = true := by
          have hne0 : ¬ (sv[i].toNat : Int) = (v.toNat : Int) := fun e => hv (UInt8.toNat_inj.1 (by omega))
          rw [bne_iff_ne]; exact hne0
        clear hnx hout hxo hoz hxz hv HX
        obtain ⟨x1, hx1⟩ : ∃ x1 : Int, (sv[i].toNat : Int) = x1 := ⟨_, rfl⟩
        rw [hx1] at hne
        generalize (v.toNat : Int) = x2 at *
        go_wp2_with fail
        exact ⟨HN.out _ HY.out, by simp [intOf]; omega⟩
    · have hie : i = l.length := by have := HS.out; omega
      have HE : Hid (Value.string out = str (l.filter (fun u => u != v))) := Lib.hid (str_eq (by rw [hout, hie, List.take_length]))
      have hi1 : ¬ (i : Int) < (sv.size : Int) := by omega
      clear hout hie HX
      go_wp2_with fail
      go_ret
      exact ⟨congrArg Ending.returned HE.out, rfl⟩

end Go.Proofs.Ytlilkmemgomnjaa

/-
  Walks of the program's reader: IndexByte, variable, move.
-/
import Derived.Test.YtaaphpcbiibpcaaIa
import Derived.Test.YtaaphpcbiibpcaaShelf
import Derived.Lib.IndexAny
namespace Go.Proofs.Ytaaphpcbiibpcaa
set_option linter.unusedVariables false
set_option linter.unusedSimpArgs false
open Go.RowKit

theorem index_in (ar : ByteArray) (c : UInt8) (w : World) (hc : c ∈ ar.data.toList) :
    Calls Try.prog 119 #[.string ar, .int .u8 (c.toNat : Int)] w fun e w' => ∃ n : Int, e = .returned (.int .i64 n) ∧ 0 ≤ n ∧ w = w' := by
  refine (Try.strings_IndexByte ar (c.toNat : Int) w).mono ?_
  rintro e w' ⟨rfl, rfl⟩
  refine ⟨_, rfl, ?_, rfl⟩
  have := Lib.contains_iff_indexByte ar.data.toList c
  simp only [Int.toNat_natCast, UInt8.ofNat_toNat] at *
  simpa [hc] using this

theorem index_out (ar : ByteArray) (c : UInt8) (w : World) (hc : ¬ c ∈ ar.data.toList) :
    Calls Try.prog 119 #[.string ar, .int .u8 (c.toNat : Int)] w fun e w' => ∃ n : Int, e = .returned (.int .i64 n) ∧ n < 0 ∧ w = w' := by
  refine (Try.strings_IndexByte ar (c.toNat : Int) w).mono ?_
  rintro e w' ⟨rfl, rfl⟩
  refine ⟨_, rfl, ?_, rfl⟩
  have := Lib.contains_iff_indexByte ar.data.toList c
  simp only [Int.toNat_natCast, UInt8.ofNat_toNat] at *
  simpa [hc] using this

set_option maxHeartbeats 400000 in
theorem variable_some (b : Nat) (s : ByteArray) (k d : Nat) (ar : ByteArray) (w : World) (h : Rd w b s k d ar) (hs : s.size ≤ 80) (v : UInt8) (k1 : Nat) (hv : varP s ar.data.toList k = some (v, k1)) :
    Calls Try.prog 134 #[.pointer (some ⟨b, 0, none⟩)] w (Moved b s k1 d ar w (.int .u8 (v.toNat : Int))) := by
  unfold varP at hv
  split at hv
  · cases hv
  rename_i c hc
  split at hv
  · rename_i hmem
    simp only [Option.some.injEq, Prod.mk.injEq] at hv
    obtain ⟨rfl, rfl⟩ := hv
    have hk := at?_lt hc
    have he := at?_get hc hk
    go_enter Try.func134, Try.ntmps134
    go_wp2_with fail
    refine (take_ok b s k d ar _ h hk hs).mono ?_
    rintro e w' ⟨rfl, h1, h2⟩
    rw [he]
    have c3 := h1.c3
    clear he hc
    go_wp2_with fail
    refine (index_in ar c _ hmem).mono ?_
    rintro e w' ⟨n, rfl, hn, rfl⟩
    go_wp2_with fail
    go_ret
    exact ⟨rfl, h1, h2⟩
  · cases hv

set_option maxHeartbeats 400000 in
theorem variable_none (b : Nat) (s : ByteArray) (k d : Nat) (ar : ByteArray) (w : World) (h : Rd w b s k d ar) (hk : k ≤ s.size) (hs : s.size ≤ 80) (hv : varP s ar.data.toList k = none) :
    Calls Try.prog 134 #[.pointer (some ⟨b, 0, none⟩)] w (Fell b w) := by
  unfold varP at hv
  split at hv
  · rename_i hc
    have hge : s.size ≤ k := by
      rcases Nat.lt_or_ge k s.size with hlt | hge
      · rw [at?_some hlt] at hc; cases hc
      · exact hge
    go_enter Try.func134, Try.ntmps134
    go_wp2_with fail
    refine (take_end b s k d ar _ h hge hk hs).mono ?_
    rintro e w' ⟨⟨n, rfl⟩, h2⟩
    go_wp2_with fail
    exact post_panic rfl ⟨⟨_, rfl⟩, h2⟩
  rename_i c hc
  split at hv
  · cases hv
  · rename_i hmem
    have hk := at?_lt hc
    have he := at?_get hc hk
    go_enter Try.func134, Try.ntmps134
    go_wp2_with fail
    refine (take_ok b s k d ar _ h hk hs).mono ?_
    rintro e w' ⟨rfl, h1, h2⟩
    rw [he]
    have c3 := h1.c3
    have c1 := h1.c1
    clear he hc
    go_wp2_with fail
    refine (index_out ar c _ hmem).mono ?_
    rintro e w' ⟨n, rfl, hn, rfl⟩
    go_wp2_with fail
    exact post_panic rfl ⟨⟨_, rfl⟩, h2⟩

end Go.Proofs.Ytaaphpcbiibpcaa

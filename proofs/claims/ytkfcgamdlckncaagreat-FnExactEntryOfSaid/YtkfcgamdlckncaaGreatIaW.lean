/-
  Walks of the program's reader: take, skips, need.
  Walks of the program's reader: IndexByte, variable, move.
-/
import Derived.Test.YtkfcgamdlckncaaGreatChecked
import Derived.Test.YtkfcgamdlckncaaGreatMemW
import Derived.Test.YtkfcgamdlckncaaGreatPureW
import Derived.WalkKit
import Derived.WalkLawsBesides
import Derived.Deep.QuietTactic
import Derived.BigQuiet
import Derived.Lib.Hide
import Derived.Test.YtkfcgamdlckncaaGreatShelf
import Derived.Lib.IndexAny
namespace Go.Proofs.YtkfcgamdlckncaaGreat
set_option linter.unusedVariables false
set_option linter.unusedSimpArgs false
open Go.RowKit

/-- The reader's block: its text, the next byte, the scopes, the variables around. -/
def Rd (w : World) (b : Nat) (s : ByteArray) (k d : Nat) (ar : ByteArray) : Prop :=
  Blk w b #[.string s, .int .i64 k, .int .i64 d, .string ar] 95

theorem Rd.c0 {w : World} {b : Nat} {s : ByteArray} {k d : Nat} {ar : ByteArray} (h : Rd w b s k d ar) : w.cell? ⟨b, 0, none⟩ = some (.string s) := Blk.cell h 0
theorem Rd.c1 {w : World} {b : Nat} {s : ByteArray} {k d : Nat} {ar : ByteArray} (h : Rd w b s k d ar) : w.cell? ⟨b, 1, none⟩ = some (.int .i64 k) := Blk.cell h 1
theorem Rd.c2 {w : World} {b : Nat} {s : ByteArray} {k d : Nat} {ar : ByteArray} (h : Rd w b s k d ar) : w.cell? ⟨b, 2, none⟩ = some (.int .i64 d) := Blk.cell h 2
theorem Rd.c3 {w : World} {b : Nat} {s : ByteArray} {k d : Nat} {ar : ByteArray} (h : Rd w b s k d ar) : w.cell? ⟨b, 3, none⟩ = some (.string ar) := Blk.cell h 3
theorem Rd.drewN {w : World} {b : Nat} {s : ByteArray} {k d : Nat} {ar : ByteArray} (h : Rd w b s k d ar) (n : Nat) : Rd (w.drewN n) b s k d ar := h
theorem Keeps.drewN {may : Nat → Prop} {a w : World} (h : Keeps may a w) (n : Nat) : Keeps may a (w.drewN n) := ⟨h.os, h.tape, h.output, h.size, h.block⟩
theorem Rd.set1 {w : World} {b : Nat} {s : ByteArray} {k d : Nat} {ar : ByteArray} (h : Rd w b s k d ar) : Rd (w.setCell ⟨b, 1, none⟩ (.int .i64 ((k : Int) + 1))) b s (k + 1) d ar := Blk.set h 1 _
theorem Rd.keeps {may : Nat → Prop} {w w' : World} {b : Nat} {s : ByteArray} {k d : Nat} {ar : ByteArray} (h : Rd w b s k d ar) (hk : Keeps may w w') (hm : ¬ may b) : Rd w' b s k d ar := hk.blk h hm

theorem Keeps.one {b : Nat} {a w : World} (h : Keeps (oneB b) a w) {i : Nat} {u : Value} : Keeps (oneB b) a (w.setCell ⟨b, i, none⟩ u) := h.setCell (p := ⟨b, i, none⟩) (Or.inl (show b = b from rfl)) u

/-- The reader has gone on to k: the answer is v. -/
def Moved (b : Nat) (s : ByteArray) (k d : Nat) (ar : ByteArray) (w : World) (v : Value) (e : Ending) (w' : World) : Prop :=
  e = .returned v ∧ Rd w' b s k d ar ∧ Keeps (oneB b) w w'
/-- The reader has fallen: it panics with a misfit. -/
def Fell (b : Nat) (w : World) (e : Ending) (w' : World) : Prop := (∃ n : Int, e = .panicked [{ v := .iface 98 (.int .i64 n), recovered := false }]) ∧ Keeps (oneB b) w w'
/-- The answer is v, and nothing has turned. -/
def Same (w : World) (v : Value) (e : Ending) (w' : World) : Prop := e = .returned v ∧ Keeps noB w w'

theorem Keeps.toOne {b : Nat} {a w : World} (h : Keeps noB a w) : Keeps (oneB b) a w := h.mono (fun _ f => f.elim)
theorem Rd.noB {w w' : World} {b : Nat} {s : ByteArray} {k d : Nat} {ar : ByteArray} (h : Rd w b s k d ar) (hk : Keeps noB w w') : Rd w' b s k d ar := h.keeps hk id


theorem post_panic {P : Program} {fn : Func} {R : Ending → World → Prop} {a : Act} {w : World} {ch : List PanicEntry} (hd : a.defers = []) (hR : R (.panicked ch) w) : bodyPost P fn R (.panic ch) a w := ⟨hd, hR⟩

set_option maxHeartbeats 400000 in
theorem take_end (b : Nat) (s : ByteArray) (k d : Nat) (ar : ByteArray) (w : World) (h : Rd w b s k d ar) (hk : s.size ≤ k) (hk' : k ≤ s.size) (hs : s.size ≤ 80) :
    Calls Tryz.prog 87 #[.pointer (some ⟨b, 0, none⟩)] w (Fell b w) := by
  obtain rfl : k = s.size := by omega
  have c0 := h.c0
  have c1 := h.c1
  go_enter Tryz.func87, Tryz.ntmps87
  go_wp2_with fail
  go_quiet (fail)
  go_wp2_with fail
  exact post_panic rfl ⟨⟨_, rfl⟩, (Keeps.refl _ _).drewN _⟩

set_option maxHeartbeats 400000 in
theorem take_ok (b : Nat) (s : ByteArray) (k d : Nat) (ar : ByteArray) (w : World) (h : Rd w b s k d ar) (hk : k < s.size) (hs : s.size ≤ 80) :
    Calls Tryz.prog 87 #[.pointer (some ⟨b, 0, none⟩)] w (Moved b s (k + 1) d ar w (.int .u8 (s[k]).toNat)) := by
  have c0 := h.c0
  have c1 := h.c1
  have f1 := Blk.free h 1
  have hne : decide ((k : Nat) = s.size) = false := by simp; omega
  go_enter Tryz.func87, Tryz.ntmps87
  go_wp2_with fail
  go_quiet (fail)
  go_wp2_with fail
  go_quiet (fail)
  go_wp2_with fail
  go_ret
  exact ⟨rfl, (h.drewN _).set1, ((Keeps.refl _ _).drewN _).one⟩

set_option maxHeartbeats 400000 in
theorem skips_end (b : Nat) (s : ByteArray) (k d : Nat) (ar : ByteArray) (c : Int) (w : World) (h : Rd w b s k d ar) (hk : k = s.size) (hs : s.size ≤ 80) :
    Calls Tryz.prog 62 #[.pointer (some ⟨b, 0, none⟩), .int .u8 c] w (Same w (.bool false)) := by
  have c0 := h.c0
  have c1 := h.c1
  subst hk
  go_enter Tryz.func62, Tryz.ntmps62
  go_wp2_with fail
  go_quiet (fail)
  go_wp2_with fail
  go_ret
  exact ⟨rfl, (Keeps.refl _ _).drewN _⟩

set_option maxHeartbeats 400000 in
theorem skips_no (b : Nat) (s : ByteArray) (k d : Nat) (ar : ByteArray) (c : Int) (w : World) (h : Rd w b s k d ar) (hk : k < s.size) (hs : s.size ≤ 80) (hc : ((s[k].toNat : Int) == c) = false) (hc' : ((s[k].toNat : Int) != c) = true) :
    Calls Tryz.prog 62 #[.pointer (some ⟨b, 0, none⟩), .int .u8 c] w (Same w (.bool false)) := by
  have c0 := h.c0
  have c1 := h.c1
  have hne : decide ((k : Nat) = s.size) = false := by simp; omega
  have hne2 : ((k : Int) == (s.size : Int)) = false := by simp; omega
  go_enter Tryz.func62, Tryz.ntmps62
  go_wp2_with fail
  go_quiet (fail)
  go_wp2_with fail
  go_ret
  exact ⟨rfl, (Keeps.refl _ _).drewN _⟩

set_option maxHeartbeats 400000 in
theorem skips_yes (b : Nat) (s : ByteArray) (k d : Nat) (ar : ByteArray) (c : Int) (w : World) (h : Rd w b s k d ar) (hk : k < s.size) (hs : s.size ≤ 80) (hc : ((s[k].toNat : Int) == c) = true) (hc' : ((s[k].toNat : Int) != c) = false) :
    Calls Tryz.prog 62 #[.pointer (some ⟨b, 0, none⟩), .int .u8 c] w (Moved b s (k + 1) d ar w (.bool true)) := by
  have c0 := h.c0
  have c1 := h.c1
  have f1 := Blk.free h 1
  have hne : decide ((k : Nat) = s.size) = false := by simp; omega
  have hne2 : ((k : Int) == (s.size : Int)) = false := by simp; omega
  go_enter Tryz.func62, Tryz.ntmps62
  go_wp2_with fail
  go_quiet (fail)
  go_wp2_with fail
  go_ret
  exact ⟨rfl, (h.drewN _).set1, ((Keeps.refl _ _).drewN _).one⟩

/-- skips, one contract for each answer. -/
theorem skips_true (b : Nat) (s : ByteArray) (k d : Nat) (ar : ByteArray) (c : UInt8) (w : World) (h : Rd w b s k d ar) (hs : s.size ≤ 80) (hc : at? s k = some c) :
    Calls Tryz.prog 62 #[.pointer (some ⟨b, 0, none⟩), .int .u8 (c.toNat : Int)] w (Moved b s (k + 1) d ar w (.bool true)) := by
  have hk := at?_lt hc
  have he := at?_get hc hk
  exact skips_yes b s k d ar c.toNat w h hk hs (by simp [he]) (by simp [he])

theorem skips_false (b : Nat) (s : ByteArray) (k d : Nat) (ar : ByteArray) (c : UInt8) (w : World) (h : Rd w b s k d ar) (hk : k ≤ s.size) (hs : s.size ≤ 80) (hc : at? s k ≠ some c) :
    Calls Tryz.prog 62 #[.pointer (some ⟨b, 0, none⟩), .int .u8 (c.toNat : Int)] w (Same w (.bool false)) := by
  rcases Nat.lt_or_ge k s.size with hlt | hge
  · rw [at?_some hlt] at hc
    have hne : ¬ ((s[k].toNat : Int) = (c.toNat : Int)) := fun e => hc (by rw [UInt8.toNat_inj.1 (Int.ofNat.inj e)])
    exact skips_no b s k d ar c.toNat w h hlt hs (by simpa using hne) (by simpa using hne)
  · exact skips_end b s k d ar _ w h (by omega) hs

set_option maxHeartbeats 400000 in
theorem need_true (b : Nat) (s : ByteArray) (k d : Nat) (ar : ByteArray) (c : UInt8) (w : World) (h : Rd w b s k d ar) (hs : s.size ≤ 80) (hc : at? s k = some c) :
    Calls Tryz.prog 42 #[.pointer (some ⟨b, 0, none⟩), .int .u8 (c.toNat : Int)] w (Moved b s (k + 1) d ar w (.tuple #[])) := by
  go_enter Tryz.func42, Tryz.ntmps42
  go_wp2_with fail
  refine (skips_true b s k d ar c _ h hs hc).mono ?_
  rintro e w' ⟨rfl, h1, h2⟩
  go_wp2_with fail
  go_end0
  exact ⟨rfl, h1, h2⟩

set_option maxHeartbeats 400000 in
theorem need_false (b : Nat) (s : ByteArray) (k d : Nat) (ar : ByteArray) (c : UInt8) (w : World) (h : Rd w b s k d ar) (hk : k ≤ s.size) (hs : s.size ≤ 80) (hc : at? s k ≠ some c) :
    Calls Tryz.prog 42 #[.pointer (some ⟨b, 0, none⟩), .int .u8 (c.toNat : Int)] w (Fell b w) := by
  go_enter Tryz.func42, Tryz.ntmps42
  go_wp2_with fail
  refine (skips_false b s k d ar c _ h hk hs hc).mono ?_
  rintro e w' ⟨rfl, h2⟩
  have c1 := (h.noB h2).c1
  go_wp2_with fail
  exact post_panic rfl ⟨⟨_, rfl⟩, h2.toOne⟩

end Go.Proofs.YtkfcgamdlckncaaGreat

namespace Go.Proofs.YtkfcgamdlckncaaGreat
set_option linter.unusedVariables false
set_option linter.unusedSimpArgs false
open Go.RowKit

theorem index_in (ar : ByteArray) (c : UInt8) (w : World) (hc : c ∈ ar.data.toList) :
    Calls Tryz.prog 88 #[.string ar, .int .u8 (c.toNat : Int)] w fun e w' => ∃ n : Int, e = .returned (.int .i64 n) ∧ 0 ≤ n ∧ w = w' := by
  refine (Tryz.strings_IndexByte ar (c.toNat : Int) w).mono ?_
  rintro e w' ⟨rfl, rfl⟩
  refine ⟨_, rfl, ?_, rfl⟩
  have := Lib.contains_iff_indexByte ar.data.toList c
  simp only [Int.toNat_natCast, UInt8.ofNat_toNat] at *
  simpa [hc] using this

theorem index_out (ar : ByteArray) (c : UInt8) (w : World) (hc : ¬ c ∈ ar.data.toList) :
    Calls Tryz.prog 88 #[.string ar, .int .u8 (c.toNat : Int)] w fun e w' => ∃ n : Int, e = .returned (.int .i64 n) ∧ n < 0 ∧ w = w' := by
  refine (Tryz.strings_IndexByte ar (c.toNat : Int) w).mono ?_
  rintro e w' ⟨rfl, rfl⟩
  refine ⟨_, rfl, ?_, rfl⟩
  have := Lib.contains_iff_indexByte ar.data.toList c
  simp only [Int.toNat_natCast, UInt8.ofNat_toNat] at *
  simpa [hc] using this

set_option maxHeartbeats 400000 in
theorem variable_some (b : Nat) (s : ByteArray) (k d : Nat) (ar : ByteArray) (w : World) (h : Rd w b s k d ar) (hs : s.size ≤ 80) (v : UInt8) (k1 : Nat) (hv : varP s ar.data.toList k = some (v, k1)) :
    Calls Tryz.prog 112 #[.pointer (some ⟨b, 0, none⟩)] w (Moved b s k1 d ar w (.int .u8 (v.toNat : Int))) := by
  unfold varP at hv
  split at hv
  · cases hv
  rename_i c hc
  split at hv
  · rename_i hmem
    simp only [Option.some.injEq, Prod.mk.injEq] at hv
    obtain ⟨rfl, rfl⟩ := hv
    have hk := at?_lt hc
    have he := at?_get hc hk
    go_enter Tryz.func112, Tryz.ntmps112
    go_wp2_with fail
    refine (take_ok b s k d ar _ h hk hs).mono ?_
    rintro e w' ⟨rfl, h1, h2⟩
    rw [he]
    have c3 := h1.c3
    clear he hc
    go_wp2_with fail
    refine (index_in ar c _ hmem).mono ?_
    rintro e w' ⟨n, rfl, hn, rfl⟩
    go_wp2_with fail
    go_ret
    exact ⟨rfl, h1, h2⟩
  · cases hv

set_option maxHeartbeats 400000 in
theorem variable_none (b : Nat) (s : ByteArray) (k d : Nat) (ar : ByteArray) (w : World) (h : Rd w b s k d ar) (hk : k ≤ s.size) (hs : s.size ≤ 80) (hv : varP s ar.data.toList k = none) :
    Calls Tryz.prog 112 #[.pointer (some ⟨b, 0, none⟩)] w (Fell b w) := by
  unfold varP at hv
  split at hv
  · rename_i hc
    have hge : s.size ≤ k := by
      rcases Nat.lt_or_ge k s.size with hlt | hge
      · rw [at?_some hlt] at hc; cases hc
      · exact hge
    go_enter Tryz.func112, Tryz.ntmps112
    go_wp2_with fail
    refine (take_end b s k d ar _ h hge hk hs).mono ?_
    rintro e w' ⟨⟨n, rfl⟩, h2⟩
    go_wp2_with fail
    exact post_panic rfl ⟨⟨_, rfl⟩, h2⟩
  rename_i c hc
  split at hv
  · cases hv
  · rename_i hmem
    have hk := at?_lt hc
    have he := at?_get hc hk
    go_enter Tryz.func112, Tryz.ntmps112
    go_wp2_with fail
    refine (take_ok b s k d ar _ h hk hs).mono ?_
    rintro e w' ⟨rfl, h1, h2⟩
    rw [he]
    have c3 := h1.c3
    have c1 := h1.c1
    clear he hc
    go_wp2_with fail
    refine (index_out ar c _ hmem).mono ?_
    rintro e w' ⟨n, rfl, hn, rfl⟩
    go_wp2_with fail
    exact post_panic rfl ⟨⟨_, rfl⟩, h2⟩

end Go.Proofs.YtkfcgamdlckncaaGreat

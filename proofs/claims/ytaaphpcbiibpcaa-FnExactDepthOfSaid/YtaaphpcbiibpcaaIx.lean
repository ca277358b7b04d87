/-
  Walks of the program: placesOf; the iterator over all of a program's places.
-/
import Derived.Test.YtaaphpcbiibpcaaIu
import Derived.Test.YtaaphpcbiibpcaaIg
namespace Go.Proofs.Ytaaphpcbiibpcaa
set_option linter.unusedVariables false
set_option linter.unusedSimpArgs false
open Go.RowKit Go.Shelf

/-- What lay from B on, and no later than the world w. -/
def between (B : Nat) (w : World) : Nat → Prop := fun g => B ≤ g ∧ g < w.heap.size

/-- The iterator over the places of program x: what placesOf hands back. -/
structure PlacesOk (s : ByteArray) (x : Nd) (b0 B : Nat) (w : World) : Prop where
  ok : x.Ok s 0
  root : x.scope = []
  small : s.size ≤ 80
  few : x.pre.len ≤ s.size
  lt : b0 ≤ w.heap.size
  blk : b0 ≤ B
  rep : ∃ v, RepI w (between b0 w) x v ∧ Blk w B #[v, str x.scope, i64 0] 57

def PlacesPost (s : ByteArray) (w : World) (res : Option Nd) (e : Ending) (w' : World) : Prop :=
  match res with
  | none => e = .returned (.tuple #[.nilFunc, .bool false]) ∧ Keeps noB w w'
  | some x => ∃ B, e = .returned (.tuple #[.func (.func 85) #[] #[ptr B], .bool true]) ∧ PlacesOk s x w.heap.size B w' ∧ Keeps noB w w'

theorem places_none (s : ByteArray) (hs : s.size ≤ 1048576) (hp : progP s = none) (w : World) : Calls Try.prog 47 #[.string s] w (PlacesPost s w none) := by
  have HR : Hid (∀ w, Calls Try.prog 53 #[.string s] w (ReadPost w none)) := fun w => by
    have := read_any s hs w; rwa [hp] at this
  clear hp
  go_enter Try.func47, Try.ntmps47
  go_wp2_with fail
  refine (HR.out _).mono ?_
  rintro e w1 ⟨rfl, q1⟩
  go_wp2_with fail
  go_ret2
  exact ⟨rfl, q1⟩

theorem places_some (s : ByteArray) (hs : s.size ≤ 1048576) (x : Nd) (hp : progP s = some x) (w : World) : Calls Try.prog 47 #[.string s] w (PlacesPost s w (some x)) := by
  have HR : Hid (∀ w, Calls Try.prog 53 #[.string s] w (ReadPost w (some x))) := fun w => by
    have := read_any s hs w; rwa [hp] at this
  have HP := Lib.hid hp
  clear hp
  go_enter Try.func47, Try.ntmps47
  go_wp2_with fail
  refine (HR.out _).mono ?_
  rintro e w1 ⟨g, rfl, hr, q1⟩
  have HN := Lib.hid hr
  clear hr
  unfold ptr
  go_wp2_with fail
  refine (placesWithin_any _ _ _ _).mono ?_
  rintro e w2 ⟨rfl, rfl⟩
  have HF : Hid (∀ w2, Keeps noB w1 w2 → ∀ B, Blk w2 B #[.iface 66 (ptr g), .string ⟨#[]⟩, .int .i64 0] 57 → w1.heap.size ≤ B → PlacesOk s x w.heap.size B w2 ∧ Keeps noB w w2) := by
    intro w2 q2 B hB hl
    obtain ⟨h1, h2, _, _, _, h6⟩ := progP_ok HP.out
    have hsz := q1.size
    have hsz2 := q2.size
    refine ⟨⟨h2, h1, h6, (progP_few HP.out).1, by omega, by omega, .iface 66 (ptr g), ?_, ?_⟩, q1.trans q2⟩
    · exact (Hands.of_keeps q2 (fun _ _ _ => id) (fun k hk hl => ⟨hk, by omega⟩)).repI _ _ HN.out
    · rw [h1]; exact hB
  go_wp2_with fail
  go_ret2
  exact ⟨_, rfl, HF.out _ ((Keeps.refl _ _).alloc _) _ (Blk.new _ _ _) (Nat.le_refl _)⟩

end Go.Proofs.Ytaaphpcbiibpcaa

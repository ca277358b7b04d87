/-
  A step begins where the list of the steps says, and nowhere else: plain.
-/
import Derived.Test.YtjpmeecdndnknaaGg
import Derived.Test.YtjpmeecdndnknaaEi
import Derived.Test.YtjpmeecdndnknaaEf
import Derived.Test.YtjpmeecdndnknaaJb
import Derived.Test.YtjpmeecdndnknaaJf
namespace Go.Proofs.Ytjpmeecdndnknaa
set_option linter.unusedVariables false
set_option linter.unusedSimpArgs false
open Go.RowKit Go.Shelf

/-- Where the steps of a text begin. -/
def begsP (s : ByteArray) : List Nat := match progP s with | none => [] | some x => x.pre.list.map Nd.beg

/-- Is the number among them? -/
def inP (s : ByteArray) (z : Int) : Bool := (begsP s).any (fun k => (k : Int) == z)

theorem place_in (s : ByteArray) (z : Int) : ((placeP s z).map Prod.fst).isSome = ((progP s).isSome && inP s z) := by
  rw [← atP_eq]
  unfold atP inP begsP
  cases progP s with
  | none => rfl
  | some x =>
    show (x.pre.list.find? _).isSome = (true && ((x.pre.list.map Nd.beg).any _))
    rw [List.any_map, Bool.true_and, Bool.eq_iff_iff, List.find?_isSome]
    simp

theorem begs_len (s : ByteArray) : (begsP s).length ≤ 80 := by
  unfold begsP
  cases hp : progP s with
  | none => simp
  | some x => simp only [List.length_map]; rw [Nds.list_len]; have := progP_few hp; omega

/-- The row that StepsOf answers with. -/
theorem steps_begs {s : ByteArray} {xs : List Value} (h : xs = match progP s with | none => [] | some x => x.pre.list.map fun x => i64 x.beg) : xs = (begsP s).map i64 := by
  rw [h]; unfold begsP
  cases progP s with
  | none => rfl
  | some x => simp [List.map_map]

theorem any_take {zs : List Nat} {z : Int} {i : Nat} {k : Nat} (h : zs[i]? = some k) : (zs.take (i + 1)).any (fun k => (k : Int) == z) = ((zs.take i).any (fun k => (k : Int) == z) || ((k : Int) == z)) := by
  rw [List.take_add_one, h]; simp

theorem ArgB.at {w W : World} {v : Value} {n : Nat} (h : ArgB w.heap.size w v n) (q : Keeps noB w W) : ArgB W.heap.size W v n := by
  obtain ⟨p, c, e, hc, hh⟩ := h.keeps q (Nat.le_refl _) (fun _ _ => id)
  refine ⟨p, c, e, hc, fun i hi => ?_⟩
  obtain ⟨b, o, x, e1, h1, h2, h3⟩ := hh i hi
  exact ⟨b, o, x, e1, Nat.lt_of_lt_of_le h1 q.size, h2, h3⟩

def TwoEnd (X : ByteArray) (R : Bool) (w : World) (e : Ending) (w' : World) : Prop := e = .returned (.tuple #[.string X, .bool R]) ∧ Keeps noB w w'

theorem place_ends (s : ByteArray) (hs : s.size ≤ 1048576) (z : Int) : ∃ (X Y : ByteArray) (R : Bool), (R = false → X = ⟨#[]⟩ ∧ Y = ⟨#[]⟩) ∧ R = ((progP s).isSome && inP s z) ∧
    (∀ w, Calls Try.prog 19 #[.string s, .int .i64 z] w (TwoEnd X R w)) ∧ (∀ w, Calls Try.prog 21 #[.string s, .int .i64 z] w (TwoEnd X R w)) ∧
    (∀ w, Calls Try.prog 20 #[.string s, .int .i64 z] w (TwoEnd Y R w)) ∧ (∀ w, Calls Try.prog 22 #[.string s, .int .i64 z] w (TwoEnd Y R w)) := by
  have h1 := stepAt_any s hs z
  have h2 := sstepAt_any s hs z
  have h3 := inScope_any s hs z
  have h4 := sinScope_any s hs z
  have h5 := place_in s z
  generalize (placeP s z).map Prod.fst = res at *
  cases res with
  | none => exact ⟨⟨#[]⟩, ⟨#[]⟩, false, fun _ => ⟨rfl, rfl⟩, h5, h1, h2, h3, h4⟩
  | some y => exact ⟨s.extract y.beg y.fin, ⟨y.scope.toArray⟩, true, (fun e => by cases e), h5, h1, h2, h3, h4⟩

def StepsEnd (zs : List Nat) (B : Bool) (w : World) (e : Ending) (w' : World) : Prop :=
  ∃ a c, e = .returned (.tuple #[.slice a zs.length c, .bool B]) ∧ Row w' (fromB w.heap.size) 3 1 (.slice a zs.length c) zs.length (zs.map i64) ∧ Keeps noB w w'

theorem steps_ends (s : ByteArray) (hs : s.size ≤ 1048576) (w : World) : Calls Try.prog 6 #[.string s] w (StepsEnd (begsP s) (progP s).isSome w) := by
  refine (steps_any s hs w).mono ?_
  rintro e w' ⟨v, b, xs, rfl, hrow, q, hb, hx⟩
  have hx := steps_begs hx
  subst hb
  subst hx
  rw [List.length_map] at hrow
  obtain ⟨a, c, rfl⟩ := row_shape hrow
  exact ⟨a, c, rfl, hrow, q⟩

end Go.Proofs.Ytjpmeecdndnknaa

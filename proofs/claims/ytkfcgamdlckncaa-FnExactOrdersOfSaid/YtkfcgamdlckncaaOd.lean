/-
  WithOrder: the program's, the model's.
-/
import Derived.Test.YtkfcgamdlckncaaOc
import Derived.Test.YtkfcgamdlckncaaIjW
import Derived.Test.YtkfcgamdlckncaaSqW
import Derived.Test.YtkfcgamdlckncaaTz
import Derived.Test.YtkfcgamdlckncaaEbW
import Derived.Test.YtkfcgamdlckncaaWqfW
namespace Go.Proofs.Ytkfcgamdlckncaa
set_option linter.unusedVariables false
set_option linter.unusedSimpArgs false
open Go.RowKit Go.Shelf

/-- A program whose outermost scope declares in another order. -/
def declB (vars p : ByteArray) : ByteArray := (⟨#[123]⟩ ++ vars) ++ p.extract (1 + vars.size) p.size
/-- What WithOrder answers. -/
def withP (p vars : ByteArray) : Option ByteArray := (progP p).bind (fun x => if orderOk vars.data.toList x.vars then some (declB vars p) else none)

def TextPost (w : World) (res : Option ByteArray) (e : Ending) (w' : World) : Prop := e = .returned (.tuple #[.string (res.getD ⟨#[]⟩), .bool res.isSome]) ∧ Keeps noB w w'

theorem root_cell {w : World} {ok : Nat → Prop} {z : Nd} {g : Nat} (h : RepI w ok z (.iface 62 (ptr g))) : w.cell? ⟨g, 2, none⟩ = some (str z.vars) ∧ g < w.heap.size := by
  obtain ⟨h1, h2, h3, h4⟩ := rep_step z w ok _ g h
  rcases h2 with ⟨e, _⟩ | ⟨e, _⟩ | ⟨e, _⟩ | ⟨_, hk, h⟩ | ⟨e, _⟩
  · exact absurd e (by decide)
  · exact absurd e (by decide)
  · exact absurd e (by decide)
  · exact ⟨h, h4⟩
  · exact absurd e (by decide)

set_option maxRecDepth 100000 in
set_option maxHeartbeats 4000000 in
theorem declaring_any (vars p : ByteArray) (hp : p.size ≤ 80) (h : 1 + vars.size ≤ p.size) (w : World) :
    Calls Try.prog 54 #[.string vars, .string p] w (fun e w' => e = .returned (.string (declB vars p)) ∧ w' = w) := by
  have hs1 : (⟨#[123]⟩ : ByteArray).size = 1 := rfl
  have e1 := fun wx => run_string_add_sum (P := Try.prog) wx ⟨#[123]⟩ vars (by omega)
  have e2 := fun wx => run_slice_string_l (P := Try.prog) wx 9 p Try.underlying9 .i64 (1 + (vars.size : Int)) (by omega) (by omega)
  have e2' : ∀ wx, (Instr.slice 9 (.string p) (some (.int .i64 (1 + (vars.size : Int)))) none none).run Try.prog wx = .ok (.string (p.extract (1 + vars.size) p.size)) wx := fun wx => by
    rw [e2 wx, show (1 + (vars.size : Int)).toNat = 1 + vars.size by omega]
  have e3 := fun wx => run_string_add_sum (P := Try.prog) wx (⟨#[123]⟩ ++ vars) (p.extract (1 + vars.size) p.size) (by rw [ByteArray.size_append, ByteArray.size_extract]; omega)
  clear e2
  unfold declB
  generalize (⟨#[123]⟩ : ByteArray) ++ vars = A at *
  generalize p.extract (1 + vars.size) p.size = B at *
  have hv : (vars.size : Int) ≤ 80 := by omega
  go_enter Try.func54, Try.ntmps54
  go_wp2_with fail
  go_ret
  exact ⟨rfl, rfl⟩

theorem ba_toList (l : List UInt8) : (⟨l.toArray⟩ : ByteArray).data.toList = l := rfl
theorem ba_sizeL (l : List UInt8) : (⟨l.toArray⟩ : ByteArray).size = l.length := rfl

set_option maxRecDepth 100000 in
set_option maxHeartbeats 4000000 in
theorem withOrder_any (p vars : ByteArray) (hs : p.size ≤ 1048576) (hv : vars.size ≤ 1048576) (w : World) :
    Calls Try.prog 27 #[.string p, .string vars] w (TextPost w (withP p vars)) := by
  have HR := Lib.hid (fun w => read_any p hs w)
  unfold withP TextPost
  cases hp : progP p with
  | none =>
    rw [hp] at HR
    clear hp
    go_enter Try.func27, Try.ntmps27
    go_wp2_with fail
    refine (HR.out _).mono ?_
    rintro e w1 ⟨rfl, q1⟩
    have HQ := Lib.hid q1
    clear q1
    go_wp2_with fail
    go_ret2
    exact ⟨rfl, HQ.out⟩
  | some x =>
    rw [hp] at HR
    have hri := root_is hp
    have HS := Lib.hid (fun w => sameBytes_any vars ⟨x.vars.toArray⟩ hv hri.decl hri.six w)
    have HD : Hid (orderOk vars.data.toList x.vars = true → ∀ w, Calls Try.prog 54 #[.string vars, .string p] w (fun e w' => e = .returned (.string (declB vars p)) ∧ w' = w)) := Lib.hid (fun ho w => by
      refine declaring_any vars p hri.short ?_ w
      have h1 := ((orderOk_iff hri.decl).1 ho).length_eq
      have h2 : vars.size = x.vars.length := h1
      have := hri.room
      omega)
    rw [ba_toList] at HS
    simp only [Option.bind_some]
    generalize declB vars p = B at *
    clear hp hri
    cases ho : orderOk vars.data.toList x.vars with
    | false =>
      rw [ho] at HS
      simp only [Bool.false_eq_true, if_false, Option.getD_none, Option.isSome_none]
      clear HD ho
      go_enter Try.func27, Try.ntmps27
      go_wp2_with fail
      refine (HR.out _).mono ?_
      rintro e w1 ⟨g, rfl, hr, q1⟩
      obtain ⟨hc, hg⟩ := root_cell hr
      have HQ := Lib.hid q1
      clear hr q1
      unfold ptr
      unfold str at hc
      go_wp2_with fail
      refine (HS.out _).mono ?_
      rintro e w2 ⟨rfl, q2⟩
      have HQ2 := Lib.hid q2
      clear q2
      go_wp2_with fail
      go_ret2
      exact ⟨rfl, HQ.out.trans HQ2.out⟩
    | true =>
      rw [ho] at HS
      have HD2 := Lib.hid (HD.out ho)
      simp only [if_true, Option.getD_some, Option.isSome_some]
      clear HD ho
      go_enter Try.func27, Try.ntmps27
      go_wp2_with fail
      refine (HR.out _).mono ?_
      rintro e w1 ⟨g, rfl, hr, q1⟩
      obtain ⟨hc, hg⟩ := root_cell hr
      have HQ := Lib.hid q1
      clear hr q1
      unfold ptr
      unfold str at hc
      go_wp2_with fail
      refine (HS.out _).mono ?_
      rintro e w2 ⟨rfl, q2⟩
      have HQ2 := Lib.hid q2
      clear q2
      go_wp2_with fail
      refine (HD2.out _).mono ?_
      rintro e w3 ⟨rfl, rfl⟩
      go_wp2_with fail
      go_ret2
      exact ⟨rfl, HQ.out.trans HQ2.out⟩

end Go.Proofs.Ytkfcgamdlckncaa

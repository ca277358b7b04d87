/-
  Small words on a step of the model and its bytes.
-/
import Derived.Test.YtccpmhjffcceeaaHaW
import Derived.Test.YtccpmhjffcceeaaWqfW
import Derived.Test.YtccpmhjffcceeaaVsb
import Derived.Test.YtccpmhjffcceeaaVt
import Derived.Deep.LoopGhost
import Derived.Test.YtccpmhjffcceeaaYaW
namespace Go.Proofs.Ytccpmhjffcceeaa
set_option linter.unusedVariables false
set_option linter.unusedSimpArgs false
open Go.RowKit

/-- A step of the model's as a value. -/
def nodeA (z : Nd) (a : Option Addr) (n m : Nat) : Value := .agg #[.int .u8 (z.kind.toNat : Int), .int .i64 (z.beg : Int), .int .i64 (z.fin : Int), .string ⟨z.vars.toArray⟩, .slice a n m, .string ⟨z.scope.toArray⟩]

theorem ba_eq {s : ByteArray} {l : List UInt8} (h : s.data.toList = l) : s = ⟨l.toArray⟩ := by
  apply ByteArray.ext
  apply Array.toList_inj.1
  rw [h]

theorem ba_len (s : ByteArray) : s.size = s.data.toList.length := by rw [Array.length_toList]; rfl

theorem conv_kind {W : World} {A : Nat} {c : UInt8} (h : Blk W A #[.int .u8 (c.toNat : Int)] 5) : (convert 22 9 (.slice (some ⟨A, 0, none⟩) 1 1)).run Try.prog W = .ok (.string ⟨#[c]⟩) W :=
  conv_bytesP W _ [c] ⟨rfl, .inr ⟨A, 1, _, rfl, Nat.zero_le _, h, Nat.le_refl _, by decide, rfl, rfl⟩⟩

theorem size_lit (l : List UInt8) : (⟨l.toArray⟩ : ByteArray).size = l.length := by simp [ByteArray.size]

/-- What the loop over steps has written. -/
def SBI (w0 W : World) (ok : Nat → Prop) (V : Vis) (y : Nds) (cs : List Value) (n : Nat) (v5 v10 : Value) (wr : World) : Prop :=
  ∃ (i : Nat) (rest : Nds) (T : ByteArray), i + rest.list.length = n ∧ v10 = .int .i64 (i : Int) ∧ v5 = .string T ∧ T.data.toList ++ Nds.wr V rest = Nds.wr V y ∧ RepSL w0 ok rest (cs.drop (i * 6)) ∧ (∀ z ∈ rest.list, z ∈ y.list) ∧ Keeps noB W wr

end Go.Proofs.Ytccpmhjffcceeaa

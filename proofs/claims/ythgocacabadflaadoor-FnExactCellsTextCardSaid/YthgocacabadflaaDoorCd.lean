/-
  The room writer's write.
-/
import Derived.Test.YthgocacabadflaaDoorCa
import Derived.Test.YthgocacabadflaaDoorCc
import Derived.StillTailTactics
namespace Go.Proofs.YthgocacabadflaaDoor
set_option linter.unusedVariables false
set_option linter.unusedSimpArgs false
open Go.RowKit

attribute [local go_sem] Oper.semAt_some

/-- The room writer in block b: its text l, its count N, what it has shown, its row. -/
structure WrIn (w : World) (own : Nat → Prop) (b : Nat) (l : List UInt8) (cs : Array Value) (N : Nat) (sh : Nat → Nat) (row : ByteArray) : Prop where
  bld : BuildX w own b l cs
  cnt : cs[2]? = some (.int .i64 (N : Int))
  shn : ∀ i, i < 600 → cs[3 + i]? = some (.int .i64 (sh i : Int))
  rw' : cs[603]? = some (.string row)
def WrK (w : World) (own : Nat → Prop) (b : Nat) (l : List UInt8) (N : Nat) (sh : Nat → Nat) (row : ByteArray) : Prop := ∃ cs, WrIn w own b l cs N sh row

theorem BuildX.keeps {may own : Nat → Prop} {w w' : World} {b : Nat} {l : List UInt8} {cs : Array Value} (h : BuildX w own b l cs) (q : Keeps may w w') (hm : ∀ k, own k → ¬ may k) : BuildX w' own b l cs := by
  obtain ⟨p, v, hp, hb, h1, h2, h3, hrow, hob, hv⟩ := h
  exact ⟨p, v, hp, q.blk hb (hm b hob), h1, h2, h3, q.ownsRow hrow (fun g hg _ => hm g (hv g hg).1), hob, hv⟩
theorem WrK.keeps {may own : Nat → Prop} {w w' : World} {b : Nat} {l : List UInt8} {N : Nat} {sh : Nat → Nat} {row : ByteArray} (h : WrK w own b l N sh row) (q : Keeps may w w') (hm : ∀ k, own k → ¬ may k) : WrK w' own b l N sh row := by
  obtain ⟨cs, h1, h2, h3, h4⟩ := h
  exact ⟨cs, h1.keeps q hm, h2, h3, h4⟩
theorem BuildX.other {w : World} {own : Nat → Prop} {b : Nat} {l : List UInt8} {cs cs' : Array Value} (h : BuildX w own b l cs) {w' : World} (q : Keeps (oneB b) w w') (hb : Blk w' b cs' 78) (hs : cs'.size = 604) (h01 : ∀ j, j < 2 → cs'[j]? = cs[j]?) : BuildX w' own b l cs' := by
  obtain ⟨p, v, hp, _, h1, h2, h3, hrow, hob, hv⟩ := h
  exact ⟨p, v, hp, hb, hs, by rw [h01 0 (by omega)]; exact h2, by rw [h01 1 (by omega)]; exact h3, q.ownsRow hrow (fun g hg _ e => (hv g hg).2 e), hob, hv⟩
theorem BuildX.blk {w : World} {own : Nat → Prop} {b : Nat} {l : List UInt8} {cs : Array Value} (h : BuildX w own b l cs) : Blk w b cs 78 ∧ cs.size = 604 ∧ own b := by
  obtain ⟨p, v, hp, hb, h1, _, _, _, hob, _⟩ := h
  exact ⟨hb, h1, hob⟩

/-- The write of a text: the rest of the writer stands. -/
def WrotePostK (w : World) (own : Nat → Prop) (b : Nat) (l : List UInt8) (N : Nat) (sh : Nat → Nat) (row : ByteArray) (res : Value) (e : Ending) (w' : World) : Prop :=
  e = .returned res ∧ ∃ own', Owns own own' w w' ∧ WrK w' own' b l N sh row
theorem WrotePostX.K {w : World} {own : Nat → Prop} {b : Nat} {l l' : List UInt8} {cs : Array Value} {N : Nat} {sh : Nat → Nat} {row : ByteArray} {res : Value} (h : WrIn w own b l cs N sh row) {e : Ending} {w' : World} (k : WrotePostX w own b l' cs res e w') : WrotePostK w own b l' N sh row res e w' := by
  obtain ⟨he, own', cs', ho, hb, hj⟩ := k
  exact ⟨he, own', ho, cs', hb, by rw [hj 2 (by omega)]; exact h.cnt, fun i hi => by rw [hj _ (by omega)]; exact h.shn i hi, by rw [hj 603 (by omega)]; exact h.rw'⟩

theorem rowB_same {a b : Nat → Nat} : ∀ (n : Nat), (∀ i, i < n → a i = b i) → rowB a n = rowB b n
  | 0, _ => rfl
  | n + 1, h => by
    unfold rowB
    rw [rowB_same n (fun i hi => h i (by omega)), h n (by omega)]

/-- How write ends. -/
def WritePost (w : World) (own : Nat → Prop) (b : Nat) (l : List UInt8) (N : Nat) (ins : Nat → Nat) (e : Ending) (w' : World) : Prop :=
  e = .returned (.tuple #[]) ∧ ∃ own', Owns own own' w w' ∧ WrK w' own' b ((if l = [] then [] else l ++ [59]) ++ rowB ins N) N ins ⟨(rowB ins N).toArray⟩

end Go.Proofs.YthgocacabadflaaDoor

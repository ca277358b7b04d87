/-
  Plain facts on memory for this seat's walks: a block known whole ('Blk'), and 'Keeps b w w'': of what was there, every block but b is as it was.
-/
import Derived.Below
import Derived.OneCell
import Derived.RowKit3
namespace Go.Proofs.Ytaaphpcbiibpcaa
set_option linter.unusedVariables false
set_option linter.unusedSimpArgs false
open Go.RowKit

/-- Block b is a row of these cells, and none of it is frozen. -/
def Blk (w : World) (b : Nat) (cs : Array Value) (t : TypeId) : Prop := w.heap[b]? = some (.cells cs t (0, 0))

theorem Blk.lt {w : World} {b : Nat} {cs : Array Value} {t : TypeId} (h : Blk w b cs t) : b < w.heap.size := lt_of_block h

theorem Blk.cell {w : World} {b : Nat} {cs : Array Value} {t : TypeId} (h : Blk w b cs t) (i : Nat) : w.cell? ⟨b, i, none⟩ = cs[i]? := by
  unfold Blk at h; simp [World.cell?, h]

theorem Blk.free {w : World} {b : Nat} {cs : Array Value} {t : TypeId} (h : Blk w b cs t) (i : Nat) : w.frozen? ⟨b, i, none⟩ = false := by
  unfold Blk at h; simp [World.frozen?, h]

theorem Blk.set {w : World} {b : Nat} {cs : Array Value} {t : TypeId} (h : Blk w b cs t) (i : Nat) (u : Value) : Blk (w.setCell ⟨b, i, none⟩ u) b (cs.setIfInBounds i u) t := by
  have hlt := h.lt
  unfold Blk at h
  have h' : w.heap[b] = .cells cs t (0, 0) := by simpa [Array.getElem?_eq_getElem hlt] using h
  show (w.heap.modify b _)[b]? = _
  rw [Array.getElem?_eq_getElem (by simpa using hlt), Array.getElem_modify_self, h']
  rfl

theorem Blk.setOther {w : World} {b : Nat} {cs : Array Value} {t : TypeId} (h : Blk w b cs t) {a : Addr} (ha : a.block ≠ b) (u : Value) : Blk (w.setCell a u) b cs t := by
  unfold Blk at *
  rw [Below.heap_setCell _ _ _ _ (Ne.symm ha)]; exact h

theorem Blk.alloc {w : World} {b : Nat} {cs : Array Value} {t : TypeId} (h : Blk w b cs t) (o : Obj) : Blk (w.alloc o) b cs t := by
  have := h.lt
  unfold Blk at *
  rw [Below.heap_alloc _ _ _ this]; exact h

theorem Blk.drew {w : World} {b : Nat} {cs : Array Value} {t : TypeId} (h : Blk w b cs t) : Blk w.drew b cs t := h

theorem Blk.new (w : World) (cs : Array Value) (t : TypeId) : Blk (w.alloc (.cells cs t)) w.heap.size cs t := by
  unfold Blk; exact (MapKept.heap_alloc w _).1

/-- Every block that was there is as it was, but for those that 'may' names; the streams are as they were. -/
structure Keeps (may : Nat → Prop) (w w' : World) : Prop where
  os : w'.os = w.os
  tape : w'.tape = w.tape
  output : w'.output = w.output
  size : w.heap.size ≤ w'.heap.size
  block : ∀ k, k < w.heap.size → ¬ may k → w'.heap[k]? = w.heap[k]?

/-- No block may turn. -/
def noB : Nat → Prop := fun _ => False
/-- Block b may turn. -/
def oneB (b : Nat) : Nat → Prop := fun k => k = b

theorem Keeps.refl (may : Nat → Prop) (w : World) : Keeps may w w := ⟨rfl, rfl, rfl, Nat.le_refl _, fun _ _ _ => rfl⟩

theorem Keeps.trans {may : Nat → Prop} {a b c : World} (h : Keeps may a b) (k : Keeps may b c) : Keeps may a c :=
  ⟨k.os.trans h.os, k.tape.trans h.tape, k.output.trans h.output, Nat.le_trans h.size k.size,
   fun i hi hm => (k.block i (Nat.lt_of_lt_of_le hi h.size) hm).trans (h.block i hi hm)⟩

/-- A step that may turn more, where all that is more is new. -/
theorem Keeps.transNew {may may' : Nat → Prop} {a b c : World} (h : Keeps may a b) (k : Keeps may' b c) (hn : ∀ i, i < a.heap.size → may' i → may i) : Keeps may a c :=
  ⟨k.os.trans h.os, k.tape.trans h.tape, k.output.trans h.output, Nat.le_trans h.size k.size,
   fun i hi hm => (k.block i (Nat.lt_of_lt_of_le hi h.size) (fun e => hm (hn i hi e))).trans (h.block i hi hm)⟩

theorem Keeps.mono {may may' : Nat → Prop} {a b : World} (h : Keeps may a b) (hn : ∀ i, may i → may' i) : Keeps may' a b :=
  ⟨h.os, h.tape, h.output, h.size, fun i hi hm => h.block i hi (fun e => hm (hn i e))⟩

theorem Keeps.drew {may : Nat → Prop} {a w : World} (h : Keeps may a w) : Keeps may a w.drew := ⟨h.os, h.tape, h.output, h.size, h.block⟩

theorem Keeps.alloc {may : Nat → Prop} {a w : World} (h : Keeps may a w) (o : Obj) : Keeps may a (w.alloc o) :=
  h.trans ⟨rfl, rfl, rfl, by simp, fun k hk _ => Below.heap_alloc _ _ _ hk⟩

theorem Keeps.setCell {may : Nat → Prop} {a w : World} (h : Keeps may a w) {p : Addr} (hp : may p.block ∨ a.heap.size ≤ p.block) (u : Value) : Keeps may a (w.setCell p u) := by
  refine ⟨h.os, h.tape, h.output, by simpa [World.setCell] using h.size, fun i hi hm => ?_⟩
  rw [Below.heap_setCell _ _ _ _ (fun e => ?_)]
  · exact h.block i hi hm
  · rcases hp with hp | hp
    · exact hm (e ▸ hp)
    · omega

theorem Keeps.grown {may : Nat → Prop} {a w w' : World} {row : Option Nat} (h : Keeps may a w) (hg : w.grownBy w' row) (hr : ∀ k, row = some k → may k ∨ a.heap.size ≤ k) : Keeps may a w' :=
  ⟨hg.os.trans h.os, hg.tape.trans h.tape, hg.output.trans h.output, Nat.le_trans h.size hg.size, fun i hi hm =>
    (hg.block i (Nat.lt_of_lt_of_le hi h.size) (fun e => by rcases hr i e.symm with h1 | h1; exact hm h1; omega)).trans (h.block i hi hm)⟩

theorem Keeps.blk {may : Nat → Prop} {w w' : World} (h : Keeps may w w') {b : Nat} {cs : Array Value} {t : TypeId} (hb : Blk w b cs t) (hm : ¬ may b) : Blk w' b cs t := by
  have := hb.lt
  unfold Blk at *
  rw [h.block b this hm]; exact hb

theorem Keeps.cell {may : Nat → Prop} {w w' : World} (h : Keeps may w w') {p : Addr} (hp : p.block < w.heap.size) (hm : ¬ may p.block) : w'.cell? p = w.cell? p := World.cell?_of_block (w := w) (h.block p.block hp hm)

theorem Keeps.frozen {may : Nat → Prop} {w w' : World} (h : Keeps may w w') {p : Addr} (hp : p.block < w.heap.size) (hm : ¬ may p.block) : w'.frozen? p = w.frozen? p := World.frozen?_of_block (w := w) (h.block p.block hp hm)

theorem Keeps.below {w w' : World} (h : Keeps noB w w') : Below w.heap.size w w' := ⟨h.os, h.tape, h.output, h.size, fun k hk => h.block k hk id⟩

/-- FRAME and FROZEN of a law's row. -/
theorem Keeps.ownsRow {may : Nat → Prop} {w w' : World} (h : Keeps may w w') {base : Nat} {e : TypeId} {size : Nat} {v : Value} {n : Nat} {xs : List Value} (ho : w.ownsRow base e size v n xs)
    (hm : ∀ g, v.ownBlock = some g → g < w.heap.size → ¬ may g) : w'.ownsRow base e size v n xs := by
  obtain ⟨h1, h2⟩ := ho
  refine ⟨h1, ?_⟩
  rcases h2 with h2 | ⟨g, cap, cur, hv, hg, hh, r⟩
  · exact Or.inl h2
  · subst hv
    have hlt : g < w.heap.size := lt_of_block hh
    exact Or.inr ⟨g, cap, cur, rfl, hg, by rw [h.block g hlt (hm g rfl hlt)]; exact hh, r⟩

end Go.Proofs.Ytaaphpcbiibpcaa

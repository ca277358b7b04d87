/-
  Plain facts on memory for this seat's walks: a block known whole ('Blk'), and 'Keeps b w w'': of what was there, every block but b is as it was.
  How the trees of programs lie in memory: the program's nodes ('RepI') and the model's ('RepS'). 'ok' bounds the blocks that they may lie in.
  append onto a row of the call's own, with one word more than the kit's law: the row that comes out lies where it lay, or in a new block.
-/
import Derived.Below
import Derived.OneCell
import Derived.RowKit3
import Derived.Test.YtkfcgamdlckncaaGreatPureW
import Derived.WalkKit
namespace Go.Proofs.YtkfcgamdlckncaaGreat
set_option linter.unusedVariables false
set_option linter.unusedSimpArgs false
open Go.RowKit

/-- Block b is a row of these cells, and none of it is frozen. -/
def Blk (w : World) (b : Nat) (cs : Array Value) (t : TypeId) : Prop := w.heap[b]? = some (.cells cs t (0, 0))

theorem Blk.lt {w : World} {b : Nat} {cs : Array Value} {t : TypeId} (h : Blk w b cs t) : b < w.heap.size := lt_of_block h

theorem Blk.cell {w : World} {b : Nat} {cs : Array Value} {t : TypeId} (h : Blk w b cs t) (i : Nat) : w.cell? ⟨b, i, none⟩ = cs[i]? := by
  unfold Blk at h; simp [World.cell?, h]

theorem Blk.free {w : World} {b : Nat} {cs : Array Value} {t : TypeId} (h : Blk w b cs t) (i : Nat) : w.frozen? ⟨b, i, none⟩ = false := by
  unfold Blk at h; simp [World.frozen?, h]

theorem Blk.set {w : World} {b : Nat} {cs : Array Value} {t : TypeId} (h : Blk w b cs t) (i : Nat) (u : Value) : Blk (w.setCell ⟨b, i, none⟩ u) b (cs.setIfInBounds i u) t := by
  have hlt := h.lt
  unfold Blk at h
  have h' : w.heap[b] = .cells cs t (0, 0) := by simpa [Array.getElem?_eq_getElem hlt] using h
  show (w.heap.modify b _)[b]? = _
  rw [Array.getElem?_eq_getElem (by simpa using hlt), Array.getElem_modify_self, h']
  rfl

theorem Blk.setOther {w : World} {b : Nat} {cs : Array Value} {t : TypeId} (h : Blk w b cs t) {a : Addr} (ha : a.block ≠ b) (u : Value) : Blk (w.setCell a u) b cs t := by
  unfold Blk at *
  rw [Below.heap_setCell _ _ _ _ (Ne.symm ha)]; exact h

theorem Blk.alloc {w : World} {b : Nat} {cs : Array Value} {t : TypeId} (h : Blk w b cs t) (o : Obj) : Blk (w.alloc o) b cs t := by
  have := h.lt
  unfold Blk at *
  rw [Below.heap_alloc _ _ _ this]; exact h

theorem Blk.drew {w : World} {b : Nat} {cs : Array Value} {t : TypeId} (h : Blk w b cs t) : Blk w.drew b cs t := h

theorem Blk.new (w : World) (cs : Array Value) (t : TypeId) : Blk (w.alloc (.cells cs t)) w.heap.size cs t := by
  unfold Blk; exact (MapKept.heap_alloc w _).1

/-- Every block that was there is as it was, but for those that 'may' names; the streams are as they were. -/
structure Keeps (may : Nat → Prop) (w w' : World) : Prop where
  os : w'.os = w.os
  tape : w'.tape = w.tape
  output : w'.output = w.output
  size : w.heap.size ≤ w'.heap.size
  block : ∀ k, k < w.heap.size → ¬ may k → w'.heap[k]? = w.heap[k]?

/-- No block may turn. -/
def noB : Nat → Prop := fun _ => False
/-- Block b may turn. -/
def oneB (b : Nat) : Nat → Prop := fun k => k = b

theorem Keeps.refl (may : Nat → Prop) (w : World) : Keeps may w w := ⟨rfl, rfl, rfl, Nat.le_refl _, fun _ _ _ => rfl⟩

theorem Keeps.trans {may : Nat → Prop} {a b c : World} (h : Keeps may a b) (k : Keeps may b c) : Keeps may a c :=
  ⟨k.os.trans h.os, k.tape.trans h.tape, k.output.trans h.output, Nat.le_trans h.size k.size,
   fun i hi hm => (k.block i (Nat.lt_of_lt_of_le hi h.size) hm).trans (h.block i hi hm)⟩

/-- A step that may turn more, where all that is more is new. -/
theorem Keeps.transNew {may may' : Nat → Prop} {a b c : World} (h : Keeps may a b) (k : Keeps may' b c) (hn : ∀ i, i < a.heap.size → may' i → may i) : Keeps may a c :=
  ⟨k.os.trans h.os, k.tape.trans h.tape, k.output.trans h.output, Nat.le_trans h.size k.size,
   fun i hi hm => (k.block i (Nat.lt_of_lt_of_le hi h.size) (fun e => hm (hn i hi e))).trans (h.block i hi hm)⟩

theorem Keeps.mono {may may' : Nat → Prop} {a b : World} (h : Keeps may a b) (hn : ∀ i, may i → may' i) : Keeps may' a b :=
  ⟨h.os, h.tape, h.output, h.size, fun i hi hm => h.block i hi (fun e => hm (hn i e))⟩

theorem Keeps.drew {may : Nat → Prop} {a w : World} (h : Keeps may a w) : Keeps may a w.drew := ⟨h.os, h.tape, h.output, h.size, h.block⟩

theorem Keeps.alloc {may : Nat → Prop} {a w : World} (h : Keeps may a w) (o : Obj) : Keeps may a (w.alloc o) :=
  h.trans ⟨rfl, rfl, rfl, by simp, fun k hk _ => Below.heap_alloc _ _ _ hk⟩

theorem Keeps.setCell {may : Nat → Prop} {a w : World} (h : Keeps may a w) {p : Addr} (hp : may p.block ∨ a.heap.size ≤ p.block) (u : Value) : Keeps may a (w.setCell p u) := by
  refine ⟨h.os, h.tape, h.output, by simpa [World.setCell] using h.size, fun i hi hm => ?_⟩
  rw [Below.heap_setCell _ _ _ _ (fun e => ?_)]
  · exact h.block i hi hm
  · rcases hp with hp | hp
    · exact hm (e ▸ hp)
    · omega

theorem Keeps.grown {may : Nat → Prop} {a w w' : World} {row : Option Nat} (h : Keeps may a w) (hg : w.grownBy w' row) (hr : ∀ k, row = some k → may k ∨ a.heap.size ≤ k) : Keeps may a w' :=
  ⟨hg.os.trans h.os, hg.tape.trans h.tape, hg.output.trans h.output, Nat.le_trans h.size hg.size, fun i hi hm =>
    (hg.block i (Nat.lt_of_lt_of_le hi h.size) (fun e => by rcases hr i e.symm with h1 | h1; exact hm h1; omega)).trans (h.block i hi hm)⟩

theorem Keeps.blk {may : Nat → Prop} {w w' : World} (h : Keeps may w w') {b : Nat} {cs : Array Value} {t : TypeId} (hb : Blk w b cs t) (hm : ¬ may b) : Blk w' b cs t := by
  have := hb.lt
  unfold Blk at *
  rw [h.block b this hm]; exact hb

theorem Keeps.cell {may : Nat → Prop} {w w' : World} (h : Keeps may w w') {p : Addr} (hp : p.block < w.heap.size) (hm : ¬ may p.block) : w'.cell? p = w.cell? p := World.cell?_of_block (w := w) (h.block p.block hp hm)

theorem Keeps.frozen {may : Nat → Prop} {w w' : World} (h : Keeps may w w') {p : Addr} (hp : p.block < w.heap.size) (hm : ¬ may p.block) : w'.frozen? p = w.frozen? p := World.frozen?_of_block (w := w) (h.block p.block hp hm)

theorem Keeps.below {w w' : World} (h : Keeps noB w w') : Below w.heap.size w w' := ⟨h.os, h.tape, h.output, h.size, fun k hk => h.block k hk id⟩

/-- FRAME and FROZEN of a law's row. -/
theorem Keeps.ownsRow {may : Nat → Prop} {w w' : World} (h : Keeps may w w') {base : Nat} {e : TypeId} {size : Nat} {v : Value} {n : Nat} {xs : List Value} (ho : w.ownsRow base e size v n xs)
    (hm : ∀ g, v.ownBlock = some g → g < w.heap.size → ¬ may g) : w'.ownsRow base e size v n xs := by
  obtain ⟨h1, h2⟩ := ho
  refine ⟨h1, ?_⟩
  rcases h2 with h2 | ⟨g, cap, cur, hv, hg, hh, r⟩
  · exact Or.inl h2
  · subst hv
    have hlt : g < w.heap.size := lt_of_block hh
    exact Or.inr ⟨g, cap, cur, rfl, hg, by rw [h.block g hlt (hm g rfl hlt)]; exact hh, r⟩

end Go.Proofs.YtkfcgamdlckncaaGreat

namespace Go.Proofs.YtkfcgamdlckncaaGreat
set_option linter.unusedVariables false
set_option linter.unusedSimpArgs false
open Go.RowKit

/-- A slice's row: its cells are xs, its block is let. -/
def Row (w : World) (ok : Nat → Prop) (e : TypeId) (size : Nat) (v : Value) (n : Nat) (xs : List Value) : Prop :=
  w.ownsRow 0 e size v n xs ∧ ∀ g, v.ownBlock = some g → ok g

def ptr (g : Nat) : Value := .pointer (some ⟨g, 0, none⟩)
def i64 (n : Nat) : Value := .int .i64 (n : Int)
def u8 (c : UInt8) : Value := .int .u8 (c.toNat : Int)
def str (l : List UInt8) : Value := .string ⟨l.toArray⟩

/-- A node of two bytes of variables or fewer, without bodies. -/
def LeafI (w : World) (ok : Nat → Prop) (c : UInt8) (k e : Nat) (vs : List UInt8) (v : Value) : Prop :=
  ∃ g, ok g ∧
    (((c = 43 ∨ c = 46 ∨ c = 45 ∨ c = 126) ∧ ∃ t, vs = [t] ∧ v = .iface 141 (ptr g) ∧ Blk w g #[i64 k, i64 e, u8 c, u8 t, u8 0] 143) ∨
     (c = 61 ∧ ∃ t u, vs = [t, u] ∧ v = .iface 141 (ptr g) ∧ Blk w g #[i64 k, i64 e, u8 c, u8 t, u8 u] 143) ∨
     ((c = 94 ∨ c = 33) ∧ vs = [] ∧ v = .iface 107 (ptr g) ∧ Blk w g #[i64 k, i64 e, u8 c] 186))

def LoopI (w : World) (ok : Nat → Prop) (c : UInt8) (k e : Nat) (vs : List UInt8) (vx v : Value) : Prop :=
  ∃ g, ok g ∧
    ((c = 42 ∧ vs = [] ∧ v = .iface 150 (ptr g) ∧ Blk w g #[i64 k, i64 e, vx] 165) ∨
     (c = 123 ∧ v = .iface 64 (ptr g) ∧ Blk w g #[i64 k, i64 e, str vs, vx] 133))

def BranchI (w : World) (ok : Nat → Prop) (c : UInt8) (k e : Nat) (vs : List UInt8) (vx vy v : Value) : Prop :=
  ∃ g, ok g ∧ c = 63 ∧ vs = [] ∧ v = .iface 145 (ptr g) ∧ Blk w g #[i64 k, i64 e, vx, vy] 148

mutual
/-- A step of the program's, behind its interface. -/
def RepI (w : World) (ok : Nat → Prop) : Nd → Value → Prop
  | .mk c k e vs _ .nil, v => LeafI w ok c k e vs v
  | .mk c k e vs _ (.cons x .nil), v => ∃ vx n xs, LoopI w ok c k e vs vx v ∧ Row w ok 104 1 vx n xs ∧ RepIL w ok x xs
  | .mk c k e vs _ (.cons x (.cons y .nil)), v => ∃ vx vy n xs m ys, BranchI w ok c k e vs vx vy v ∧ (Row w ok 104 1 vx n xs ∧ RepIL w ok x xs) ∧ (Row w ok 104 1 vy m ys ∧ RepIL w ok y ys)
  | .mk _ _ _ _ _ (.cons _ (.cons _ (.cons _ _))), _ => False
def RepIL (w : World) (ok : Nat → Prop) : Nds → List Value → Prop
  | .nil, vs => vs = []
  | .cons x r, vs => ∃ v vr, vs = v :: vr ∧ RepI w ok x v ∧ RepIL w ok r vr
end

mutual
/-- A step of the model's, as its six cells. -/
def RepS (w : World) (ok : Nat → Prop) : Nd → List Value → Prop
  | .mk c k e vs ar bs, cs => ∃ vb n xs, cs = [u8 c, i64 k, i64 e, str vs, vb, str ar] ∧ Row w ok 57 1 vb n xs ∧ RepSB w ok bs xs
def RepSB (w : World) (ok : Nat → Prop) : Bds → List Value → Prop
  | .nil, vs => vs = []
  | .cons x r, vs => ∃ v vr n cs, vs = v :: vr ∧ (Row w ok 52 6 v n cs ∧ RepSL w ok x cs) ∧ RepSB w ok r vr
def RepSL (w : World) (ok : Nat → Prop) : Nds → List Value → Prop
  | .nil, cs => cs = []
  | .cons x r, cs => ∃ c1 c2, cs = c1 ++ c2 ∧ RepS w ok x c1 ∧ RepSL w ok r c2
end

/-- What a reading asks of two worlds: rows and blocks that lie in the first one's let blocks lie in the second one's. -/
structure Hands (w w' : World) (ok ok' : Nat → Prop) : Prop where
  blk : ∀ g cs t, ok g → Blk w g cs t → Blk w' g cs t ∧ ok' g
  row : ∀ e size v n xs, Row w ok e size v n xs → Row w' ok' e size v n xs

theorem Hands.leafI {w w' : World} {ok ok' : Nat → Prop} (h : Hands w w' ok ok') {c : UInt8} {k e : Nat} {vs : List UInt8} {v : Value} (hl : LeafI w ok c k e vs v) : LeafI w' ok' c k e vs v := by
  obtain ⟨g, hg, h1⟩ := hl
  rcases h1 with ⟨hc, t, h1, h2, h3⟩ | ⟨hc, t, u, h1, h2, h3⟩ | ⟨hc, h1, h2, h3⟩
  · exact ⟨g, (h.blk _ _ _ hg h3).2, .inl ⟨hc, t, h1, h2, (h.blk _ _ _ hg h3).1⟩⟩
  · exact ⟨g, (h.blk _ _ _ hg h3).2, .inr (.inl ⟨hc, t, u, h1, h2, (h.blk _ _ _ hg h3).1⟩)⟩
  · exact ⟨g, (h.blk _ _ _ hg h3).2, .inr (.inr ⟨hc, h1, h2, (h.blk _ _ _ hg h3).1⟩)⟩

theorem Hands.loopI {w w' : World} {ok ok' : Nat → Prop} (h : Hands w w' ok ok') {c : UInt8} {k e : Nat} {vs : List UInt8} {vx v : Value} (hl : LoopI w ok c k e vs vx v) : LoopI w' ok' c k e vs vx v := by
  obtain ⟨g, hg, h1⟩ := hl
  rcases h1 with ⟨hc, h1, h2, h3⟩ | ⟨hc, h2, h3⟩
  · exact ⟨g, (h.blk _ _ _ hg h3).2, .inl ⟨hc, h1, h2, (h.blk _ _ _ hg h3).1⟩⟩
  · exact ⟨g, (h.blk _ _ _ hg h3).2, .inr ⟨hc, h2, (h.blk _ _ _ hg h3).1⟩⟩

theorem Hands.branchI {w w' : World} {ok ok' : Nat → Prop} (h : Hands w w' ok ok') {c : UInt8} {k e : Nat} {vs : List UInt8} {vx vy v : Value} (hl : BranchI w ok c k e vs vx vy v) : BranchI w' ok' c k e vs vx vy v := by
  obtain ⟨g, hg, hc, h1, h2, h3⟩ := hl
  exact ⟨g, (h.blk _ _ _ hg h3).2, hc, h1, h2, (h.blk _ _ _ hg h3).1⟩

mutual
theorem Hands.repI {w w' : World} {ok ok' : Nat → Prop} (h : Hands w w' ok ok') : ∀ (x : Nd) (v : Value), RepI w ok x v → RepI w' ok' x v
  | .mk c k e vs _ .nil, v, hx => by
    simp only [RepI] at hx ⊢; exact h.leafI hx
  | .mk c k e vs _ (.cons x .nil), v, hx => by
    simp only [RepI] at hx ⊢
    obtain ⟨vx, n, xs, h1, h2, h3⟩ := hx
    exact ⟨vx, n, xs, h.loopI h1, h.row _ _ _ _ _ h2, Hands.repIL h x xs h3⟩
  | .mk c k e vs _ (.cons x (.cons y .nil)), v, hx => by
    simp only [RepI] at hx ⊢
    obtain ⟨vx, vy, n, xs, m, ys, h1, ⟨h2, h3⟩, h4, h5⟩ := hx
    exact ⟨vx, vy, n, xs, m, ys, h.branchI h1, ⟨h.row _ _ _ _ _ h2, Hands.repIL h x xs h3⟩, h.row _ _ _ _ _ h4, Hands.repIL h y ys h5⟩
  | .mk _ _ _ _ _ (.cons _ (.cons _ (.cons _ _))), _, hx => by simp only [RepI] at hx
theorem Hands.repIL {w w' : World} {ok ok' : Nat → Prop} (h : Hands w w' ok ok') : ∀ (x : Nds) (vs : List Value), RepIL w ok x vs → RepIL w' ok' x vs
  | .nil, vs, hx => by simp only [RepIL] at hx ⊢; exact hx
  | .cons x r, vs, hx => by
    simp only [RepIL] at hx ⊢
    obtain ⟨v, vr, h1, h2, h3⟩ := hx
    exact ⟨v, vr, h1, Hands.repI h x v h2, Hands.repIL h r vr h3⟩
end

mutual
theorem Hands.repS {w w' : World} {ok ok' : Nat → Prop} (h : Hands w w' ok ok') : ∀ (x : Nd) (cs : List Value), RepS w ok x cs → RepS w' ok' x cs
  | .mk c k e vs ar bs, cs, hx => by
    simp only [RepS] at hx ⊢
    obtain ⟨vb, n, xs, h1, h2, h3⟩ := hx
    exact ⟨vb, n, xs, h1, h.row _ _ _ _ _ h2, Hands.repSB h bs xs h3⟩
theorem Hands.repSB {w w' : World} {ok ok' : Nat → Prop} (h : Hands w w' ok ok') : ∀ (x : Bds) (vs : List Value), RepSB w ok x vs → RepSB w' ok' x vs
  | .nil, vs, hx => by simp only [RepSB] at hx ⊢; exact hx
  | .cons x r, vs, hx => by
    simp only [RepSB] at hx ⊢
    obtain ⟨v, vr, n, cs, h1, ⟨h2, h3⟩, h4⟩ := hx
    exact ⟨v, vr, n, cs, h1, ⟨h.row _ _ _ _ _ h2, Hands.repSL h x cs h3⟩, Hands.repSB h r vr h4⟩
theorem Hands.repSL {w w' : World} {ok ok' : Nat → Prop} (h : Hands w w' ok ok') : ∀ (x : Nds) (cs : List Value), RepSL w ok x cs → RepSL w' ok' x cs
  | .nil, cs, hx => by simp only [RepSL] at hx ⊢; exact hx
  | .cons x r, cs, hx => by
    simp only [RepSL] at hx ⊢
    obtain ⟨c1, c2, h1, h2, h3⟩ := hx
    exact ⟨c1, c2, h1, Hands.repS h x c1 h2, Hands.repSL h r c2 h3⟩
end

/-- Blocks that may not turn stay; and what was read lies in blocks that were there. -/
theorem Hands.of_keeps {may : Nat → Prop} {w w' : World} (h : Keeps may w w') {ok ok' : Nat → Prop} (hm : ∀ g, ok g → g < w.heap.size → ¬ may g) (hok : ∀ g, ok g → g < w.heap.size → ok' g) : Hands w w' ok ok' where
  blk := fun g cs t hg hb => ⟨h.blk hb (hm g hg hb.lt), hok g hg hb.lt⟩
  row := fun e size v n xs hr => by
    have hlt : ∀ g, v.ownBlock = some g → g < w.heap.size := fun g hg => (hr.1.lt g hg).2
    exact ⟨h.ownsRow hr.1 (fun g hg hl => hm g (hr.2 g hg) hl), fun g hg => hok g (hr.2 g hg) (hlt g hg)⟩

/-- Only blocks from B on. -/
def fromB (B : Nat) : Nat → Prop := fun g => B ≤ g

end Go.Proofs.YtkfcgamdlckncaaGreat

namespace Go.Proofs.YtkfcgamdlckncaaGreat
set_option linter.unusedVariables false
set_option linter.unusedSimpArgs false
open Go.RowKit

/-- Where a row lies behind an append: where it lay, or in a new block. -/
def Fresh (w : World) (v v' : Value) : Prop := v'.ownBlock = v.ownBlock ∨ ∀ g, v'.ownBlock = some g → w.heap.size ≤ g

theorem run_append_fresh {P : Program} (w : World) (t ty e : TypeId) (i : TypeInfo) (z : Value) (size bytes : Nat) (ht : P.underlying t = some (.slice e)) (hi : P.info? e = some i) (hz : i.zero = some z)
    (hsize : i.size = size) (hby : i.bytes = bytes) (hzs : z.cells.size = size) (hsz : 0 < size)
    (v : Value) (n : Nat) (xs : List Value) (hown : w.ownsRow 0 e size v n xs)
    (a : Addr) (m c : Nat) (news : List Value) (hl : news.length = m * size) (hnews : ∀ j u, news[j]? = some u → w.cell? (a.add j) = some u) (h1 : ∀ u ∈ news, u.oneCell' = true)
    (h63 : n + m ≤ maxLen) (hbytes : (n + m) * bytes ≤ 140737488355328) :
    ∃ v' w', (Builtin.append_ #[t, t] ty #[v, .slice (some a) m c]).run P w = .ok v' w' ∧ w'.ownsRow 0 e size v' (n + m) (xs ++ news) ∧ w.grownBy w' v.ownBlock ∧ Fresh w v v' := by
  obtain ⟨v', w', hr, h2, h3, h4⟩ := run_append_own (P := P) w 0 t ty e i z size bytes ht hi hz hsize hby hzs hsz v n xs hown a m c news hl hnews h1 h63 hbytes (Nat.zero_le _)
  refine ⟨v', w', hr, h2, h3, ?_⟩
  rcases hown.2 with ⟨rfl, rfl⟩ | ⟨g, cap, cur, rfl, hbg, hg, hnc, hcm, hcs, htake⟩
  · have hx : xs = [] := List.eq_nil_of_length_eq_zero (by simpa using hown.1)
    subst hx
    obtain ⟨v2, w2, hr2, g2, _, _⟩ := run_append_own (P := P) w w.heap.size t ty e i z size bytes ht hi hz hsize hby hzs hsz _ 0 [] (World.ownsRow_nil w w.heap.size e size) a m c news hl hnews h1 h63 hbytes (Nat.le_refl _)
    rw [hr] at hr2
    injection hr2 with e1 e2
    subst e1; subst e2
    exact .inr (fun g hg => (g2.lt g hg).1)
  · subst hsize
    subst hby
    by_cases hroom : n + m ≤ cap
    · have hfit : n * i.size + news.length ≤ cur.size := by rw [hl, hcs, ← Nat.add_mul]; exact Nat.mul_le_mul_right _ hroom
      have hr2 := run_append_room (P := P) w t ty e i ht hi g n cap cur hg a m c news hl hnews h1 hroom hfit
      rw [hr] at hr2
      injection hr2 with e1 e2
      subst e1
      exact .inl rfl
    · have holds : ∀ j u, xs[j]? = some u → w.cell? ((⟨g, 0, none⟩ : Addr).add j) = some u := hown.cells (g := g) rfl
      have hsmall : n + m ≤ 9223372036854775807 := by simp only [maxLen] at h63; omega
      have hr2 := run_append_grow (P := P) w t ty e i z ht hi hz ⟨g, 0, none⟩ n cap xs hown.1 holds a m c news hl hnews (by omega) (by omega) (growslice_fits (by omega) hbytes)
      rw [hr] at hr2
      injection hr2 with e1 e2
      subst e1
      refine .inr (fun g' hg' => ?_)
      simp [Value.ownBlock] at hg'
      omega

theorem wpList_append_fresh {P : Program} (w : World) {ops : Array Oper} {rest : List Oper} {o : Oper} {a : Act} {Q : Exit → Act → World → Prop} (hgd : o.guard = none) (s x : Operand) (t : TypeId)
    (ho : o.op = .call { callee := .builtin .append, args := #[s, x], argTypes := #[t, t] })
    (e : TypeId) (i : TypeInfo) (z : Value) (size bytes : Nat) (ht : P.underlying t = some (.slice e)) (hi : P.info? e = some i) (hz : i.zero = some z)
    (hsize : i.size = size) (hby : i.bytes = bytes) (hzs : z.cells.size = size) (hsz : 0 < size)
    (v : Value) (n : Nat) (xs : List Value) (hs : a.eval s = v) (hown : w.ownsRow 0 e size v n xs)
    (ad : Addr) (m c : Nat) (news : List Value) (hx : a.eval x = .slice (some ad) m c) (hl : news.length = m * size) (hnews : ∀ j u, news[j]? = some u → w.cell? (ad.add j) = some u) (h1 : ∀ u ∈ news, u.oneCell' = true)
    (h63 : n + m ≤ maxLen) (hbytes : (n + m) * bytes ≤ 140737488355328)
    (h : ∀ v' w', w'.ownsRow 0 e size v' (n + m) (xs ++ news) → w.grownBy w' v.ownBlock → Fresh w v v' → wpList P ops Q rest (a.put o.dst v') w') : wpList P ops Q (o :: rest) a w :=
  wpList_plain hgd fun K hK => by
    obtain ⟨v', w', hr, h2, h3, h4⟩ := run_append_fresh (P := P) w t o.type e i z size bytes ht hi hz hsize hby hzs hsz v n xs hown ad m c news hl hnews h1 h63 hbytes
    unfold Oper.wp execOp
    simp only [ho, resolve, invoke, builtin, Sem.run_bind, Sem.run_pure, Result.andThen_ok, List.map_toArray, List.map_cons, List.map_nil, hs, hx, hr]
    exact hK _ _ (h v' w' h2 h3 h4)

end Go.Proofs.YtkfcgamdlckncaaGreat

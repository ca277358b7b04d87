/-
  Walks of the model's reader: step.
-/
import Derived.Test.YtaaphpcbiibpcaaSa
import Derived.Test.YtaaphpcbiibpcaaIe
import Derived.Test.YtaaphpcbiibpcaaPureB
import Derived.Test.YtaaphpcbiibpcaaApp
import Derived.Deep.DeepCutAuto
import Derived.Deep.RegionLaw
namespace Go.Proofs.Ytaaphpcbiibpcaa
set_option linter.unusedVariables false
set_option linter.unusedSimpArgs false
open Go.RowKit

/-- A node's six cells. -/
def six (c k e : Int) (vs : ByteArray) (vb : Value) (ar : ByteArray) : Array Value := #[.int .u8 c, .int .i64 k, .int .i64 e, .string vs, vb, .string ar]

/-- What 'step' holds: the reader at b, its result's block N, its node's block g; 'w': the world in which the call began. -/
structure NS (b N g : Nat) (w : World) (s : ByteArray) (k : Nat) (bad : Bool) (d : Nat) (c k0 e0 : Int) (vs : ByteArray) (vb : Value) (ar : ByteArray) (wc : World) : Prop where
  rd : Sd wc b s k bad d
  res : Blk wc N (six 0 0 0 ⟨#[]⟩ (.slice none 0 0) ⟨#[]⟩) 61
  nod : Blk wc g (six c k0 e0 vs vb ar) 61
  keeps : Keeps (oneB b) w wc
  hb : b < w.heap.size
  hN : w.heap.size ≤ N
  hg : w.heap.size ≤ g
  hne : N ≠ g

section
variable {b N g : Nat} {w wc : World} {s : ByteArray} {k d : Nat} {bad : Bool} {c k0 e0 : Int} {vs : ByteArray} {vb : Value} {ar : ByteArray}

theorem NS.tick (h : NS b N g w s k bad d c k0 e0 vs vb ar wc) : NS b N g w s (k + 1) bad d c k0 e0 vs vb ar (wc.setCell ⟨b, 1, none⟩ (.int .i64 ((k : Int) + 1))) :=
  have hN := h.hN
  have hg := h.hg
  have hb := h.hb
  ⟨h.rd.set1, h.res.setOther (by simp; omega) _, h.nod.setOther (by simp; omega) _, h.keeps.one, hb, hN, hg, h.hne⟩
theorem NS.badly (h : NS b N g w s k bad d c k0 e0 vs vb ar wc) (bad' : Bool) : NS b N g w s k bad' d c k0 e0 vs vb ar (wc.setCell ⟨b, 2, none⟩ (.bool bad')) :=
  have hN := h.hN
  have hg := h.hg
  have hb := h.hb
  ⟨h.rd.set2 _, h.res.setOther (by simp; omega) _, h.nod.setOther (by simp; omega) _, h.keeps.one, hb, hN, hg, h.hne⟩
theorem NS.deeper (h : NS b N g w s k bad d c k0 e0 vs vb ar wc) : NS b N g w s k bad (d + 1) c k0 e0 vs vb ar (wc.setCell ⟨b, 3, none⟩ (.int .i64 ((d : Int) + 1))) :=
  have hN := h.hN
  have hg := h.hg
  have hb := h.hb
  ⟨h.rd.set3, h.res.setOther (by simp; omega) _, h.nod.setOther (by simp; omega) _, h.keeps.one, hb, hN, hg, h.hne⟩
theorem NS.back (h : NS b N g w s k bad (d + 1) c k0 e0 vs vb ar wc) : NS b N g w s k bad d c k0 e0 vs vb ar (wc.setCell ⟨b, 3, none⟩ (.int .i64 (d : Int))) :=
  have hN := h.hN
  have hg := h.hg
  have hb := h.hb
  ⟨h.rd.set3', h.res.setOther (by simp; omega) _, h.nod.setOther (by simp; omega) _, h.keeps.one, hb, hN, hg, h.hne⟩
theorem NS.moved (h : NS b N g w s k bad d c k0 e0 vs vb ar wc) {w2 : World} {k' : Nat} {bad' : Bool} (r : Sd w2 b s k' bad' d) (q : Keeps (oneB b) wc w2) : NS b N g w s k' bad' d c k0 e0 vs vb ar w2 :=
  have hN := h.hN
  have hg := h.hg
  have hb := h.hb
  ⟨r, q.blk h.res (by simp [oneB]; omega), q.blk h.nod (by simp [oneB]; omega), h.keeps.trans q, hb, hN, hg, h.hne⟩
theorem NS.node (h : NS b N g w s k bad d c k0 e0 vs vb ar wc) (i : Nat) (u : Value) {c' k0' e0' : Int} {vs' : ByteArray} {vb' : Value} {ar' : ByteArray} (e : (six c k0 e0 vs vb ar).setIfInBounds i u = six c' k0' e0' vs' vb' ar') :
    NS b N g w s k bad d c' k0' e0' vs' vb' ar' (wc.setCell ⟨g, i, none⟩ u) :=
  have hN := h.hN
  have hg := h.hg
  have hb := h.hb
  have hne := h.hne
  ⟨h.rd.setOther (a := ⟨g, i, none⟩) (by simp; omega) _, h.res.setOther (by simp; omega) _, e ▸ h.nod.set i u, h.keeps.setCell (.inr hg) _, hb, hN, hg, hne⟩
theorem NS.vars (h : NS b N g w s k bad d c k0 e0 vs vb ar wc) (vs' : ByteArray) : NS b N g w s k bad d c k0 e0 vs' vb ar (wc.setCell ⟨g, 3, none⟩ (.string vs')) := h.node 3 _ rfl
theorem NS.fin (h : NS b N g w s k bad d c k0 e0 vs vb ar wc) (e : Int) : NS b N g w s k bad d c k0 e vs vb ar (wc.setCell ⟨g, 2, none⟩ (.int .i64 e)) := h.node 2 _ rfl
theorem NS.bodies (h : NS b N g w s k bad d c k0 e0 vs vb ar wc) (v : Value) : NS b N g w s k bad d c k0 e0 vs v ar (wc.setCell ⟨g, 4, none⟩ v) := h.node 4 _ rfl
theorem NS.drewN (h : NS b N g w s k bad d c k0 e0 vs vb ar wc) (n : Nat) : NS b N g w s k bad d c k0 e0 vs vb ar (wc.drewN n) := ⟨h.rd, h.res, h.nod, h.keeps.drewN n, h.hb, h.hN, h.hg, h.hne⟩
end

/-- What the first statement leaves: the node's address; the empty list of bodies. -/
def Cut1 (b : Nat) (w : World) (s : ByteArray) (k d : Nat) (c : Int) (ar : ByteArray) (v5 : Value) (wc : World) : Prop :=
  ∃ g vb, v5 = .pointer (some ⟨g, 0, none⟩) ∧ NS b w.heap.size g w s k false d c k 0 ⟨#[]⟩ vb ar wc ∧ wc.ownsRow 0 64 1 vb 0 [] ∧ ∀ i, vb.ownBlock = some i → w.heap.size ≤ i ∧ i ≠ g ∧ i ≠ w.heap.size

theorem cut1_a (b : Nat) (s : ByteArray) (k d : Nat) (c : Int) (ar : ByteArray) (w : World) (h : Sd w b s k false d) :
    Cut1 b w s k d c ar (.pointer (some ⟨w.heap.size + 1 + 1, 0, none⟩))
      (((w.alloc (.cells (six 0 0 0 ⟨#[]⟩ (.slice none 0 0) ⟨#[]⟩) 61)).alloc (.cells #[] 64)).alloc (.cells (six c k 0 ⟨#[]⟩ (.slice (some ⟨w.heap.size + 1, 0, none⟩) 0 0) ar) 61)).drew := by
  have hb := h.lt
  refine ⟨w.heap.size + 1 + 1, _, rfl, ⟨((h.alloc _).alloc _).alloc _, ((Blk.new w _ _).alloc _).alloc _, blk_new (by simp) _ _, ((((Keeps.refl _ w).alloc _).alloc _).alloc _).drewN 1, hb, Nat.le_refl _, by omega, by omega⟩, ?_, ?_⟩
  · have := ((World.ownsRow_made (e := 64) (size := 1) (base := 0) (w.alloc (.cells (six 0 0 0 ⟨#[]⟩ (.slice none 0 0) ⟨#[]⟩) 61)) #[] 0 (Nat.zero_le _) (by simp [maxLen]) rfl).alloc (.cells (six c k 0 ⟨#[]⟩ (.slice (some ⟨w.heap.size + 1, 0, none⟩) 0 0) ar) 61)).drew
    rw [World.size_alloc] at this
    exact this
  · intro i hi
    simp [Value.ownBlock] at hi
    subst hi
    omega

theorem cut1_b (b : Nat) (s : ByteArray) (k d : Nat) (c : Int) (ar : ByteArray) (w : World) (h : Sd w b s k false d) :
    Cut1 b w s k d c ar (.pointer (some ⟨w.heap.size + 1, 0, none⟩))
      (((w.alloc (.cells (six 0 0 0 ⟨#[]⟩ (.slice none 0 0) ⟨#[]⟩) 61)).alloc (.cells (six c k 0 ⟨#[]⟩ (.slice (some ⟨w.heap.size + 1 + 1, 0, none⟩) 0 0) ar) 61)).alloc (.cells #[] 64)).drew := by
  have hb := h.lt
  refine ⟨w.heap.size + 1, _, rfl, ⟨((h.alloc _).alloc _).alloc _, ((Blk.new w _ _).alloc _).alloc _, (blk_new (by simp) _ _).alloc _, ((((Keeps.refl _ w).alloc _).alloc _).alloc _).drewN 1, hb, Nat.le_refl _, by omega, by omega⟩, ?_, ?_⟩
  · have := (World.ownsRow_made (e := 64) (size := 1) (base := 0) ((w.alloc (.cells (six 0 0 0 ⟨#[]⟩ (.slice none 0 0) ⟨#[]⟩) 61)).alloc (.cells (six c k 0 ⟨#[]⟩ (.slice (some ⟨w.heap.size + 1 + 1, 0, none⟩) 0 0) ar) 61)) #[] 0 (Nat.zero_le _) (by simp [maxLen]) rfl).drew
    simp only [World.size_alloc] at this
    exact this
  · intro i hi
    simp [Value.ownBlock] at hi
    subst hi
    omega

/-- The world behind 'return n': the node's cells in the result's block. -/
def retW (W : World) (N : Nat) (c k0 e0 : Int) (vs : ByteArray) (vb : Value) (ar : ByteArray) : World :=
  (((((W.setCell ⟨N, 0, none⟩ (.int .u8 c)).setCell ⟨N, 1, none⟩ (.int .i64 k0)).setCell ⟨N, 2, none⟩ (.int .i64 e0)).setCell ⟨N, 3, none⟩ (.string vs)).setCell ⟨N, 4, none⟩ vb).setCell ⟨N, 5, none⟩ (.string ar)

theorem NS.done {b N g : Nat} {w wc : World} {s : ByteArray} {k d : Nat} {bad : Bool} {c k0 e0 : Int} {vs : ByteArray} {vb : Value} {ar : ByteArray} (h : NS b N g w s k bad d c k0 e0 vs vb ar wc) :
    Blk (retW wc N c k0 e0 vs vb ar) N (six c k0 e0 vs vb ar) 61 ∧ Sd (retW wc N c k0 e0 vs vb ar) b s k bad d ∧ Keeps (oneB b) w (retW wc N c k0 e0 vs vb ar) ∧ Keeps (oneB N) wc (retW wc N c k0 e0 vs vb ar) := by
  have hN := h.hN
  have hb := h.hb
  refine ⟨(((((h.res.set 0 _).set 1 _).set 2 _).set 3 _).set 4 _).set 5 _, ?_, ?_, (((((((Keeps.refl _ wc).one).one).one).one).one).one)⟩
  · exact (((((h.rd.setOther (a := ⟨N, 0, none⟩) (by simp; omega) _).setOther (a := ⟨N, 1, none⟩) (by simp; omega) _).setOther (a := ⟨N, 2, none⟩) (by simp; omega) _).setOther (a := ⟨N, 3, none⟩) (by simp; omega) _).setOther (a := ⟨N, 4, none⟩) (by simp; omega) _).setOther (a := ⟨N, 5, none⟩) (by simp; omega) _
  · exact (((((h.keeps.setCell (p := ⟨N, 0, none⟩) (.inr hN) _).setCell (p := ⟨N, 1, none⟩) (.inr hN) _).setCell (p := ⟨N, 2, none⟩) (.inr hN) _).setCell (p := ⟨N, 3, none⟩) (.inr hN) _).setCell (p := ⟨N, 4, none⟩) (.inr hN) _).setCell (p := ⟨N, 5, none⟩) (.inr hN) _

/-- A node's value. -/
def nodeV (c k e : Int) (vs : ByteArray) (a : Option Addr) (n m : Nat) (ar : ByteArray) : Value := .agg #[.int .u8 c, .int .i64 k, .int .i64 e, .string vs, .slice a n m, .string ar]

def BadStep (b : Nat) (s : ByteArray) (d : Nat) (w : World) (e : Ending) (w' : World) : Prop :=
  ∃ k c k0 e0 vs a n m ar, MovedS b s k true d w (nodeV c k0 e0 vs a n m ar) e w' ∧ k ≤ s.size

def GoodStep (b : Nat) (s : ByteArray) (d : Nat) (w : World) (x : Nd) (k : Nat) (e : Ending) (w' : World) : Prop :=
  ∃ c k0 e0 vs a n m ar, MovedS b s k false d w (nodeV c k0 e0 vs a n m ar) e w' ∧ RepS w' (fromB w.heap.size) x (six c k0 e0 vs (.slice a n m) ar).toList

def StepPostS (b : Nat) (s : ByteArray) (d : Nat) (w : World) (res : Option (Nd × Nat)) (e : Ending) (w' : World) : Prop :=
  match res with
  | none => BadStep b s d w e w'
  | some (x, k) => GoodStep b s d w x k e w'

/-- The blocks that a step of the model's writes: the reader, its node, its result. -/
def may3 (b g N : Nat) : Nat → Prop := fun i => i = b ∨ i = g ∨ i = N
theorem Keeps.ofOne {b g N : Nat} {a w : World} (h : Keeps (oneB b) a w) : Keeps (may3 b g N) a w := h.mono (fun _ e => .inl e)
theorem Keeps.atB {b g N : Nat} {a w : World} (h : Keeps (may3 b g N) a w) {i : Nat} {u : Value} : Keeps (may3 b g N) a (w.setCell ⟨b, i, none⟩ u) := h.setCell (p := ⟨b, i, none⟩) (.inl (.inl rfl)) u
theorem Keeps.atG {b g N : Nat} {a w : World} (h : Keeps (may3 b g N) a w) {i : Nat} {u : Value} : Keeps (may3 b g N) a (w.setCell ⟨g, i, none⟩ u) := h.setCell (p := ⟨g, i, none⟩) (.inl (.inr (.inl rfl))) u
theorem Keeps.atN {b g N : Nat} {a w : World} (h : Keeps (may3 b g N) a w) {i : Nat} {u : Value} : Keeps (may3 b g N) a (w.setCell ⟨N, i, none⟩ u) := h.setCell (p := ⟨N, i, none⟩) (.inl (.inr (.inr rfl))) u
theorem Keeps.ret {b g N : Nat} {a w : World} (h : Keeps (may3 b g N) a w) {c k0 e0 : Int} {vs : ByteArray} {vb : Value} {ar : ByteArray} : Keeps (may3 b g N) a (retW w N c k0 e0 vs vb ar) := (((((h.atN).atN).atN).atN).atN).atN

/-- A row of the call's own stays, whatever of these three is written. -/
theorem row_may3 {b g N B : Nat} {a w : World} (q : Keeps (may3 b g N) a w) {e : TypeId} {size : Nat} {v : Value} {n : Nat} {xs : List Value} (ho : a.ownsRow 0 e size v n xs)
    (hf : ∀ i, v.ownBlock = some i → B ≤ i ∧ i ≠ g ∧ i ≠ N) (hb : b < B) : Row w (fromB B) e size v n xs :=
  ⟨q.ownsRow ho (fun i hi _ e => by have := hf i hi; rcases e with e | e | e <;> omega), fun i hi => (hf i hi).1⟩

theorem res57 (W : World) (N : Nat) (c k e : Int) (vs : ByteArray) (a : Option Addr) (n m : Nat) (ar : ByteArray) (tmps : Array Value) (ht : tmps.getD 4 undef = .pointer (some ⟨N, 0, none⟩))
    (hb : Blk W N (six c k e vs (.slice a n m) ar) 61) : (results Try.f72 tmps).run Try.prog W = .ok (nodeV c k e vs a n m ar) W := by
  have q0 := hb.cell 0
  have q1 := hb.cell 1
  have q2 := hb.cell 2
  have q3 := hb.cell 3
  have q4 := hb.cell 4
  have q5 := hb.cell 5
  simp [six] at q0 q1 q2 q3 q4 q5
  have ht' : tmps[4]?.getD undef = .pointer (some ⟨N, 0, none⟩) := by simpa using ht
  simp [results, Try.results72, go_sem, ht', q0, q1, q2, q3, q4, q5, nodeV]

end Go.Proofs.Ytaaphpcbiibpcaa

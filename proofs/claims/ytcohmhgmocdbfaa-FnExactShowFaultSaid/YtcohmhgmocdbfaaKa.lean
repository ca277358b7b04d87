/-
  Walks of the program's run: how a run lies in memory; of, happen, destroy.
-/
import Derived.Test.YtcohmhgmocdbfaaPureW
import Derived.Test.YtcohmhgmocdbfaaMemW
import Derived.Test.YtcohmhgmocdbfaaIjW
import Derived.Test.YtcohmhgmocdbfaaProg
import Derived.WalkKit
import Derived.Lib.Hide
import Derived.Deep.RegionLaw
import Derived.BigQuiet
import Derived.Deep.QuietTactic
import Derived.Outline
namespace Go.Proofs.Ytcohmhgmocdbfaa
set_option linter.unusedVariables false
set_option linter.unusedSimpArgs false
open Go.RowKit

theorem Try.info194 : (Try.prog.info? 194).map (fun i => (i.zero, i.size, i.bytes)) = some (some (.agg #[.int .u8 0, .int .i64 0]), 2, 16) := by kernel_rfl
theorem Try.info188 : (Try.prog.info? 188).map (fun i => (i.size, i.bytes)) = some (7, 56) := by kernel_rfl

def evCells (l : List (UInt8 × Nat)) : List Value := l.flatMap (fun p => [u8 p.1, i64 p.2])
def six6 (f : UInt8 → Nat) : List Value := [i64 (f 97), i64 (f 98), i64 (f 99), i64 (f 100), i64 (f 101), i64 (f 102)]
def visCells (l : List (Nat × (UInt8 → Nat))) : List Value := l.flatMap (fun p => i64 p.1 :: six6 p.2)

/-- The eleven cells of a run. -/
def runCells (ch ar : ByteArray) (f : UInt8 → Nat) (made : Nat) (ve vv : Value) : Array Value :=
  #[.string ch, .string ar, i64 (f 97), i64 (f 98), i64 (f 99), i64 (f 100), i64 (f 101), i64 (f 102), i64 made, ve, vv]

/-- A run in memory; 'own': the blocks that are its own. -/
structure RunAt (w : World) (own : Nat → Prop) (b : Nat) (s : St) (ar : List UInt8) (ve vv : Value) : Prop where
  blk : Blk w b (runCells ⟨s.ch.toArray⟩ ⟨ar.toArray⟩ s.val s.made ve vv) 116
  ev : w.ownsRow 0 194 2 ve s.ev.length (evCells s.ev)
  vis : w.ownsRow 0 188 7 vv s.vis.length (visCells s.vis)
  mine : own b
  ownE : ∀ g, ve.ownBlock = some g → own g ∧ g ≠ b ∧ vv.ownBlock ≠ some g
  ownV : ∀ g, vv.ownBlock = some g → own g ∧ g ≠ b

/-- Letters. -/
def lett (v : UInt8) : Prop := 97 ≤ v.toNat ∧ v.toNat ≤ 102

theorem of_any (b o : Nat) (v : Int) (h1 : 97 ≤ v) (h2 : v ≤ 102) (w : World) : Calls Try.prog 125 #[.pointer (some ⟨b, o, none⟩), .int .u8 v] w
    (fun e w' => e = .returned (.pointer (some ⟨b, o + (v - 97).toNat, none⟩)) ∧ w' = w) := by
  have h3 : IntKind.u8.wrap (v - 97) = v - 97 := by rw [IntKind.wrap]; simp [IntKind.signed, IntKind.bits]; omega
  go_enter Try.func125, Try.ntmps125
  go_wp2
  go_ret
  exact ⟨rfl, rfl⟩

/-- How a call ends that leaves the run in state t. -/
def Runs (w : World) (own : Nat → Prop) (b : Nat) (t : St) (ar : List UInt8) (v : Value) (e : Ending) (w' : World) : Prop :=
  ∃ own' ve vv, e = .returned v ∧ Owns own own' w w' ∧ RunAt w' own' b t ar ve vv

/-- A row of one's own that has grown, and a cell of one's own that was stored into. -/
theorem grow_own {own : Nat → Prop} {w wA w' : World} {v v' u : Value} {b i : Nat} {e : TypeId} {size n : Nat} {xs : List Value} (hlt : ∀ k, own k → k < w.heap.size) (qA : Keeps noB w wA) (hg : wA.grownBy w' v.ownBlock) (hf : Fresh wA v v')
    (hv : ∀ g, v.ownBlock = some g → own g) (hb : own b) (ho : w'.ownsRow 0 e size v' n xs) : Owns own (fun k => own k ∨ v'.ownBlock = some k) w (w'.setCell ⟨b, i, none⟩ u) := by
  have hk : Keeps own w (w'.setCell ⟨b, i, none⟩ u) := ((qA.mono (fun _ e => e.elim)).grown hg (fun k e => .inl (hv k e))).setCell (.inl hb) _
  refine ⟨fun k e => ?_, fun k e => ?_, hk⟩
  · rcases e with e | e
    · exact .inl e
    · rcases hf with h | h
      · exact .inl (hv k (h.symm.trans e))
      · exact .inr (Nat.le_trans qA.size (h k e))
  · rcases e with e | e
    · exact Nat.lt_of_lt_of_le (hlt k e) hk.size
    · simpa [World.setCell] using (ho.lt k e).2

theorem evCells_len (l : List (UInt8 × Nat)) : (evCells l).length = l.length * 2 := by
  induction l with
  | nil => rfl
  | cons p r ih => simp only [evCells, List.flatMap_cons, List.length_append, List.length_cons, List.length_nil] at *; omega

theorem evCells_snoc (l : List (UInt8 × Nat)) (c : UInt8) (k : Nat) : evCells (l ++ [(c, k)]) = evCells l ++ [u8 c, i64 k] := by simp [evCells]

theorem RunAt.shape {w : World} {own : Nat → Prop} {b : Nat} {s : St} {ar : List UInt8} {ve vv : Value} (h : RunAt w own b s ar ve vv) :
    (∃ a c, ve = .slice a s.ev.length c) ∧ ∃ a c, vv = .slice a s.vis.length c :=
  ⟨row_shape (ok := fun _ => True) ⟨h.ev, fun _ _ => trivial⟩, row_shape (ok := fun _ => True) ⟨h.vis, fun _ _ => trivial⟩⟩

/-- The run behind an event more. -/
theorem ev_grown {w wA w' : World} {own : Nat → Prop} {b : Nat} {s : St} {ar : List UInt8} {ae a' : Option Addr} {ce c' : Nat} {vv : Value} {c : UInt8} {k : Nat} (h : RunAt w own b s ar (.slice ae s.ev.length ce) vv) (hlt : ∀ k, own k → k < w.heap.size)
    (qA : Keeps noB w wA) (ho : w'.ownsRow 0 194 2 (.slice a' (s.ev.length + 1) c') (s.ev.length + 1) (evCells s.ev ++ [.int .u8 (c.toNat : Int), .int .i64 (k : Int)]))
    (hg : wA.grownBy w' (Value.slice ae s.ev.length ce).ownBlock) (hf : Fresh wA (.slice ae s.ev.length ce) (.slice a' (s.ev.length + 1) c')) :
    Runs w own b (s.happen c k) ar (.tuple #[]) (.returned (.tuple #[])) (w'.setCell ⟨b, 9, none⟩ (.slice a' (s.ev.length + 1) c')) := by
  have hO := grow_own (u := .slice a' (s.ev.length + 1) c') (i := 9) hlt qA hg hf (fun g e => (h.ownE g e).1) h.mine ho
  have hkA : Keeps (fun g => (Value.slice ae s.ev.length ce).ownBlock = some g) w w' := (qA.mono (fun _ e => e.elim)).grown hg (fun k e => .inl e)
  have b1 := hkA.blk h.blk (fun e => (h.ownE b e).2.1 rfl)
  have hfb : ∀ g, (Value.slice a' (s.ev.length + 1) c').ownBlock = some g → g ≠ b ∧ vv.ownBlock ≠ some g := by
    intro g e
    rcases hf with hf | hf
    · have := h.ownE g (hf.symm.trans e); exact ⟨this.2.1, this.2.2⟩
    · have h1 := hf g e
      have h2 := qA.size
      exact ⟨fun e2 => by have := h.blk.lt; omega, fun e2 => by have := (h.vis.lt g e2).2; omega⟩
  have kb : Keeps (oneB b) w' (w'.setCell ⟨b, 9, none⟩ (.slice a' (s.ev.length + 1) c')) := (Keeps.refl _ _).setCell (.inl (show oneB b b from rfl)) _
  refine ⟨_, .slice a' (s.ev.length + 1) c', vv, rfl, hO, ⟨?_, ?_, ?_, .inl h.mine, fun g e => ⟨.inr e, hfb g e⟩, fun g e => ⟨.inl (h.ownV g e).1, (h.ownV g e).2⟩⟩⟩
  · have e := b1.set 9 (.slice a' (s.ev.length + 1) c')
    simpa [runCells, St.happen] using e
  · have e := kb.ownsRow ho (fun g hg _ e => (hfb g hg).1 e)
    simpa [St.happen, evCells_snoc, u8, i64] using e
  · have e1 := hkA.ownsRow h.vis (fun g hg _ e => (h.ownE g e).2.2 hg)
    exact kb.ownsRow e1 (fun g hg _ e => (h.ownV g hg).2 e)

set_option maxHeartbeats 1000000 in
theorem happen_any (b : Nat) (s : St) (ar : List UInt8) (ve vv : Value) (own : Nat → Prop) (w : World) (h : RunAt w own b s ar ve vv) (hlt : ∀ k, own k → k < w.heap.size) (c : UInt8) (k : Nat) (hn : s.ev.length ≤ 1000000) :
    Calls Try.prog 126 #[.pointer (some ⟨b, 0, none⟩), .int .u8 (c.toNat : Int), .int .i64 (k : Int)] w (Runs w own b (s.happen c k) ar (.tuple #[])) := by
  obtain ⟨i0, hi, hz0, hz1, hz2⟩ := info_parts Try.info194
  obtain ⟨⟨ae, ce, rfl⟩, _⟩ := h.shape
  have hbl := h.blk.lt
  have r9 := h.blk.cell 9
  simp [runCells] at r9
  have HH := Lib.hid h
  have HB := Lib.hid (Blk.new w #[.int .u8 (c.toNat : Int), .int .i64 (k : Int)] 194)
  clear h
  go_enter Try.func126, Try.ntmps126
  go_wp2_with (at_builtin; refine wpList_append_fresh _ rfl _ _ 113 rfl 194 i0 (.agg #[.int .u8 0, .int .i64 0]) 2 16 Try.underlying113 hi hz0 hz1 hz2 rfl (by omega) (.slice ae s.ev.length ce) s.ev.length (evCells s.ev) rfl (((Keeps.refl noB w).alloc _).ownsRow HH.out.ev (fun _ _ _ => id)) ⟨w.heap.size, 0, none⟩ 1 1 [.int .u8 (c.toNat : Int), .int .i64 (k : Int)] rfl rfl ?cc ?oc (by unfold maxLen; omega) (by omega) ?_)
  case cc =>
    intro j u hu
    have hadd : (⟨w.heap.size, 0, none⟩ : Addr).add j = ⟨w.heap.size, j, none⟩ := by unfold Addr.add; split <;> simp_all
    rw [hadd, HB.out.cell j]
    simpa using hu
  case oc =>
    intro u hu
    simp at hu
    rcases hu with rfl | rfl <;> rfl
  intro v' w' ho hg hf
  obtain ⟨a', c', rfl⟩ := row_shape (ok := fun _ => True) ⟨ho, fun _ _ => trivial⟩
  have HE : Hid (Runs w own b (s.happen c k) ar (.tuple #[]) (.returned (.tuple #[])) (w'.setCell ⟨b, 9, none⟩ (.slice a' (s.ev.length + 1) c'))) := ev_grown HH.out hlt ((Keeps.refl noB w).alloc _) ho hg hf
  have b1 : Blk w' b _ _ := (((Keeps.refl (fun g => (Value.slice ae s.ev.length ce).ownBlock = some g) w).alloc _).grown hg (fun k e => .inl e)).blk HH.out.blk (fun e => (HH.out.ownE b e).2.1 rfl)
  have y9 := b1.cell 9
  have z9 := b1.free 9
  simp [runCells] at y9
  clear ho hg hf b1
  go_wp2_with fail
  go_end0
  exact HE.out

end Go.Proofs.Ytcohmhgmocdbfaa

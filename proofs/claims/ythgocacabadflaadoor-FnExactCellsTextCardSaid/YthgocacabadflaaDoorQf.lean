/-
  The program's history: add.
-/
import Derived.Test.YthgocacabadflaaDoorQe
import Derived.Laws.StructEq
namespace Go.Proofs.YthgocacabadflaaDoor
set_option linter.unusedVariables false
set_option linter.unusedSimpArgs false
open Go.RowKit

theorem row_set {w : World} {e : TypeId} {size g n c : Nat} {xs : List Value} (h : w.ownsRow 0 e size (.slice (some ⟨g, 0, none⟩) n c) n xs) (j : Nat) (hj : j < n * size) (u : Value) :
    (w.setCell ⟨g, j, none⟩ u).ownsRow 0 e size (.slice (some ⟨g, 0, none⟩) n c) n (xs.set j u) := by
  obtain ⟨h1, h2⟩ := h
  refine ⟨by simpa using h1, ?_⟩
  rcases h2 with ⟨e, _⟩ | ⟨g', c', cur, e, hb, hh, hnc, hcm, hcs, htk⟩
  · cases e
  · simp only [Value.slice.injEq, Option.some.injEq, Addr.mk.injEq, and_true, true_and] at e
    obtain ⟨rfl, rfl⟩ := e
    refine .inr ⟨g, c, cur.setIfInBounds j u, rfl, hb, (show Blk w g cur _ from hh).set j _, hnc, hcm, by simpa using hcs, ?_⟩
    rw [Array.toList_setIfInBounds, List.take_set, htk]

/-- The history of events l with lives s. -/
structure MidAt (W : World) (H : Nat) (own : Nat → Prop) (l : List Ev) (s : List Lf) (ve vl : Value) : Prop where
  blk : Blk W H #[ve, vl] 60
  evs : VRow W ve l
  lfs : LRow W vl s
  ownH : own H
  ownE : ∀ g, ve.ownBlock = some g → own g ∧ g ≠ H
  ownL : ∀ g, vl.ownBlock = some g → own g ∧ g ≠ H
  apart : ∀ g, ve.ownBlock = some g → vl.ownBlock ≠ some g

theorem HistAt.mid {W : World} {H : Nat} {own : Nat → Prop} {l : List Ev} {ve vl : Value} (h : HistAt W H own l ve vl) : MidAt W H own l (livesL l) ve vl := ⟨h.blk, h.evs, h.lfs, h.ownH, h.ownE, h.ownL, h.apart⟩
theorem MidAt.hist {W : World} {H : Nat} {own : Nat → Prop} {l : List Ev} {s : List Lf} {ve vl : Value} (h : MidAt W H own l s ve vl) (e : s = livesL l) : HistAt W H own l ve vl := by
  subst e; exact ⟨h.blk, h.evs, h.lfs, h.ownH, h.ownE, h.ownL, h.apart⟩
theorem MidAt.keeps {W W' : World} {H : Nat} {own : Nat → Prop} {l : List Ev} {s : List Lf} {ve vl : Value} {may : Nat → Prop} (h : MidAt W H own l s ve vl) (q : Keeps may W W') (hm : ∀ k, own k → ¬ may k) : MidAt W' H own l s ve vl :=
  ⟨q.blk h.blk (hm _ h.ownH), q.ownsRow h.evs (fun g hg _ => hm _ (h.ownE g hg).1), q.ownsRow h.lfs (fun g hg _ => hm _ (h.ownL g hg).1), h.ownH, h.ownE, h.ownL, h.apart⟩

/-- One event more. -/
theorem MidAt.event {W W2 w4 : World} {H : Nat} {own : Nat → Prop} {l : List Ev} {s : List Lf} {ae : Option Addr} {ce : Nat} {vl : Value} {k : UInt8} {v : Int} (h : MidAt W H own l s (.slice ae l.length ce) vl) (hlt : ∀ k, own k → k < W.heap.size) (hv : 0 ≤ v) (hq : Keeps noB W W2)
    {v' : Value} (hown : w4.ownsRow 0 63 2 v' (l.length + 1) (evC l ++ [.int .u8 (k.toNat : Int), .int .i64 v])) (hgrow : W2.grownBy w4 (Value.slice ae l.length ce).ownBlock) (hfr : Fresh W2 (.slice ae l.length ce) v') :
    ∃ own', Owns own own' W (w4.setCell ⟨H, 0, none⟩ v') ∧ MidAt (w4.setCell ⟨H, 0, none⟩ v') H own' (l ++ [⟨k, v.toNat⟩]) s v' vl := by
  have hHl := h.blk.lt
  have qA : Keeps (fun g => (Value.slice ae l.length ce).ownBlock = some g) W w4 := (hq.mono (fun _ e => e.elim)).grown hgrow (fun g hg => .inl hg)
  have qO : Keeps own W w4 := qA.mono (fun g hg => (h.ownE g hg).1)
  have hfb : ∀ g, v'.ownBlock = some g → (own g ∨ W.heap.size ≤ g) ∧ g ≠ H ∧ vl.ownBlock ≠ some g := by
    intro g e
    rcases hfr with hf | hf
    · have := h.ownE g (hf ▸ e); exact ⟨.inl this.1, this.2, h.apart g (hf ▸ e)⟩
    · have h1 := hf g e
      have h2 := hq.size
      exact ⟨.inr (by omega), fun e2 => by omega, fun e2 => by have := (h.lfs.lt g e2).2; omega⟩
  have bH : Blk w4 H #[.slice ae l.length ce, vl] 60 := qA.blk h.blk (fun e => (h.ownE H e).2 rfl)
  have kb : Keeps (oneB H) w4 (w4.setCell ⟨H, 0, none⟩ v') := (Keeps.refl _ _).setCell (.inl (show oneB H H from rfl)) _
  have qF : Keeps own W (w4.setCell ⟨H, 0, none⟩ v') := qO.setCell (p := ⟨H, 0, none⟩) (.inl h.ownH) _
  refine ⟨fun g => own g ∨ v'.ownBlock = some g, ⟨fun i hi => hi.elim .inl (fun e => (hfb i e).1), fun i hi => ?_, qF⟩, ?_, ?_, ?_, .inl h.ownH, fun g hg => ⟨.inr hg, (hfb g hg).2.1⟩, fun g hg => ⟨.inl (h.ownL g hg).1, (h.ownL g hg).2⟩, fun g hg => (hfb g hg).2.2⟩
  · rcases hi with hi | hi
    · exact Nat.lt_of_lt_of_le (hlt i hi) qF.size
    · simpa [World.setCell] using (hown.lt i hi).2
  · exact bH.set 0 v'
  · have e := kb.ownsRow hown (fun g hg _ e => (hfb g hg).2.1 e)
    unfold VRow
    rw [List.length_append, evC_snoc]
    show World.ownsRow _ _ _ _ _ (l.length + 1) (evC l ++ [.int .u8 (k.toNat : Int), .int .i64 ((v.toNat : Nat) : Int)])
    rw [show ((v.toNat : Nat) : Int) = v by omega]
    exact e
  · have e1 := qA.ownsRow h.lfs (fun g hg _ e => h.apart g e hg)
    exact kb.ownsRow e1 (fun g hg _ e => (h.ownL g hg).2 e)

/-- One life more. -/
theorem MidAt.life {W W2 w4 : World} {H : Nat} {own : Nat → Prop} {l : List Ev} {s : List Lf} {al : Option Addr} {cl : Nat} {ve : Value} {f : Lf} (h : MidAt W H own l s ve (.slice al s.length cl)) (hlt : ∀ k, own k → k < W.heap.size) (hq : Keeps noB W W2)
    {v' : Value} (hown : w4.ownsRow 0 41 3 v' (s.length + 1) (lfC s ++ [.int .i64 f.b, .int .i64 f.u, .int .i64 f.d])) (hgrow : W2.grownBy w4 (Value.slice al s.length cl).ownBlock) (hfr : Fresh W2 (.slice al s.length cl) v') :
    ∃ own', Owns own own' W (w4.setCell ⟨H, 1, none⟩ v') ∧ MidAt (w4.setCell ⟨H, 1, none⟩ v') H own' l (s ++ [f]) ve v' := by
  have hHl := h.blk.lt
  have qA : Keeps (fun g => (Value.slice al s.length cl).ownBlock = some g) W w4 := (hq.mono (fun _ e => e.elim)).grown hgrow (fun g hg => .inl hg)
  have qO : Keeps own W w4 := qA.mono (fun g hg => (h.ownL g hg).1)
  have hfb : ∀ g, v'.ownBlock = some g → (own g ∨ W.heap.size ≤ g) ∧ g ≠ H ∧ ve.ownBlock ≠ some g := by
    intro g e
    rcases hfr with hf | hf
    · have := h.ownL g (hf ▸ e); exact ⟨.inl this.1, this.2, fun e2 => h.apart g e2 (hf ▸ e)⟩
    · have h1 := hf g e
      have h2 := hq.size
      exact ⟨.inr (by omega), fun e2 => by omega, fun e2 => by have := (h.evs.lt g e2).2; omega⟩
  have bH : Blk w4 H #[ve, .slice al s.length cl] 60 := qA.blk h.blk (fun e => (h.ownL H e).2 rfl)
  have kb : Keeps (oneB H) w4 (w4.setCell ⟨H, 1, none⟩ v') := (Keeps.refl _ _).setCell (.inl (show oneB H H from rfl)) _
  have qF : Keeps own W (w4.setCell ⟨H, 1, none⟩ v') := qO.setCell (p := ⟨H, 1, none⟩) (.inl h.ownH) _
  refine ⟨fun g => own g ∨ v'.ownBlock = some g, ⟨fun i hi => hi.elim .inl (fun e => (hfb i e).1), fun i hi => ?_, qF⟩, ?_, ?_, ?_, .inl h.ownH, fun g hg => ⟨.inl (h.ownE g hg).1, (h.ownE g hg).2⟩, fun g hg => ⟨.inr hg, (hfb g hg).2.1⟩, fun g hg e => (hfb g e).2.2 hg⟩
  · rcases hi with hi | hi
    · exact Nat.lt_of_lt_of_le (hlt i hi) qF.size
    · simpa [World.setCell] using (hown.lt i hi).2
  · exact bH.set 1 v'
  · have e1 := qA.ownsRow h.evs (fun g hg _ e => h.apart g hg e)
    exact kb.ownsRow e1 (fun g hg _ e => (h.ownE g hg).2 e)
  · have e := kb.ownsRow hown (fun g hg _ e => (hfb g hg).2.1 e)
    unfold LRow
    rw [List.length_append, lfC_snoc]
    exact e

/-- A cell of the lives' row set. -/
theorem MidAt.setLife {W : World} {H : Nat} {own : Nat → Prop} {l : List Ev} {s s' : List Lf} {g cl : Nat} {ve : Value} (h : MidAt W H own l s ve (.slice (some ⟨g, 0, none⟩) s.length cl)) (j : Nat) (hj : j < s.length * 3) (u : Value) (hs : s'.length = s.length) (he : (lfC s).set j u = lfC s') :
    MidAt (W.setCell ⟨g, j, none⟩ u) H own l s' ve (.slice (some ⟨g, 0, none⟩) s.length cl) := by
  have kb : Keeps (oneB g) W (W.setCell ⟨g, j, none⟩ u) := (Keeps.refl _ _).setCell (.inl (show oneB g g from rfl)) _
  refine ⟨kb.blk h.blk (fun e => (h.ownL g rfl).2 (show g = H from (show H = g from e).symm)), kb.ownsRow h.evs (fun i hi _ e => h.apart i hi (by rw [show i = g from e]; rfl)), ?_, h.ownH, h.ownE, h.ownL, h.apart⟩
  have := row_set h.lfs j hj u
  unfold LRow
  rw [hs, ← he]
  exact this

end Go.Proofs.YthgocacabadflaaDoor

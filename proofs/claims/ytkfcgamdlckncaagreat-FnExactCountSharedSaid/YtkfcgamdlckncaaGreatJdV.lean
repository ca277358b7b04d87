/-
  The iterator over all of a program's places; what the program's faces know of each place in a range over them.
-/
import Derived.Test.YtkfcgamdlckncaaGreatIuW
import Derived.Test.YtkfcgamdlckncaaGreatIfW
import Derived.Test.YtkfcgamdlckncaaGreatIjW
import Derived.Test.YtkfcgamdlckncaaGreatRtW
namespace Go.Proofs.YtkfcgamdlckncaaGreat
set_option linter.unusedVariables false
set_option linter.unusedSimpArgs false
open Go.RowKit Go.Shelf

/-- What lay from B on, and no later than the world w. -/
def between (B : Nat) (w : World) : Nat → Prop := fun g => B ≤ g ∧ g < w.heap.size

/-- The iterator over the places of program x: what placesOf hands back. -/
structure PlacesOk (s : ByteArray) (x : Nd) (b0 B : Nat) (w : World) : Prop where
  ok : x.Ok s 0
  root : x.scope = []
  small : s.size ≤ 80
  few : x.pre.len ≤ s.size
  lt : b0 ≤ w.heap.size
  blk : b0 ≤ B
  rep : ∃ v, RepI w (between b0 w) x v ∧ Blk w B #[v, str x.scope, i64 0] 106

theorem IterAt.prot {α : Type} {P : Program} {gf : FuncId} {lb : Array Value} {all : List α} {enc : α → Array Value → Prop} {prot prot' : Nat → Prop} {W : World} (h : IterAt P gf lb all enc prot W) (hp : ∀ k, prot k → prot' k) :
    IterAt P gf lb all enc prot' W := fun l J Jx own hJ hJx ho hpr hr h0 n => h l J Jx own hJ hJx ho (fun k e => hpr k (hp k e)) hr h0 n

theorem PlacesOk.iter {s : ByteArray} {x : Nd} {b0 B : Nat} {w1 : World} (hp : PlacesOk s x b0 B w1) (W : World) (q : Keeps noB w1 W) :
    IterAt Tryz.prog 65 #[ptr B] (x.preD 0) (encP w1 (between b0 w1)) (between b0 w1) W := by
  obtain ⟨v, hv, hb⟩ := hp.rep
  have hlt := hb.lt
  have hbB := hp.blk
  have hfew := hp.few
  have hsm := hp.small
  exact (within_all x.pre.len s x 0 v w1 W (between b0 w1) B rfl (by omega) hp.ok hp.small hv (fun k e => e.2) q.size (fun k e hl => q.block k hl id) (q.blk hb id)).prot
    (fun k e => e.elim id (fun e => by subst e; exact ⟨hbB, hlt⟩))

/-- A place that the iterator yields, in the world in which a round meets it. -/
theorem enc_open {w1 W : World} {b0 : Nat} {p : PN} {args : Array Value} (h : encP w1 (between b0 w1) p args) (hs : SameOn (between b0 w1) w1 W) :
    ∃ ty g sv, args = #[.agg #[.iface ty (.pointer (some ⟨g, 0, none⟩)), .string sv, .int .i64 (p.2 : Int)]] ∧ sv = ⟨p.1.scope.toArray⟩ ∧ StepIs W p.1 ty g ∧ TypeIs W p.1 ty g ∧ b0 ≤ g ∧ g < w1.heap.size := by
  obtain ⟨v, rfl, hr⟩ := h
  obtain ⟨ty, g, rfl⟩ := rep_iface _ _ _ _ hr
  obtain ⟨h1, h2, h3, h4⟩ := rep_step _ _ _ _ _ hr
  have hb := hs g h3 h4
  refine ⟨ty, g, ⟨p.1.scope.toArray⟩, rfl, rfl, ⟨h1.beg, h1.fin, (World.cell?_of_block (w := w1) (w' := W) (a := ⟨g, 0, none⟩) hb).trans h1.c0, (World.cell?_of_block (w := w1) (w' := W) (a := ⟨g, 1, none⟩) hb).trans h1.c1, h1.tys, fun e => (h1.val e).moved (fun j => World.cell?_of_block (w := w1) (w' := W) (a := ⟨g, j, none⟩) hb)⟩, ?_, h3.1, h4⟩
  rcases h2 with h2 | h2 | h2 | ⟨h5, h6, h7⟩ | h2
  · exact .inl h2
  · exact .inr (.inl h2)
  · exact .inr (.inr (.inl h2))
  · exact .inr (.inr (.inr (.inl ⟨h5, h6, (World.cell?_of_block (w := w1) (w' := W) (a := ⟨g, 2, none⟩) hb).trans h7⟩)))
  · exact .inr (.inr (.inr (.inr h2)))

theorem same_of_owns {w1 w2 W : World} {b0 : Nat} {own0 own : Nat → Prop} (q : Keeps noB w1 w2) (ho : Owns own0 own w2 W) (hd : ∀ k, between b0 w1 k → ¬ own0 k) : SameOn (between b0 w1) w1 W :=
  fun k hk hl => (ho.keeps.block k (Nat.lt_of_lt_of_le hl q.size) (hd k hk)).trans (q.block k hl id)

/-- The two blocks of results. -/
def twoB (a b : Nat) : Nat → Prop := fun k => k = a ∨ k = b

end Go.Proofs.YtkfcgamdlckncaaGreat

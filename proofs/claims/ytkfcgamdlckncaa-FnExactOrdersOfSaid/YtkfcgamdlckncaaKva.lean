/-
  Texts gathered in a list by the rounds of a range.
-/
import Derived.Test.YtkfcgamdlckncaaIuW
import Derived.Test.YtkfcgamdlckncaaRf
import Derived.Test.YtkfcgamdlckncaaScW
namespace Go.Proofs.Ytkfcgamdlckncaa
set_option linter.unusedVariables false
set_option linter.unusedSimpArgs false
open Go.RowKit Go.Shelf

theorem Try.zeroK9 : (Try.prog.info? 9).map (fun i => (i.zero, i.size, i.bytes)) = some (some (.string ⟨#[]⟩), 1, 16) := by kernel_rfl

def strsC (l : List (List UInt8)) : List Value := l.map str

theorem strsC_len (l : List (List UInt8)) : (strsC l).length = l.length := by simp [strsC]
theorem strsC_snoc (l : List (List UInt8)) (c : List UInt8) : strsC (l ++ [c]) = strsC l ++ [str c] := by simp [strsC]

/-- What the loop over the choices has gathered; N: the list's block. -/
def AllI (N : Nat) (w2 : World) (pre : List (List UInt8)) (own : Nat → Prop) (W' : World) : Prop :=
  Owns (oneB N) own w2 W' ∧ own N ∧ ∃ a c, Blk W' N #[.slice a pre.length c] 32 ∧ W'.ownsRow 0 9 1 (.slice a pre.length c) pre.length (strsC pre) ∧ ∀ g, (Value.slice a pre.length c).ownBlock = some g → own g ∧ w2.heap.size ≤ g

theorem AllI.stab {N : Nat} {w2 : World} (hN : N < w2.heap.size) : Stab w2.heap.size (AllI N w2) := by
  rintro pre own W W' ⟨h1, h2, a, c, h3, h4, h5⟩ q
  refine ⟨h1.ahead q (fun i e => e.1), h2, a, c, q.blk h3 (fun e => by have := e.1; omega), q.ownsRow h4 (fun g hg hl e => e.2 (h5 g hg).1), h5⟩

set_option maxRecDepth 100000 in
set_option maxHeartbeats 1000000 in
theorem all_next {N : Nat} {w2 W3 : World} {pre : List (List UInt8)} {own1 : Nat → Prop} {a : Option Addr} {c : Nat} {p : List UInt8} (hN2 : N < w2.heap.size) (k3 : Owns (oneB N) own1 w2 W3) (hoN : own1 N) (d3 : Blk W3 N #[.slice a pre.length c] 32)
    (d4 : W3.ownsRow 0 9 1 (.slice a pre.length c) pre.length (strsC pre)) (d5 : ∀ g, (Value.slice a pre.length c).ownBlock = some g → own1 g ∧ w2.heap.size ≤ g) (hpre : pre.length ≤ 100000) :
    ∃ a' c' w', (Builtin.append_ #[32, 32] 32 #[.slice a pre.length c, .slice (some ⟨W3.heap.size, 0, none⟩) 1 1]).run Try.prog (W3.alloc (.cells #[.string ⟨p.toArray⟩] 9)) = .ok (.slice a' (pre.length + 1) c') w' ∧
      w'.frozen? ⟨N, 0, none⟩ = false ∧ w'.cell? ⟨N, 0, none⟩ = some (.slice a pre.length c) ∧ ∃ own', Owns own1 own' W3 (w'.setCell ⟨N, 0, none⟩ (.slice a' (pre.length + 1) c')) ∧ AllI N w2 (pre ++ [p]) own' (w'.setCell ⟨N, 0, none⟩ (.slice a' (pre.length + 1) c')) := by
  obtain ⟨i0, hi, hz0, hz1, hz2⟩ := info_parts Try.zeroK9
  obtain ⟨v', w', hr, ho', hg', hfr⟩ := run_append_fresh (P := Try.prog) (W3.alloc (.cells #[.string ⟨p.toArray⟩] 9)) 32 32 9 i0 (.string ⟨#[]⟩) 1 16 Try.underlying32 hi hz0 hz1 hz2 rfl (by omega)
    (.slice a pre.length c) pre.length _ (((Keeps.refl noB W3).alloc _).ownsRow d4 (fun _ _ _ => id)) ⟨W3.heap.size, 0, none⟩ 1 1 [.string ⟨p.toArray⟩] rfl (cells_one W3 _ _) (fun u hu => by simp at hu; subst hu; rfl) (by unfold maxLen; omega) (by omega)
  have hNl : N < W3.heap.size := d3.lt
  have hNw : w'.heap[N]? = W3.heap[N]? := (hg'.block N (by simp; omega) (fun e => by have := (d5 N e.symm).2; omega)).trans (Below.heap_alloc _ _ _ hNl)
  have b4 : Blk w' N #[.slice a pre.length c] 32 := hNw.trans d3
  obtain ⟨a', c', rfl⟩ := row_shape (ok := fun _ => True) ⟨ho', fun _ _ => trivial⟩
  refine ⟨a', c', w', hr, b4.free 0, by have := b4.cell 0; simpa using this, ?_⟩
  have hkA : Keeps own1 W3 w' := ((Keeps.refl _ W3).alloc _).grown hg' (fun k e => .inl (d5 k e).1)
  have hkB : Keeps own1 W3 (w'.setCell ⟨N, 0, none⟩ (.slice a' (pre.length + 1) c')) := hkA.setCell (.inl hoN) _
  have hnew : ∀ k, (Value.slice a' (pre.length + 1) c').ownBlock = some k → (own1 k ∨ W3.heap.size ≤ k) ∧ w2.heap.size ≤ k := by
    intro k hk
    have hs3 := k3.keeps.size
    rcases hfr with e | e
    · have := d5 k (e.symm.trans hk); exact ⟨.inl this.1, this.2⟩
    · have := e k hk; simp at this; exact ⟨.inr (by omega), by omega⟩
  have hk : Owns own1 (fun k => own1 k ∨ (Value.slice a' (pre.length + 1) c').ownBlock = some k) W3 (w'.setCell ⟨N, 0, none⟩ (.slice a' (pre.length + 1) c')) := by
    refine ⟨fun k e => e.elim .inl (fun e => (hnew k e).1), fun k e => ?_, hkB⟩
    rcases e with e | e
    · exact Nat.lt_of_lt_of_le (k3.lt k e) hkB.size
    · simpa [World.setCell] using (ho'.lt k e).2
  refine ⟨_, hk, k3.trans hk, .inl hoN, a', c', ?_, ?_, ?_⟩
  · have e := b4.set 0 (.slice a' (pre.length + 1) c')
    rw [List.length_append]
    simpa using e
  · have e := ((Keeps.refl (oneB N) w').setCell (p := ⟨N, 0, none⟩) (.inl rfl) (.slice a' (pre.length + 1) c')).ownsRow ho' (fun k hk hl e => by have : k = N := e; have := (hnew k hk).2; omega)
    rw [List.length_append, strsC_snoc]
    exact e
  · intro k hk
    rw [List.length_append] at hk
    exact ⟨.inr hk, (hnew k hk).2⟩

end Go.Proofs.Ytkfcgamdlckncaa

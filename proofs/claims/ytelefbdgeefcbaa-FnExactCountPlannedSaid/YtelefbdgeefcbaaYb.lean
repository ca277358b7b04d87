/-
  The program's planner: what it hands back, and what that answers.
-/
import Derived.Test.YtelefbdgeefcbaaPq
import Derived.Test.YtelefbdgeefcbaaVb
import Derived.Test.YtelefbdgeefcbaaBw
import Derived.Test.YtelefbdgeefcbaaScW
import Derived.Test.YtelefbdgeefcbaaIjW
namespace Go.Proofs.Ytelefbdgeefcbaa
set_option linter.unusedVariables false
set_option linter.unusedSimpArgs false
open Go.RowKit Go.Shelf

attribute [local go_sem] Oper.semAt_some

set_option maxHeartbeats 1000000 in
theorem planner_any (k : Kn) (w : World) : Calls Try.prog 71 #[knV k] w
    fun e w' => e = .returned (.func (.func 99) #[] #[ptr w.heap.size]) ∧ w' = w.alloc (.cells #[.int .u8 (k.may : Int), .int .u8 (k.must : Int)] 86) := by
  unfold knV
  go_enter Try.func71, Try.ntmps71
  go_wp2
  go_ret
  exact ⟨rfl, rfl⟩

/-- What a plan says of one variable. -/
def partK (k : Kn) (v : UInt8) : List UInt8 := if hasV k.must v then [45, v] else if hasV k.may v then [126, v] else []
theorem planK_part {k : Kn} (h : k ≠ Kn.no) (vs : List UInt8) : planK k vs = vs.reverse.flatMap (partK k) := by unfold planK; rw [if_neg h]; rfl
theorem partK_len (k : Kn) (v : UInt8) : (partK k v).length ≤ 2 := by
  unfold partK; split
  · exact Nat.le_refl _
  · split
    · exact Nat.le_refl _
    · exact Nat.zero_le _

theorem backTo_take (l : List UInt8) : ∀ m : Nat, m ≤ l.length → (backTo l m).map Prod.snd = (l.take m).reverse
  | 0, _ => by simp [backTo]
  | m + 1, h => by
    have hm : m < l.length := by omega
    have e : l.take (m + 1) = l.take m ++ [l.getD m 0] := by
      rw [List.take_add_one, List.getElem?_eq_getElem hm]
      simp [List.getD, List.getElem?_eq_getElem hm]
    simp only [backTo, List.map_cons]
    rw [backTo_take l m (by omega), e, List.reverse_append]
    rfl

def partsK (k : Kn) (done : List (Nat × UInt8)) : List UInt8 := done.flatMap (fun p => partK k p.2)
theorem partsK_snoc (k : Kn) (done : List (Nat × UInt8)) (p : Nat × UInt8) : partsK k (done ++ [p]) = partsK k done ++ partK k p.2 := by
  unfold partsK; rw [List.flatMap_append]; simp
theorem partsK_len (k : Kn) : ∀ done : List (Nat × UInt8), (partsK k done).length ≤ 2 * done.length
  | [] => Nat.le_refl _
  | p :: r => by
    have h1 := partsK_len k r
    have h2 := partK_len k p.2
    have e : partsK k (p :: r) = partK k p.2 ++ partsK k r := by unfold partsK; rw [List.flatMap_cons]
    rw [e, List.length_append, List.length_cons]
    omega
theorem partsK_all (k : Kn) (h : k ≠ Kn.no) (l : List UInt8) : partsK k (backTo l l.length) = planK k l := by
  have e := backTo_take l l.length (Nat.le_refl _)
  rw [List.take_length] at e
  rw [planK_part h, ← e]
  unfold partsK
  rw [List.flatMap_map]

/-- A byte's value. -/
def byteP (c : UInt8) : Value := .int .u8 (c.toNat : Int)

/-- Bytes that a loop has gathered in the box N. -/
def BytesI (N : Nat) (w2 : World) (l : List UInt8) (own : Nat → Prop) (W' : World) : Prop :=
  Owns (oneB N) own w2 W' ∧ own N ∧ ∃ a c, Blk W' N #[.slice a l.length c] 22 ∧ W'.ownsRow 0 5 1 (.slice a l.length c) l.length (l.map byteP) ∧ ∀ g, (Value.slice a l.length c).ownBlock = some g → own g ∧ w2.heap.size ≤ g

theorem BytesI.stab {N : Nat} {w2 : World} (hN : N < w2.heap.size) {l : List UInt8} {own : Nat → Prop} {W W' : World} (h : BytesI N w2 l own W) (q : Keeps (fun k => w2.heap.size ≤ k ∧ ¬ own k) W W') : BytesI N w2 l own W' := by
  obtain ⟨h1, h2, a, c, h3, h4, h5⟩ := h
  exact ⟨h1.ahead q (fun i e => e.1), h2, a, c, q.blk h3 (fun e => by have := e.1; omega), q.ownsRow h4 (fun g hg hl e => e.2 (h5 g hg).1), h5⟩

theorem BytesI.start {N : Nat} {w2 : World} (b : Blk w2 N #[.slice none 0 0] 22) : BytesI N w2 [] (oneB N) w2 :=
  ⟨Owns.refl (by rintro k rfl; exact b.lt), rfl, none, 0, b, ⟨rfl, .inl ⟨rfl, rfl⟩⟩, fun g hg => by simp [Value.ownBlock] at hg⟩

theorem Try.infoB5 : (Try.prog.info? 5).map (fun i => (i.zero, i.size, i.bytes)) = some (some (.int .u8 0), 1, 1) := by kernel_rfl

theorem cells_two (w : World) (v u : Value) (t : TypeId) : ∀ j x, [v, u][j]? = some x → (w.alloc (.cells #[v, u] t)).cell? ((⟨w.heap.size, 0, none⟩ : Addr).add j) = some x := by
  intro j x hx
  have b := Blk.new w #[v, u] t
  match j, hx with
  | 0, hx => simp at hx; subst hx; exact (b.cell 0).trans rfl
  | 1, hx => simp at hx; subst hx; exact (b.cell 1).trans rfl
  | j + 2, hx => simp at hx

/-- Two bytes more. -/
theorem BytesI.more {N : Nat} {w2 W3 : World} {l : List UInt8} {own1 : Nat → Prop} (hN : N < w2.heap.size) (h : BytesI N w2 l own1 W3) (hl : l.length ≤ 2000) (b1 b2 : UInt8) :
    ∃ a c, (W3.alloc (.cells #[.int .u8 (b1.toNat : Int), .int .u8 (b2.toNat : Int)] 5)).cell? ⟨N, 0, none⟩ = some (.slice a l.length c) ∧ W3.cell? ⟨N, 0, none⟩ = some (.slice a l.length c) ∧
      ∃ a' c' w', (Builtin.append_ #[22, 22] 22 #[.slice a l.length c, .slice (some ⟨W3.heap.size, 0, none⟩) 2 2]).run Try.prog (W3.alloc (.cells #[.int .u8 (b1.toNat : Int), .int .u8 (b2.toNat : Int)] 5)) = .ok (.slice a' (l.length + 2) c') w' ∧
        w'.frozen? ⟨N, 0, none⟩ = false ∧ w'.cell? ⟨N, 0, none⟩ = some (.slice a l.length c) ∧ ∃ own', Owns own1 own' W3 (w'.setCell ⟨N, 0, none⟩ (.slice a' (l.length + 2) c')) ∧ BytesI N w2 (l ++ [b1, b2]) own' (w'.setCell ⟨N, 0, none⟩ (.slice a' (l.length + 2) c')) := by
  obtain ⟨k3, hoN, a3, c3, d3, d4, d5⟩ := h
  obtain ⟨i0, hi, hz0, hz1, hz2⟩ := info_parts Try.infoB5
  refine ⟨a3, c3, ((d3.alloc _).cell 0).trans rfl, (d3.cell 0).trans rfl, ?_⟩
  have d4' : (W3.alloc (.cells #[.int .u8 (b1.toNat : Int), .int .u8 (b2.toNat : Int)] 5)).ownsRow 0 5 1 (.slice a3 l.length c3) l.length (l.map byteP) :=
    ((Keeps.refl noB W3).alloc _).ownsRow d4 (fun _ _ _ => id)
  obtain ⟨v', w', hr, ho', hg', hfr⟩ := run_append_fresh (P := Try.prog) (W3.alloc (.cells #[.int .u8 (b1.toNat : Int), .int .u8 (b2.toNat : Int)] 5)) 22 22 5 i0 (.int .u8 0) 1 1 Try.underlying22 hi hz0 hz1 hz2 rfl (by omega)
    (.slice a3 l.length c3) l.length _ d4' ⟨W3.heap.size, 0, none⟩ 2 2 [.int .u8 (b1.toNat : Int), .int .u8 (b2.toNat : Int)] rfl (cells_two W3 _ _ _) (fun u hu => by simp at hu; rcases hu with rfl | rfl <;> rfl) (by unfold maxLen; omega) (by omega)
  have hNl : N < W3.heap.size := d3.lt
  have hs3 := k3.keeps.size
  have hNw : w'.heap[N]? = W3.heap[N]? := (hg'.block N (by simp; omega) (fun e => by have := (d5 N e.symm).2; omega)).trans (Below.heap_alloc _ _ _ hNl)
  have b4 : Blk w' N #[.slice a3 l.length c3] 22 := hNw.trans d3
  obtain ⟨a', c', rfl⟩ := row_shape (ok := fun _ => True) ⟨ho', fun _ _ => trivial⟩
  refine ⟨a', c', w', hr, b4.free 0, (b4.cell 0).trans rfl, ?_⟩
  have hkA : Keeps own1 W3 w' := ((Keeps.refl _ W3).alloc _).grown hg' (fun k e => .inl (d5 k e).1)
  have hkB : Keeps own1 W3 (w'.setCell ⟨N, 0, none⟩ (.slice a' (l.length + 2) c')) := hkA.setCell (.inl hoN) _
  have hnew : ∀ k, (Value.slice a' (l.length + 2) c').ownBlock = some k → (own1 k ∨ W3.heap.size ≤ k) ∧ w2.heap.size ≤ k := by
    intro k hk
    rcases hfr with e | e
    · have := d5 k (e.symm.trans hk); exact ⟨.inl this.1, this.2⟩
    · have := e k hk; simp at this; exact ⟨.inr (by omega), by omega⟩
  have hk : Owns own1 (fun k => own1 k ∨ (Value.slice a' (l.length + 2) c').ownBlock = some k) W3 (w'.setCell ⟨N, 0, none⟩ (.slice a' (l.length + 2) c')) := by
    refine ⟨fun k e => e.elim .inl (fun e => (hnew k e).1), fun k e => ?_, hkB⟩
    rcases e with e | e
    · exact Nat.lt_of_lt_of_le (k3.lt k e) hkB.size
    · simpa [World.setCell] using (ho'.lt k e).2
  refine ⟨_, hk, k3.trans hk, .inl hoN, a', c', ?_, ?_, ?_⟩
  · have e := b4.set 0 (.slice a' (l.length + 2) c')
    rw [List.length_append]
    simpa using e
  · have e := ((Keeps.refl (oneB N) w').setCell (p := ⟨N, 0, none⟩) (.inl rfl) (.slice a' (l.length + 2) c')).ownsRow ho' (fun k hk hl e => by have : k = N := e; have := (hnew k hk).2; omega)
    rw [List.length_append, List.map_append]
    exact e
  · intro k hk
    rw [List.length_append] at hk
    exact ⟨.inr hk, (hnew k hk).2⟩

end Go.Proofs.Ytelefbdgeefcbaa

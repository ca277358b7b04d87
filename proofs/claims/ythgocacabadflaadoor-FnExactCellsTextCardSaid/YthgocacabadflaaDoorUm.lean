/-
  The program's room: what lies in it.
-/
import Derived.Test.YthgocacabadflaaDoorUd
import Derived.Test.YthgocacabadflaaDoorQh
namespace Go.Proofs.YthgocacabadflaaDoor
set_option linter.unusedVariables false
set_option linter.unusedSimpArgs false
open Go.RowKit

/-! ### the plain account: which value is in which cell -/
def roomStep (pick : List Nat → Nat) (x : Cs × (Nat → Nat)) (e : Ev) : Cs × (Nat → Nat) :=
  (cellStep pick x.1 e, if e.k = 43 then fun i => if i = pick x.1.T then e.n else x.2 i else if e.k = 45 then fun i => if i = nth x.1.O (e.n - 1) then 0 else x.2 i else x.2)
def roomS (pick : List Nat → Nat) (l : List Ev) : Cs × (Nat → Nat) := l.foldl (roomStep pick) (⟨[], []⟩, fun _ => 0)
def insS (pick : List Nat → Nat) (l : List Ev) : Nat → Nat := (roomS pick l).2
theorem room_fold (pick : List Nat → Nat) : ∀ (l : List Ev) (x : Cs × (Nat → Nat)), (l.foldl (roomStep pick) x).1 = l.foldl (cellStep pick) x.1
  | [], _ => rfl
  | e :: r, x => room_fold pick r (roomStep pick x e)
theorem roomS_fst (pick : List Nat → Nat) (l : List Ev) : (roomS pick l).1 = cellsS pick l := room_fold pick l _
theorem roomS_snoc (pick : List Nat → Nat) (l : List Ev) (e : Ev) : roomS pick (l ++ [e]) = roomStep pick (roomS pick l) e := by unfold roomS; simp
theorem insS_plus {pick : List Nat → Nat} {l : List Ev} {e : Ev} (h : e.k = 43) (i : Nat) : insS pick (l ++ [e]) i = if i = pick (cellsS pick l).T then e.n else insS pick l i := by
  unfold insS
  rw [roomS_snoc, ← roomS_fst]
  unfold roomStep
  rw [if_pos h]
theorem insS_minus {pick : List Nat → Nat} {l : List Ev} {e : Ev} (h43 : ¬ e.k = 43) (h : e.k = 45) (i : Nat) : insS pick (l ++ [e]) i = if i = nth (cellsS pick l).O (e.n - 1) then 0 else insS pick l i := by
  unfold insS
  rw [roomS_snoc, ← roomS_fst]
  unfold roomStep
  rw [if_neg h43, if_pos h]
theorem insS_dot {pick : List Nat → Nat} {l : List Ev} {e : Ev} (h43 : ¬ e.k = 43) (h45 : ¬ e.k = 45) : insS pick (l ++ [e]) = insS pick l := by
  unfold insS
  rw [roomS_snoc]
  unfold roomStep
  rw [if_neg h43, if_neg h45]
theorem cells_plus {pick : List Nat → Nat} {l : List Ev} {e : Ev} (h : e.k = 43) : cellsS pick (l ++ [e]) = ⟨(cellsS pick l).T ++ [pick (cellsS pick l).T], (cellsS pick l).O ++ [pick (cellsS pick l).T]⟩ := by
  rw [cellsS_snoc]; unfold cellStep; rw [if_pos h]
theorem cells_minus {pick : List Nat → Nat} {l : List Ev} {e : Ev} (h43 : ¬ e.k = 43) (h : e.k = 45) : cellsS pick (l ++ [e]) = ⟨(cellsS pick l).T.filter (fun m => decide (m ≠ nth (cellsS pick l).O (e.n - 1))), (cellsS pick l).O⟩ := by
  rw [cellsS_snoc]; unfold cellStep; rw [if_neg h43, if_pos h]
theorem cells_dot {pick : List Nat → Nat} {l : List Ev} {e : Ev} (h43 : ¬ e.k = 43) (h45 : ¬ e.k = 45) : cellsS pick (l ++ [e]) = cellsS pick l := by
  rw [cellsS_snoc]; unfold cellStep; rw [if_neg h43, if_neg h45]

/-! ### in memory -/
/-- What a keeper's state is abides where its blocks are let. -/
def Stays (K : World → (Nat → Prop) → List Nat → Prop) : Prop := ∀ (W W' : World) (own may : Nat → Prop) (T : List Nat), K W own T → Keeps may W W' → (∀ k, own k → ¬ may k) → K W' own T

/-- A room in block R, its keeper kv, the cells vo of the values; oK are the keeper's blocks. -/
structure RoomIn (K : World → (Nat → Prop) → List Nat → Prop) (kv : Value) (R : Nat) (W : World) (own oK : Nat → Prop) (ins : Nat → Nat) (T O : List Nat) (vo : Value) (cs : Array Value) : Prop where
  blk : Blk W R cs 83
  kp : cs[0]? = some kv
  ins : ∀ i, i < 600 → cs[1 + i]? = some (.int .i64 (ins i : Int))
  cel : cs[601]? = some vo
  row : NRow W vo O
  keep : K W oK T
  ownR : own R
  ownO : ∀ g, vo.ownBlock = some g → own g ∧ g ≠ R ∧ ¬ oK g
  ownK : ∀ k, oK k → own k ∧ k ≠ R
  low : ∀ g, vo.ownBlock = some g → R < g

def RoomK (K : World → (Nat → Prop) → List Nat → Prop) (pick : List Nat → Nat) (kv : Value) (R : Nat) (W : World) (own : Nat → Prop) (l : List Ev) : Prop :=
  ∃ oK vo cs, RoomIn K kv R W own oK (insS pick l) (cellsS pick l).T (cellsS pick l).O vo cs

theorem RoomIn.keeps {K : World → (Nat → Prop) → List Nat → Prop} (hK : Stays K) {kv : Value} {R : Nat} {W W' : World} {own oK may : Nat → Prop} {ins : Nat → Nat} {T O : List Nat} {vo : Value} {cs : Array Value} (h : RoomIn K kv R W own oK ins T O vo cs) (q : Keeps may W W') (hm : ∀ k, own k → ¬ may k) : RoomIn K kv R W' own oK ins T O vo cs :=
  ⟨q.blk h.blk (hm _ h.ownR), h.kp, h.ins, h.cel, h.row.keeps q (fun g hg => hm g (h.ownO g hg).1), hK _ _ _ _ _ h.keep q (fun k hk => hm k (h.ownK k hk).1), h.ownR, h.ownO, h.ownK, h.low⟩
theorem RoomK.keeps {K : World → (Nat → Prop) → List Nat → Prop} (hK : Stays K) {pick : List Nat → Nat} {kv : Value} {R : Nat} {W W' : World} {own may : Nat → Prop} {l : List Ev} (h : RoomK K pick kv R W own l) (q : Keeps may W W') (hm : ∀ k, own k → ¬ may k) : RoomK K pick kv R W' own l := by
  obtain ⟨oK, vo, cs, h⟩ := h
  exact ⟨oK, vo, cs, h.keeps hK q hm⟩
theorem RoomIn.ksize {K : World → (Nat → Prop) → List Nat → Prop} {kv : Value} {R : Nat} {W : World} {own oK : Nat → Prop} {ins : Nat → Nat} {T O : List Nat} {vo : Value} {cs : Array Value} (h : RoomIn K kv R W own oK ins T O vo cs) : 601 < cs.size := (Array.getElem?_eq_some_iff.1 h.cel).1

/-- The keeper's turn. -/
theorem RoomIn.turn {K : World → (Nat → Prop) → List Nat → Prop} {kv : Value} {R : Nat} {W W1 : World} {own oK oK' : Nat → Prop} {ins : Nat → Nat} {T T' O : List Nat} {vo : Value} {cs : Array Value} (h : RoomIn K kv R W own oK ins T O vo cs) (hlt : ∀ k, own k → k < W.heap.size) (o : Owns oK oK' W W1) (k : K W1 oK' T') :
    RoomIn K kv R W1 (fun k => own k ∨ oK' k) oK' ins T' O vo cs ∧ Owns own (fun k => own k ∨ oK' k) W W1 := by
  have hR : ¬ oK R := fun e => (h.ownK R e).2 rfl
  have hnew : ∀ g, g < W.heap.size → oK' g → oK g := fun g hg e => (o.more g e).elim id (fun e => by omega)
  refine ⟨⟨o.keeps.blk h.blk hR, h.kp, h.ins, h.cel, h.row.keeps o.keeps (fun g hg => (h.ownO g hg).2.2), k, .inl h.ownR, fun g hg => ?_, fun k hk => ⟨.inr hk, fun e => ?_⟩, h.low⟩, ⟨fun k hk => ?_, fun k hk => ?_, o.keeps.mono (fun k hk => (h.ownK k hk).1)⟩⟩
  · obtain ⟨h1, h2, h3⟩ := h.ownO g hg
    exact ⟨.inl h1, h2, fun e => h3 (hnew g (hlt g h1) e)⟩
  · exact (h.ownK k (hnew k (by rw [e]; exact hlt R h.ownR) hk)).2 e
  · rcases hk with hk | hk
    · exact .inl hk
    · exact (o.more k hk).imp (fun e => (h.ownK k e).1) id
  · rcases hk with hk | hk
    · exact Nat.lt_of_lt_of_le (hlt k hk) o.keeps.size
    · exact o.lt k hk

/-- One cell more. -/
theorem RoomIn.more {K : World → (Nat → Prop) → List Nat → Prop} (hK : Stays K) {kv : Value} {R : Nat} {W W1 w2 : World} {own oK : Nat → Prop} {ins : Nat → Nat} {T O : List Nat} {a : Option Addr} {n c p : Nat} {LO : List Value} {v' : Value} {cs : Array Value} (h : RoomIn K kv R W own oK ins T O (.slice a n c) cs) (hlt : ∀ k, own k → k < W.heap.size) (q : Keeps noB W W1) (hn : n = O.length) (hl : LO = O.map i64)
    (hown : w2.ownsRow 0 3 1 v' (n + 1) (LO ++ [.int .i64 (p : Int)])) (hg : W1.grownBy w2 (Value.slice a n c).ownBlock) (hf : Fresh W1 (.slice a n c) v') :
    Blk w2 R cs 83 ∧ RoomIn K kv R (w2.setCell ⟨R, 601, none⟩ v') (fun k => own k ∨ v'.ownBlock = some k) oK ins T (O ++ [p]) v' (cs.setIfInBounds 601 v') ∧ Owns own (fun k => own k ∨ v'.ownBlock = some k) W (w2.setCell ⟨R, 601, none⟩ v') ∧ Keeps (fun g => (Value.slice a n c).ownBlock = some g) W w2 := by
  have qa : Keeps (fun g => (Value.slice a n c).ownBlock = some g) W w2 := (q.mono (fun _ e => e.elim)).grown hg (fun g hg => .inl hg)
  have b2 := qa.blk h.blk (fun e => (h.ownO R e).2.1 rfl)
  have hR := hlt R h.ownR
  have hs := q.size
  have hnew : ∀ g, v'.ownBlock = some g → (Value.slice a n c).ownBlock = some g ∨ W.heap.size ≤ g := fun g hg => by
    rcases hf with h1 | h1
    · exact .inl (h1 ▸ hg)
    · exact .inr (Nat.le_trans hs (h1 g hg))
  have hne : ∀ g, v'.ownBlock = some g → g ≠ R ∧ ¬ oK g := fun g hg => by
    rcases hnew g hg with h1 | h1
    · exact (h.ownO g h1).2
    · exact ⟨by omega, fun e => by have := hlt g (h.ownK g e).1; omega⟩
  have qs : Keeps (fun k => k = R) w2 (w2.setCell ⟨R, 601, none⟩ v') := (Keeps.refl (fun k => k = R) w2).setCell (p := ⟨R, 601, none⟩) (.inl rfl) _
  have hk2 : K w2 oK T := hK _ _ _ _ _ h.keep qa (fun k hk e => (h.ownO k e).2.2 hk)
  refine ⟨b2, ⟨b2.set 601 v', ?_, fun i hi => ?_, ?_, (NRow.app hn hl hown).keeps qs (fun g hg e => (hne g hg).1 e), hK _ _ _ _ _ hk2 qs (fun k hk e => (h.ownK k hk).2 e), .inl h.ownR, fun g hg => ⟨.inr hg, hne g hg⟩, fun k hk => ⟨.inl (h.ownK k hk).1, (h.ownK k hk).2⟩, fun g hg => (hnew g hg).elim (h.low g) (fun e => by omega)⟩, ⟨fun k hk => ?_, fun k hk => ?_, ?_⟩, qa⟩
  · rw [Array.getElem?_setIfInBounds_ne (by omega)]; exact h.kp
  · rw [Array.getElem?_setIfInBounds_ne (by omega)]; exact h.ins i hi
  · rw [Array.getElem?_setIfInBounds_self_of_lt h.ksize]
  · rcases hk with hk | hk
    · exact .inl hk
    · exact (hnew k hk).imp (fun e => (h.ownO k e).1) id
  · rcases hk with hk | hk
    · exact Nat.lt_of_lt_of_le (hlt k hk) (Nat.le_trans qa.size qs.size)
    · exact Nat.lt_of_lt_of_le (hown.lt k hk).2 qs.size
  · exact (qa.mono (fun g hg => (h.ownO g hg).1)).trans (qs.mono (fun k e => e ▸ h.ownR))

/-- A value moves in or out. -/
theorem RoomIn.put {K : World → (Nat → Prop) → List Nat → Prop} (hK : Stays K) {kv : Value} {R : Nat} {W : World} {own oK : Nat → Prop} {ins : Nat → Nat} {T O : List Nat} {vo : Value} {cs : Array Value} (h : RoomIn K kv R W own oK ins T O vo cs) (c n : Nat) (hc : c < 600) :
    RoomIn K kv R (W.setCell ⟨R, 1 + c, none⟩ (.int .i64 (n : Int))) own oK (fun i => if i = c then n else ins i) T O vo (cs.setIfInBounds (1 + c) (.int .i64 (n : Int))) ∧ Keeps own W (W.setCell ⟨R, 1 + c, none⟩ (.int .i64 (n : Int))) := by
  have qs : Keeps (fun k => k = R) W (W.setCell ⟨R, 1 + c, none⟩ (.int .i64 (n : Int))) := (Keeps.refl (fun k => k = R) W).setCell (p := ⟨R, 1 + c, none⟩) (.inl rfl) _
  refine ⟨⟨h.blk.set (1 + c) _, ?_, fun i hi => ?_, ?_, h.row.keeps qs (fun g hg e => (h.ownO g hg).2.1 e), hK _ _ _ _ _ h.keep qs (fun k hk e => (h.ownK k hk).2 e), h.ownR, h.ownO, h.ownK, h.low⟩, qs.mono (fun k e => e ▸ h.ownR)⟩
  · rw [Array.getElem?_setIfInBounds_ne (by omega)]; exact h.kp
  · by_cases e : i = c
    · subst e
      rw [Array.getElem?_setIfInBounds_self_of_lt (by have := h.ksize; omega), if_pos rfl]
    · rw [Array.getElem?_setIfInBounds_ne (by omega), if_neg e]; exact h.ins i hi
  · rw [Array.getElem?_setIfInBounds_ne (by omega)]; exact h.cel

end Go.Proofs.YthgocacabadflaaDoor

/-
  Walks of the model's reader: step, where bodies are read: what is known of the list of bodies.
-/
import Derived.Test.YtaaphpcbiibpcaaSc
namespace Go.Proofs.Ytaaphpcbiibpcaa
set_option linter.unusedVariables false
set_option linter.unusedSimpArgs false
open Go.RowKit

theorem Try.info64 : (Try.prog.info? 64).map (fun i => (i.zero, i.size, i.bytes)) = some (some (.slice none 0 0), 1, 24) := by kernel_rfl

/-- append as one step of a region that draws. -/
theorem step_append_fresh {P : Program} {ops : Array Oper} {o : Oper} {a : Act} {w : World} {K : Act → World → Prop} {Q : Exit → Act → World → Prop} {E : Prop}
    (hgd : o.guard = none) (s x : Operand) (t : TypeId) (ho : o.op = .call { callee := .builtin .append, args := #[s, x], argTypes := #[t, t] })
    (e : TypeId) (i : TypeInfo) (z : Value) (size bytes : Nat) (ht : P.underlying t = some (.slice e)) (hi : P.info? e = some i) (hz : i.zero = some z)
    (hsize : i.size = size) (hby : i.bytes = bytes) (hzs : z.cells.size = size) (hsz : 0 < size)
    (v : Value) (n : Nat) (xs : List Value) (hs : a.eval s = v) (hown : w.ownsRow 0 e size v n xs)
    (ad : Addr) (m c : Nat) (news : List Value) (hx : a.eval x = .slice (some ad) m c) (hl : news.length = m * size) (hnews : ∀ j u, news[j]? = some u → w.cell? (ad.add j) = some u) (h1 : ∀ u ∈ news, u.oneCell' = true)
    (h63 : n + m ≤ maxLen) (hbytes : (n + m) * bytes ≤ 140737488355328)
    (h : ∀ v' w', w'.ownsRow 0 e size v' (n + m) (xs ++ news) → w.grownBy w' v.ownBlock → Fresh w v v' → K (a.put o.dst v') w') :
    if Region.wanted o (yielded ops a.tmps) = true then Oper.wp P o a w K Q else E := by
  have hw : Region.wanted o (yielded ops a.tmps) = true := by simp [Region.wanted, hgd]
  rw [if_pos hw]
  obtain ⟨v', w', hr, h2, h3, h4⟩ := run_append_fresh (P := P) w t o.type e i z size bytes ht hi hz hsize hby hzs hsz v n xs hown ad m c news hl hnews h1 h63 hbytes
  unfold Oper.wp execOp
  simp only [ho, resolve, invoke, builtin, Sem.run_bind, Sem.run_pure, Result.andThen_ok, List.map_toArray, List.map_cons, List.map_nil, hs, hx, hr]
  exact h v' w' h2 h3 h4

theorem cells_one (w : World) (v : Value) (t : TypeId) : ∀ j u, [v][j]? = some u → (w.alloc (.cells #[v] t)).cell? ((⟨w.heap.size, 0, none⟩ : Addr).add j) = some u := by
  intro j u hu
  cases j with
  | zero => simp at hu; subst hu; exact (Blk.new w _ _).cell 0
  | succ j => simp at hu

theorem slice_oneCell (a : Option Addr) (n m : Nat) : ∀ u ∈ [Value.slice a n m], u.oneCell' = true := by
  intro u hu; simp at hu; subst hu; rfl

def Bds.snoc : Bds → Nds → Bds
  | .nil, x => .cons x .nil
  | .cons y r, x => .cons y (r.snoc x)

theorem repSB_snoc {w : World} {ok : Nat → Prop} {x : Nds} {v : Value} {m : Nat} {cs : List Value} (hr : Row w ok 61 6 v m cs) (hv : RepSL w ok x cs) : ∀ (bs : Bds) (xs : List Value), RepSB w ok bs xs → RepSB w ok (bs.snoc x) (xs ++ [v])
  | .nil, xs, h => by
    simp only [RepSB] at h; subst h
    simp only [Bds.snoc, RepSB, List.nil_append]
    exact ⟨v, [], m, cs, rfl, ⟨hr, hv⟩, rfl⟩
  | .cons y r, xs, h => by
    simp only [RepSB] at h
    obtain ⟨u, ur, n, ds, rfl, h1, h2⟩ := h
    simp only [Bds.snoc, RepSB, List.cons_append]
    exact ⟨u, _, n, ds, rfl, h1, repSB_snoc hr hv r ur h2⟩

/-- The list of bodies as a row of the call's own: where it may lie. -/
structure BW (N g : Nat) (w : World) (vb : Value) (n : Nat) (xs : List Value) (wx : World) : Prop where
  own : wx.ownsRow 0 64 1 vb n xs
  at' : ∀ i, vb.ownBlock = some i → w.heap.size ≤ i ∧ i ≠ g ∧ i ≠ N

/-- The blocks in which bodies may lie: none that the call itself writes. -/
def okB (N g : Nat) (w : World) (vb : Value) : Nat → Prop := fun i => w.heap.size ≤ i ∧ i ≠ g ∧ i ≠ N ∧ vb.ownBlock ≠ some i

theorem BW.keep {N g b : Nat} {w : World} {vb : Value} {n : Nat} {xs : List Value} {wx wy : World} (h : BW N g w vb n xs wx) (q : Keeps (may3 b g N) wx wy) (hb : b < w.heap.size) : BW N g w vb n xs wy :=
  ⟨q.ownsRow h.own (fun i hi _ e => by have := h.at' i hi; rcases e with e | e | e <;> omega), h.at'⟩

/-- One more body. -/
theorem BW.grow {N g : Nat} {w : World} {vb vb' vx : Value} {n : Nat} {xs : List Value} {w3 w4 : World} (h : BW N g w vb n xs w3) (h4 : w4.ownsRow 0 64 1 vb' (n + 1) (xs ++ [vx])) (hf : Fresh (w3.alloc (.cells #[vx] 64)) vb vb')
    (hw : w.heap.size ≤ w3.heap.size) (hg : g < w3.heap.size) (hN : N < w3.heap.size) : BW N g w vb' (n + 1) (xs ++ [vx]) w4 :=
  ⟨h4, fun i hi => by
    rcases hf with e | e
    · exact h.at' i (e ▸ hi)
    · have := e i hi
      simp at this
      omega⟩

theorem NS.grow {b N g : Nat} {w w3 w4 : World} {s : ByteArray} {k d : Nat} {bad : Bool} {c k0 e0 : Int} {vs : ByteArray} {vb vn : Value} {ar : ByteArray} {o : Obj} {n : Nat} {xs : List Value}
    (h : NS b N g w s k bad d c k0 e0 vs vn ar w3) (hB : BW N g w vb n xs w3) (hg : (w3.alloc o).grownBy w4 vb.ownBlock) : NS b N g w s k bad d c k0 e0 vs vn ar w4 := by
  have hN := h.hN
  have hg' := h.hg
  have hb := h.hb
  have q : Keeps (fun i => vb.ownBlock = some i) w3 w4 := ((Keeps.refl _ w3).alloc _).grown hg (fun i hi => .inl hi)
  exact ⟨h.rd.keeps q (fun e => by have := hB.at' b e; omega), q.blk h.res (fun e => (hB.at' N e).2.2 rfl), q.blk h.nod (fun e => (hB.at' g e).2.1 rfl),
    h.keeps.transNew q (fun i hi e => by have := hB.at' i e; omega), hb, hN, hg', h.hne⟩

/-- The bodies that have been read so far. -/
def BS (N g : Nat) (w : World) (bs : Bds) (vb : Value) (n : Nat) (wx : World) : Prop :=
  ∃ xs, BW N g w vb n xs wx ∧ RepSB wx (okB N g w vb) bs xs

theorem BS.keep {N g b : Nat} {w : World} {vb : Value} {n : Nat} {bs : Bds} {wx wy : World} (h : BS N g w bs vb n wx) (q : Keeps (may3 b g N) wx wy) (hb : b < w.heap.size) : BS N g w bs vb n wy := by
  obtain ⟨xs, h1, h2⟩ := h
  exact ⟨xs, h1.keep q hb, (Hands.of_keeps q (fun i hi _ e => by obtain ⟨a1, a2, a3, _⟩ := hi; rcases e with e | e | e <;> omega) (fun i hi _ => hi)).repSB bs xs h2⟩

/-- The bodies behind one more: 'w2': ahead of the body's call; 'w3': behind it; 'w4': behind the append. -/
theorem BS.grow {N g b : Nat} {w : World} {vb vb' vx : Value} {n : Nat} {bs : Bds} {w2 w3 w4 : World} {x : Nds} {m : Nat} {cs : List Value} (h : BS N g w bs vb n w2) (hb : b < w.heap.size) (hw : w.heap.size ≤ w2.heap.size) (hgl : g < w2.heap.size) (hNl : N < w2.heap.size)
    (q : Keeps (oneB b) w2 w3) (hr : Row w3 (fromB w2.heap.size) 61 6 vx m cs) (hx : RepSL w3 (fromB w2.heap.size) x cs)
    {xs : List Value} (hB : BW N g w vb n xs w3) (hxs : ∀ ys, BW N g w vb n ys w3 → ys = xs)
    (h4 : w4.ownsRow 0 64 1 vb' (n + 1) (xs ++ [vx])) (hgr : (w3.alloc (.cells #[vx] 64)).grownBy w4 vb.ownBlock) (hf : Fresh (w3.alloc (.cells #[vx] 64)) vb vb') :
    BS N g w (bs.snoc x) vb' (n + 1) w4 := by
  have hs3 := q.size
  have hk := h.keep (b := b) (wy := w3) (q.mono (fun i e => .inl e)) hb
  obtain ⟨ys, h1, h2⟩ := hk
  obtain rfl := hxs ys h1
  have hvlt : ∀ i, vb.ownBlock = some i → i < w2.heap.size := by
    obtain ⟨zs, z1, _⟩ := h
    exact fun i hi => (z1.own.lt i hi).2
  have qa : Keeps (fun i => vb.ownBlock = some i) w3 w4 := ((Keeps.refl _ w3).alloc _).grown hgr (fun i hi => .inl hi)
  refine ⟨ys ++ [vx], h1.grow h4 hf (by omega) (by omega) (by omega), ?_⟩
  have hnew : ∀ i, i < w3.heap.size → vb.ownBlock ≠ some i → vb'.ownBlock ≠ some i := by
    intro i hi hne e
    rcases hf with h5 | h5
    · exact hne (h5 ▸ e)
    · have := h5 i e; simp at this; omega
  have hho : Hands w3 w4 (okB N g w vb) (okB N g w vb') :=
    Hands.of_keeps qa (fun i hi _ e => hi.2.2.2 e) (fun i hi hl => ⟨hi.1, hi.2.1, hi.2.2.1, hnew i hl hi.2.2.2⟩)
  have hhn : Hands w3 w4 (fromB w2.heap.size) (okB N g w vb') :=
    Hands.of_keeps qa (fun i hi _ e => by have := hvlt i e; simp [fromB] at hi; omega)
      (fun i hi hl => ⟨by simp [fromB] at hi; omega, by simp [fromB] at hi; omega, by simp [fromB] at hi; omega, hnew i hl (fun e => by have := hvlt i e; simp [fromB] at hi; omega)⟩)
  exact repSB_snoc (hhn.row _ _ _ _ _ hr) (hhn.repSL x cs hx) bs ys (hho.repSB bs ys h2)

/-- A row's cells are told by its value. -/
theorem ownsRow_unique {w : World} {e : TypeId} {size : Nat} {v : Value} {n : Nat} {xs ys : List Value} (h1 : w.ownsRow 0 e size v n xs) (h2 : w.ownsRow 0 e size v n ys) : xs = ys := by
  rcases h1.2 with ⟨rfl, rfl⟩ | ⟨g, cap, cur, rfl, _, hc, _, _, _, ht⟩
  · have a := h1.1; have b := h2.1
    have a' : xs = [] := List.eq_nil_of_length_eq_zero (by simpa using a)
    have b' : ys = [] := List.eq_nil_of_length_eq_zero (by simpa using b)
    rw [a', b']
  · rcases h2.2 with ⟨e, _⟩ | ⟨g', cap', cur', e, _, hc', _, _, _, ht'⟩
    · cases e
    · injection e with e1 e2 e3
      injection e1 with e1
      injection e1 with e1
      subst e1
      rw [hc] at hc'
      injection hc' with hc'
      injection hc' with hc'
      subst hc'
      rw [← ht, ← ht']

def BadBody (b : Nat) (s : ByteArray) (d : Nat) (w : World) (e : Ending) (w' : World) : Prop :=
  ∃ k a n m, MovedS b s k true d w (.slice a n m) e w' ∧ k ≤ s.size
def GoodBody (b : Nat) (s : ByteArray) (d : Nat) (w : World) (x : Nds) (k : Nat) (e : Ending) (w' : World) : Prop :=
  ∃ a n m cs, MovedS b s k false d w (.slice a n m) e w' ∧ Row w' (fromB w.heap.size) 61 6 (.slice a n m) n cs ∧ RepSL w' (fromB w.heap.size) x cs
def BodyPostS (b : Nat) (s : ByteArray) (d : Nat) (w : World) (res : Option (Nds × Nat)) (e : Ending) (w' : World) : Prop :=
  match res with
  | none => BadBody b s d w e w'
  | some (x, k) => GoodBody b s d w x k e w'

def SStepOk (n : Nat) : Prop := ∀ (b : Nat) (s : ByteArray) (k d : Nat) (ar : ByteArray) (w : World), Sd w b s k false d → s.size ≤ 80 → k < s.size → ar.size ≤ k → d ≤ 4 → 4 * (s.size - k) + 3 ≤ n →
  Calls Try.prog 72 #[.pointer (some ⟨b, 0, none⟩), .string ar] w (StepPostS b s d w (stepP s n ar.data.toList d k))
def SBodyOk (n : Nat) : Prop := ∀ (b : Nat) (s : ByteArray) (k d : Nat) (ar : ByteArray) (c : UInt8) (w : World), Sd w b s k false d → s.size ≤ 80 → k ≤ s.size → ar.size ≤ k → d ≤ 4 → 4 * (s.size - k) + 4 ≤ n →
  Calls Try.prog 89 #[.pointer (some ⟨b, 0, none⟩), .string ar, .int .u8 (c.toNat : Int)] w (BodyPostS b s d w (stepsP s n ar.data.toList d c k))
def SBodyBad : Prop := ∀ (b : Nat) (s : ByteArray) (k d : Nat) (ar : ByteArray) (c : UInt8) (w : World), Sd w b s k true d → s.size ≤ 80 → k ≤ s.size →
  Calls Try.prog 89 #[.pointer (some ⟨b, 0, none⟩), .string ar, .int .u8 (c.toNat : Int)] w (BadBody b s d w)

end Go.Proofs.Ytaaphpcbiibpcaa

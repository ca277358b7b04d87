/-
  Walks of the model's reader: l1Each.
-/
import Derived.Test.YtaaphpcbiibpcaaSr
import Derived.Test.YtaaphpcbiibpcaaEa
namespace Go.Proofs.Ytaaphpcbiibpcaa
set_option linter.unusedVariables false
set_option linter.unusedSimpArgs false
open Go.RowKit

theorem repSL_len {w : World} {ok : Nat → Prop} : ∀ (x : Nds) (cs : List Value), RepSL w ok x cs → cs.length = 6 * x.len
  | .nil, cs, h => by simp only [RepSL] at h; subst h; rfl
  | .cons (.mk c k e vs ar bs) r, cs, h => by
    simp only [RepSL, RepS] at h
    obtain ⟨c1, c2, rfl, ⟨vb, n, xs, rfl, _⟩, h2⟩ := h
    simp only [List.length_append, repSL_len r c2 h2, List.length_cons, List.length_nil, Nds.len]
    omega

theorem repS_six {w : World} {ok : Nat → Prop} {x : Nd} {cs : List Value} (h : RepS w ok x cs) : ∃ c k e vs a n m ar, cs = (six c k e vs (.slice a n m) ar).toList := by
  cases x with
  | mk c k e vs ar bs =>
    simp only [RepS] at h
    obtain ⟨vb, n, xs, rfl, hr, _⟩ := h
    obtain ⟨a, m, rfl⟩ := row_slice hr
    exact ⟨_, _, _, _, _, _, _, _, rfl⟩

theorem repSL_app {w : World} {ok : Nat → Prop} : ∀ (x y : Nds) (c1 c2 : List Value), RepSL w ok x c1 → RepSL w ok y c2 → RepSL w ok (x.app y) (c1 ++ c2)
  | .nil, y, c1, c2, h1, h2 => by simp only [RepSL] at h1; subst h1; simpa [Nds.app] using h2
  | .cons x r, y, c1, c2, h1, h2 => by
    simp only [RepSL] at h1
    obtain ⟨d1, d2, rfl, h3, h4⟩ := h1
    simp only [Nds.app, RepSL]
    exact ⟨d1, d2 ++ c2, by simp, h3, repSL_app r y d2 c2 h4 h2⟩

theorem repSB_len {w : World} {ok : Nat → Prop} : ∀ (x : Bds) (xs : List Value), RepSB w ok x xs → (x = .nil ∧ xs = []) ∨ ∃ y r v vr n cs, x = .cons y r ∧ xs = v :: vr ∧ Row w ok 61 6 v n cs ∧ RepSL w ok y cs ∧ RepSB w ok r vr
  | .nil, xs, h => by simp only [RepSB] at h; exact .inl ⟨rfl, h⟩
  | .cons y r, xs, h => by
    simp only [RepSB] at h
    obtain ⟨v, vr, n, cs, h1, ⟨h2, h3⟩, h4⟩ := h
    exact .inr ⟨y, r, v, vr, n, cs, rfl, h1, h2, h3, h4⟩

/-- A row whose cells are asked for lies in a block. -/
theorem row_at {w : World} {ok : Nat → Prop} {e : TypeId} {size : Nat} {v : Value} {n : Nat} {xs : List Value} (h : Row w ok e size v n xs) (hn : 0 < n) :
    ∃ g c, v = .slice (some ⟨g, 0, none⟩) n c ∧ ok g ∧ g < w.heap.size ∧ ∀ j u, xs[j]? = some u → w.cell? ⟨g, j, none⟩ = some u := by
  obtain ⟨h1, h2⟩ := h
  have hc : ∀ g, v.ownBlock = some g → ∀ j u, xs[j]? = some u → w.cell? ((⟨g, 0, none⟩ : Addr).add j) = some u := fun g hg => h1.cells hg
  rcases h1.2 with ⟨rfl, rfl⟩ | ⟨g, cap, cur, rfl, _⟩
  · omega
  · refine ⟨g, cap, rfl, h2 g rfl, (h1.lt g rfl).2, fun j u hj => ?_⟩
    have := hc g rfl j u hj
    have hadd : (⟨g, 0, none⟩ : Addr).add j = ⟨g, j, none⟩ := by unfold Addr.add; split <;> simp_all
    rw [hadd] at this
    exact this

theorem repSL_oneCell {w : World} {ok : Nat → Prop} : ∀ (x : Nds) (cs : List Value), RepSL w ok x cs → ∀ u ∈ cs, u.oneCell' = true
  | .nil, cs, h, u, hu => by simp only [RepSL] at h; subst h; cases hu
  | .cons x r, cs, h, u, hu => by
    simp only [RepSL] at h
    obtain ⟨c1, c2, rfl, h1, h2⟩ := h
    rcases List.mem_append.1 hu with h | h
    · obtain ⟨c, k, e, vs, a, n, m, ar, rfl⟩ := repS_six h1
      exact six_oneCell _ _ _ _ _ _ _ _ u h
    · exact repSL_oneCell r c2 h2 u h

/-- What l1Each has put into its list. -/
def OutAt (w : World) (ok : Nat → Prop) (pre : Nds) (v : Value) (wr : World) : Prop :=
  0 < pre.len ∧ ∃ cs, wr.ownsRow 0 61 6 v pre.len cs ∧ RepSL wr ok pre cs ∧ (∀ g, v.ownBlock = some g → w.heap.size ≤ g) ∧ Keeps noB w wr

def EachPost (w : World) (ok : Nat → Prop) (x : Nd) (e : Ending) (w' : World) : Prop := ∃ v, e = .returned v ∧ OutAt w ok x.pre v w'

def EachOk (n : Nat) : Prop := ∀ (x : Nd) (cs : List Value) (w : World) (ok : Nat → Prop), x.pre.len = n → n ≤ 200 → RepS w ok x cs → (∀ g, ok g → g < w.heap.size) → Calls Try.prog 49 #[.agg cs.toArray] w (EachPost w ok x)

/-- The list of one node. -/
theorem out_one {w : World} {ok : Nat → Prop} {x : Nd} {cs : List Value} (h : RepS w ok x cs) (hok : ∀ g, ok g → g < w.heap.size) (w1 : World) (q : Keeps noB w w1) :
    OutAt w ok (.cons x .nil) (.slice (some ⟨w1.heap.size, 0, none⟩) 1 1) (w1.alloc (.cells cs.toArray 61)) := by
  refine ⟨Nat.succ_pos _, cs, ?_, ?_, ?_, q.alloc _⟩
  · obtain ⟨c, k, e, vs, a, n, m, ar, rfl⟩ := repS_six h
    exact ⟨rfl, .inr ⟨_, 1, _, rfl, Nat.zero_le _, Blk.new w1 _ 61, Nat.le_refl _, by simp [maxLen], rfl, rfl⟩⟩
  · simp only [RepSL]
    exact ⟨cs, [], by simp, (Hands.of_keeps (ok' := ok) (q.alloc _) (fun g _ _ e => e) (fun g hg _ => hg)).repS x _ h, rfl⟩
  · intro g hg; simp [Value.ownBlock] at hg; have := q.size; omega

theorem OutAt.more {w w1 w2 w3 : World} {ok : Nat → Prop} {pre : Nds} {v v' : Value} {z : Nd} {cs cs2 : List Value} (hok : ∀ g, ok g → g < w.heap.size) (hp : 0 < pre.len)
    (hown : w1.ownsRow 0 61 6 v pre.len cs) (hrep : RepSL w1 ok pre cs) (hfrom : ∀ g, v.ownBlock = some g → w.heap.size ≤ g) (q : Keeps noB w w1)
    (q2 : Keeps noB w1 w2) (hrep2 : RepSL w2 ok z.pre cs2)
    (hown' : w3.ownsRow 0 61 6 v' (pre.len + z.pre.len) (cs ++ cs2)) (hg : w2.grownBy w3 v.ownBlock) (hf : Fresh w2 v v') : OutAt w ok (pre.app z.pre) v' w3 := by
  have qa : Keeps (fun g => v.ownBlock = some g) w2 w3 := (Keeps.refl _ w2).grown hg (fun g hg => .inl hg)
  have hl : ∀ g, ok g → ¬ v.ownBlock = some g := fun g hg e => by have := hok g hg; have := hfrom g e; omega
  refine ⟨by rw [Nds.len_app]; omega, cs ++ cs2, by rw [Nds.len_app]; exact hown', repSL_app _ _ _ _ ?_ ?_, ?_, ?_⟩
  · exact (Hands.of_keeps (ok' := ok) qa (fun g hg _ e => hl g hg e) (fun g hg _ => hg)).repSL _ _ ((Hands.of_keeps (ok' := ok) q2 (fun g _ _ e => e) (fun g hg _ => hg)).repSL _ _ hrep)
  · exact (Hands.of_keeps (ok' := ok) qa (fun g hg _ e => hl g hg e) (fun g hg _ => hg)).repSL _ _ hrep2
  · intro g hg'
    rcases hf with h | h
    · exact hfrom g (h ▸ hg')
    · have := h g hg'; have := q.size; have := q2.size; omega
  · exact (q.trans q2).transNew qa (fun i hi e => by have := hfrom i e; omega)

end Go.Proofs.Ytaaphpcbiibpcaa

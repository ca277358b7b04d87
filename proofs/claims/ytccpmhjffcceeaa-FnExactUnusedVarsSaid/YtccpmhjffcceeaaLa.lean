/-
  A tree without steps that no run comes by, plainly; and how such trees lie in the model's memory as they are made.
-/
import Derived.Test.YtccpmhjffcceeaaHaW
import Derived.Test.YtccpmhjffcceeaaDa
import Derived.Test.YtccpmhjffcceeaaEbW
import Derived.Test.YtccpmhjffcceeaaSqW
namespace Go.Proofs.Ytccpmhjffcceeaa
set_option linter.unusedVariables false
set_option linter.unusedSimpArgs false
open Go.RowKit

mutual
/-- A step with those within it alone that K keeps. -/
def Nd.al (K : Nd → Bool) : Nd → Nd
  | .mk c k e vs ar bs => .mk c k e vs ar (Bds.al K bs)
def Nds.al (K : Nd → Bool) : Nds → Nds
  | .nil => .nil
  | .cons x r => if K x then .cons (Nd.al K x) (Nds.al K r) else Nds.al K r
def Bds.al (K : Nd → Bool) : Bds → Bds
  | .nil => .nil
  | .cons x r => .cons (Nds.al K x) (Bds.al K r)
end

/-- The visitor that keeps some steps. -/
def keepV (K : Nd → Bool) : Vis := ⟨K, fun _ => [], fun z => z.kind :: z.vars, fun z => z.vars, fun _ => []⟩

mutual
theorem Nd.al_wr (K : Nd → Bool) : ∀ (x : Nd), x.Fit → K x = true → (x.al K).wr Nd.keepVis = x.wr (keepV K)
  | .mk c k e vs ar .nil, hf, hk => by
    simp only [Nd.al, Bds.al, Nd.wr]
    rw [if_pos (show (keepV K).keeps (.mk c k e vs ar .nil) = true from hk), if_pos (show Nd.keepVis.keeps (.mk c k e vs ar .nil) = true from rfl)]
    rfl
  | .mk c k e vs ar (.cons y .nil), hf, hk => by
    simp only [Nd.Fit] at hf
    have hy := Nds.al_wr K y hf.2
    simp only [Nd.al, Bds.al, Nd.wr]
    rw [if_pos (show (keepV K).keeps (.mk c k e vs ar (.cons y .nil)) = true from hk), if_pos (show Nd.keepVis.keeps (.mk c k e vs ar (.cons (Nds.al K y) .nil)) = true from rfl), hy]
    rfl
  | .mk c k e vs ar (.cons y (.cons u .nil)), hf, hk => by
    simp only [Nd.Fit] at hf
    have hy := Nds.al_wr K y hf.2.2.1
    have hu := Nds.al_wr K u hf.2.2.2
    simp only [Nd.al, Bds.al, Nd.wr]
    rw [if_pos (show (keepV K).keeps (.mk c k e vs ar (.cons y (.cons u .nil))) = true from hk), if_pos (show Nd.keepVis.keeps (.mk c k e vs ar (.cons (Nds.al K y) (.cons (Nds.al K u) .nil))) = true from rfl), hy, hu]
    rfl
  | .mk _ _ _ _ _ (.cons _ (.cons _ (.cons _ _))), hf, hk => by simp only [Nd.Fit] at hf
theorem Nds.al_wr (K : Nd → Bool) : ∀ (x : Nds), x.Fit → Nds.wr Nd.keepVis (x.al K) = Nds.wr (keepV K) x
  | .nil, hf => rfl
  | .cons x r, hf => by
    simp only [Nds.Fit] at hf
    have hr := Nds.al_wr K r hf.2
    by_cases hk : K x = true
    · have hx := Nd.al_wr K x hf.1 hk
      simp only [Nds.al, hk, if_true, Nds.wr, hx, hr]
    · have hx : x.wr (keepV K) = [] := by
        obtain ⟨c, k, e, vs, ar, bs⟩ := x
        cases bs with
        | nil => simp only [Nd.wr]; exact if_neg (show ¬ (keepV K).keeps (.mk c k e vs ar .nil) = true from hk)
        | cons y r2 =>
          cases r2 with
          | nil => simp only [Nd.wr]; exact if_neg (show ¬ (keepV K).keeps (.mk c k e vs ar (.cons y .nil)) = true from hk)
          | cons u r3 =>
            cases r3 with
            | nil => simp only [Nd.wr]; exact if_neg (show ¬ (keepV K).keeps (.mk c k e vs ar (.cons y (.cons u .nil))) = true from hk)
            | cons _ _ => simp only [Nd.wr]
      simp only [Nds.al, if_neg hk, Nds.wr, hx, hr, List.nil_append]
end

theorem app_one (x : Nd) (a r : Nds) : (a.app (.cons x .nil)).app r = a.app (.cons x r) := by rw [Nds.app_app]; rfl

/-- One node more in a row of the call's own. -/
theorem rowS_next {wr w1 w3 : World} {B : Nat} {v v' : Value} {m : Nat} {cs : List Value} {pre : Nds} {x : Nd} {cells : Array Value}
    (hfrom : ∀ g, v.ownBlock = some g → B ≤ g) (hown : wr.ownsRow 0 52 6 v m cs) (hrep : RepSL wr (fun g => B ≤ g ∧ v.ownBlock ≠ some g) pre cs) (hB : B ≤ wr.heap.size) (q1 : Keeps noB wr w1) (hu : RepS w1 (fromB wr.heap.size) x cells.toList)
    (hg : (w1.alloc (.cells cells 52)).grownBy w3 v.ownBlock) (hf : Fresh (w1.alloc (.cells cells 52)) v v') :
    (∀ g, v'.ownBlock = some g → B ≤ g) ∧ RepSL w3 (fun g => B ≤ g ∧ v'.ownBlock ≠ some g) (pre.app (.cons x .nil)) (cs ++ cells.toList) ∧ Keeps (fun g => B ≤ g) wr w3 := by
  have hvlt : ∀ g, v.ownBlock = some g → g < wr.heap.size := fun g hg => (hown.lt g hg).2
  have qa : Keeps (fun g => v.ownBlock = some g) w1 w3 := ((Keeps.refl _ w1).alloc _).grown hg (fun g hg => .inl hg)
  have hs1 := q1.size
  refine ⟨?_, ?_, ?_⟩
  · intro g hg'
    rcases hf with h | h
    · exact hfrom g (h ▸ hg')
    · have := h g hg'; simp at *; omega
  · refine repSL_snoc ?_ pre _ ?_
    · refine (Hands.of_keeps (ok := fromB wr.heap.size) qa ?_ ?_).repS x _ hu
      · intro g hg1 _ hg2; have := hvlt g hg2; exact absurd hg1 (by simp [fromB]; omega)
      · intro g hg1 hg3
        refine ⟨Nat.le_trans hB hg1, fun hg2 => ?_⟩
        rcases hf with h | h
        · have := hvlt g (h ▸ hg2); exact absurd hg1 (by simp [fromB]; omega)
        · have := h g hg2; simp at this; omega
    · have hh : Hands wr w1 (fun g => B ≤ g ∧ v.ownBlock ≠ some g) (fun g => B ≤ g ∧ v.ownBlock ≠ some g ∧ g < w1.heap.size) :=
        Hands.of_keeps q1 (fun g hg _ e => e) (fun g hg hl => ⟨hg.1, hg.2, Nat.lt_of_lt_of_le hl q1.size⟩)
      refine (Hands.of_keeps qa ?_ ?_).repSL pre cs (hh.repSL pre cs hrep)
      · intro g hg1 _ hg2; exact hg1.2.1 hg2
      · intro g hg1 hg3
        refine ⟨hg1.1, fun hg2 => ?_⟩
        rcases hf with h | h
        · exact hg1.2.1 (h ▸ hg2)
        · have := h g hg2; have := hg1.2.2; simp at *; omega
  · exact (q1.mono (fun _ e => e.elim)).trans (qa.mono (fun g e => hfrom g e))

theorem repSBL_snoc {w : World} {ok : Nat → Prop} {y : Nds} {v : Value} {n : Nat} {cs : List Value} (hr : Row w ok 52 6 v n cs) (hl : RepSL w ok y cs) : ∀ (pre : List Nds) (xs : List Value), RepSB w ok (pre.foldr Bds.cons .nil) xs → RepSB w ok ((pre ++ [y]).foldr Bds.cons .nil) (xs ++ [v])
  | [], xs, h => by
    simp only [List.foldr, RepSB] at h
    subst h
    exact ⟨v, [], n, cs, rfl, ⟨hr, hl⟩, rfl⟩
  | z :: r, xs, h => by
    simp only [List.foldr, List.cons_append, RepSB] at h ⊢
    obtain ⟨u, ur, n', cs', rfl, h1, h2⟩ := h
    exact ⟨u, ur ++ [v], n', cs', rfl, h1, repSBL_snoc hr hl r ur h2⟩

def Bds.lists : Bds → List Nds
  | .nil => []
  | .cons x r => x :: r.lists
theorem Bds.of_lists : ∀ b : Bds, b.lists.foldr Bds.cons .nil = b
  | .nil => rfl
  | .cons x r => by simp only [Bds.lists, List.foldr, Bds.of_lists r]
theorem Bds.al_lists (K : Nd → Bool) : ∀ b : Bds, (b.al K).lists = b.lists.map (fun y => y.al K)
  | .nil => rfl
  | .cons x r => by simp only [Bds.al, Bds.lists, List.map_cons, Bds.al_lists K r]

theorem RepSB.get {w : World} {ok : Nat → Prop} : ∀ (b : Bds) (xs : List Value), RepSB w ok b xs → xs.length = b.lists.length ∧ ∀ (i : Nat) (y : Nds), b.lists[i]? = some y → ∃ v n cs, xs[i]? = some v ∧ Row w ok 52 6 v n cs ∧ RepSL w ok y cs
  | .nil, xs, h => by simp only [RepSB] at h; subst h; exact ⟨rfl, fun i y e => by simp [Bds.lists] at e⟩
  | .cons x r, xs, h => by
    simp only [RepSB] at h
    obtain ⟨v, vr, n, cs, rfl, ⟨h1, h2⟩, h3⟩ := h
    obtain ⟨l, hn⟩ := RepSB.get r vr h3
    refine ⟨by simp [Bds.lists, l], fun i y e => ?_⟩
    cases i with
    | zero => simp [Bds.lists] at e; subst e; exact ⟨v, n, cs, rfl, h1, h2⟩
    | succ i => simp [Bds.lists] at e; simpa using hn i y e

theorem fromBS_mono {w : World} {A B : Nat} (h : B ≤ A) {x : Nd} {cs : List Value} (hr : RepS w (fromB A) x cs) : RepS w (fromB B) x cs :=
  (Hands.of_keeps (Keeps.refl noB w) (fun _ _ _ e => e) (fun g (hg : A ≤ g) _ => Nat.le_trans h hg)).repS x cs hr

end Go.Proofs.Ytccpmhjffcceeaa

/-
  Places: what the program's iterator over the steps of a program yields.
-/
import Derived.Test.YtlilkmemgomnjaaMemW
import Derived.Test.YtlilkmemgomnjaaRf
import Derived.Test.YtlilkmemgomnjaaPureW
namespace Go.Proofs.Ytlilkmemgomnjaa
set_option linter.unusedVariables false
set_option linter.unusedSimpArgs false
open Go.RowKit

/-- A place: a step behind its interface, the variables around it and how many scopes these are of. -/
def placeV (v : Value) (ar : List UInt8) (d : Nat) : Value := .agg #[v, str ar, i64 d]

/-- What is handed to the loops over places. -/
def encP (w : World) (ok : Nat → Prop) (p : PN) (args : Array Value) : Prop := ∃ v, args = #[placeV v p.1.scope p.2] ∧ RepI w ok p.1 v

/-- The blocks that 'ok' names lie as they lay. -/
def SameOn (ok : Nat → Prop) (w W : World) : Prop := ∀ k, ok k → k < w.heap.size → W.heap[k]? = w.heap[k]?

theorem SameOn.refl (ok : Nat → Prop) (w : World) : SameOn ok w w := fun _ _ _ => rfl
theorem SameOn.keeps {ok may : Nat → Prop} {w A B : World} (h : SameOn ok w A) (q : Keeps may A B) (hs : w.heap.size ≤ A.heap.size) (hm : ∀ k, ok k → ¬ may k) : SameOn ok w B :=
  fun k hk hl => (q.block k (by omega) (hm k hk)).trans (h k hk hl)

theorem Hands.of_same {ok : Nat → Prop} {w W : World} (h : SameOn ok w W) (hok : ∀ g, ok g → g < w.heap.size) : Hands w W ok ok where
  blk := fun g cs t hg hb => ⟨(h g hg (hok g hg)).trans hb, hg⟩
  row := fun e size v n xs hr => by
    obtain ⟨⟨h1, h2⟩, h3⟩ := hr
    refine ⟨⟨h1, ?_⟩, h3⟩
    rcases h2 with h2 | ⟨g, cap, cur, rfl, hg, hh, r⟩
    · exact .inl h2
    · have hkg := h3 g rfl
      exact .inr ⟨g, cap, cur, rfl, hg, (h g hkg (hok g hkg)).trans hh, r⟩

theorem Hands.back {ok : Nat → Prop} {w W : World} (h : SameOn ok w W) (hok : ∀ g, ok g → g < w.heap.size) : Hands W w ok ok where
  blk := fun g cs t hg hb => ⟨(h g hg (hok g hg)).symm.trans hb, hg⟩
  row := fun e size v n xs hr => by
    obtain ⟨⟨h1, h2⟩, h3⟩ := hr
    refine ⟨⟨h1, ?_⟩, h3⟩
    rcases h2 with h2 | ⟨g, cap, cur, rfl, hg, hh, r⟩
    · exact .inl h2
    · have hkg := h3 g rfl
      exact .inr ⟨g, cap, cur, rfl, hg, (h g hkg (hok g hkg)).symm.trans hh, r⟩

/-- Some steps, each behind its interface. -/
def KidsI (w : World) (ok : Nat → Prop) : List Nd → List Value → Prop
  | [], us => us = []
  | z :: r, us => ∃ u us', us = u :: us' ∧ RepI w ok z u ∧ KidsI w ok r us'

theorem KidsI.of_repIL {w : World} {ok : Nat → Prop} : ∀ {x : Nds} {us : List Value}, RepIL w ok x us → KidsI w ok x.list us
  | .nil, us, h => by simp only [RepIL] at h; exact h
  | .cons z r, us, h => by
    simp only [RepIL] at h
    obtain ⟨v, vr, rfl, h1, h2⟩ := h
    exact ⟨v, vr, rfl, h1, KidsI.of_repIL h2⟩

theorem KidsI.app {w : World} {ok : Nat → Prop} : ∀ {l m : List Nd} {us vs : List Value}, KidsI w ok l us → KidsI w ok m vs → KidsI w ok (l ++ m) (us ++ vs)
  | [], m, us, vs, h, h2 => by simp only [KidsI] at h; subst h; exact h2
  | z :: r, m, us, vs, h, h2 => by
    simp only [KidsI] at h
    obtain ⟨u, us', rfl, h1, h⟩ := h
    exact ⟨u, us' ++ vs, rfl, h1, KidsI.app h h2⟩

theorem KidsI.len {w : World} {ok : Nat → Prop} : ∀ {l : List Nd} {us : List Value}, KidsI w ok l us → us.length = l.length
  | [], us, h => by simp only [KidsI] at h; subst h; rfl
  | z :: r, us, h => by
    simp only [KidsI] at h
    obtain ⟨u, us', rfl, _, h⟩ := h
    simp [KidsI.len h]

theorem KidsI.get {w : World} {ok : Nat → Prop} : ∀ {l : List Nd} {us : List Value} {pre : List Nd} {z : Nd} {post : List Nd}, KidsI w ok l us → l = pre ++ z :: post → ∃ u, RepI w ok z u ∧ us[pre.length]? = some u
  | [], _, pre, z, post, _, e => by simp at e
  | y :: r, us, [], z, post, h, e => by
    simp only [KidsI] at h
    obtain ⟨u', us', rfl, h1, h⟩ := h
    simp only [List.nil_append, List.cons.injEq] at e
    obtain ⟨rfl, rfl⟩ := e
    exact ⟨u', h1, rfl⟩
  | y :: r, us, p :: pre, z, post, h, e => by
    simp only [KidsI] at h
    obtain ⟨u', us', rfl, h1, h⟩ := h
    simp only [List.cons_append, List.cons.injEq] at e
    obtain ⟨u, g1, g2⟩ := KidsI.get h e.2
    exact ⟨u, g1, by simpa using g2⟩

/-- The cells of the places of some steps. -/
def PlacesAt (w : World) (ok : Nat → Prop) (d : Nat) : List Nd → List Value → Prop
  | [], cs => cs = []
  | z :: r, cs => ∃ u cs', cs = u :: str z.scope :: i64 d :: cs' ∧ RepI w ok z u ∧ PlacesAt w ok d r cs'

theorem PlacesAt.len {w : World} {ok : Nat → Prop} {d : Nat} : ∀ {l : List Nd} {cs : List Value}, PlacesAt w ok d l cs → cs.length = 3 * l.length
  | [], cs, h => by simp only [PlacesAt] at h; subst h; rfl
  | z :: r, cs, h => by
    simp only [PlacesAt] at h
    obtain ⟨u, cs', rfl, _, h⟩ := h
    have := PlacesAt.len h
    simp [this]; omega

theorem PlacesAt.hands {w W : World} {ok ok' : Nat → Prop} (hh : Hands w W ok ok') {d : Nat} : ∀ {l : List Nd} {cs : List Value}, PlacesAt w ok d l cs → PlacesAt W ok' d l cs
  | [], cs, h => h
  | z :: r, cs, h => by
    simp only [PlacesAt] at h ⊢
    obtain ⟨u, cs', rfl, h1, h⟩ := h
    exact ⟨u, cs', rfl, hh.repI _ _ h1, PlacesAt.hands hh h⟩

theorem PlacesAt.snoc {w : World} {ok : Nat → Prop} {d : Nat} {z : Nd} {u : Value} : ∀ {l : List Nd} {cs : List Value}, PlacesAt w ok d l cs → RepI w ok z u → PlacesAt w ok d (l ++ [z]) (cs ++ [u, str z.scope, i64 d])
  | [], cs, h, hz => by simp only [PlacesAt] at h; subst h; exact ⟨u, [], rfl, hz, rfl⟩
  | y :: r, cs, h, hz => by
    simp only [PlacesAt] at h
    obtain ⟨u', cs', rfl, h1, h⟩ := h
    exact ⟨u', _, rfl, h1, PlacesAt.snoc h hz⟩

/-- The i-th place. -/
theorem PlacesAt.get {w : World} {ok : Nat → Prop} {d : Nat} : ∀ {l : List Nd} {cs : List Value} {pre : List Nd} {z : Nd} {post : List Nd}, PlacesAt w ok d l cs → l = pre ++ z :: post →
    ∃ u, RepI w ok z u ∧ cs[pre.length * 3]? = some u ∧ cs[pre.length * 3 + 1]? = some (str z.scope) ∧ cs[pre.length * 3 + 2]? = some (i64 d)
  | [], _, pre, z, post, _, e => by simp at e
  | y :: r, cs, [], z, post, h, e => by
    simp only [PlacesAt] at h
    obtain ⟨u', cs', rfl, h1, h⟩ := h
    simp only [List.nil_append, List.cons.injEq] at e
    obtain ⟨rfl, rfl⟩ := e
    exact ⟨u', h1, rfl, rfl, rfl⟩
  | y :: r, cs, p :: pre, z, post, h, e => by
    simp only [PlacesAt] at h
    obtain ⟨u', cs', rfl, h1, h⟩ := h
    simp only [List.cons_append, List.cons.injEq] at e
    obtain ⟨u, g1, g2, g3, g4⟩ := PlacesAt.get h e.2
    refine ⟨u, g1, ?_, ?_, ?_⟩
    · rw [List.length_cons, Nat.succ_mul]; simpa using g2
    · rw [List.length_cons, Nat.succ_mul]; simpa using g3
    · rw [List.length_cons, Nat.succ_mul]; simpa using g4

/-- A step stands behind an interface. -/
theorem rep_iface : (∀ (x : Nd) (w : World) (ok : Nat → Prop) (v : Value), RepI w ok x v → ∃ t g, v = .iface t (ptr g))
  | .mk c k e vs _ .nil, w, ok, v, h => by
    simp only [RepI] at h
    obtain ⟨g, _, h1⟩ := h
    rcases h1 with ⟨_, t, _, rfl, _⟩ | ⟨_, t, u, _, rfl, _⟩ | ⟨_, _, rfl, _⟩ <;> exact ⟨_, _, rfl⟩
  | .mk c k e vs _ (.cons x .nil), w, ok, v, h => by
    simp only [RepI] at h
    obtain ⟨vx, n, xs, ⟨g, _, h1⟩, _⟩ := h
    rcases h1 with ⟨_, _, rfl, _⟩ | ⟨_, rfl, _⟩ <;> exact ⟨_, _, rfl⟩
  | .mk c k e vs _ (.cons x (.cons y .nil)), w, ok, v, h => by
    simp only [RepI] at h
    obtain ⟨vx, vy, n, xs, m, ys, ⟨g, _, _, _, rfl, _⟩, _⟩ := h
    exact ⟨_, _, rfl⟩
  | .mk _ _ _ _ _ (.cons _ (.cons _ (.cons _ _))), _, _, _, h => by simp only [RepI] at h

theorem rep_oneCell {w : World} {ok : Nat → Prop} {x : Nd} {v : Value} (h : RepI w ok x v) : v.oneCell' = true := by
  obtain ⟨t, g, rfl⟩ := rep_iface x w ok v h
  rfl

theorem KidsI.one {w : World} {ok : Nat → Prop} : ∀ {l : List Nd} {us : List Value}, KidsI w ok l us → ∀ u ∈ us, u.oneCell' = true
  | [], us, h, u, hu => by simp only [KidsI] at h; subst h; cases hu
  | z :: r, us, h, u, hu => by
    simp only [KidsI] at h
    obtain ⟨u', us', rfl, h1, h⟩ := h
    rcases List.mem_cons.1 hu with rfl | hu
    · exact rep_oneCell h1
    · exact KidsI.one h u hu

theorem row_shape {w : World} {ok : Nat → Prop} {e : TypeId} {size : Nat} {v : Value} {n : Nat} {xs : List Value} (h : Row w ok e size v n xs) : ∃ a c, v = .slice a n c := by
  rcases h.1.2 with ⟨rfl, rfl⟩ | ⟨g, cap, cur, rfl, _⟩
  · exact ⟨_, _, rfl⟩
  · exact ⟨_, _, rfl⟩

/-- A row with an element is written out, and its cells read so. -/
theorem row_get {w : World} {ok : Nat → Prop} {e : TypeId} {size : Nat} {v : Value} {n : Nat} {xs : List Value} (h : Row w ok e size v n xs) (hn : 0 < n) :
    ∃ g c, v = .slice (some ⟨g, 0, none⟩) n c ∧ ok g ∧ g < w.heap.size ∧ ∀ j u, xs[j]? = some u → w.cell? ⟨g, j, none⟩ = some u := by
  obtain ⟨h1, h2⟩ := h
  have hc : ∀ g, v.ownBlock = some g → ∀ j u, xs[j]? = some u → w.cell? ((⟨g, 0, none⟩ : Addr).add j) = some u := fun g hg => h1.cells hg
  rcases h1.2 with ⟨rfl, rfl⟩ | ⟨g, cap, cur, rfl, _⟩
  · omega
  · refine ⟨g, cap, rfl, h2 g rfl, (h1.lt g rfl).2, fun j u hj => ?_⟩
    have := hc g rfl j u hj
    have hadd : (⟨g, 0, none⟩ : Addr).add j = ⟨g, j, none⟩ := by unfold Addr.add; split <;> simp_all
    rw [hadd] at this
    exact this

end Go.Proofs.Ytlilkmemgomnjaa

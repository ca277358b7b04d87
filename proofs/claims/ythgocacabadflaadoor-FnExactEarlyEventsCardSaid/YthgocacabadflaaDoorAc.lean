/-
  The program's early events: the plain account of what is left to be destroyed; the walk.
-/
import Derived.Test.YthgocacabadflaaDoorSf
import Derived.Test.YthgocacabadflaaDoorSg
import Derived.Test.YthgocacabadflaaDoorSj
import Derived.Test.YthgocacabadflaaDoorRp
import Derived.Test.YthgocacabadflaaDoorQh
namespace Go.Proofs.YthgocacabadflaaDoor
set_option linter.unusedVariables false
set_option linter.unusedSimpArgs false
open Go.RowKit

/-! ### the plain account -/
/-- Lives that are over, by their last uses. -/
structure Srt (l : List Ev) (S : List Lf) : Prop where
  perm : S.Perm ((livesL l).filter overL)
  asc : S.Pairwise (fun f g => f.u < g.u)
theorem Srt.of {l : List Ev} (hg : Good l) {S : List Lf} (hp : S.Perm ((livesL l).filter overL)) (hs : S.Pairwise (fun f g => f.u ≤ g.u)) : Srt l S := by
  have h1 : (livesL l).Pairwise (fun f g => f.u ≠ g.u) := by
    rw [List.pairwise_iff_getElem]
    intro i j hi hj hij h
    have := used_one hg (List.getElem?_eq_getElem hi) (List.getElem?_eq_getElem hj) h
    omega
  have h2 : S.Pairwise (fun f g => f.u ≠ g.u) := (hp.pairwise_iff (fun {a b} h => Ne.symm h)).2 (h1.filter _)
  refine ⟨hp, ?_⟩
  rw [List.pairwise_iff_getElem] at *
  intro i j hi hj hij
  have a := hs i j hi hj hij
  have b := h2 i j hi hj hij
  omega
/-- The first k of them are used last ahead of event i, the others not. -/
def Took (S : List Lf) (k i : Nat) : Prop := k ≤ S.length ∧ (∀ f ∈ S.take k, f.u < (i : Int)) ∧ ∀ f ∈ S.drop k, (i : Int) ≤ f.u
theorem Took.yes {l : List Ev} {S : List Lf} (h : Srt l S) {k i : Nat} (t : Took S k i) {f : Lf} (hf : S[k]? = some f) (hu : f.u = (i : Int)) : Took S (k + 1) (i + 1) := by
  obtain ⟨h1, h2, h3⟩ := t
  have hk := (List.getElem?_eq_some_iff.1 hf).1
  have hd : S.drop k = f :: S.drop (k + 1) := by
    rw [List.drop_eq_getElem_cons hk]
    congr 1
    exact (List.getElem?_eq_some_iff.1 hf).2
  refine ⟨hk, fun x hx => ?_, fun x hx => ?_⟩
  · rw [List.take_add_one, hf] at hx
    rcases List.mem_append.1 hx with hx | hx
    · have := h2 x hx; omega
    · have : x = f := by simpa using hx
      rw [this]; omega
  · have ha := h.asc.drop (i := k)
    rw [hd, List.pairwise_cons] at ha
    have := ha.1 x hx; omega
theorem Took.no {l : List Ev} {S : List Lf} (h : Srt l S) {k i : Nat} (t : Took S k i) (hn : ∀ f, S[k]? = some f → f.u ≠ (i : Int)) : Took S k (i + 1) ∧ ∀ f ∈ (livesL l).filter overL, f.u ≠ (i : Int) := by
  obtain ⟨h1, h2, h3⟩ := t
  have hdr : ∀ x ∈ S.drop k, (i : Int) + 1 ≤ x.u := fun x hx => by
    by_cases hk : k < S.length
    · have hd : S.drop k = S[k] :: S.drop (k + 1) := List.drop_eq_getElem_cons hk
      have hg := h3 S[k] (by rw [hd]; exact List.mem_cons.2 (.inl rfl))
      have hne := hn S[k] (List.getElem?_eq_getElem hk)
      have ha := h.asc.drop (i := k)
      rw [hd, List.pairwise_cons] at ha
      rw [hd] at hx
      rcases List.mem_cons.1 hx with hx | hx
      · rw [hx]; omega
      · have := ha.1 x hx; omega
    · rw [List.drop_of_length_le (by omega)] at hx; cases hx
  refine ⟨⟨h1, fun x hx => by have := h2 x hx; omega, fun x hx => by have := hdr x hx; omega⟩, fun f hf e => ?_⟩
  have hf := h.perm.mem_iff.2 hf
  rw [← List.take_append_drop k S] at hf
  rcases List.mem_append.1 hf with hf | hf
  · have := h2 f hf; omega
  · have := hdr f hf; omega
theorem early_no {l : List Ev} {i : Nat} {e : Ev} (hm : l[i]? = some e) (h : ∀ f ∈ (livesL l).filter overL, f.u ≠ (i : Int)) : earlyAt l i = if e.k = 45 then [] else [e] := by
  unfold earlyAt
  rw [hm]
  dsimp only
  split
  · rfl
  · congr 1
    cases hf : (livesL l)[e.n - 1]? with
    | none => rfl
    | some f =>
      dsimp only
      rw [if_neg]
      rintro ⟨a, b⟩
      exact h f (List.mem_filter.2 ⟨List.mem_of_getElem? hf, by unfold overL; exact decide_eq_true b⟩) a
theorem early_yes {l : List Ev} (hg : Good l) {i : Nat} {e : Ev} (hm : l[i]? = some e) {f : Lf} (hf : f ∈ (livesL l).filter overL) (hu : f.u = (i : Int)) :
    e.k ≠ 45 ∧ earlyAt l i = [e, ⟨45, e.n⟩] ∧ ∃ j, (livesL l)[j]? = some f ∧ e.n = j + 1 := by
  obtain ⟨hf1, hf2⟩ := List.mem_filter.1 hf
  have hd : 0 ≤ f.d := by unfold overL at hf2; exact of_decide_eq_true hf2
  obtain ⟨j, hj⟩ := List.getElem?_of_mem hf1
  obtain ⟨e2, a1, a2, a3⟩ := used_at hg j f hj
  have ei : f.u.toNat = i := by omega
  rw [ei, hm] at a1
  have ee := Option.some.inj a1
  subst ee
  refine ⟨a2, ?_, j, hj, a3⟩
  unfold earlyAt
  rw [hm]
  dsimp only
  rw [if_neg a2, a3, Nat.add_sub_cancel, hj]
  dsimp only
  rw [if_pos ⟨hu, hd⟩]

/-! ### the walk -/
def EvPost (w : World) (L : List Ev) (e : Ending) (w' : World) : Prop :=
  ∃ v, e = .returned v ∧ VRow w' v L ∧ (∀ g, v.ownBlock = some g → w.heap.size ≤ g) ∧ Keeps noB w w'

/-- The lives that are still to come: in block g, behind the first k. -/
def OvAt (g : Nat) (S : List Lf) (k : Nat) (vo : Value) : Prop := ∃ p c, vo = .slice p (S.length - k) c ∧ (k < S.length → p = some ⟨g, 3 * k, none⟩ ∧ S.length - k ≤ c)

theorem evC_app' {L : List Ev} {EL : List Value} {k : UInt8} {m n : Nat} {x y : Value} (hn : n = L.length) (hE : EL = evC L) (hx : x = .int .u8 (k.toNat : Int)) (hy : y = .int .i64 (m : Int)) : EL ++ [x, y] = evC (L ++ [(⟨k, m⟩ : Ev)]) ∧ n + 1 = (L ++ [(⟨k, m⟩ : Ev)]).length := by
  subst hx; subst hy; subst hE; subst hn
  exact ⟨by rw [evC_snoc], by simp⟩
theorem VRow.step {w2 : World} {n : Nat} {L : List Ev} {ao : Option Addr} {co : Nat} {EL : List Value} {v' : Value} {wr W w3 : World} {k : UInt8} {m : Nat} {x y : Value}
    (hfr : ∀ g, (Value.slice ao n co).ownBlock = some g → w2.heap.size ≤ g) (hq2 : Keeps noB w2 wr) (q : Keeps noB wr W) (hn : n = L.length) (hE : EL = evC L)
    (hx : x = .int .u8 (k.toNat : Int)) (hy : y = .int .i64 (m : Int)) (hown : w3.ownsRow 0 63 2 v' (n + 1) (EL ++ [x, y])) (hg : W.grownBy w3 (Value.slice ao n co).ownBlock) (hf : Fresh W (.slice ao n co) v') :
    VRow w3 v' (L ++ [⟨k, m⟩]) ∧ (∀ g, v'.ownBlock = some g → w2.heap.size ≤ g) ∧ Keeps noB w2 w3 := by
  have qa : Keeps (fun g => (Value.slice ao n co).ownBlock = some g) wr w3 := (q.mono (fun _ e => e.elim)).grown hg (fun g hg => .inl hg)
  obtain ⟨e1, e2⟩ := evC_app' (k := k) (m := m) hn hE hx hy
  have hs := hq2.size
  have hsw := q.size
  refine ⟨by unfold VRow; rw [← e1, ← e2]; exact hown, fun g hg => ?_, hq2.transNew qa (fun i hi e => by have := hfr i e; omega)⟩
  rcases hf with h | h
  · exact hfr g (h ▸ hg)
  · have := h g hg; omega

theorem VRow.keeps2 {w w' : World} {v : Value} {L : List Ev} (h : VRow w v L) (q : Keeps noB w w') : VRow w' v L := q.ownsRow h (fun _ _ _ e => e)

/-- What the loop of early holds. -/
def EaAt (w2 : World) (g : Nat) (l : List Ev) (S : List Lf) (vo vl vi : Value) (wr : World) : Prop :=
  ∃ i k : Nat, i ≤ l.length ∧ vi = .int .i64 (i : Int) ∧ Took S k i ∧ OvAt g S k vo ∧ VRow wr vl (earlyU l i) ∧ (∀ g', vl.ownBlock = some g' → w2.heap.size ≤ g') ∧ Keeps noB w2 wr

end Go.Proofs.YthgocacabadflaaDoor

/-
  The model's holder of what is known: how it lies in memory; what a store into one of its states leaves.
-/
import Derived.Test.YtlilkmemgomnjaaPn
import Derived.Test.YtlilkmemgomnjaaTz
import Derived.Test.YtlilkmemgomnjaaScW
import Derived.Test.YtlilkmemgomnjaaSgW
import Derived.Test.YtlilkmemgomnjaaIt
import Derived.Laws.StructEq
namespace Go.Proofs.Ytlilkmemgomnjaa
set_option linter.unusedVariables false
set_option linter.unusedSimpArgs false
open Go.RowKit

theorem Try.zeroS76 : (Try.prog.info? 76).map (fun i => (i.zero, i.size, i.bytes)) = some (some (.agg #[.string ⟨#[]⟩, .string ⟨#[]⟩, .bool false]), 3, 40) := by kernel_rfl

/-- What is known, as the model's three cells and as its value. -/
def stCells (k : Kn) : List Value := [str (mayL k), str (mustL k), .bool (liveK k)]
def stV (k : Kn) : Value := .agg #[str (mayL k), str (mustL k), .bool (liveK k)]
def atsC (l : AL) : List Value := l.map (fun p => i64 p.1)
def stsC (l : AL) : List Value := l.flatMap (fun p => stCells p.2)

theorem stV_no : stV Kn.no = .agg #[.string ⟨#[]⟩, .string ⟨#[]⟩, .bool false] := by
  unfold stV; rw [mayL_no, mustL_no, liveK_no]; rfl

theorem atsC_len (l : AL) : (atsC l).length = l.length * 1 := by simp [atsC]
theorem stsC_len (l : AL) : (stsC l).length = l.length * 3 := by
  induction l with
  | nil => rfl
  | cons p r ih => simp only [stsC, stCells, List.flatMap_cons, List.length_append, List.length_cons, List.length_nil] at *; omega
theorem atsC_snoc (l : AL) (i : Nat) (k : Kn) : atsC (l ++ [(i, k)]) = atsC l ++ [i64 i] := by simp [atsC]
theorem stsC_snoc (l : AL) (i : Nat) (k : Kn) : stsC (l ++ [(i, k)]) = stsC l ++ stCells k := by simp [stsC]
theorem atsC_get (pre : AL) (i : Nat) (k : Kn) (r : AL) : (atsC (pre ++ (i, k) :: r))[pre.length]? = some (i64 i) := by
  simp [atsC]
theorem stsC_at (pre : AL) (i : Nat) (k : Kn) (r : AL) : stsC (pre ++ (i, k) :: r) = stsC pre ++ (str (mayL k) :: str (mustL k) :: .bool (liveK k) :: stsC r) := by
  simp [stsC, stCells]
theorem stsC_get (pre : AL) (i : Nat) (k : Kn) (r : AL) : (stsC (pre ++ (i, k) :: r))[pre.length * 3]? = some (str (mayL k)) ∧ (stsC (pre ++ (i, k) :: r))[pre.length * 3 + 1]? = some (str (mustL k)) ∧ (stsC (pre ++ (i, k) :: r))[pre.length * 3 + 2]? = some (.bool (liveK k)) := by
  rw [stsC_at, ← stsC_len pre]
  refine ⟨?_, ?_, ?_⟩
  · simp
  · rw [List.getElem?_append_right (by omega)]; simp
  · rw [List.getElem?_append_right (by omega)]; simp
theorem stsC_set (pre : AL) (i : Nat) (k t : Kn) (r : AL) : (((stsC (pre ++ (i, k) :: r)).set (pre.length * 3) (str (mayL t))).set (pre.length * 3 + 1) (str (mustL t))).set (pre.length * 3 + 2) (.bool (liveK t)) = stsC (pre ++ (i, t) :: r) := by
  rw [stsC_at, stsC_at, ← stsC_len pre]
  rw [List.set_append_right _ _ (by omega), List.set_append_right _ _ (by omega), List.set_append_right _ _ (by omega)]
  simp
theorem atsC_set (pre : AL) (i : Nat) (k t : Kn) (r : AL) : atsC (pre ++ (i, k) :: r) = atsC (pre ++ (i, t) :: r) := by simp [atsC]

/-- A cell of a row of one's own is stored into. -/
theorem ownsRow_put {w : World} {e : TypeId} {size n c g : Nat} {xs : List Value} (h : w.ownsRow 0 e size (.slice (some ⟨g, 0, none⟩) n c) n xs) (j : Nat) (hj : j < n * size) (u : Value) :
    (w.setCell ⟨g, j, none⟩ u).ownsRow 0 e size (.slice (some ⟨g, 0, none⟩) n c) n (xs.set j u) := by
  obtain ⟨h1, h2⟩ := h
  refine ⟨by simpa using h1, ?_⟩
  rcases h2 with ⟨h2, _⟩ | ⟨g', cap, cur, hv, hb, hh, hc, hm, hs, ht⟩
  · cases h2
  · obtain ⟨rfl, rfl⟩ : g = g' ∧ c = cap := by simpa using hv
    refine .inr ⟨g, c, cur.setIfInBounds j u, rfl, hb, ?_, hc, hm, by simpa using hs, ?_⟩
    · have hlt : g < w.heap.size := lt_of_block hh
      have h' : w.heap[g] = .cells cur e (0, 0) := by simpa [Array.getElem?_eq_getElem hlt] using hh
      show (w.heap.modify g _)[g]? = _
      rw [Array.getElem?_eq_getElem (by simpa using hlt), Array.getElem_modify_self, h']
      rfl
    · rw [Array.toList_setIfInBounds, List.take_set, ht]

/-- The model's holder in memory; 'own': the blocks that are its own. -/
structure HoldAt (w : World) (own : Nat → Prop) (h : Nat) (l : AL) (va vs : Value) : Prop where
  blk : Blk w h #[va, vs] 135
  ats : w.ownsRow 0 3 1 va l.length (atsC l)
  sts : w.ownsRow 0 76 3 vs l.length (stsC l)
  mine : own h
  ownA : ∀ g, va.ownBlock = some g → own g ∧ g ≠ h ∧ vs.ownBlock ≠ some g
  ownS : ∀ g, vs.ownBlock = some g → own g ∧ g ≠ h
  ok : AOk l

theorem HoldAt.shape {w : World} {own : Nat → Prop} {h : Nat} {l : AL} {va vs : Value} (H : HoldAt w own h l va vs) : (∃ a c, va = .slice a l.length c) ∧ ∃ a c, vs = .slice a l.length c :=
  ⟨row_shape (ok := fun _ => True) ⟨H.ats, fun _ _ => trivial⟩, row_shape (ok := fun _ => True) ⟨H.sts, fun _ _ => trivial⟩⟩

theorem HoldAt.keeps {w W : World} {own : Nat → Prop} {h : Nat} {l : AL} {va vs : Value} {may : Nat → Prop} (H : HoldAt w own h l va vs) (q : Keeps may w W) (hm : ∀ g, own g → ¬ may g) : HoldAt W own h l va vs :=
  ⟨q.blk H.blk (hm h H.mine), q.ownsRow H.ats (fun g hg _ => hm g (H.ownA g hg).1), q.ownsRow H.sts (fun g hg _ => hm g (H.ownS g hg).1), H.mine, H.ownA, H.ownS, H.ok⟩
theorem HoldAt.quiet {w W : World} {own : Nat → Prop} {h : Nat} {l : AL} {va vs : Value} (H : HoldAt w own h l va vs) (q : Keeps noB w W) : HoldAt W own h l va vs := H.keeps q (fun _ _ => id)

/-- How a call ends that leaves the holder with these notes. -/
def Notes1 (w : World) (own : Nat → Prop) (h : Nat) (M : Notes) (v : Value) (e : Ending) (w' : World) : Prop :=
  ∃ own' l va vs, e = .returned v ∧ Owns own own' w w' ∧ HoldAt w' own' h l va vs ∧ lookL l = M

theorem Notes1.after {w w1 : World} {own own1 : Nat → Prop} {h : Nat} {M : Notes} {v : Value} {e : Ending} {w' : World} (ho : Owns own own1 w w1) (H : Notes1 w1 own1 h M v e w') : Notes1 w own h M v e w' := by
  obtain ⟨own', l, va, vs, he, hO, hR, hM⟩ := H
  exact ⟨own', l, va, vs, he, ho.trans hO, hR, hM⟩

/-- A state is noted at a place that is noted. -/
theorem hold_set {w : World} {own : Nat → Prop} {h g c i : Nat} {pre r : AL} {t s : Kn} {va : Value} (H : HoldAt w own h (pre ++ (i, t) :: r) va (.slice (some ⟨g, 0, none⟩) (pre ++ (i, t) :: r).length c)) (hlt : ∀ k, own k → k < w.heap.size) (hs : s.Wf) (hi : i ∉ keysL pre) :
    Owns own own w (((w.setCell ⟨g, pre.length * 3, none⟩ (str (mayL (t.join s)))).setCell ⟨g, pre.length * 3 + 1, none⟩ (str (mustL (t.join s)))).setCell ⟨g, pre.length * 3 + 2, none⟩ (.bool (liveK (t.join s)))) ∧
    HoldAt (((w.setCell ⟨g, pre.length * 3, none⟩ (str (mayL (t.join s)))).setCell ⟨g, pre.length * 3 + 1, none⟩ (str (mustL (t.join s)))).setCell ⟨g, pre.length * 3 + 2, none⟩ (.bool (liveK (t.join s)))) own h
      (putL (pre ++ (i, t) :: r) i s) va (.slice (some ⟨g, 0, none⟩) (putL (pre ++ (i, t) :: r) i s).length c) := by
  have hg := H.ownS g rfl
  have hA : ∀ g', va.ownBlock = some g' → g' ≠ g := fun g' e e2 => (H.ownA g' e).2.2 (by rw [e2]; rfl)
  have hn : (pre ++ (i, t) :: r).length = pre.length + (r.length + 1) := by simp
  have q : Keeps (oneB g) w (((w.setCell ⟨g, pre.length * 3, none⟩ (str (mayL (t.join s)))).setCell ⟨g, pre.length * 3 + 1, none⟩ (str (mustL (t.join s)))).setCell ⟨g, pre.length * 3 + 2, none⟩ (.bool (liveK (t.join s)))) :=
    (((Keeps.refl _ _).setCell (.inl (show oneB g g from rfl)) _).setCell (.inl (show oneB g g from rfl)) _).setCell (.inl (show oneB g g from rfl)) _
  have hok : AOk (putL (pre ++ (i, t) :: r) i s) := H.ok.put (H.ok.lt (i, t) (by simp)).1 hs
  have hlen : (putL (pre ++ (i, t) :: r) i s).length = (pre ++ (i, t) :: r).length := by rw [putL_at pre t s r hi]; simp
  refine ⟨⟨fun k hk => .inl hk, fun k hk => Nat.lt_of_lt_of_le (hlt k hk) q.size, q.mono (fun k e => by cases e; exact hg.1)⟩, ?_⟩
  rw [hlen]
  refine ⟨q.blk H.blk (fun e => hg.2 e.symm), ?_, ?_, H.mine, H.ownA, H.ownS, hok⟩
  · have := q.ownsRow H.ats (fun g' e _ e2 => hA g' e e2)
    rw [hlen, putL_at pre t s r hi, ← atsC_set pre i t (t.join s) r]
    exact this
  · have h1 := ownsRow_put H.sts (pre.length * 3) (by omega) (str (mayL (t.join s)))
    have h2 := ownsRow_put h1 (pre.length * 3 + 1) (by omega) (str (mustL (t.join s)))
    have h3 := ownsRow_put h2 (pre.length * 3 + 2) (by omega) (.bool (liveK (t.join s)))
    rw [stsC_set] at h3
    rw [hlen, putL_at pre t s r hi]
    exact h3

end Go.Proofs.Ytlilkmemgomnjaa

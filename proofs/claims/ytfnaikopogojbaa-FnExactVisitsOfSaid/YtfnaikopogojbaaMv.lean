/-
  Walks of the law's own helpers on lists of visits: eqVisitS, markVisitS, heldVisitS.
-/
import Derived.Test.YtfnaikopogojbaaMt
import Derived.Test.YtfnaikopogojbaaKu
import Derived.Test.YtfnaikopogojbaaIv
namespace Go.Proofs.Ytfnaikopogojbaa
set_option linter.unusedVariables false
set_option linter.unusedSimpArgs false
open Go.RowKit

/-- Cells of a row of visits. -/
def vC (l : List (Int × ByteArray)) : List Value := l.flatMap (fun p => [.int .i64 p.1, .string p.2])
def VRow (w : World) (v : Value) (n : Nat) (l : List (Int × ByteArray)) : Prop := w.ownsRow 0 47 2 v n (vC l)

theorem vC_len (l : List (Int × ByteArray)) : (vC l).length = l.length * 2 := by
  induction l with
  | nil => rfl
  | cons p r ih => simp only [vC, List.flatMap_cons, List.length_append, List.length_cons, List.length_nil] at *; omega

theorem VRow.len {w : World} {v : Value} {n : Nat} {l : List (Int × ByteArray)} (h : VRow w v n l) : l.length = n := by
  have := h.1
  rw [vC_len] at this
  omega

theorem VRow.keeps {may : Nat → Prop} {w w' : World} {v : Value} {n : Nat} {l : List (Int × ByteArray)} (h : VRow w v n l) (q : Keeps may w w') (hm : ∀ g, v.ownBlock = some g → ¬ may g) : VRow w' v n l :=
  q.ownsRow h (fun g hg _ => hm g hg)

theorem vC_get {l : List (Int × ByteArray)} : ∀ {i : Nat} {p : Int × ByteArray}, l[i]? = some p → (vC l)[i * 2]? = some (.int .i64 p.1) ∧ (vC l)[i * 2 + 1]? = some (.string p.2) := by
  induction l with
  | nil => intro i p h; simp at h
  | cons q r ih =>
    intro i p h
    have e0 : vC (q :: r) = .int .i64 q.1 :: .string q.2 :: vC r := rfl
    rw [e0]
    cases i with
    | zero => simp at h; subst h; exact ⟨rfl, rfl⟩
    | succ i =>
      have := ih (i := i) (p := p) (by simpa using h)
      rw [show (i + 1) * 2 = i * 2 + 1 + 1 by omega]
      exact ⟨by simpa using this.1, by simpa using this.2⟩

theorem vC_set {l : List (Int × ByteArray)} : ∀ {i : Nat} {p : Int × ByteArray} (k : Int) (t : ByteArray), l[i]? = some p → vC (l.set i (k, p.2)) = (vC l).set (i * 2) (.int .i64 k) ∧ vC (l.set i (p.1, t)) = (vC l).set (i * 2 + 1) (.string t) := by
  induction l with
  | nil => intro i p k t h; simp at h
  | cons q r ih =>
    intro i p k t h
    have e0 : vC (q :: r) = .int .i64 q.1 :: .string q.2 :: vC r := rfl
    rw [e0]
    cases i with
    | zero => simp at h; subst h; exact ⟨rfl, rfl⟩
    | succ i =>
      have := ih (i := i) (p := p) k t (by simpa using h)
      rw [show (i + 1) * 2 = i * 2 + 1 + 1 by omega]
      simp only [List.set_cons_succ]
      refine ⟨?_, ?_⟩
      · show .int .i64 q.1 :: .string q.2 :: vC (r.set i (k, p.2)) = _
        rw [this.1]
      · show .int .i64 q.1 :: .string q.2 :: vC (r.set i (p.1, t)) = _
        rw [this.2]

theorem VRow.get {w : World} {v : Value} {n : Nat} {l : List (Int × ByteArray)} (h : VRow w v n l) (hn : 0 < n) :
    ∃ g c, v = .slice (some ⟨g, 0, none⟩) n c ∧ n ≤ c ∧ g < w.heap.size ∧ ∀ i p, l[i]? = some p → w.cell? ⟨g, i * 2, none⟩ = some (.int .i64 p.1) ∧ w.cell? ⟨g, i * 2 + 1, none⟩ = some (.string p.2) ∧ w.frozen? ⟨g, i * 2, none⟩ = false ∧ w.frozen? ⟨g, i * 2 + 1, none⟩ = false := by
  obtain ⟨g, c, rfl, _, hg, hc⟩ := row_get (ok := fun _ => True) ⟨h, fun _ _ => trivial⟩ hn
  rcases h.2 with ⟨e, _⟩ | ⟨g', c', cur, e, _, hh, hnc, _⟩
  · cases e
  · simp only [Value.slice.injEq, Option.some.injEq, Addr.mk.injEq, and_true, true_and] at e
    obtain ⟨rfl, rfl⟩ := e
    exact ⟨g, c, rfl, hnc, hg, fun i p hp => ⟨hc _ _ (vC_get hp).1, hc _ _ (vC_get hp).2, (show Blk w g cur 47 from hh).free _, (show Blk w g cur 47 from hh).free _⟩⟩

theorem VRow.set {w : World} {g n c : Nat} {l : List (Int × ByteArray)} (h : VRow w (.slice (some ⟨g, 0, none⟩) n c) n l) {i : Nat} {p : Int × ByteArray} (hp : l[i]? = some p) (k : Int) (t : ByteArray) :
    VRow (w.setCell ⟨g, i * 2, none⟩ (.int .i64 k)) (.slice (some ⟨g, 0, none⟩) n c) n (l.set i (k, p.2)) ∧ VRow (w.setCell ⟨g, i * 2 + 1, none⟩ (.string t)) (.slice (some ⟨g, 0, none⟩) n c) n (l.set i (p.1, t)) := by
  obtain ⟨h1, h2⟩ := h
  obtain ⟨e1, e2⟩ := vC_set k t hp
  rcases h2 with ⟨e, _⟩ | ⟨g', c', cur, e, hb, hh, hnc, hcm, hcs, htk⟩
  · cases e
  · simp only [Value.slice.injEq, Option.some.injEq, Addr.mk.injEq, and_true, true_and] at e
    obtain ⟨rfl, rfl⟩ := e
    constructor
    · refine ⟨by rw [e1, List.length_set]; exact h1, .inr ⟨g, c, cur.setIfInBounds (i * 2) (.int .i64 k), rfl, hb, (show Blk w g cur 47 from hh).set (i * 2) _, hnc, hcm, by simpa using hcs, ?_⟩⟩
      rw [Array.toList_setIfInBounds, List.take_set, htk, e1]
    · refine ⟨by rw [e2, List.length_set]; exact h1, .inr ⟨g, c, cur.setIfInBounds (i * 2 + 1) (.string t), rfl, hb, (show Blk w g cur 47 from hh).set (i * 2 + 1) _, hnc, hcm, by simpa using hcs, ?_⟩⟩
      rw [Array.toList_setIfInBounds, List.take_set, htk, e2]

set_option maxHeartbeats 1000000 in
theorem eqVisit_same (k : Int) (t : ByteArray) (w : World) : Calls Try.prog 82 #[.agg #[.int .i64 k, .string t], .agg #[.int .i64 k, .string t]] w (fun e w' => e = .returned (.bool true) ∧ Keeps noB w w') := by
  have h1 : (k != k) = false := by simp
  have h2 : (t.toList != t.toList) = false := by simp
  go_enter Try.func82, Try.ntmps82
  go_wp2_with fail
  go_ret
  exact ⟨rfl, ((Keeps.refl noB w).alloc _).alloc _⟩

set_option maxRecDepth 100000 in
set_option maxHeartbeats 2000000 in
theorem eqVisits_same (a1 a2 : Option Addr) (c1 c2 n : Nat) (l : List (Int × ByteArray)) (w : World) (h1 : VRow w (.slice a1 n c1) n l) (h2 : VRow w (.slice a2 n c2) n l) (hn : n ≤ 100000) :
    Calls Try.prog 49 #[.slice a1 n c1, .slice a2 n c2] w (fun e w' => e = .returned (.bool true) ∧ Keeps noB w w') := by
  have HR : Hid (∀ i, i < n → ∃ g1 g2 k t, a1 = some ⟨g1, 0, none⟩ ∧ a2 = some ⟨g2, 0, none⟩ ∧ n ≤ c1 ∧ n ≤ c2 ∧ ∀ wr, Keeps noB w wr → (wr.cell? ⟨g1, i * 2, none⟩ = some (.int .i64 k) ∧ wr.cell? ⟨g1, i * 2 + 1, none⟩ = some (.string t)) ∧ (wr.cell? ⟨g2, i * 2, none⟩ = some (.int .i64 k) ∧ wr.cell? ⟨g2, i * 2 + 1, none⟩ = some (.string t))) := by
    intro i hi
    obtain ⟨g1, d1, e1, hc1, hg1, hh1⟩ := h1.get (by omega)
    obtain ⟨g2, d2, e2, hc2, hg2, hh2⟩ := h2.get (by omega)
    simp only [Value.slice.injEq, true_and] at e1 e2
    obtain ⟨rfl, rfl⟩ := e1
    obtain ⟨rfl, rfl⟩ := e2
    have hil : i < l.length := by have := h1.len; omega
    have hp : l[i]? = some l[i] := List.getElem?_eq_getElem hil
    obtain ⟨p1, p2, _⟩ := hh1 i _ hp
    obtain ⟨p3, p4, _⟩ := hh2 i _ hp
    exact ⟨g1, g2, _, _, rfl, rfl, hc1, hc2, fun wr q => ⟨⟨(q.cell (p := ⟨g1, i * 2, none⟩) hg1 id).trans p1, (q.cell (p := ⟨g1, i * 2 + 1, none⟩) hg1 id).trans p2⟩, (q.cell (p := ⟨g2, i * 2, none⟩) hg2 id).trans p3, (q.cell (p := ⟨g2, i * 2 + 1, none⟩) hg2 id).trans p4⟩⟩
  clear h1 h2
  have hnn : ((n : Int) != (n : Int)) = false := by simp
  have HEQ := Lib.hid (fun k t w => eqVisit_same k t w)
  go_enter Try.func49, Try.ntmps49
  go_wp2_with fail
  go_loopw [5] (fun v5 wr => ∃ i : Nat, i ≤ n ∧ v5 = .int .i64 (i : Int) ∧ Keeps noB w wr) (fun v5 _ => n - (intOf v5).toNat)
  case atStart => exact ⟨0, Nat.zero_le _, rfl, Keeps.refl _ _⟩
  case round =>
    obtain ⟨i, hin, rfl, q⟩ := hrel
    by_cases hlt : i < n
    · obtain ⟨g1, g2, k, t, rfl, rfl, hc1, hc2, hcell⟩ := HR.out i hlt
      have ⟨⟨r1, r2⟩, r3, r4⟩ := hcell wr.drew q.drew
      have HQ := Lib.hid q
      clear hcell q
      have hi1 : (i : Int) < (n : Int) := by omega
      have hi0 : (0 : Int) ≤ (i : Int) := by omega
      go_wp2_with fail
      refine wp_region_still_tail 8 (by kernel_rfl) (by kernel_rfl) ?_
      simp only [List.take_succ_cons, List.take_zero, List.drop_succ_cons, List.drop_zero]
      change wpStill _ _ (World.drew _) (fun a' => wpList _ _ _ _ a' (World.drew _)) _ _
      have HQD : Hid (Keeps noB w wr.drew) := HQ.out.drew
      generalize wr.drew = w3 at *
      still_step
      still_step
      still_step
      still_step
      still_step
      still_step
      still_step
      still_step
      refine wpStill_nil ?_
      go_wp2_with (go_at_call 82; refine (HEQ.out k t _).mono ?_; rintro e w4 ⟨rfl, q4⟩; have HE := Lib.hid (HQD.out.trans q4); clear q4)
      go_roundw
      case rel => exact ⟨i + 1, by omega, by go_num, HE.out⟩
      case measure => simp [intOf]; omega
    · have HQ := Lib.hid q
      clear q
      go_wp2_with fail
      go_ret
      exact ⟨rfl, HQ.out⟩

end Go.Proofs.Ytfnaikopogojbaa

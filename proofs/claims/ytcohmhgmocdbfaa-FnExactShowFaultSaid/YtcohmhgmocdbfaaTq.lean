/-
  A queue of texts: a row that begins at an offset in its block; what l2Run says of what is asked.
-/
import Derived.Test.YtcohmhgmocdbfaaTlW
import Derived.Test.YtcohmhgmocdbfaaKv
import Derived.Deep.AppendSrc
namespace Go.Proofs.Ytcohmhgmocdbfaa
set_option linter.unusedVariables false
set_option linter.unusedSimpArgs false
open Go.RowKit

/-- A row of texts in block g, from wherever in it. -/
def QRow (w : World) (g : Nat) (v : Value) (l : List (List UInt8)) : Prop :=
  ∃ ao off cap cur, v = .slice ao l.length cap ∧ (0 < cap → ao = some ⟨g, off, none⟩) ∧ l.length ≤ cap ∧ Blk w g cur 9 ∧ cur.size = off + cap ∧ ∀ j c, l[j]? = some c → cur[off + j]? = some (str c)

theorem QRow.keeps {w w' : World} {g : Nat} {v : Value} {l : List (List UInt8)} {may : Nat → Prop} (h : QRow w g v l) (q : Keeps may w w') (hm : ¬ may g) : QRow w' g v l := by
  obtain ⟨ao, off, cap, cur, h1, h2, h3, h4, h5, h6⟩ := h
  exact ⟨ao, off, cap, cur, h1, h2, h3, q.blk h4 hm, h5, h6⟩

theorem QRow.lt {w : World} {g : Nat} {v : Value} {l : List (List UInt8)} (h : QRow w g v l) : g < w.heap.size := by
  obtain ⟨ao, off, cap, cur, h1, h2, h3, h4, h5, h6⟩ := h
  exact h4.lt

/-- The first one is taken out. -/
theorem QRow.take {w : World} {g : Nat} {v : Value} {c : List UInt8} {t : List (List UInt8)} (h : QRow w g v (c :: t)) :
    ∃ off cp, v = .slice (some ⟨g, off, none⟩) (t.length + 1) (cp + 1) ∧ t.length ≤ cp ∧ w.cell? ⟨g, off, none⟩ = some (.string ⟨c.toArray⟩) ∧
      (cp = 0 → QRow w g (.slice (some ⟨g, off, none⟩) t.length 0) t) ∧ (QRow w g (.slice (some ⟨g, off + 1, none⟩) t.length cp) t) := by
  obtain ⟨ao, off, cap, cur, h1, h2, h3, h4, h5, h6⟩ := h
  rw [List.length_cons] at h1 h3
  obtain ⟨cp, rfl⟩ : ∃ cp, cap = cp + 1 := ⟨cap - 1, by omega⟩
  have ha := h2 (by omega)
  subst ha
  have h0 := h6 0 c rfl
  have hrest : ∀ j c', t[j]? = some c' → cur[off + 1 + j]? = some (str c') := fun j c' hj => by
    have := h6 (j + 1) c' (by simpa using hj)
    rwa [show off + (j + 1) = off + 1 + j by omega] at this
  refine ⟨off, cp, h1, by omega, ?_, fun hc => ?_, ⟨_, off + 1, cp, cur, rfl, fun _ => rfl, by omega, h4, by omega, hrest⟩⟩
  · have := h4.cell off
    rw [this]
    exact h0
  · subst hc
    exact ⟨_, off + 1, 0, cur, rfl, fun h => by omega, by omega, h4, by omega, hrest⟩

set_option maxRecDepth 100000 in
set_option maxHeartbeats 1000000 in
/-- One is put in at the end. -/
theorem QRow.put {w : World} {g : Nat} {v : Value} {l : List (List UInt8)} (h : QRow w g v l) (c : List UInt8) (hl : l.length ≤ 100000) :
    ∃ v' w' g', (Builtin.append_ #[32, 32] 32 #[v, .slice (some ⟨w.heap.size, 0, none⟩) 1 1]).run Try.prog (w.alloc (.cells #[.string ⟨c.toArray⟩] 9)) = .ok v' w' ∧
      QRow w' g' v' (l ++ [c]) ∧ (g' = g ∨ w.heap.size ≤ g') ∧ Keeps (oneB g) w w' := by
  obtain ⟨i0, hi, hz0, hz1, hz2⟩ := info_parts Try.zeroK9
  obtain ⟨ao, off, cap, cur, rfl, h2, h3, h4, h5, h6⟩ := h
  have hgl := h4.lt
  have bA := h4.alloc (.cells #[.string ⟨c.toArray⟩] 9)
  have hsrc : Src Try.prog i0.size 32 (.slice (some ⟨w.heap.size, 0, none⟩) 1 1) 1 [.string ⟨c.toArray⟩] (w.alloc (.cells #[.string ⟨c.toArray⟩] 9)) :=
    Src.ofSlice _ Try.underlying32 _ 1 1 _ (by rw [hz1]; rfl) (cells_one w _ _) (fun u hu => by simp at hu; subst hu; rfl)
  by_cases hroom : l.length + 1 ≤ cap
  · have ha := h2 (by omega)
    subst ha
    have hr := run_append_room_src (P := Try.prog) (w := w.alloc (.cells #[.string ⟨c.toArray⟩] 9)) 32 32 32 9 i0 Try.underlying32 hi g off l.length cap _ 1 [.string ⟨c.toArray⟩] hsrc hroom
      (fun j hj => by
        have hj0 : j = 0 := by simpa using hj
        subst hj0
        rw [hz1, bA.cell]
        rw [Array.getElem?_eq_getElem (by omega)]
        rfl)
      (fun j hj => by exact bA.free _)
    refine ⟨_, _, g, hr, ⟨_, off, cap, cur.setIfInBounds (off + l.length) (.string ⟨c.toArray⟩), by rw [List.length_append]; rfl, fun _ => rfl, by rw [List.length_append]; exact hroom, ?_, by rw [Array.size_setIfInBounds]; exact h5, fun j b hj => ?_⟩, .inl rfl, ?_⟩
    · rw [hz1, Nat.mul_one]
      exact bA.set (off + l.length) _
    · by_cases hjl : j < l.length
      · rw [List.getElem?_append_left hjl] at hj
        rw [Array.getElem?_setIfInBounds_ne (by omega)]
        exact h6 j b hj
      · rw [List.getElem?_append_right (by omega)] at hj
        have hj0 : j = l.length := by
          have := (List.getElem?_eq_some_iff.1 hj).1
          simp at this
          omega
        subst hj0
        simp at hj
        subst hj
        rw [Array.getElem?_setIfInBounds_self_of_lt (by omega)]
        rfl
    · show Keeps (oneB g) w ((w.alloc (.cells #[.string ⟨c.toArray⟩] 9)).setCell ⟨g, off + l.length * i0.size, none⟩ (.string ⟨c.toArray⟩))
      exact ((Keeps.refl _ w).alloc _).setCell (.inl (show oneB g g from rfl)) _
  · have hlc : l.length = cap := by omega
    have hold : (Builtin.firstCells i0.size l.length (.slice ao l.length cap)).run Try.prog (w.alloc (.cells #[.string ⟨c.toArray⟩] 9)).drew = .ok (strsC l).toArray (w.alloc (.cells #[.string ⟨c.toArray⟩] 9)).drew := by
      by_cases h0 : 0 < cap
      · have ha := h2 h0
        subst ha
        refine run_firstCells_some _ _ _ _ _ _ (strsC l) (by rw [hz1, strsC_len, Nat.mul_one]) (fun j u hj => ?_)
        rw [Addr.add_lit]
        unfold strsC at hj
        rw [List.getElem?_map] at hj
        obtain ⟨b, hb, rfl⟩ := Option.map_eq_some_iff.1 hj
        have e := bA.cell (off + j)
        show (w.alloc _).cell? _ = _
        rw [e]
        exact h6 j b hb
      · have hl0 : l = [] := List.length_eq_zero_iff.1 (by omega)
        subst hl0
        cases ao with
        | none => exact run_firstCells_none _ _ _ _ _
        | some a => exact run_firstCells_some _ _ _ _ _ _ [] (by simp) (fun j u hj => by simp at hj)
    have hr := run_append_grow_src (P := Try.prog) (w := w.alloc (.cells #[.string ⟨c.toArray⟩] 9)) 32 32 32 9 i0 (.string ⟨#[]⟩) Try.underlying32 hi hz0 ao l.length cap (strsC l) hold _ 1 [.string ⟨c.toArray⟩] hsrc (by omega) (by omega)
      (growslice_fits (by omega) (by rw [hz2]; omega))
    have hge := grownCap_ge (w.alloc (.cells #[.string ⟨c.toArray⟩] 9)) (l.length + 1) cap 9
    have hzc : (Builtin.zeroCells (Value.string ⟨#[]⟩).cells (grownCap (w.alloc (.cells #[.string ⟨c.toArray⟩] 9)) (l.length + 1) cap 9 - (l.length + 1))).size = grownCap (w.alloc (.cells #[.string ⟨c.toArray⟩] 9)) (l.length + 1) cap 9 - (l.length + 1) := by
      rw [size_zeroCells]
      exact Nat.mul_one _
    have hss : (strsC l ++ [Value.string ⟨c.toArray⟩]) = strsC (l ++ [c]) := (strsC_snoc l c).symm
    refine ⟨_, _, _, hr, ⟨_, 0, grownCap (w.alloc (.cells #[.string ⟨c.toArray⟩] 9)) (l.length + 1) cap 9, _, by rw [List.length_append]; rfl, fun _ => rfl, by rw [List.length_append]; exact hge, Blk.new _ _ _, ?_, fun j b hj => ?_⟩, .inr (by simp), ?_⟩
    · rw [Array.size_append, hzc, List.size_toArray, hss, strsC_len, List.length_append]
      simp
      omega
    · have hjl : j < (l ++ [c]).length := (List.getElem?_eq_some_iff.1 hj).1
      rw [Nat.zero_add, hss, Array.getElem?_append_left (by rw [List.size_toArray, strsC_len]; exact hjl), List.getElem?_toArray]
      unfold strsC
      rw [List.getElem?_map, hj]
      rfl
    · exact (((Keeps.refl _ w).alloc _).drew).alloc _

/-! ### What a run asks for. -/
theorem ask_fine {x : Nd} {c : List UInt8} (h : x.Fine c) : askM (x.with c).why (x.with c).st.ch = ⟨(x.with c).asks.toArray⟩ := by
  unfold Nd.Fine at h
  cases ho : x.with c with
  | go t => rfl
  | stop y t =>
    rw [ho] at h
    cases y with
    | stuck br =>
      have : t.ch = [] := h (by simp [Out.asks])
      show askM (some (.stuck br)) t.ch = _
      unfold askM
      simp only [if_pos this]
      rfl
    | ret => rfl
    | fail => rfl
    | fault k => rfl

theorem runM_asks {s : ByteArray} {x : Nd} (hp : progP s = some x) (hs : s.size ≤ 1048576) {c : List UInt8} (hc : c.length ≤ 6) (hf : x.Fine c) (w : World) :
    Calls Try.prog 59 #[.string s, .string ⟨c.toArray⟩] w (fun e w' => ∃ b, e = .returned (.tuple #[.pointer (some ⟨b, 0, none⟩), .bool (x.with c).right]) ∧ w'.cell? ⟨b, 13, none⟩ = some (.string ⟨(x.with c).asks.toArray⟩) ∧ w.heap.size ≤ b ∧ b < w'.heap.size ∧ Keeps noB w w') := by
  have hz : (⟨c.toArray⟩ : ByteArray).size = c.length := by simp [ByteArray.size]
  have hr : runP s ⟨c.toArray⟩ = some (x.with c) := by
    unfold runP
    rw [hp]
    simp only
    rw [if_neg (by rw [hz]; omega)]
    rfl
  have h := runM_any s ⟨c.toArray⟩ hs (by rw [hz]; omega) w
  rw [hr] at h
  refine h.mono ?_
  rintro e w' ⟨b, own', vv, rfl, q, hfin, hown⟩
  refine ⟨b, rfl, ?_, (hown b hfin.mine).1, (hown b hfin.mine).2, q⟩
  have e := hfin.blk.cell 13
  rw [← ask_fine hf]
  exact e

end Go.Proofs.Ytcohmhgmocdbfaa

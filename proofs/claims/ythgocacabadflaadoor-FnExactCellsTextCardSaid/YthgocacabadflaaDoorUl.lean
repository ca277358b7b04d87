/-
  The program's stack of cells: take and leave.
-/
import Derived.Test.YthgocacabadflaaDoorUg
import Derived.Test.YthgocacabadflaaDoorQg
namespace Go.Proofs.YthgocacabadflaaDoor
set_option linter.unusedVariables false
set_option linter.unusedSimpArgs false
open Go.RowKit

/-- The stack in block S: which cells are taken, and its top t. -/
structure StackAt (W : World) (S : Nat) (T : List Nat) (t : Nat) (cs : Array Value) : Prop where
  blk : Blk W S cs 67
  tak : ∀ i, i < 600 → cs[i]? = some (.bool (decide (i ∈ T)))
  top : cs[600]? = some (.int .i64 (t : Int))
theorem StackAt.keeps {W W' : World} {S : Nat} {may : Nat → Prop} {T : List Nat} {t : Nat} {cs : Array Value} (h : StackAt W S T t cs) (q : Keeps may W W') (hm : ¬ may S) : StackAt W' S T t cs := ⟨q.blk h.blk hm, h.tak, h.top⟩
theorem StackAt.setTop {W : World} {S : Nat} {T : List Nat} {t : Nat} {cs : Array Value} (h : StackAt W S T t cs) (t' : Nat) : StackAt (W.setCell ⟨S, 600, none⟩ (.int .i64 (t' : Int))) S T t' (cs.setIfInBounds 600 (.int .i64 (t' : Int))) := by
  have hs : 600 < cs.size := (Array.getElem?_eq_some_iff.1 h.top).1
  refine ⟨h.blk.set 600 _, fun i hi => ?_, ?_⟩
  · rw [Array.getElem?_setIfInBounds_ne (by omega)]; exact h.tak i hi
  · rw [Array.getElem?_setIfInBounds_self_of_lt hs]
theorem StackAt.setTak {W : World} {S : Nat} {T T' : List Nat} {t c : Nat} {b : Bool} {cs : Array Value} (h : StackAt W S T t cs) (hc : c < 600) (h1 : ∀ i, i ≠ c → (i ∈ T' ↔ i ∈ T)) (h2 : decide (c ∈ T') = b) : StackAt (W.setCell ⟨S, c, none⟩ (.bool b)) S T' t (cs.setIfInBounds c (.bool b)) := by
  have hs : c < cs.size := (Array.getElem?_eq_some_iff.1 (h.tak c hc)).1
  refine ⟨h.blk.set c _, fun i hi => ?_, ?_⟩
  · by_cases e : i = c
    · subst e
      rw [Array.getElem?_setIfInBounds_self_of_lt hs, h2]
    · rw [Array.getElem?_setIfInBounds_ne (Ne.symm e), h.tak i hi]
      simp [h1 i e]
  · rw [Array.getElem?_setIfInBounds_ne (by omega)]; exact h.top

def StackK (S : Nat) (W : World) (own : Nat → Prop) (T : List Nat) : Prop := ∃ cs, StackAt W S T (cntN T) cs ∧ own S ∧ ∀ c ∈ T, c < 600
theorem StackK.keeps {S : Nat} {W W' : World} {own may : Nat → Prop} {T : List Nat} (h : StackK S W own T) (q : Keeps may W W') (hm : ∀ k, own k → ¬ may k) : StackK S W' own T := by
  obtain ⟨cs, h1, h2, h3⟩ := h
  exact ⟨cs, h1.keeps q (hm _ h2), h2, h3⟩

set_option maxRecDepth 100000 in
set_option maxHeartbeats 8000000 in
theorem stackTake_any (W : World) (S : Nat) (own : Nat → Prop) (T : List Nat) (h : StackK S W own T) (hlt : ∀ k, own k → k < W.heap.size) (hT : cntN T < 600) :
    Calls Tryd.prog 160 #[.pointer (some ⟨S, 0, none⟩)] W fun e w' => e = .returned (.int .i64 (cntN T : Int)) ∧ ∃ own', Owns own own' W w' ∧ StackK S w' own' (T ++ [cntN T]) := by
  obtain ⟨cs, hs, hS, hb⟩ := h
  obtain ⟨t, ht⟩ : ∃ t, t = cntN T := ⟨_, rfl⟩
  rw [← ht] at hs hT ⊢
  have hx : t ∉ T := by rw [ht]; exact cntN_not T
  have r6 := (hs.blk.cell 600).trans hs.top
  have z6 := hs.blk.free 600
  have rt := (hs.blk.cell t).trans (hs.tak t hT)
  have zt := hs.blk.free t
  have HE : Hid (∀ W1, Keeps noB (W.setCell ⟨S, t, none⟩ (.bool true)) W1 → (W1.cell? ⟨S, 600, none⟩ = some (.int .i64 (t : Int)) ∧ W1.frozen? ⟨S, 600, none⟩ = false) ∧ ∃ own', Owns own own' W (W1.setCell ⟨S, 600, none⟩ (.int .i64 ((t : Int) + 1))) ∧ StackK S (W1.setCell ⟨S, 600, none⟩ (.int .i64 ((t : Int) + 1))) own' (T ++ [t])) := Lib.hid (fun W1 q => by
    have h1 := hs.setTak (T' := T ++ [t]) (c := t) (b := true) hT (fun i hi => by simp [hi]) (by simp)
    have h2 := h1.keeps q id
    have h3 := h2.setTop (t + 1)
    obtain ⟨cs4, h4⟩ : ∃ cs4, StackAt (W1.setCell ⟨S, 600, none⟩ (.int .i64 ((t : Int) + 1))) S (T ++ [t]) (cntN (T ++ [t])) cs4 := ⟨_, by rw [cntN_snoc, ← ht, show max t (t + 1) = t + 1 by omega]; exact h3⟩
    have q1 : Keeps own W W1 := ((Keeps.refl own W).setCell (p := ⟨S, t, none⟩) (.inl hS) _).trans (q.mono (fun _ e => e.elim))
    have q2 : Keeps own W (W1.setCell ⟨S, 600, none⟩ (.int .i64 ((t : Int) + 1))) := q1.setCell (p := ⟨S, 600, none⟩) (.inl hS) _
    refine ⟨⟨(h2.blk.cell 600).trans h2.top, h2.blk.free 600⟩, own, ⟨fun _ h => .inl h, fun k hk => Nat.lt_of_lt_of_le (hlt k hk) q2.size, q2⟩, cs4, h4, hS, fun c hc => ?_⟩
    rcases List.mem_append.1 hc with hc | hc
    · exact hb c hc
    · obtain rfl := List.mem_singleton.1 hc; exact hT)
  have ht0 : (0 : Int) ≤ (t : Int) := by omega
  have ht6 : (t : Int) < 600 := by omega
  have hne : ¬ t = 600 := by omega
  have hne' : ¬ 600 = t := by omega
  clear hs hS hb ht hlt hx
  go_enter Tryd.func160, Tryd.ntmps160
  go_wp2_with fail
  go_region
  have hq : Keeps noB (W.setCell ⟨S, t, none⟩ (.bool true)) (W.setCell ⟨S, t, none⟩ (.bool true)).drew := (Keeps.refl _ _).drew
  obtain ⟨⟨y6, w6⟩, hp⟩ := HE.out _ hq
  have HPO := Lib.hid hp
  clear hq hp HE r6 z6 rt zt
  generalize (W.setCell ⟨S, t, none⟩ (.bool true)).drew = W1 at *
  go_wp2_with fail
  go_ret
  exact ⟨rfl, HPO.out⟩

/-- What the loop of leave holds: nothing is taken from the top t on. -/
def LvAtS (S : Nat) (own : Nat → Prop) (W : World) (T : List Nat) (t : Nat) (wr : World) : Prop :=
  (∃ cs, StackAt wr S T t cs) ∧ t ≤ 600 ∧ (∀ c ∈ T, c < t) ∧ Keeps own W wr

set_option maxRecDepth 100000 in
set_option maxHeartbeats 8000000 in
theorem stackLeave_any (W : World) (S : Nat) (own : Nat → Prop) (T : List Nat) (h : StackK S W own T) (hlt : ∀ k, own k → k < W.heap.size) (c : Nat) (hc : c ∈ T) :
    Calls Tryd.prog 159 #[.pointer (some ⟨S, 0, none⟩), .int .i64 (c : Int)] W fun e w' => e = .returned (.tuple #[]) ∧ ∃ own', Owns own own' W w' ∧ StackK S w' own' (T.filter (fun m => decide (m ≠ c))) := by
  obtain ⟨cs, hs, hS, hb⟩ := h
  have hc6 := hb c hc
  obtain ⟨T', hT'⟩ : ∃ T', T' = T.filter (fun m => decide (m ≠ c)) := ⟨_, rfl⟩
  rw [← hT']
  have hb' : ∀ d ∈ T', d < 600 := fun d hd => by rw [hT'] at hd; exact hb d (List.mem_filter.1 hd).1
  have rt := (hs.blk.cell c).trans (hs.tak c hc6)
  have zt := hs.blk.free c
  have HP : Hid (LvAtS S own W T' (cntN T) (W.setCell ⟨S, c, none⟩ (.bool false))) := Lib.hid (by
    refine ⟨⟨_, hs.setTak (T' := T') (c := c) (b := false) hc6 (fun i hi => by rw [hT', List.mem_filter]; simp [hi]) (by rw [hT']; simp)⟩, cntN_le.2 hb, fun d hd => ?_, (Keeps.refl own W).setCell (p := ⟨S, c, none⟩) (.inl hS) _⟩
    rw [hT'] at hd
    exact cntN_le.1 (Nat.le_refl _) d (List.mem_filter.1 hd).1)
  have HS := Lib.hid (And.intro hS (And.intro hb' hlt))
  have hc0 : (0 : Int) ≤ (c : Int) := by omega
  have hc7 : (c : Int) < 600 := by omega
  clear hs hS hb hlt hT' hb' hc hc6
  go_enter Tryd.func159, Tryd.ntmps159
  go_wp2_with fail
  go_loopg [] (cntN T) (fun k wr => LvAtS S own W T' k wr)
  case atStart => exact HP.out
  case round =>
    clear HP
    obtain ⟨⟨cs, hs⟩, ht6, hbt, hq⟩ := hrel
    have r6 := (hs.blk.cell 600).trans hs.top
    have z6 := hs.blk.free 600
    have HEND : Hid ((gk = 0 ∨ gk - 1 ∈ T') → ∀ W', Keeps noB wr W' → ∃ own', Owns own own' W W' ∧ StackK S W' own' T') := Lib.hid (fun h0 W' q => by
      have hc := cntN_is hbt h0
      have q2 : Keeps own W W' := hq.trans (q.mono (fun _ e => e.elim))
      exact ⟨own, ⟨fun _ h => .inl h, fun k hk => Nat.lt_of_lt_of_le (HS.out.2.2 k hk) q2.size, q2⟩, cs, by rw [hc]; exact hs.keeps q id, HS.out.1, HS.out.2.1⟩)
    cases gk with
    | zero =>
      have HE := Lib.hid (HEND.out (.inl rfl))
      clear HEND hs hbt hq
      go_wp2_with fail
      go_quiet (fail)
      go_wp2_with fail
      go_end0
      exact ⟨rfl, HE.out _ ((Keeps.refl _ _).drewN _)⟩
    | succ k =>
      have hki : ((k + 1 : Nat) : Int) = (k : Int) + 1 := by omega
      rw [hki] at r6
      have hk0 : (0 : Int) < (k : Int) + 1 := by omega
      have hk00 : (0 : Int) ≤ (k : Int) := by omega
      have hk6 : (k : Int) < 600 := by omega
      have rk := (hs.blk.cell k).trans (hs.tak k (by omega))
      by_cases hm : k ∈ T'
      · rw [decide_eq_true hm] at rk
        have HE := Lib.hid (HEND.out (.inr hm))
        clear HEND hs hbt hq hm
        go_wp2_with fail
        go_quiet (fail)
        go_wp2_with fail
        go_end0
        exact ⟨rfl, HE.out _ ((Keeps.refl _ _).drewN _)⟩
      · rw [decide_eq_false hm] at rk
        have HE : Hid (∀ W1, Keeps noB wr W1 → W1.cell? ⟨S, 600, none⟩ = some (.int .i64 ((k : Int) + 1)) ∧ W1.frozen? ⟨S, 600, none⟩ = false ∧ LvAtS S own W T' k (W1.setCell ⟨S, 600, none⟩ (.int .i64 (k : Int)))) := Lib.hid (fun W1 q => by
          have h1 := hs.keeps q id
          have h2 := h1.setTop k
          have hrd := (h1.blk.cell 600).trans h1.top
          rw [hki] at hrd
          refine ⟨hrd, h1.blk.free 600, ⟨_, h2⟩, by omega, fun c hc => ?_, (hq.trans (q.mono (fun _ e => e.elim))).setCell (p := ⟨S, 600, none⟩) (.inl HS.out.1) _⟩
          have := hbt c hc
          have : c ≠ k := fun e => hm (e ▸ hc)
          omega)
        clear HEND hs hbt hq hm
        go_wp2_with fail
        go_quiet (fail)
        obtain ⟨y6, w6, hp⟩ := HE.out _ ((Keeps.refl _ _).drewN nq)
        have HPO := Lib.hid hp
        clear hp r6 z6 rk
        go_wp2_with fail
        go_roundg k
        case measure => simp
        case rel => exact HPO.out

end Go.Proofs.YthgocacabadflaaDoor

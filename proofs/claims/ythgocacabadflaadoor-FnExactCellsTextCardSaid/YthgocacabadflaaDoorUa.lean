/-
  Chapter 8, the plain account: heaps of numbers, first free cells, cells of values.
-/
import Derived.Test.YthgocacabadflaaDoorPg
namespace Go.Proofs.YthgocacabadflaaDoor
set_option linter.unusedVariables false
set_option linter.unusedSimpArgs false

/-! ### Heaps -/
def par (k : Nat) : Nat := (k - 1) / 2
theorem par_lt {k : Nat} (h : 0 < k) : par k < k := by unfold par; omega
/-- The numbers of a list, 0 behind it. -/
def nth (L : List Nat) (k : Nat) : Nat := L.getD k 0
/-- Two numbers changed for each other. -/
def swp (f : Nat → Nat) (i j : Nat) : Nat → Nat := fun k => if k = i then f j else if k = j then f i else f k
theorem swp_i (f : Nat → Nat) (i j : Nat) : swp f i j i = f j := if_pos rfl
theorem swp_j (f : Nat → Nat) (i j : Nat) : swp f i j j = f i := by
  unfold swp
  by_cases h : j = i
  · rw [if_pos h, h]
  · rw [if_neg h, if_pos rfl]
theorem swp_o {f : Nat → Nat} {i j k : Nat} (h1 : k ≠ i) (h2 : k ≠ j) : swp f i j k = f k := by unfold swp; rw [if_neg h1, if_neg h2]

def HeapF (f : Nat → Nat) (n : Nat) : Prop := ∀ k, 0 < k → k < n → f (par k) ≤ f k
def UpF (f : Nat → Nat) (n j : Nat) : Prop := (∀ k, 0 < k → k < n → k ≠ j → f (par k) ≤ f k) ∧ (0 < j → ∀ k, 0 < k → k < n → par k = j → f (par j) ≤ f k)
def DnF (f : Nat → Nat) (n i : Nat) : Prop := (∀ k, 0 < k → k < n → par k ≠ i → f (par k) ≤ f k) ∧ (0 < i → ∀ k, 0 < k → k < n → par k = i → f (par i) ≤ f k)

theorem HeapF.min {f : Nat → Nat} {n : Nat} (h : HeapF f n) : ∀ k, k < n → f 0 ≤ f k := by
  intro k
  induction k using Nat.strongRecOn with
  | _ k ih =>
    intro hk
    by_cases h0 : k = 0
    · rw [h0]; exact Nat.le_refl _
    · have hp := par_lt (k := k) (by omega)
      exact Nat.le_trans (ih _ hp (by omega)) (h k (by omega) hk)

theorem UpF.done {f : Nat → Nat} {n j : Nat} (h : UpF f n j) (hd : 0 < j → f (par j) ≤ f j) : HeapF f n := fun k k0 kn => by
  by_cases hk : k = j
  · rw [hk]; exact hd (by omega)
  · exact h.1 k k0 kn hk

theorem UpF.step {f : Nat → Nat} {n j : Nat} (h : UpF f n j) (hj : 0 < j) (hjn : j < n) (hlt : f j < f (par j)) : UpF (swp f (par j) j) n (par j) := by
  have hp := par_lt hj
  obtain ⟨h1, h2⟩ := h
  have hne : par j ≠ j := by omega
  refine ⟨fun k k0 kn kp => ?_, fun i0 k k0 kn kp => ?_⟩
  · by_cases hk : k = j
    · subst hk
      rw [swp_i, swp_j]; omega
    · rw [swp_o (k := k) kp hk]
      by_cases a : par k = par j
      · rw [a, swp_i]
        have := h1 k k0 kn hk
        rw [a] at this; omega
      · by_cases b : par k = j
        · rw [b, swp_j]; exact h2 hj k k0 kn b
        · rw [swp_o a b]; exact h1 k k0 kn hk
  · have hpp := par_lt i0
    have e : swp f (par j) j (par (par j)) = f (par (par j)) := swp_o (by omega) (by omega)
    have g := h1 (par j) i0 (by omega) hne
    rw [e]
    by_cases hk : k = j
    · rw [hk, swp_j]; exact g
    · rw [swp_o (k := k) (by have := par_lt k0; omega) hk]
      have := h1 k k0 kn hk
      rw [kp] at this; omega

theorem DnF.done {f : Nat → Nat} {n i : Nat} (h : DnF f n i) (hd : ∀ k, 0 < k → k < n → par k = i → f i ≤ f k) : HeapF f n := fun k k0 kn => by
  by_cases hk : par k = i
  · rw [hk]; exact hd k k0 kn hk
  · exact h.1 k k0 kn hk

theorem DnF.step {f : Nat → Nat} {n i j : Nat} (h : DnF f n i) (hj : par j = i) (j0 : 0 < j) (hjn : j < n) (hmin : ∀ k, 0 < k → k < n → par k = i → f j ≤ f k) (hlt : f j < f i) : DnF (swp f i j) n j := by
  have hi := par_lt j0
  rw [hj] at hi
  obtain ⟨h1, h2⟩ := h
  refine ⟨fun k k0 kn kp => ?_, fun _ k k0 kn kp => ?_⟩
  · have hpk := par_lt k0
    by_cases a : par k = i
    · rw [a, swp_i]
      by_cases hk : k = j
      · rw [hk, swp_j]; omega
      · rw [swp_o (k := k) (by omega) hk]; exact hmin k k0 kn a
    · rw [swp_o a kp]
      by_cases hk : k = i
      · rw [hk, swp_i]; exact h2 (by omega) j j0 hjn hj
      · by_cases hkj : k = j
        · rw [hkj] at a; exact absurd hj a
        · rw [swp_o hk hkj]; exact h1 k k0 kn a
  · have hpk := par_lt k0
    rw [hj, swp_i, swp_o (k := k) (by omega) (by omega)]
    have := h1 k k0 kn (by rw [kp]; omega)
    rw [kp] at this; exact this

/-- Two numbers of a list changed for each other. -/
def swL (L : List Nat) (i j : Nat) : List Nat := (L.set i (nth L j)).set j (nth L i)
theorem swL_len (L : List Nat) (i j : Nat) : (swL L i j).length = L.length := by unfold swL; simp
theorem nth_get {L : List Nat} {k m : Nat} (h : L[k]? = some m) : nth L k = m := by unfold nth; simp [h]
theorem nth_some {L : List Nat} {k : Nat} (h : k < L.length) : L[k]? = some (nth L k) := by unfold nth; simp [List.getElem?_eq_getElem h]
theorem swL_nth {L : List Nat} {i j : Nat} (hi : i < L.length) (hj : j < L.length) : nth (swL L i j) = swp (nth L) i j := by
  funext k
  unfold swL
  by_cases h2 : k = j
  · subst h2
    rw [swp_j]
    exact nth_get (by rw [List.getElem?_set_self (by simpa using hj)])
  · by_cases h1 : k = i
    · subst h1
      rw [swp_i]
      exact nth_get (by rw [List.getElem?_set_ne (Ne.symm h2), List.getElem?_set_self hi])
    · rw [swp_o h1 h2]
      unfold nth
      rw [List.getD_eq_getElem?_getD, List.getElem?_set_ne (Ne.symm h2), List.getElem?_set_ne (Ne.symm h1), ← List.getD_eq_getElem?_getD]
theorem swL_perm {L : List Nat} {i j : Nat} (hi : i < L.length) (hj : j < L.length) : (swL L i j).Perm L := by
  have h := Array.swap_perm (xs := L.toArray) (i := i) (j := j) (by simpa using hi) (by simpa using hj)
  have h2 := Array.perm_iff_toList_perm.1 h
  have e : (L.toArray.swap i j (by simpa using hi) (by simpa using hj)).toList = swL L i j := by
    unfold swL
    rw [Array.toList_swap]
    have e1 : nth L j = L[j] := by unfold nth; simp [hj]
    have e2 : nth L i = L[i] := by unfold nth; simp [hi]
    rw [e1, e2]
    rfl
  rw [e] at h2
  exact h2

def HeapL (L : List Nat) : Prop := HeapF (nth L) L.length

theorem HeapL.nil : HeapL [] := fun k _ h => by simp at h
/-- A number put at the end. -/
theorem HeapL.push {L : List Nat} (h : HeapL L) (x : Nat) : UpF (nth (L ++ [x])) (L.length + 1) L.length := by
  have e : ∀ k, k < L.length → nth (L ++ [x]) k = nth L k := fun k hk => nth_get (by rw [List.getElem?_append_left hk]; exact nth_some hk)
  refine ⟨fun k k0 kn hk => ?_, fun _ k k0 kn hp => ?_⟩
  · have := par_lt k0
    rw [e k (by omega), e (par k) (by omega)]
    exact h k k0 (by omega)
  · have := par_lt k0; omega
/-- The first and the last number changed for each other. -/
theorem HeapL.pop {L : List Nat} {n : Nat} (h : HeapL L) (hn : L.length = n + 1) : DnF (nth (swL L 0 n)) n 0 := by
  rw [swL_nth (by omega) (by omega)]
  refine ⟨fun k k0 kn hk => ?_, fun h0 => by omega⟩
  have := par_lt k0
  rw [swp_o (k := k) (by omega) (by omega), swp_o hk (by omega)]
  exact h k k0 (by omega)
/-- What is left behind a pop. -/
theorem HeapL.popped {L L2 : List Nat} {n : Nat} (hn : L.length = n + 1) (hp : L2.Perm (swL L 0 n)) (hl : nth L2 n = nth (swL L 0 n) n) (hh : HeapF (nth L2) n) :
    nth L2 n = nth L 0 ∧ HeapL (L2.take n) ∧ (L2.take n ++ [nth L 0]).Perm L := by
  have hlen : L2.length = n + 1 := by rw [hp.length_eq, swL_len, hn]
  have e1 : nth L2 n = nth L 0 := by rw [hl, swL_nth (by omega) (by omega), swp_j]
  have e2 : L2.take n ++ [nth L 0] = L2 := by
    rw [← e1]
    have := List.take_add_one (l := L2) (i := n)
    rw [nth_some (by omega)] at this
    rw [List.take_of_length_le (by omega)] at this
    exact this.symm
  refine ⟨e1, ?_, ?_⟩
  · intro k k0 kn
    rw [List.length_take, hlen] at kn
    have e : ∀ k, k < n → nth (L2.take n) k = nth L2 k := fun k hk => nth_get (by rw [List.getElem?_take_of_lt hk]; exact nth_some (by omega))
    have := par_lt k0
    rw [e k (by omega), e (par k) (by omega)]
    exact hh k k0 (by omega)
  · rw [e2]; exact hp.trans (swL_perm (by omega) (by omega))

theorem HeapL.least {L : List Nat} (h : HeapL L) : ∀ m ∈ L, nth L 0 ≤ m := fun m hm => by
  obtain ⟨k, hk⟩ := List.getElem?_of_mem hm
  have := h.min k (List.getElem?_eq_some_iff.1 hk).1
  rw [nth_get hk] at this
  exact this

/-! ### First free cells, counts -/
def IsFree (T : List Nat) (n : Nat) : Prop := n ∉ T ∧ ∀ m, m < n → m ∈ T
theorem cover_len : ∀ (n : Nat) (T : List Nat), (∀ m, m < n → m ∈ T) → n ≤ T.length
  | 0, _, _ => Nat.zero_le _
  | n + 1, T, h => by
    have hn := h n (Nat.lt_succ_self n)
    have h1 := cover_len n (T.erase n) (fun m hm => (List.mem_erase_of_ne (by omega)).2 (h m (by omega)))
    have h2 := List.length_erase_of_mem hn
    have h3 := List.length_pos_of_mem hn
    omega
theorem IsFree.one {T : List Nat} {a b : Nat} (ha : IsFree T a) (hb : IsFree T b) : a = b := by
  rcases Nat.lt_trichotomy a b with h | h | h
  · exact absurd (hb.2 a h) ha.1
  · exact h
  · exact absurd (ha.2 b h) hb.1
def freeFrom (T : List Nat) : Nat → Nat → Nat
  | 0, n => n
  | k + 1, n => if n ∈ T then freeFrom T k (n + 1) else n
def freeN (T : List Nat) : Nat := freeFrom T T.length 0
theorem freeFrom_is (T : List Nat) : ∀ (k n : Nat), n + k = T.length → (∀ m, m < n → m ∈ T) → IsFree T (freeFrom T k n)
  | 0, n, h, hn => by
    refine ⟨fun hm => ?_, hn⟩
    have := cover_len (n + 1) T (fun m h => by
      by_cases e : m = n
      · rw [e]; exact hm
      · exact hn m (by omega))
    omega
  | k + 1, n, h, hn => by
    unfold freeFrom
    by_cases hm : n ∈ T
    · rw [if_pos hm]
      exact freeFrom_is T k (n + 1) (by omega) (fun m h => by
        by_cases e : m = n
        · rw [e]; exact hm
        · exact hn m (by omega))
    · rw [if_neg hm]; exact ⟨hm, hn⟩
theorem freeN_is (T : List Nat) : IsFree T (freeN T) := freeFrom_is T T.length 0 (by omega) (fun m h => by omega)
theorem freeN_le {T : List Nat} {k : Nat} (h : ∀ c ∈ T, c < k) : freeN T ≤ k := by
  rcases Nat.lt_or_ge k (freeN T) with h1 | h1
  · exact absurd (h k ((freeN_is T).2 k h1)) (Nat.lt_irrefl _)
  · exact h1
/-- One more than the greatest number. -/
def cntN (T : List Nat) : Nat := T.foldl (fun a n => max a (n + 1)) 0
theorem cntN_snoc (T : List Nat) (n : Nat) : cntN (T ++ [n]) = max (cntN T) (n + 1) := by unfold cntN; simp
theorem cnt_fold : ∀ (T : List Nat) (a k : Nat), T.foldl (fun a n => max a (n + 1)) a ≤ k ↔ a ≤ k ∧ ∀ c ∈ T, c < k
  | [], a, k => by simp
  | x :: r, a, k => by
    show r.foldl (fun a n => max a (n + 1)) (max a (x + 1)) ≤ k ↔ _
    rw [cnt_fold r]
    constructor
    · rintro ⟨h1, h2⟩
      refine ⟨by omega, fun c hc => ?_⟩
      rcases List.mem_cons.1 hc with rfl | hc
      · omega
      · exact h2 c hc
    · rintro ⟨h1, h2⟩
      have := h2 x (by simp)
      exact ⟨by omega, fun c hc => h2 c (by simp [hc])⟩
theorem cntN_le {T : List Nat} {k : Nat} : cntN T ≤ k ↔ ∀ c ∈ T, c < k := by
  unfold cntN; rw [cnt_fold]; simp
theorem cntN_not (T : List Nat) : cntN T ∉ T := fun h => by
  have := (cntN_le (T := T) (k := cntN T)).1 (Nat.le_refl _) _ h
  omega
theorem cntN_is {T : List Nat} {t : Nat} (h : ∀ c ∈ T, c < t) (ht : t = 0 ∨ t - 1 ∈ T) : cntN T = t := by
  have h1 := cntN_le.2 h
  rcases ht with rfl | ht
  · omega
  · have := (cntN_le (T := T) (k := cntN T)).1 (Nat.le_refl _) _ ht
    omega

/-! ### Cells of values -/
structure Cs where
  T : List Nat
  O : List Nat
/-- An event: T are the cells that are taken, O those of the values. -/
def cellStep (pick : List Nat → Nat) (s : Cs) (e : Ev) : Cs :=
  if e.k = 43 then ⟨s.T ++ [pick s.T], s.O ++ [pick s.T]⟩ else if e.k = 45 then ⟨s.T.filter (fun m => decide (m ≠ nth s.O (e.n - 1))), s.O⟩ else s
def cellsS (pick : List Nat → Nat) (l : List Ev) : Cs := l.foldl (cellStep pick) ⟨[], []⟩
theorem cellsS_snoc (pick : List Nat → Nat) (l : List Ev) (e : Ev) : cellsS pick (l ++ [e]) = cellStep pick (cellsS pick l) e := by unfold cellsS; simp
theorem cellsS_take {pick : List Nat → Nat} {l : List Ev} {i : Nat} {e : Ev} (h : l[i]? = some e) : cellsS pick (l.take (i + 1)) = cellStep pick (cellsS pick (l.take i)) e := by
  rw [List.take_add_one, h]; exact cellsS_snoc _ _ _

/-- What a choice of cells must keep to. -/
structure Picks (pick : List Nat → Nat) : Prop where
  out : ∀ T, pick T ∉ T
  le : ∀ T k, (∀ c ∈ T, c < k) → pick T ≤ k
theorem picks_free : Picks freeN := ⟨fun T => (freeN_is T).1, fun _ _ h => freeN_le h⟩
theorem picks_cnt : Picks cntN := ⟨cntN_not, fun _ _ h => cntN_le.2 h⟩

theorem nodup_inj {f : Nat → Nat} : ∀ {l : List Nat}, (l.map f).Nodup → ∀ x ∈ l, ∀ y ∈ l, f x = f y → x = y
  | [], _, x, hx, _, _, _ => by cases hx
  | a :: r, h, x, hx, y, hy, e => by
    rw [List.map_cons, List.nodup_cons] at h
    rcases List.mem_cons.1 hx with hx | hx
    · rcases List.mem_cons.1 hy with hy | hy
      · rw [hx, hy]
      · exact absurd (by rw [← hx, e]; exact List.mem_map_of_mem hy) h.1
    · rcases List.mem_cons.1 hy with hy | hy
      · exact absurd (by rw [← hy, ← e]; exact List.mem_map_of_mem hx) h.1
      · exact nodup_inj h.2 x hx y hy e

structure CInv (pick : List Nat → Nat) (l : List Ev) (s : Cs) : Prop where
  len : s.O.length = madeN l
  tak : s.T = (aliveL l).map (fun n => nth s.O (n - 1))
  nd : s.T.Nodup
  lt : ∀ c ∈ s.O, c < madeN l
theorem CInv.taken {pick : List Nat → Nat} {l : List Ev} {s : Cs} (h : CInv pick l s) (hg : Good l) : ∀ c ∈ s.T, c ∈ s.O := fun c hc => by
  rw [h.tak] at hc
  obtain ⟨n, hn, rfl⟩ := List.mem_map.1 hc
  obtain ⟨h1, f, h2, _⟩ := (hg.says.alive n).1 hn
  have := (List.getElem?_eq_some_iff.1 h2).1
  rw [hg.says.made, ← h.len] at this
  exact List.mem_of_getElem? (nth_some this)
theorem CInv.tlt {pick : List Nat → Nat} {l : List Ev} {s : Cs} (h : CInv pick l s) (hg : Good l) : ∀ c ∈ s.T, c < madeN l := fun c hc => h.lt c (h.taken hg c hc)
/-- The cell of a value that is alive is taken. -/
theorem CInv.cell {pick : List Nat → Nat} {l : List Ev} {s : Cs} (h : CInv pick l s) (hg : Good l) {n : Nat} (hn : n ∈ aliveL l) : 1 ≤ n ∧ n - 1 < s.O.length ∧ nth s.O (n - 1) ∈ s.T := by
  obtain ⟨h1, f, h2, _⟩ := (hg.says.alive n).1 hn
  have := (List.getElem?_eq_some_iff.1 h2).1
  rw [hg.says.made, ← h.len] at this
  refine ⟨h1, this, ?_⟩
  rw [h.tak]
  exact List.mem_map.2 ⟨n, hn, rfl⟩

theorem cinv {pick : List Nat → Nat} (hp : Picks pick) {l : List Ev} (hg : Good l) : CInv pick l (cellsS pick l) := by
  induction hg with
  | nil => exact ⟨rfl, rfl, List.nodup_nil, fun c hc => by cases hc⟩
  | @snoc l e hg hf ih =>
    rw [cellsS_snoc]
    generalize cellsS pick l = s at *
    have hlt := ih.tlt hg
    rcases hf with ⟨hk, hn⟩ | ⟨hk, hn⟩
    · unfold cellStep
      rw [if_pos hk]
      have hm : madeN (l ++ [e]) = madeN l + 1 := by rw [madeN_snoc, if_pos hk]
      refine ⟨?_, ?_, ?_, ?_⟩
      · show (s.O ++ [pick s.T]).length = _
        rw [List.length_append, ih.len, hm]; rfl
      · show s.T ++ [pick s.T] = _
        rw [aliveL_snoc]
        unfold aliveStep
        rw [if_pos hk, List.map_append]
        congr 1
        · rw [ih.tak]
          refine List.map_congr_left (fun n hn => ?_)
          obtain ⟨_, h2, _⟩ := ih.cell hg hn
          exact (nth_get (by rw [List.getElem?_append_left h2]; exact nth_some h2)).symm
        · show [_] = [_]
          congr 1
          rw [hn]
          show pick s.T = nth (s.O ++ [pick s.T]) (madeN l + 1 - 1)
          rw [Nat.add_sub_cancel, ← ih.len]
          exact (nth_get (by simp)).symm
      · show (s.T ++ [pick s.T]).Nodup
        rw [List.nodup_append]
        refine ⟨ih.nd, by simp, fun a ha b hb => ?_⟩
        obtain rfl := List.mem_singleton.1 hb
        exact fun e => hp.out s.T (e ▸ ha)
      · intro c hc
        have hc : c ∈ s.O ++ [pick s.T] := hc
        rw [hm]
        rcases List.mem_append.1 hc with hc | hc
        · have := ih.lt c hc; omega
        · obtain rfl := List.mem_singleton.1 hc
          have := hp.le s.T (madeN l) hlt; omega
    · have h43 : ¬ e.k = 43 := by rcases hk with h | h <;> rw [h] <;> decide
      have hm : madeN (l ++ [e]) = madeN l := by rw [madeN_snoc, if_neg h43]; rfl
      unfold cellStep
      rw [if_neg h43]
      by_cases h45 : e.k = 45
      · rw [if_pos h45]
        obtain ⟨h1, h2, h3⟩ := ih.cell hg hn
        refine ⟨by rw [hm]; exact ih.len, ?_, ih.nd.filter _, by rw [hm]; exact ih.lt⟩
        show s.T.filter _ = _
        rw [aliveL_snoc]
        unfold aliveStep
        rw [if_neg h43, if_pos h45]
        have hnd := ih.nd
        have ht := ih.tak
        rw [ht] at hnd
        rw [ht, List.filter_map]
        congr 1
        refine List.filter_congr (fun n hn' => ?_)
        show decide (nth s.O (n - 1) ≠ nth s.O (e.n - 1)) = decide (n ≠ e.n)
        have : nth s.O (n - 1) = nth s.O (e.n - 1) ↔ n = e.n := ⟨fun h => nodup_inj hnd n hn' e.n hn h, fun h => by rw [h]⟩
        simp [this]
      · rw [if_neg h45]
        refine ⟨by rw [hm]; exact ih.len, ?_, ih.nd, by rw [hm]; exact ih.lt⟩
        rw [aliveL_snoc]
        unfold aliveStep
        rw [if_neg h43, if_neg h45]
        exact ih.tak

/-! ### A list of cells that were left -/
def FInv (T L : List Nat) (nx : Nat) : Prop := (T ++ L).Perm (List.range nx)
theorem FInv.mem {T L : List Nat} {nx : Nat} (h : FInv T L nx) (m : Nat) : m < nx ↔ m ∈ T ∨ m ∈ L := by
  rw [← List.mem_range, ← h.mem_iff, List.mem_append]
theorem FInv.apart {T L : List Nat} {nx : Nat} (h : FInv T L nx) : ∀ m, m ∈ T → m ∉ L := by
  have := h.nodup_iff.2 List.nodup_range
  rw [List.nodup_append] at this
  exact fun m h1 h2 => this.2.2 m h1 m h2 rfl
theorem FInv.free_nil {T : List Nat} {nx : Nat} (h : FInv T [] nx) : freeN T = nx := by
  refine (freeN_is T).one ⟨fun hm => ?_, fun m hm => ?_⟩
  · have := (h.mem nx).2 (.inl hm); omega
  · rcases (h.mem m).1 hm with h | h
    · exact h
    · cases h
theorem FInv.free_min {T L : List Nat} {nx c : Nat} (h : FInv T L nx) (hc : c ∈ L) (hm : ∀ m ∈ L, c ≤ m) : freeN T = c := by
  refine (freeN_is T).one ⟨fun ht => h.apart c ht hc, fun m hlt => ?_⟩
  have hcn := (h.mem c).2 (.inr hc)
  rcases (h.mem m).1 (by omega) with h | h
  · exact h
  · have := hm m h; omega
theorem FInv.take_nil {T : List Nat} {nx : Nat} (h : FInv T [] nx) : FInv (T ++ [nx]) [] (nx + 1) := by
  unfold FInv at *
  rw [List.append_nil] at *
  rw [List.range_succ]
  exact h.append_right [nx]
theorem FInv.take_min {T L L' : List Nat} {nx c : Nat} (h : FInv T L nx) (hp : (L' ++ [c]).Perm L) : FInv (T ++ [c]) L' nx := by
  unfold FInv at *
  refine List.Perm.trans ?_ h
  rw [List.append_assoc]
  exact (List.perm_append_comm.trans hp).append_left T
theorem FInv.leave {T L L' : List Nat} {nx c : Nat} (h : FInv T L nx) (hc : c ∈ T) (hp : L'.Perm (L ++ [c])) : FInv (T.filter (fun m => decide (m ≠ c))) L' nx := by
  unfold FInv at *
  have hnd : T.Nodup := by
    have := h.nodup_iff.2 List.nodup_range
    exact (List.nodup_append.1 this).1
  refine List.Perm.trans ?_ h
  have h1 : T.Perm (c :: T.filter (fun m => decide (m ≠ c))) := by
    have h2 := List.perm_cons_erase hc
    have e : T.erase c = T.filter (fun m => decide (m ≠ c)) := by
      rw [hnd.erase_eq_filter]
      refine List.filter_congr (fun m _ => ?_)
      by_cases h : m = c <;> simp [h]
    rw [e] at h2
    exact h2
  have h3 : (T.filter (fun m => decide (m ≠ c)) ++ L').Perm (T.filter (fun m => decide (m ≠ c)) ++ (L ++ [c])) := hp.append_left _
  refine h3.trans ?_
  refine List.Perm.trans ?_ (h1.symm.append_right L)
  rw [← List.append_assoc]
  exact List.perm_append_comm

end Go.Proofs.YthgocacabadflaaDoor

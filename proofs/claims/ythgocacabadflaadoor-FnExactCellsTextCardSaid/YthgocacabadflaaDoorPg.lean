/-
  Chapter 7, the plain account: words of a text, numbers in decimal, events, and what a text of events tells.
-/
import Derived.Lib.ItoaNum
import Derived.Lib.ItoaMem
import Derived.Lib.AtoiTie
import Derived.Lib.AtoiAll
import Derived.Test.YthgocacabadflaaDoorProg
namespace Go.Proofs.YthgocacabadflaaDoor
set_option linter.unusedVariables false
set_option linter.unusedSimpArgs false
open Go.Lib

/-! ### Words -/
/-- A text cut at each byte c. -/
def cutAt (c : UInt8) : List UInt8 → List (List UInt8)
  | [] => [[]]
  | x :: r => if x = c then [] :: cutAt c r else match cutAt c r with | [] => [[x]] | w :: ws => (x :: w) :: ws

theorem cutAt_ne (c : UInt8) : ∀ l, cutAt c l ≠ []
  | [] => by simp [cutAt]
  | x :: r => by
    unfold cutAt
    split
    · simp
    · split <;> simp

theorem cutAt_none (c : UInt8) : ∀ l : List UInt8, c ∉ l → cutAt c l = [l]
  | [], _ => rfl
  | x :: r, h => by
    have h1 : x ≠ c := fun e => h (by simp [e])
    unfold cutAt
    rw [if_neg h1, cutAt_none c r (fun e => h (by simp [e]))]

theorem cutAt_some (c : UInt8) : ∀ (a b : List UInt8), c ∉ a → cutAt c (a ++ c :: b) = a :: cutAt c b
  | [], b, _ => by simp [cutAt]
  | x :: r, b, h => by
    have h1 : x ≠ c := fun e => h (by simp [e])
    show (if x = c then [] :: cutAt c (r ++ c :: b) else match cutAt c (r ++ c :: b) with | [] => [[x]] | w :: ws => (x :: w) :: ws) = _
    rw [if_neg h1, cutAt_some c r b (fun e => h (by simp [e]))]

theorem cutAt_len (c : UInt8) : ∀ l : List UInt8, (cutAt c l).length ≤ l.length + 1
  | [] => by simp [cutAt]
  | x :: r => by
    have ih := cutAt_len c r
    unfold cutAt
    split
    · simp; omega
    · split
      · simp
      · rename_i w ws e
        rw [e] at ih
        simp at ih ⊢; omega

theorem cutAt_mem (c : UInt8) : ∀ (l : List UInt8) (w : List UInt8), w ∈ cutAt c l → w.length ≤ l.length
  | [], w, h => by simp [cutAt] at h; subst h; simp
  | x :: r, w, h => by
    unfold cutAt at h
    split at h
    · rcases List.mem_cons.1 h with h | h
      · subst h; simp
      · have := cutAt_mem c r w h; simp; omega
    · split at h
      · rename_i e; exact absurd e (cutAt_ne c r)
      · rename_i w1 ws e
        rcases List.mem_cons.1 h with h | h
        · have := cutAt_mem c r w1 (by rw [e]; simp)
          subst h; simp; omega
        · have := cutAt_mem c r w (by rw [e]; simp [h]); simp; omega

/-! ### Numbers -/
/-- What digits spell. -/
def valD (d : List UInt8) : Nat := d.foldl (fun a c => a * 10 + (c.toNat - 48)) 0
def isDig (c : UInt8) : Prop := 48 ≤ c.toNat ∧ c.toNat ≤ 57
instance (c : UInt8) : Decidable (isDig c) := by unfold isDig; infer_instance

theorem dig_nat {x : Nat} (h : x < 10) : (UInt8.ofNat (48 + x)).toNat = 48 + x := by
  rw [UInt8.toNat_ofNat']; omega

theorem dec_small {n : Nat} (h : n < 10) : decDigits n = [UInt8.ofNat (48 + n)] := decDigits_one h
theorem dec_big {n : Nat} (h : ¬ n < 10) : decDigits n = decDigits (n / 10) ++ [UInt8.ofNat (48 + n % 10)] := by
  rw [decDigits]; rw [dif_neg h]

theorem valD_snoc (d : List UInt8) (c : UInt8) : valD (d ++ [c]) = valD d * 10 + (c.toNat - 48) := by
  unfold valD; simp

theorem valD_dec : ∀ n, valD (decDigits n) = n := by
  intro n
  induction n using Nat.strongRecOn with
  | _ n ih =>
    by_cases h : n < 10
    · rw [dec_small h]
      show 0 * 10 + ((UInt8.ofNat (48 + n)).toNat - 48) = n
      rw [dig_nat h]; omega
    · rw [dec_big h, valD_snoc, ih (n / 10) (by omega), dig_nat (by omega)]; omega

theorem dec_dig : ∀ n, ∀ c ∈ decDigits n, isDig c := by
  intro n
  induction n using Nat.strongRecOn with
  | _ n ih =>
    intro c hc
    by_cases h : n < 10
    · rw [dec_small h] at hc
      obtain rfl := List.mem_singleton.1 hc
      unfold isDig; rw [dig_nat h]; omega
    · rw [dec_big h] at hc
      rcases List.mem_append.1 hc with hc | hc
      · exact ih _ (by omega) c hc
      · obtain rfl := List.mem_singleton.1 hc
        unfold isDig; rw [dig_nat (show n % 10 < 10 by omega)]; omega

theorem dec_ne (n : Nat) : decDigits n ≠ [] := by
  by_cases h : n < 10
  · rw [dec_small h]; simp
  · rw [dec_big h]; simp

theorem dec_head : ∀ n, 1 ≤ n → (decDigits n).head? ≠ some 48 := by
  intro n
  induction n using Nat.strongRecOn with
  | _ n ih =>
    intro h1
    by_cases h : n < 10
    · rw [dec_small h]
      intro e
      have e : UInt8.ofNat (48 + n) = 48 := by simpa using e
      have := congrArg UInt8.toNat e
      rw [dig_nat h] at this
      have h48 : (48 : UInt8).toNat = 48 := rfl
      omega
    · rw [dec_big h, List.head?_append]
      cases hd : (decDigits (n / 10)).head? with
      | none => exact absurd (List.head?_eq_none_iff.1 hd) (dec_ne _)
      | some c => have := ih (n / 10) (by omega) (by omega); rw [hd] at this; simpa using this

theorem dec_inj {n m : Nat} (h : decDigits n = decDigits m) : n = m := by rw [← valD_dec n, h, valD_dec]

/-- A number in decimal without a sign, and without zeros ahead. -/
def parseN (d : List UInt8) : Option Nat := if decDigits (valD d) = d then some (valD d) else none

theorem parseN_iff (d : List UInt8) (n : Nat) : parseN d = some n ↔ d = decDigits n := by
  unfold parseN
  constructor
  · intro h
    split at h
    · rename_i e
      have e2 := Option.some.inj h
      rw [← e2]; exact e.symm
    · cases h
  · rintro rfl
    rw [valD_dec, if_pos rfl]

theorem canon_snoc {u : List UInt8} {c : UInt8} (hc : isDig c) (h : decDigits (valD u) = u) (h1 : 1 ≤ valD u) : decDigits (valD (u ++ [c])) = u ++ [c] := by
  rw [valD_snoc]
  unfold isDig at hc
  have hc2 : UInt8.ofNat (48 + (c.toNat - 48)) = c := by
    rw [show 48 + (c.toNat - 48) = c.toNat by omega]; simp
  rw [dec_big (by omega), show (valD u * 10 + (c.toNat - 48)) / 10 = valD u by omega, show (valD u * 10 + (c.toNat - 48)) % 10 = c.toNat - 48 by omega, h, hc2]

theorem canon_one {c : UInt8} (hc : isDig c) : decDigits (valD [c]) = [c] := by
  unfold isDig at hc
  unfold valD
  simp only [List.foldl_cons, List.foldl_nil, Nat.zero_mul, Nat.zero_add]
  rw [dec_small (by omega), show 48 + (c.toNat - 48) = c.toNat by omega]; simp

theorem canon_aux : ∀ (k : Nat) (d : List UInt8), d.length = k + 1 → (∀ c ∈ d, isDig c) → d.head? ≠ some 48 → decDigits (valD d) = d ∧ 1 ≤ valD d
  | 0, d, hl, hd, hh => by
    match d, hl with
    | [c], _ =>
      have hc := hd c (by simp)
      refine ⟨canon_one hc, ?_⟩
      have : c ≠ 48 := fun e => hh (by simp [e])
      have h2 : c.toNat ≠ 48 := fun e => this (UInt8.toNat_inj.1 (by rw [e]; rfl))
      unfold isDig at hc
      unfold valD; simp; omega
  | k + 1, d, hl, hd, hh => by
    have hne : d ≠ [] := by intro e; rw [e] at hl; cases hl
    have hsp := List.dropLast_concat_getLast hne
    have h1 := canon_aux k d.dropLast (by simp [hl]) (fun c hc => hd c (List.dropLast_subset d hc)) (by
      rw [← hsp, List.head?_append] at hh
      cases hx : d.dropLast.head? with
      | none =>
        have := List.head?_eq_none_iff.1 hx
        have hl2 : d.dropLast.length = k + 1 := by simp [hl]
        rw [this] at hl2; cases hl2
      | some x => rw [hx] at hh; simpa using hh)
    have hc := hd _ (List.getLast_mem hne)
    rw [← hsp]
    refine ⟨canon_snoc hc h1.1 h1.2, ?_⟩
    rw [valD_snoc]; omega

/-- Digits without zeros ahead spell a number in the document's way. -/
theorem canon {d : List UInt8} (hne : d ≠ []) (hd : ∀ c ∈ d, isDig c) (hh : d.head? ≠ some 48 ∨ d.length = 1) : decDigits (valD d) = d := by
  cases hl : d.length with
  | zero => exact absurd (List.eq_nil_of_length_eq_zero hl) hne
  | succ k =>
    rcases hh with hh | hh
    · exact (canon_aux k d hl hd hh).1
    · match d, hh with
      | [c], _ => exact canon_one (hd c (by simp))

theorem dec_len {n : Nat} (h : n < 1000) : (decDigits n).length ≤ 3 := by
  by_cases h1 : n < 10
  · rw [dec_small h1]; simp
  · rw [dec_big h1]
    by_cases h2 : n / 10 < 10
    · rw [dec_small h2]; simp
    · rw [dec_big h2, dec_small (show n / 10 / 10 < 10 by omega)]; simp

/-- A reading of numbers that agrees on those up to 601. -/
structure Reads (f : List UInt8 → Option Int) : Prop where
  of : ∀ d n, f d = some n → 0 ≤ n → d = decDigits n.toNat
  to : ∀ n : Nat, n ≤ 601 → f (decDigits n) = some (n : Int)

/-- The model's reading. -/
def numM (s : List UInt8) : Option Int :=
  let neg := decide (s.head? = some 45)
  let t := if neg then s.drop 1 else s
  if t = [] ∨ 17 < t.length ∨ (t.head? = some 48 ∧ (1 < t.length ∨ neg = true)) then none
  else if t.all (fun c => decide (isDig c)) then some (if neg then -(valD t : Int) else valD t) else none

theorem dec_no45 (n : Nat) : (decDigits n).head? ≠ some 45 := by
  intro h
  have hm : (45 : UInt8) ∈ decDigits n := List.mem_of_mem_head? (by rw [h]; rfl)
  have := (dec_dig n 45 hm).1
  exact absurd this (by decide)

theorem numM_reads : Reads numM := by
  constructor
  · intro d n h hn
    unfold numM at h
    by_cases hneg : d.head? = some 45
    · simp only [hneg, decide_true, if_true] at h
      split at h
      · cases h
      · rename_i hc
        split at h
        · rename_i hall
          have e := Option.some.inj h
          simp only [not_or, not_and] at hc
          have h0 : valD (d.drop 1) = 0 := by omega
          have hd : ∀ c ∈ d.drop 1, isDig c := fun c hm => by have := List.all_eq_true.1 hall c hm; simpa using this
          have hh : (d.drop 1).head? ≠ some 48 := fun e => by have := (hc.2.2 e).2; simp at this
          cases hl : (d.drop 1).length with
          | zero => exact absurd (List.eq_nil_of_length_eq_zero hl) hc.1
          | succ k => have := (canon_aux k _ hl hd hh).2; omega
        · cases h
    · simp only [hneg, decide_false, Bool.false_eq_true, if_false] at h
      split at h
      · cases h
      · rename_i hc
        split at h
        · rename_i hall
          have e := Option.some.inj h
          simp only [not_or, not_and] at hc
          have hd : ∀ c ∈ d, isDig c := fun c hm => by have := List.all_eq_true.1 hall c hm; simpa using this
          have hcan := canon hc.1 hd (by
            by_cases h48 : d.head? = some 48
            · right
              have := (hc.2.2 h48).1
              have : d.length ≠ 0 := fun e => hc.1 (List.eq_nil_of_length_eq_zero e)
              omega
            · exact .inl h48)
          rw [← e, Int.toNat_natCast]; exact hcan.symm
        · cases h
  · intro n hn
    have hl := dec_len (show n < 1000 by omega)
    have hne := dec_ne n
    have h45 := dec_no45 n
    have hd := dec_dig n
    unfold numM
    simp only [h45, decide_false, Bool.false_eq_true, if_false]
    rw [if_neg, if_pos, valD_dec]
    · rw [List.all_eq_true]; intro c hc; simpa using hd c hc
    · rintro (h | h | ⟨h, h2 | h2⟩)
      · exact hne h
      · omega
      · rcases Nat.eq_zero_or_pos n with rfl | hp
        · rw [dec_small (by omega)] at h2; simp at h2
        · exact dec_head n hp h
      · cases h2

/-- The program's reading. -/
def numP (d : List UInt8) : Option Int := match atoiAll d with | .ok v => if itoa v = d then some v else none | _ => none

theorem decFrom_dec (acc : Nat) : ∀ (d : List UInt8), (∀ c ∈ d, isDig c) → decFrom acc d = some (d.foldl (fun a c => a * 10 + (c.toNat - 48)) acc)
  | [], _ => rfl
  | c :: r, h => by
    have hc := h c (by simp)
    unfold isDig at hc
    unfold decFrom digitVal
    rw [if_pos hc]
    exact decFrom_dec _ r (fun x hx => h x (by simp [hx]))

theorem atoi_dec (n : Nat) (h : n < 1000) : atoiAll (decDigits n) = .ok (n : Int) := by
  have hl := dec_len h
  rw [atoiAll_short _ (by omega)]
  have hd := dec_dig n
  have h1 := decFrom_dec 0 _ hd
  have hv : (decDigits n).foldl (fun a c => a * 10 + (c.toNat - 48)) 0 = n := valD_dec n
  rw [hv] at h1
  have hne := dec_ne n
  cases hx : decDigits n with
  | nil => exact absurd hx hne
  | cons c r =>
    rw [hx] at h1 hd
    have hc := hd c (by simp)
    unfold isDig at hc
    have h45 : (c == 45) = false := by
      rw [beq_eq_false_iff_ne]; rintro rfl; exact absurd hc.1 (by decide)
    have h43 : (c == 43) = false := by
      rw [beq_eq_false_iff_ne]; rintro rfl; exact absurd hc.1 (by decide)
    have hN : decNat (c :: r) = some n := by
      unfold decNat
      rw [List.isEmpty_cons, if_neg (by simp), h1]
    show NumEnd.ofOption (if (c == 45) = true then (decNat r).map fun (m : Nat) => -(m : Int) else if (c == 43) = true then (decNat r).map fun (m : Nat) => (m : Int) else (decNat (c :: r)).map fun (m : Nat) => (m : Int)) = _
    rw [h45, h43, hN]
    rfl

theorem numP_reads : Reads numP := by
  constructor
  · intro d n h hn
    unfold numP at h
    split at h
    · split at h
      · rename_i v _ e
        have e2 := Option.some.inj h
        subst e2
        rw [← e]
        unfold itoa
        rw [if_neg (by omega)]
      · cases h
    · cases h
  · intro n hn
    unfold numP
    rw [atoi_dec n (by omega)]
    simp only [itoa_nonneg, if_true]

/-! ### Events -/
structure Ev where
  k : UInt8
  n : Nat
  deriving DecidableEq

/-- A life: born, used, died. -/
structure Lf where
  b : Int
  u : Int
  d : Int
  deriving DecidableEq

def madeN : List Ev → Nat := fun l => (l.filter (fun e => decide (e.k = 43))).length
/-- The values alive, in the order in which they were made. -/
def aliveStep (a : List Nat) (e : Ev) : List Nat := if e.k = 43 then a ++ [e.n] else if e.k = 45 then a.filter (fun m => decide (m ≠ e.n)) else a
def aliveL (l : List Ev) : List Nat := l.foldl aliveStep []
/-- The lives: an event at index i. -/
def lifeStep (s : List Lf) (i : Nat) (e : Ev) : List Lf :=
  if e.k = 43 then s ++ [⟨i, i, -1⟩] else if e.k = 46 then s.modify (e.n - 1) (fun l => { l with u := (i : Int) }) else s.modify (e.n - 1) (fun l => { l with d := (i : Int) })
def livesFrom : Nat → List Lf → List Ev → List Lf
  | _, s, [] => s
  | i, s, e :: r => livesFrom (i + 1) (lifeStep s i e) r
def livesL (l : List Ev) : List Lf := livesFrom 0 [] l

theorem livesFrom_append : ∀ (i : Nat) (s : List Lf) (l : List Ev) (e : Ev), livesFrom i s (l ++ [e]) = lifeStep (livesFrom i s l) (i + l.length) e
  | i, s, [], e => rfl
  | i, s, x :: r, e => by
    show livesFrom (i + 1) (lifeStep s i x) (r ++ [e]) = _
    rw [livesFrom_append (i + 1) _ r e]
    show _ = lifeStep (livesFrom (i + 1) (lifeStep s i x) r) (i + (r.length + 1)) e
    rw [show i + 1 + r.length = i + (r.length + 1) by omega]
theorem livesL_snoc (l : List Ev) (e : Ev) : livesL (l ++ [e]) = lifeStep (livesL l) l.length e := by
  unfold livesL; rw [livesFrom_append, Nat.zero_add]
theorem aliveL_snoc (l : List Ev) (e : Ev) : aliveL (l ++ [e]) = aliveStep (aliveL l) e := by unfold aliveL; simp
theorem madeN_snoc (l : List Ev) (e : Ev) : madeN (l ++ [e]) = madeN l + (if e.k = 43 then 1 else 0) := by
  unfold madeN; rw [List.filter_append, List.length_append]
  by_cases h : e.k = 43 <;> simp [h]

/-- May an event come behind these? -/
def fits (l : List Ev) (e : Ev) : Prop := (e.k = 43 ∧ e.n = madeN l + 1) ∨ ((e.k = 46 ∨ e.k = 45) ∧ e.n ∈ aliveL l)
instance (l : List Ev) (e : Ev) : Decidable (fits l e) := by unfold fits; infer_instance

/-- Events that may come so. -/
inductive Good : List Ev → Prop
  | nil : Good []
  | snoc {l : List Ev} {e : Ev} : Good l → fits l e → Good (l ++ [e])

structure Good.Says (l : List Ev) : Prop where
  made : (livesL l).length = madeN l
  le : madeN l ≤ l.length
  alive : ∀ n, n ∈ aliveL l ↔ 1 ≤ n ∧ ∃ f, (livesL l)[n - 1]? = some f ∧ f.d < 0
  asc : (aliveL l).Pairwise (· < ·)
  bnd : ∀ (i : Nat) (f : Lf), (livesL l)[i]? = some f → 0 ≤ f.b ∧ f.b ≤ f.u ∧ f.u < l.length ∧ (f.d = -1 ∨ f.u < f.d) ∧ f.d < l.length

theorem mod_eq {α : Type} (s : List α) (i : Nat) (f : α → α) : (s.modify i f)[i]? = s[i]?.map f := by
  rw [List.getElem?_modify]; simp
theorem mod_ne {α : Type} {s : List α} {i j : Nat} {f : α → α} (h : i ≠ j) : (s.modify i f)[j]? = s[j]? := by
  rw [List.getElem?_modify]; simp [h]

theorem life_len (s : List Lf) (i : Nat) (e : Ev) : (lifeStep s i e).length = s.length + (if e.k = 43 then 1 else 0) := by
  unfold lifeStep
  split
  · simp
  · split <;> simp

theorem Good.says {l : List Ev} (h : Good l) : Good.Says l := by
  induction h with
  | nil => exact ⟨rfl, Nat.le_refl _, fun n => by simp [aliveL, livesL, livesFrom], List.Pairwise.nil, fun i f h => by simp [livesL, livesFrom] at h⟩
  | @snoc l e hg hf ih =>
    have hmade : (livesL (l ++ [e])).length = madeN (l ++ [e]) := by rw [livesL_snoc, life_len, madeN_snoc, ih.made]
    have hlt : ∀ n ∈ aliveL l, n ≤ madeN l := fun n hn => by
      obtain ⟨h1, f, h2, _⟩ := (ih.alive n).1 hn
      have := (List.getElem?_eq_some_iff.1 h2).1
      rw [ih.made] at this; omega
    refine ⟨hmade, ?_, ?_, ?_, ?_⟩
    · rw [madeN_snoc, List.length_append]
      have := ih.le
      split <;> simp <;> omega
    · intro n
      rw [aliveL_snoc, livesL_snoc]
      rcases hf with ⟨hk, hn⟩ | ⟨hk, hn⟩
      · unfold aliveStep lifeStep
        rw [if_pos hk, if_pos hk, List.mem_append, List.mem_singleton, ih.alive]
        constructor
        · rintro (⟨h1, f, h2, h3⟩ | rfl)
          · refine ⟨h1, f, ?_, h3⟩
            rw [List.getElem?_append_left (List.getElem?_eq_some_iff.1 h2).1]; exact h2
          · refine ⟨by omega, ⟨l.length, l.length, -1⟩, ?_, show (-1 : Int) < 0 by decide⟩
            rw [List.getElem?_append_right (by rw [ih.made]; omega)]
            rw [ih.made, show e.n - 1 - madeN l = 0 by omega]; rfl
        · rintro ⟨h1, f, h2, h3⟩
          by_cases hx : n - 1 < (livesL l).length
          · rw [List.getElem?_append_left hx] at h2
            exact .inl ⟨h1, f, h2, h3⟩
          · rw [List.getElem?_append_right (by omega)] at h2
            have := (List.getElem?_eq_some_iff.1 h2).1
            simp at this
            right; rw [ih.made] at this hx; omega
      · obtain ⟨hn1, f0, hf0, hd0⟩ := (ih.alive e.n).1 hn
        rcases hk with hk | hk
        · have h43 : ¬ e.k = 43 := by rw [hk]; decide
          have h45 : ¬ e.k = 45 := by rw [hk]; decide
          unfold aliveStep lifeStep
          rw [if_neg h43, if_neg h45, if_neg h43, if_pos hk, ih.alive]
          constructor
          · rintro ⟨h1, f, h2, h3⟩
            by_cases hx : e.n - 1 = n - 1
            · refine ⟨h1, { f with u := (l.length : Int) }, ?_, h3⟩
              rw [hx, mod_eq, h2]; rfl
            · refine ⟨h1, f, ?_, h3⟩
              rw [mod_ne hx]; exact h2
          · rintro ⟨h1, f, h2, h3⟩
            by_cases hx : e.n - 1 = n - 1
            · rw [hx, mod_eq] at h2
              rw [hx] at hf0
              exact ⟨h1, f0, hf0, hd0⟩
            · rw [mod_ne hx] at h2
              exact ⟨h1, f, h2, h3⟩
        · have h43 : ¬ e.k = 43 := by rw [hk]; decide
          have h46 : ¬ e.k = 46 := by rw [hk]; decide
          unfold aliveStep lifeStep
          rw [if_neg h43, if_pos hk, if_neg h43, if_neg h46, List.mem_filter, ih.alive]
          constructor
          · rintro ⟨⟨h1, f, h2, h3⟩, hne⟩
            have hne : n ≠ e.n := by simpa using hne
            refine ⟨h1, f, ?_, h3⟩
            rw [mod_ne (by omega)]; exact h2
          · rintro ⟨h1, f, h2, h3⟩
            by_cases hx : e.n - 1 = n - 1
            · rw [hx, mod_eq] at h2
              rw [hx] at hf0
              rw [hf0] at h2
              have := Option.some.inj h2
              rw [← this] at h3
              exact absurd h3 (by show ¬ ((l.length : Int) < 0); omega)
            · rw [mod_ne hx] at h2
              exact ⟨⟨h1, f, h2, h3⟩, by simp; omega⟩
    · rw [aliveL_snoc]
      unfold aliveStep
      split
      · rename_i hk
        rw [List.pairwise_append]
        refine ⟨ih.asc, List.pairwise_singleton _ _, fun a ha b hb => ?_⟩
        simp at hb; subst hb
        rcases hf with ⟨_, hn⟩ | ⟨h, _⟩
        · have := hlt a ha; omega
        · rw [hk] at h; exact absurd h (by decide)
      · split
        · exact ih.asc.filter _
        · exact ih.asc
    · intro i f h
      rw [livesL_snoc] at h
      rw [List.length_append]
      show _ ∧ _ ∧ f.u < ((l.length + 1 : Nat) : Int) ∧ _ ∧ f.d < ((l.length + 1 : Nat) : Int)
      unfold lifeStep at h
      split at h
      · by_cases hx : i < (livesL l).length
        · rw [List.getElem?_append_left hx] at h
          have := ih.bnd i f h; omega
        · rw [List.getElem?_append_right (by omega)] at h
          have hz := (List.getElem?_eq_some_iff.1 h).1
          simp at hz
          rw [show i - (livesL l).length = 0 by omega] at h
          have := Option.some.inj (show some (⟨l.length, l.length, -1⟩ : Lf) = some f from h)
          subst this
          show 0 ≤ (l.length : Int) ∧ (l.length : Int) ≤ (l.length : Int) ∧ (l.length : Int) < ((l.length + 1 : Nat) : Int) ∧ ((-1 : Int) = -1 ∨ (l.length : Int) < (-1 : Int)) ∧ (-1 : Int) < ((l.length + 1 : Nat) : Int)
          omega
      · split at h
        · by_cases hx : e.n - 1 = i
          · rw [hx, mod_eq] at h
            cases hl : (livesL l)[i]? with
            | none => rw [hl] at h; cases h
            | some f0 =>
              rw [hl] at h
              have := Option.some.inj h
              subst this
              have hb := ih.bnd i f0 hl
              have hd : f0.d < 0 := by
                rcases hf with ⟨hk, _⟩ | ⟨_, hn⟩
                · exact absurd hk (by assumption)
                · obtain ⟨_, f1, h1, h2⟩ := (ih.alive e.n).1 hn
                  rw [hx, hl] at h1
                  rw [Option.some.inj h1]; exact h2
              simp only
              omega
          · rw [mod_ne hx] at h
            have := ih.bnd i f h; omega
        · by_cases hx : e.n - 1 = i
          · rw [hx, mod_eq] at h
            cases hl : (livesL l)[i]? with
            | none => rw [hl] at h; cases h
            | some f0 =>
              rw [hl] at h
              have := Option.some.inj h
              subst this
              have hb := ih.bnd i f0 hl
              simp only
              omega
          · rw [mod_ne hx] at h
            have := ih.bnd i f h; omega

/-! ### Reading -/
/-- The event of a word, if it may come behind these. -/
def nextE (l : List Ev) : List UInt8 → Option Ev
  | [] => none
  | k :: d => match parseN d with | none => none | some n => if fits l ⟨k, n⟩ then some ⟨k, n⟩ else none

def readL : List (List UInt8) → List Ev → Option (List Ev)
  | [], acc => some acc
  | w :: ws, acc => if 600 ≤ acc.length then none else match nextE acc w with | none => none | some e => readL ws (acc ++ [e])

/-- The events of a text; none: it is not one of events. -/
def readP (s : ByteArray) : Option (List Ev) := if s = ⟨#[45]⟩ then some [] else readL (cutAt 32 s.data.toList) []

theorem readL_good : ∀ (ws : List (List UInt8)) (acc l : List Ev), Good acc → acc.length ≤ 600 → readL ws acc = some l → Good l ∧ l.length ≤ 600
  | [], acc, l, hg, hl, h => by
    unfold readL at h
    have := Option.some.inj h; subst this; exact ⟨hg, hl⟩
  | w :: ws, acc, l, hg, hl, h => by
    unfold readL at h
    split at h
    · cases h
    · rename_i h600
      split at h
      · cases h
      · rename_i e he
        refine readL_good ws _ l (hg.snoc ?_) (by simp; omega) h
        unfold nextE at he
        split at he
        · cases he
        · split at he
          · cases he
          · split at he
            · rename_i hf
              have := Option.some.inj he; subst this; exact hf
            · cases he
theorem readP_good {s : ByteArray} {l : List Ev} (h : readP s = some l) : Good l ∧ l.length ≤ 600 := by
  unfold readP at h
  split at h
  · have := Option.some.inj h; subst this; exact ⟨.nil, by simp⟩
  · exact readL_good _ _ _ .nil (by simp) h

/-- What fits has a number up to 601. -/
theorem fits_small {l : List Ev} (hg : Good l) (hl : l.length ≤ 600) {e : Ev} (h : fits l e) : 1 ≤ e.n ∧ e.n ≤ 601 := by
  have hs := hg.says
  have hle := hs.le
  rcases h with ⟨_, hn⟩ | ⟨_, hn⟩
  · omega
  · obtain ⟨h1, f, h2, _⟩ := (hs.alive _).1 hn
    have := (List.getElem?_eq_some_iff.1 h2).1
    rw [hs.made] at this; omega

/-- The next event, by a reading of numbers. -/
theorem nextE_by {f : List UInt8 → Option Int} (hf : Reads f) {l : List Ev} (hg : Good l) (hl : l.length ≤ 600) (k : UInt8) (d : List UInt8) :
    nextE l (k :: d) = match f d with | none => none | some v => if 0 ≤ v ∧ fits l ⟨k, v.toNat⟩ then some ⟨k, v.toNat⟩ else none := by
  show (match parseN d with | none => none | some n => if fits l ⟨k, n⟩ then some (⟨k, n⟩ : Ev) else none) = _
  cases hd : f d with
  | some v =>
    by_cases hv : 0 ≤ v
    · rw [(parseN_iff d v.toNat).2 (hf.of d v hd hv)]
      simp only [hv, true_and]
    · have : ¬ (0 ≤ v ∧ fits l ⟨k, v.toNat⟩) := fun e => hv e.1
      have hr : (if 0 ≤ v ∧ fits l ⟨k, v.toNat⟩ then some (⟨k, v.toNat⟩ : Ev) else none) = none := if_neg this
      show _ = if 0 ≤ v ∧ fits l ⟨k, v.toNat⟩ then some (⟨k, v.toNat⟩ : Ev) else none
      rw [hr]
      cases hp : parseN d with
      | none => rfl
      | some n =>
        show (if fits l ⟨k, n⟩ then some (⟨k, n⟩ : Ev) else none) = none
        rw [if_neg]
        intro hfit
        have hb := fits_small hg hl hfit
        have he := (parseN_iff d n).1 hp
        have := hf.to n hb.2
        rw [← he, hd] at this
        have := Option.some.inj this
        omega
  | none =>
    cases hp : parseN d with
    | none => rfl
    | some n =>
      show (if fits l ⟨k, n⟩ then some (⟨k, n⟩ : Ev) else none) = none
      rw [if_neg]
      intro hfit
      have hb := fits_small hg hl hfit
      have he := (parseN_iff d n).1 hp
      have := hf.to n hb.2
      rw [← he, hd] at this
      cases this

end Go.Proofs.YthgocacabadflaaDoor

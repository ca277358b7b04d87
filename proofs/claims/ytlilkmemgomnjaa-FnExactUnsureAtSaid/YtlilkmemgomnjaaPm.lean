/-
  Sets of letters as texts, and what is known as the model keeps it. Nothing of the translation is imported.
-/
import Derived.Test.YtlilkmemgomnjaaPl
namespace Go.Proofs.Ytlilkmemgomnjaa
set_option linter.unusedVariables false
set_option linter.unusedSimpArgs false

theorem mem_abc {v : UInt8} : v ∈ abc ↔ ltr v := by
  constructor
  · intro h
    simp [abc] at h
    rcases h with rfl | rfl | rfl | rfl | rfl | rfl <;> exact ⟨by decide, by decide⟩
  · rintro ⟨h1, h2⟩
    have e : v = UInt8.ofNat v.toNat := by simp
    rw [e]
    rcases (by omega : v.toNat = 97 ∨ v.toNat = 98 ∨ v.toNat = 99 ∨ v.toNat = 100 ∨ v.toNat = 101 ∨ v.toNat = 102) with h | h | h | h | h | h <;> rw [h] <;> decide

theorem mem_lets {s : Nat} {v : UInt8} : v ∈ lets s ↔ ltr v ∧ hasV s v = true := by
  unfold lets; rw [List.mem_filter, mem_abc]

theorem lets_contains {s : Nat} {v : UInt8} (h : ltr v) : (lets s).contains v = hasV s v := by
  cases e : hasV s v
  · rw [← Bool.not_eq_true, List.contains_iff_mem]; intro hm; rw [(mem_lets.1 hm).2] at e; cases e
  · rw [List.contains_iff_mem]; exact mem_lets.2 ⟨h, e⟩

theorem hasV_or (a b : Nat) (v : UInt8) : hasV (a ||| b) v = (hasV a v || hasV b v) := Nat.testBit_or ..
theorem hasV_and (a b : Nat) (v : UInt8) : hasV (a &&& b) v = (hasV a v && hasV b v) := Nat.testBit_and ..
theorem hasV_bit {v u : UInt8} (hv : ltr v) (hu : ltr u) : hasV (bitV v) u = (u == v) := by
  unfold hasV
  rw [bitV_bit]
  by_cases e : u = v
  · subst e; simp
  · have : ¬ u.toNat - 97 = v.toNat - 97 := by
      intro h
      apply e
      apply UInt8.toNat_inj.1
      have := hv.1; have := hu.1
      omega
    simp [e, this]
theorem hasV_strike {s t : Nat} {v : UInt8} (hv : ltr v) : hasV (strike s t) v = (hasV s v && !hasV t v) := by
  unfold hasV
  rw [strike_bit]
  have : v.toNat - 97 < 6 := by have := hv.1; have := hv.2; omega
  simp only [this, decide_true]
  cases s.testBit (v.toNat - 97) <;> cases t.testBit (v.toNat - 97) <;> rfl

theorem filter_abc {f g : UInt8 → Bool} (h : ∀ v, ltr v → f v = g v) : abc.filter f = abc.filter g :=
  List.filter_congr (fun v hv => h v (mem_abc.1 hv))

theorem lets_or (a b : Nat) : sortedOf (lets a ++ lets b) = lets (a ||| b) := by
  refine filter_abc fun v hv => ?_
  rw [List.contains_append, lets_contains hv, lets_contains hv, hasV_or]
theorem lets_with (s : Nat) {v : UInt8} (hv : ltr v) : sortedOf (lets s ++ [v]) = lets (s ||| bitV v) := by
  refine filter_abc fun u hu => ?_
  rw [List.contains_append, lets_contains hu, hasV_or, hasV_bit hv hu]
  cases hasV s u
  · simp only [Bool.false_or]; by_cases e : u = v
    · simp [e]
    · simp [e]
  · rfl
theorem lets_and (a b : Nat) : (lets a).filter (fun v => (lets b).contains v) = lets (a &&& b) := by
  unfold lets
  rw [List.filter_filter]
  refine filter_abc fun v hv => ?_
  have e := lets_contains (s := b) hv
  unfold lets at e
  rw [e, hasV_and, Bool.and_comm]
theorem lets_strike (s : Nat) {v : UInt8} (hv : ltr v) : (lets s).filter (fun u => u != v) = lets (strike s (bitV v)) := by
  unfold lets
  rw [List.filter_filter]
  refine filter_abc fun u hu => ?_
  rw [hasV_strike hu, hasV_bit hv hu, Bool.and_comm]
  rfl
theorem lets_len (s : Nat) : (lets s).length ≤ 6 := List.length_filter_le ..
theorem lets_ltr {s : Nat} {v : UInt8} (h : v ∈ lets s) : ltr v := (mem_lets.1 h).1

theorem lets_inj {a b : Nat} (ha : a < 64) (hb : b < 64) (h : lets a = lets b) : a = b := by
  refine six_ext ha hb fun i hi => ?_
  have e : ∀ v, ltr v → hasV a v = hasV b v := fun v hv => by rw [← lets_contains hv, ← lets_contains hv, h]
  have h1 : (UInt8.ofNat (97 + i)).toNat = 97 + i := by simp; omega
  have := e (UInt8.ofNat (97 + i)) ⟨by omega, by omega⟩
  unfold hasV at this
  rw [h1] at this
  have h2 : 97 + i - 97 = i := by omega
  rw [h2] at this
  exact this

/-! ### what the model does with a state -/
def Kn.set (k : Kn) (v : UInt8) : Kn := ⟨k.may ||| bitV v, k.must ||| bitV v⟩
def Kn.clear (k : Kn) (v : UInt8) : Kn := ⟨strike k.may (bitV v), strike k.must (bitV v)⟩
def Kn.need (k : Kn) (v : UInt8) : Kn := ⟨k.may, k.must ||| bitV v⟩

theorem strike_zero {s : Nat} (h : s < 64) : strike s 0 = s := by
  refine Nat.eq_of_testBit_eq fun i => ?_
  rw [strike_bit, Nat.zero_testBit]
  by_cases hi : i < 6
  · simp [hi]
  · simp [hi, lt64.1 h i (by omega)]
theorem or_has {s : Nat} {v : UInt8} (h : hasV s v = true) : s ||| bitV v = s := by
  refine Nat.eq_of_testBit_eq fun i => ?_
  rw [Nat.testBit_or, bitV_bit]
  by_cases e : i = v.toNat - 97
  · subst e; unfold hasV at h; simp [h]
  · simp [e]
theorem strike_strike {s : Nat} (h : s < 64) (a b : Nat) : strike (strike s a) b = strike s (a ||| b) := by
  refine Nat.eq_of_testBit_eq fun i => ?_
  simp only [strike_bit, Nat.testBit_or]
  by_cases hi : i < 6
  case neg => rw [lt64.1 h i (by omega)]; rfl
  simp only [hi, decide_true]
  cases s.testBit i <;> cases a.testBit i <;> cases b.testBit i <;> rfl
theorem strike_or_self (s : Nat) (v : UInt8) (hv : ltr v) : strike (s ||| bitV v) (bitV v) = strike s (bitV v) := by
  refine Nat.eq_of_testBit_eq fun i => ?_
  simp only [strike_bit, Nat.testBit_or]
  have : (bitV v).testBit i = true → decide (i < 6) = true := by
    intro h; rw [bitV_bit] at h
    have := hv.1; have := hv.2
    simp at h ⊢; omega
  cases e : (bitV v).testBit i
  · simp
  · rw [this e]; cases s.testBit i <;> rfl
theorem or_swap (a b c : Nat) : a ||| b ||| c = a ||| c ||| b := by rw [Nat.or_assoc, Nat.or_comm b, ← Nat.or_assoc]

theorem val_make {k : Kn} (h : k.Wf) (hn : k ≠ Kn.no) {v : UInt8} (hv : ltr v) : k.set v = k.changed (bitV v) 0 := by
  unfold Kn.changed Kn.set
  rw [if_neg hn, strike_zero (or_lt64 h.may (bitV_lt hv)), strike_zero (or_lt64 h.must (bitV_lt hv))]
theorem val_use {k : Kn} (h : k.Wf) (hn : k ≠ Kn.no) {v : UInt8} (hv : ltr v) (hh : hasV k.may v = true) : k.need v = k.changed (bitV v) 0 := by
  rw [← val_make h hn hv]
  unfold Kn.set Kn.need
  rw [or_has hh]
theorem val_clear {k : Kn} (h : k.Wf) (hn : k ≠ Kn.no) (v : UInt8) : k.clear v = k.changed 0 (bitV v) := by
  unfold Kn.changed Kn.clear
  rw [if_neg hn, Nat.or_zero, Nat.or_zero]
theorem val_drop {k : Kn} (h : k.Wf) (hn : k ≠ Kn.no) {v : UInt8} (hv : ltr v) : (k.need v).clear v = k.changed 0 (bitV v) := by
  rw [← val_clear h hn v]
  unfold Kn.clear Kn.need
  simp only
  rw [strike_or_self _ v hv]
theorem val_move {k : Kn} (h : k.Wf) (hn : k ≠ Kn.no) {v u : UInt8} (hu : ltr u) : ((k.need u).set v).clear u = k.changed (bitV v) (bitV u) := by
  unfold Kn.changed Kn.clear Kn.set Kn.need
  rw [if_neg hn]
  simp only [Kn.mk.injEq, true_and]
  rw [or_swap, strike_or_self _ u hu]

def Kn.clears (k : Kn) : List UInt8 → Kn
  | [] => k
  | v :: r => (k.clear v).clears r
theorem bitsV_fold (l : List UInt8) : ∀ a, l.foldl (fun s v => s ||| bitV v) a = a ||| bitsV l := by
  induction l with
  | nil => intro a; simp [bitsV]
  | cons v r ih =>
    intro a
    show r.foldl _ (a ||| bitV v) = a ||| r.foldl _ (0 ||| bitV v)
    rw [ih, ih (0 ||| bitV v), Nat.zero_or, Nat.or_assoc]
theorem bitsV_cons (v : UInt8) (r : List UInt8) : bitsV (v :: r) = bitV v ||| bitsV r := by
  show r.foldl _ (0 ||| bitV v) = _
  rw [bitsV_fold, Nat.zero_or]
theorem clears_eq : ∀ (l : List UInt8) (k : Kn), k.Wf → k.clears l = ⟨strike k.may (bitsV l), strike k.must (bitsV l)⟩
  | [], k, h => by
    show k = ⟨strike k.may 0, strike k.must 0⟩
    rw [strike_zero h.may, strike_zero h.must]
  | v :: r, k, h => by
    have hw : (k.clear v).may < 64 ∧ (k.clear v).must < 64 := ⟨strike_lt _ h.may, strike_lt _ h.must⟩
    rw [Kn.clears]
    have : ∀ (l : List UInt8) (k : Kn), k.may < 64 → k.must < 64 → k.clears l = ⟨strike k.may (bitsV l), strike k.must (bitsV l)⟩ := by
      intro l
      induction l with
      | nil => intro k h1 h2; show k = ⟨strike k.may 0, strike k.must 0⟩; rw [strike_zero h1, strike_zero h2]
      | cons u q ih =>
        intro k h1 h2
        rw [Kn.clears, ih _ (strike_lt _ h1) (strike_lt _ h2), bitsV_cons]
        simp only [Kn.clear, strike_strike h1, strike_strike h2]
    rw [this _ _ hw.1 hw.2, bitsV_cons]
    simp only [Kn.clear, strike_strike h.may, strike_strike h.must]
theorem val_clears {k : Kn} (h : k.Wf) (hn : k ≠ Kn.no) (l : List UInt8) : k.clears l = k.changed 0 (bitsV l) := by
  rw [clears_eq l k h]
  unfold Kn.changed
  rw [if_neg hn, Nat.or_zero, Nat.or_zero]

end Go.Proofs.Ytlilkmemgomnjaa

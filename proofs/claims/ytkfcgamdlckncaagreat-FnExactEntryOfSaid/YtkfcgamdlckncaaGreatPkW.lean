/-
  What is known of variables at each point of a program, as plain functions of its tree: a pair of sets of letters, joined, changed; a loop gone through until nothing is new. Nothing of the translation is imported.
  What is known of variables: it only grows with what is known ahead; loops come to an end; the notes of steps lie apart. Nothing of the translation is imported.
  A map from places to what is known there, told by its notes: what a look-up finds, what a store leaves. Nothing of the translation is imported.
  Sets of letters as texts, and what is known as the model keeps it. Nothing of the translation is imported.
  Notes as a list of places and what is known there, as the model keeps them. Nothing of the translation is imported.
  What is known at a point of a program, as the faces tell it. Nothing of the translation is imported.
-/
import Derived.Test.YtkfcgamdlckncaaGreatPureW
import Derived.Test.YtkfcgamdlckncaaGreatMemW
import Derived.Maps.OwnSet
import Derived.Lib.Hide
namespace Go.Proofs.YtkfcgamdlckncaaGreat
set_option linter.unusedVariables false
set_option linter.unusedSimpArgs false

/-- A letter that can be a variable. -/
def ltr (v : UInt8) : Prop := 97 ≤ v.toNat ∧ v.toNat ≤ 102

/-- The bit of a letter, and of letters. -/
def bitV (v : UInt8) : Nat := 1 <<< (v.toNat - 97)
def bitsV (l : List UInt8) : Nat := l.foldl (fun s v => s ||| bitV v) 0
def hasV (s : Nat) (v : UInt8) : Bool := s.testBit (v.toNat - 97)
def strike (s t : Nat) : Nat := s &&& (63 ^^^ t)
/-- The letters of a set. -/
def lets (s : Nat) : List UInt8 := abc.filter (fun v => hasV s v)

/-- What is known: the letters that may and that must hold a value. -/
structure Kn where
  may : Nat
  must : Nat
deriving DecidableEq

def Kn.no : Kn := ⟨0, 63⟩
def Kn.join (a b : Kn) : Kn := ⟨a.may ||| b.may, a.must &&& b.must⟩
def Kn.changed (k : Kn) (f e : Nat) : Kn := if k = Kn.no then k else ⟨strike (k.may ||| f) e, strike (k.must ||| f) e⟩
def Kn.needs (k : Kn) (v : UInt8) : Kn := if hasV k.may v then k else Kn.no
def Kn.le (a b : Kn) : Prop := a.join b = b
structure Kn.Wf (k : Kn) : Prop where
  may : k.may < 64
  must : k.must < 64
  sub : k = Kn.no ∨ k.must &&& k.may = k.must

theorem lt64 {n : Nat} : n < 64 ↔ ∀ i, 6 ≤ i → n.testBit i = false := by
  constructor
  · intro h i hi
    exact Nat.testBit_lt_two_pow (Nat.lt_of_lt_of_le h (by show 2 ^ 6 ≤ 2 ^ i; exact Nat.pow_le_pow_right (by omega) hi))
  · intro h
    exact Nat.lt_pow_two_of_testBit n (fun i hi => h i hi)

theorem or_lt64 {a b : Nat} (ha : a < 64) (hb : b < 64) : a ||| b < 64 := Nat.or_lt_two_pow (n := 6) ha hb
theorem and_lt64 {a : Nat} (b : Nat) (ha : a < 64) : a &&& b < 64 := by
  rw [lt64]; intro i hi; rw [Nat.testBit_and, lt64.1 ha i hi]; rfl
theorem strike_lt {a : Nat} (b : Nat) (ha : a < 64) : strike a b < 64 := and_lt64 _ ha
theorem bitV_lt {v : UInt8} (h : ltr v) : bitV v < 64 := by
  unfold bitV
  have h1 : v.toNat - 97 < 6 := by have := h.1; have := h.2; omega
  rw [Nat.shiftLeft_eq, Nat.one_mul]
  exact Nat.pow_lt_pow_right (by omega) h1
theorem bitsV_lt {l : List UInt8} (h : ∀ v ∈ l, ltr v) : bitsV l < 64 := by
  have : ∀ (l : List UInt8) (a : Nat), a < 64 → (∀ v ∈ l, ltr v) → l.foldl (fun s v => s ||| bitV v) a < 64 := by
    intro l
    induction l with
    | nil => intro a ha _; exact ha
    | cons v r ih => intro a ha hv; exact ih _ (or_lt64 ha (bitV_lt (hv v (by simp)))) (fun u hu => hv u (by simp [hu]))
  exact this l 0 (by omega) h

theorem bit63 (i : Nat) : (63 : Nat).testBit i = decide (i < 6) := by
  have h : (63 : Nat) = 2 ^ 6 - 1 := rfl
  rw [h, Nat.testBit_two_pow_sub_one]

theorem strike_bit (s t i : Nat) : (strike s t).testBit i = (s.testBit i && (decide (i < 6) != t.testBit i)) := by
  unfold strike
  rw [Nat.testBit_and, Nat.testBit_xor, bit63]

theorem bitV_bit (v : UInt8) (i : Nat) : (bitV v).testBit i = decide (i = v.toNat - 97) := by
  unfold bitV
  rw [Nat.shiftLeft_eq, Nat.one_mul, Nat.testBit_two_pow]
  by_cases h : v.toNat - 97 = i
  · simp [h]
  · have h' : ¬ i = v.toNat - 97 := fun e => h e.symm
    simp [h, h']

theorem kn_ext {a b : Kn} (h : ∀ i, a.may.testBit i = b.may.testBit i) (k : ∀ i, a.must.testBit i = b.must.testBit i) : a = b := by
  cases a; cases b
  simp only [Kn.mk.injEq]
  exact ⟨Nat.eq_of_testBit_eq h, Nat.eq_of_testBit_eq k⟩

theorem join_comm (a b : Kn) : a.join b = b.join a := by simp [Kn.join, Nat.or_comm a.may, Nat.and_comm a.must]
theorem join_assoc (a b c : Kn) : (a.join b).join c = a.join (b.join c) := by simp [Kn.join, Nat.or_assoc, Nat.and_assoc]
theorem join_self (a : Kn) : a.join a = a := by simp [Kn.join]
theorem Kn.le.refl (a : Kn) : a.le a := join_self a
theorem Kn.le.trans {a b c : Kn} (h : a.le b) (k : b.le c) : a.le c := by
  unfold Kn.le at *; rw [← k, ← join_assoc, h]
theorem Kn.le.antisymm {a b : Kn} (h : a.le b) (k : b.le a) : a = b := by
  unfold Kn.le at *; rw [← k, join_comm, h]
theorem le_join_left (a b : Kn) : a.le (a.join b) := by unfold Kn.le; rw [← join_assoc, join_self]
theorem le_join_right (a b : Kn) : b.le (a.join b) := by rw [join_comm]; exact le_join_left b a
theorem join_le {a b c : Kn} (h : a.le c) (k : b.le c) : (a.join b).le c := by
  unfold Kn.le at *; rw [join_assoc, k, h]
theorem join_mono {a b c d : Kn} (h : a.le c) (k : b.le d) : (a.join b).le (c.join d) :=
  join_le (h.trans (le_join_left c d)) (k.trans (le_join_right c d))

theorem Kn.le_iff {a b : Kn} : a.le b ↔ (∀ i, a.may.testBit i = true → b.may.testBit i = true) ∧ (∀ i, b.must.testBit i = true → a.must.testBit i = true) := by
  constructor
  · intro h
    unfold Kn.le Kn.join at h
    have h1 := congrArg Kn.may h
    have h2 := congrArg Kn.must h
    simp only at h1 h2
    refine ⟨fun i e => ?_, fun i e => ?_⟩
    · rw [← h1, Nat.testBit_or, e]; rfl
    · rw [← h2, Nat.testBit_and] at e; exact (Bool.and_eq_true_iff.1 e).1
  · rintro ⟨h1, h2⟩
    refine kn_ext (fun i => ?_) (fun i => ?_)
    · simp only [Kn.join, Nat.testBit_or]
      cases e : a.may.testBit i
      · rfl
      · rw [h1 i e]; rfl
    · simp only [Kn.join, Nat.testBit_and]
      cases e : b.must.testBit i
      · simp
      · rw [h2 i e]; rfl

theorem no_le {k : Kn} (h : k.must < 64) : Kn.no.le k := by
  refine Kn.le_iff.2 ⟨fun i e => ?_, fun i e => ?_⟩
  · simp [Kn.no] at e
  · show (63 : Nat).testBit i = true
    rw [bit63]
    by_cases hi : i < 6
    · simp [hi]
    · rw [lt64.1 h i (by omega)] at e; cases e

theorem le_no {k : Kn} (hk : k.Wf) (h : k.le Kn.no) : k = Kn.no := h.antisymm (no_le hk.must)

theorem wf_no : Kn.no.Wf := ⟨by decide, by decide, .inl rfl⟩
theorem wf_start : (⟨0, 0⟩ : Kn).Wf := ⟨by decide, by decide, .inr rfl⟩

theorem join_no {k : Kn} (h : k.must < 64) : Kn.no.join k = k := no_le h

theorem wf_sub {k : Kn} (h : k.Wf) (hn : k ≠ Kn.no) (i : Nat) (e : k.must.testBit i = true) : k.may.testBit i = true := by
  have hs := h.sub.resolve_left hn
  rw [← hs, Nat.testBit_and] at e
  exact (Bool.and_eq_true_iff.1 e).2

theorem wf_join {a b : Kn} (ha : a.Wf) (hb : b.Wf) : (a.join b).Wf := by
  by_cases ea : a = Kn.no
  · subst ea; rw [join_no hb.must]; exact hb
  by_cases eb : b = Kn.no
  · subst eb; rw [join_comm, join_no ha.must]; exact ha
  refine ⟨or_lt64 ha.may hb.may, and_lt64 _ ha.must, .inr ?_⟩
  refine Nat.eq_of_testBit_eq fun i => ?_
  simp only [Kn.join, Nat.testBit_and, Nat.testBit_or]
  cases e : a.must.testBit i
  · rfl
  · rw [wf_sub ha ea i e]; simp

/-- Live states stay alive when they are joined. -/
theorem join_live {a b : Kn} (ha : a.Wf) (hn : a ≠ Kn.no) : a.join b ≠ Kn.no := by
  intro e
  exact hn (le_no ha (e ▸ le_join_left a b))

theorem wf_changed {k : Kn} (h : k.Wf) {f e : Nat} (hf : f < 64) : (k.changed f e).Wf := by
  unfold Kn.changed
  split
  · exact h
  · rename_i hn
    refine ⟨strike_lt _ (or_lt64 h.may hf), strike_lt _ (or_lt64 h.must hf), .inr ?_⟩
    refine Nat.eq_of_testBit_eq fun i => ?_
    simp only [Nat.testBit_and, strike_bit, Nat.testBit_or]
    cases e1 : k.must.testBit i
    · cases f.testBit i <;> cases (decide (i < 6) != e.testBit i) <;> cases k.may.testBit i <;> rfl
    · rw [wf_sub h hn i e1]; cases (decide (i < 6) != e.testBit i) <;> rfl

theorem wf_needs {k : Kn} (h : k.Wf) (v : UInt8) : (k.needs v).Wf := by
  unfold Kn.needs; split
  · exact h
  · exact wf_no

/-- What is live stays so when it is changed (something must be no member of what must hold: 63 has all six, and then all six may). -/
theorem changed_live {k : Kn} (h : k.Wf) (hn : k ≠ Kn.no) {f e : Nat} (hf : f < 64) : k.changed f e ≠ Kn.no := by
  intro he
  have hw := wf_changed (f := f) (e := e) h hf
  unfold Kn.changed at he
  rw [if_neg hn] at he
  have h1 := congrArg Kn.may he
  have h2 := congrArg Kn.must he
  simp only [Kn.no] at h1 h2
  have e1 : (strike (k.must ||| f) e).testBit 0 = true := by rw [h2]; rfl
  have e2 : (strike (k.may ||| f) e).testBit 0 = false := by rw [h1]; rfl
  rw [strike_bit, Nat.testBit_or] at e1 e2
  cases e3 : k.must.testBit 0
  · rw [e3] at e1
    cases e4 : f.testBit 0
    · rw [e4] at e1; simp at e1
    · rw [e4] at e1 e2; simp at e1 e2; rw [e1] at e2; cases e2
  · rw [wf_sub h hn 0 e3] at e2
    rw [e3] at e1
    simp at e1 e2
    rw [e1] at e2; cases e2

theorem changed_mono {a b : Kn} (ha : a.Wf) (hb : b.Wf) (h : a.le b) {f e : Nat} (hf : f < 64) : (a.changed f e).le (b.changed f e) := by
  by_cases ea : a = Kn.no
  · subst ea
    have : (Kn.no).changed f e = Kn.no := by simp [Kn.changed]
    rw [this]
    exact no_le (wf_changed hb hf).must
  · have eb : b ≠ Kn.no := fun e => ea (le_no ha (e ▸ h))
    unfold Kn.changed
    rw [if_neg ea, if_neg eb]
    obtain ⟨h1, h2⟩ := Kn.le_iff.1 h
    refine Kn.le_iff.2 ⟨fun i => ?_, fun i => ?_⟩
    · simp only [strike_bit, Nat.testBit_or, Bool.and_eq_true_iff, Bool.or_eq_true_iff]
      rintro ⟨p, q⟩
      exact ⟨p.imp (h1 i) id, q⟩
    · simp only [strike_bit, Nat.testBit_or, Bool.and_eq_true_iff, Bool.or_eq_true_iff]
      rintro ⟨p, q⟩
      exact ⟨p.imp (h2 i) id, q⟩

theorem needs_mono {a b : Kn} (ha : a.Wf) (hb : b.Wf) (h : a.le b) (v : UInt8) : (a.needs v).le (b.needs v) := by
  unfold Kn.needs
  split
  · rename_i e
    have : hasV b.may v = true := (Kn.le_iff.1 h).1 _ e
    rw [if_pos this]; exact h
  · split
    · exact no_le hb.must
    · exact Kn.le.refl _

/-- What is known behind a step with variables. -/
def valK (c : UInt8) (vs : List UInt8) (k : Kn) : Kn :=
  match vs with
  | [v] => if c = 43 then k.changed (bitV v) 0 else if c = 46 then (k.needs v).changed (bitV v) 0 else if c = 45 then (k.needs v).changed 0 (bitV v) else k.changed 0 (bitV v)
  | [v, u] => (k.needs u).changed (bitV v) (bitV u)
  | _ => k

/-- A loop is gone through until nothing is new. -/
def loopK (f : Kn → Kn) : Nat → Kn → Kn
  | 0, k => k
  | n + 1, k => if k.join (f k) = k then k else loopK f n (k.join (f k))

abbrev Notes := Nat → Option Kn
/-- The first ones lie over the second ones. -/
def Notes.over (a b : Notes) : Notes := fun j => match a j with | some k => some k | none => b j
def point (i : Nat) (k : Kn) : Notes := fun j => if j = i then some k else none
def blank : Notes := fun _ => none

mutual
/-- What is known behind a step. -/
def Nd.know : Nd → Kn → Kn
  | .mk c b e vs ar .nil, k => if c = 94 ∨ c = 33 then Kn.no else valK c vs k
  | .mk c b e vs ar (.cons x .nil), k => if c = 42 then loopK (fun t => Nds.know x t) 13 k else (Nds.know x k).changed 0 (bitsV vs)
  | .mk c b e vs ar (.cons x (.cons y _)), k => (Nds.know x k).join (Nds.know y k)
def Nds.know : Nds → Kn → Kn
  | .nil, k => k
  | .cons x r, k => Nds.know r (Nd.know x k)
end

mutual
/-- What is known at the points of a step, where k is known ahead of it. -/
def Nd.note : Nd → Kn → Notes
  | .mk c b e vs ar .nil, k => point b k
  | .mk c b e vs ar (.cons x .nil), k => if c = 42 then (Nds.note x (loopK (fun t => Nds.know x t) 13 k)).over (point b k) else (point (e - 1) (Nds.know x k)).over ((Nds.note x k).over (point b k))
  | .mk c b e vs ar (.cons x (.cons y _)), k => (Nds.note y k).over ((Nds.note x k).over (point b k))
def Nds.note : Nds → Kn → Notes
  | .nil, k => blank
  | .cons x r, k => (Nds.note r (Nd.know x k)).over (Nd.note x k)
end

mutual
/-- Where the points of a step are, and that its variables are letters. -/
def Nd.Sp : Nd → Prop
  | .mk c b e vs ar .nil => b < e ∧ ∀ v ∈ vs, ltr v
  | .mk c b e vs ar (.cons x .nil) => (∀ v ∈ vs, ltr v) ∧ b + 1 ≤ e - 1 ∧ x.Sp (b + 1) (e - 1)
  | .mk c b e vs ar (.cons x (.cons y _)) => ∃ m, b + 1 ≤ m ∧ m ≤ e ∧ b < e ∧ x.Sp (b + 1) m ∧ y.Sp m e
def Nds.Sp : Nds → Nat → Nat → Prop
  | .nil, lo, hi => lo ≤ hi
  | .cons x r, lo, hi => lo ≤ x.beg ∧ x.Sp ∧ r.Sp x.fin hi
end

theorem Nds.Sp.lo : ∀ {x : Nds} {lo lo' hi : Nat}, x.Sp lo hi → lo' ≤ lo → x.Sp lo' hi
  | .nil, _, _, _, h, hl => by simp only [Nds.Sp] at *; omega
  | .cons x r, _, _, _, h, hl => by simp only [Nds.Sp] at *; exact ⟨by omega, h.2⟩
theorem Nds.Sp.hi : ∀ {x : Nds} {lo hi hi' : Nat}, x.Sp lo hi → hi ≤ hi' → x.Sp lo hi'
  | .nil, _, _, _, h, hl => by simp only [Nds.Sp] at *; omega
  | .cons x r, _, _, _, h, hl => by simp only [Nds.Sp] at *; exact ⟨h.1, h.2.1, h.2.2.hi hl⟩

theorem declP_ltr {s : ByteArray} : ∀ (n : Nat) (ar out : List UInt8) (k : Nat) (vs : List UInt8) (k1 : Nat), declP s n ar out k = some (vs, k1) → (∀ v ∈ out, ltr v) → ∀ v ∈ vs, ltr v
  | 0, ar, out, k, vs, k1, h, _ => by simp [declP] at h
  | n + 1, ar, out, k, vs, k1, h, ho => by
    rw [declP] at h
    cases hc : at? s k with
    | none => rw [hc] at h; cases h
    | some c =>
      rw [hc] at h
      simp only at h
      split at h
      · simp only [Option.some.injEq, Prod.mk.injEq] at h
        rw [← h.1]; exact ho
      · split at h
        · rename_i hcc
          refine declP_ltr n ar (out ++ [c]) (k + 1) vs k1 h ?_
          intro v hv
          rcases List.mem_append.1 hv with hv | hv
          · exact ho v hv
          · rw [List.mem_singleton.1 hv]
            exact ⟨UInt8.le_iff_toNat_le.1 hcc.1, UInt8.le_iff_toNat_le.1 hcc.2.1⟩
        · cases h

structure ReadsSp (s : ByteArray) (n : Nat) : Prop where
  step : ∀ ar d k x k2, (∀ v ∈ ar, ltr v) → stepP s n ar d k = some (x, k2) → x.Sp ∧ x.beg = k ∧ x.fin = k2 ∧ k < k2
  scope : ∀ ar d k x k2, (∀ v ∈ ar, ltr v) → scopeP s n ar d k = some (x, k2) → x.Sp ∧ x.beg = k ∧ x.fin = k2 ∧ k < k2
  brack : ∀ ar d k x k2, (∀ v ∈ ar, ltr v) → brackP s n ar d k = some (x, k2) → x.Sp (k + 1) (k2 - 1) ∧ k + 1 < k2
  steps : ∀ ar d e k x k2, (∀ v ∈ ar, ltr v) → stepsP s n ar d e k = some (x, k2) → x.Sp k (k2 - 1) ∧ k < k2

theorem readsSp (s : ByteArray) : ∀ n, ReadsSp s n
  | 0 => ⟨fun _ _ _ _ _ _ h => by simp [stepP] at h, fun _ _ _ _ _ _ h => by simp [scopeP] at h, fun _ _ _ _ _ _ h => by simp [brackP] at h, fun _ _ _ _ _ _ _ h => by simp [stepsP] at h⟩
  | n + 1 => by
    have ih := readsSp s n
    constructor
    · intro ar d k x k2 ha h
      rw [stepP] at h
      cases hc : at? s k with
      | none => rw [hc] at h; cases h
      | some c =>
        simp only [hc] at h
        split at h
        · rename_i hcc
          split at h
          · cases h
          · rename_i v k1 hv
            obtain ⟨rfl, _, hm⟩ := varP_some hv
            simp only [Option.some.injEq, Prod.mk.injEq] at h
            obtain ⟨rfl, rfl⟩ := h
            simp only [Nd.Sp, Nd.beg, Nd.fin]
            exact ⟨⟨by omega, by intro u hu; rw [List.mem_singleton.1 hu]; exact ha v hm⟩, trivial, trivial, by omega⟩
        split at h
        · rename_i hcc
          split at h
          · cases h
          · rename_i v u k1 hv
            obtain ⟨k0, h1, h2, _⟩ := moveP_some hv
            obtain ⟨rfl, _, hm1⟩ := varP_some h1
            obtain ⟨rfl, _, hm2⟩ := varP_some h2
            simp only [Option.some.injEq, Prod.mk.injEq] at h
            obtain ⟨rfl, rfl⟩ := h
            simp only [Nd.Sp, Nd.beg, Nd.fin]
            refine ⟨⟨by omega, ?_⟩, trivial, trivial, by omega⟩
            intro z hz
            simp at hz
            rcases hz with rfl | rfl
            · exact ha _ hm1
            · exact ha _ hm2
        split at h
        · rename_i hcc
          simp only [Option.some.injEq, Prod.mk.injEq] at h
          obtain ⟨rfl, rfl⟩ := h
          simp only [Nd.Sp, Nd.beg, Nd.fin]
          exact ⟨⟨by omega, by simp⟩, trivial, trivial, by omega⟩
        split at h
        · rename_i hcc
          split at h
          · cases h
          · rename_i x1 k1 h1
            split at h
            · cases h
            · rename_i x2 k2' h2
              obtain ⟨i1, l1⟩ := ih.brack _ _ _ _ _ ha h1
              obtain ⟨i2, l2⟩ := ih.brack _ _ _ _ _ ha h2
              simp only [Option.some.injEq, Prod.mk.injEq] at h
              obtain ⟨rfl, rfl⟩ := h
              simp only [Nd.Sp, Nd.beg, Nd.fin]
              exact ⟨⟨k1, by omega, by omega, by omega, (i1.lo (by omega)).hi (by omega), (i2.lo (by omega)).hi (by omega)⟩, trivial, trivial, by omega⟩
        split at h
        · rename_i hcc
          split at h
          · cases h
          · rename_i x1 k1 h1
            obtain ⟨i1, l1⟩ := ih.brack _ _ _ _ _ ha h1
            simp only [Option.some.injEq, Prod.mk.injEq] at h
            obtain ⟨rfl, rfl⟩ := h
            simp only [Nd.Sp, Nd.beg, Nd.fin]
            exact ⟨⟨by simp, by omega, i1.lo (by omega)⟩, trivial, trivial, by omega⟩
        split at h
        · exact ih.scope _ _ _ _ _ ha h
        · cases h
    · intro ar d k x k2 ha h
      rw [scopeP] at h
      split at h
      · cases h
      · split at h
        · cases h
        · rename_i vs k1 h1
          have hl := declP_len s _ _ _ _ _ _ h1
          have hvs := declP_ltr _ _ _ _ _ _ h1 (by simp)
          split at h
          · cases h
          · rename_i x1 k2' h2
            obtain ⟨i2, l2⟩ := ih.steps _ _ _ _ _ _ (by intro v hv; rcases List.mem_append.1 hv with hv | hv; exact ha v hv; exact hvs v hv) h2
            simp only [Option.some.injEq, Prod.mk.injEq] at h
            obtain ⟨rfl, rfl⟩ := h
            simp only [List.length_nil] at hl
            simp only [Nd.Sp, Nd.beg, Nd.fin]
            exact ⟨⟨hvs, by omega, i2.lo (by omega)⟩, trivial, trivial, by omega⟩
    · intro ar d k x k2 ha h
      rw [brackP] at h
      split at h
      · cases h
      · rename_i k1 h1
        obtain ⟨_, rfl, _⟩ := isP_some h1
        obtain ⟨i1, l1⟩ := ih.steps _ _ _ _ _ _ ha h
        exact ⟨i1, by omega⟩
    · intro ar d e k x k2 ha h
      rw [stepsP] at h
      split at h
      · simp only [Option.some.injEq, Prod.mk.injEq] at h
        obtain ⟨rfl, rfl⟩ := h
        simp only [Nds.Sp]
        exact ⟨by omega, by omega⟩
      · split at h
        · cases h
        · rename_i x1 k1 h1
          obtain ⟨i1, b1, f1, l1⟩ := ih.step _ _ _ _ _ ha h1
          split at h
          · cases h
          · rename_i r k2' h2
            obtain ⟨i2, l2⟩ := ih.steps _ _ _ _ _ _ ha h2
            simp only [Option.some.injEq, Prod.mk.injEq] at h
            obtain ⟨rfl, rfl⟩ := h
            simp only [Nds.Sp]
            exact ⟨⟨by omega, i1, by rw [f1]; exact i2⟩, by omega⟩

theorem progP_sp {s : ByteArray} {x : Nd} (h : progP s = some x) : x.Sp := by
  unfold progP at h
  split at h
  · cases h
  · split at h
    · split at h
      · cases h
      · rename_i y k hy
        split at h
        · have e := Option.some.inj h
          rw [← e]
          exact ((readsSp s (8 * s.size + 8)).scope _ _ _ _ _ (by simp) hy).1
        · cases h
    · cases h

end Go.Proofs.YtkfcgamdlckncaaGreat

namespace Go.Proofs.YtkfcgamdlckncaaGreat
set_option linter.unusedVariables false
set_option linter.unusedSimpArgs false

/-- How far a state has come: it can't come further than 12. -/
def bitN (s i : Nat) : Nat := (s.testBit i).toNat
def sumN (s : Nat) : Nat := bitN s 0 + bitN s 1 + bitN s 2 + bitN s 3 + bitN s 4 + bitN s 5
def Kn.w (k : Kn) : Nat := sumN k.may + (6 - sumN k.must)

theorem bitN_le (s i : Nat) : bitN s i ≤ 1 := by unfold bitN; cases s.testBit i <;> simp
theorem sumN_le (s : Nat) : sumN s ≤ 6 := by
  unfold sumN
  have := bitN_le s 0; have := bitN_le s 1; have := bitN_le s 2; have := bitN_le s 3; have := bitN_le s 4; have := bitN_le s 5
  omega
theorem w_le (k : Kn) : k.w ≤ 12 := by
  unfold Kn.w
  have := sumN_le k.may
  omega

theorem bitN_mono {a b i : Nat} (h : a.testBit i = true → b.testBit i = true) : bitN a i ≤ bitN b i := by
  unfold bitN
  cases e : a.testBit i
  · simp
  · rw [h e]; exact Nat.le_refl _
theorem bitN_inj {a b i : Nat} (h : bitN a i = bitN b i) : a.testBit i = b.testBit i := by
  unfold bitN at h
  cases e : a.testBit i <;> cases e' : b.testBit i <;> simp [e, e'] at h <;> rfl

theorem six_ext {a b : Nat} (ha : a < 64) (hb : b < 64) (h : ∀ i, i < 6 → a.testBit i = b.testBit i) : a = b := by
  refine Nat.eq_of_testBit_eq fun i => ?_
  by_cases hi : i < 6
  · exact h i hi
  · rw [lt64.1 ha i (by omega), lt64.1 hb i (by omega)]

theorem sumN_eq {a b : Nat} (ha : a < 64) (hb : b < 64) (h : ∀ i, a.testBit i = true → b.testBit i = true) : sumN a ≤ sumN b ∧ (sumN a = sumN b → a = b) := by
  have h0 := bitN_mono (h 0); have h1 := bitN_mono (h 1); have h2 := bitN_mono (h 2)
  have h3 := bitN_mono (h 3); have h4 := bitN_mono (h 4); have h5 := bitN_mono (h 5)
  unfold sumN
  refine ⟨by omega, fun e => six_ext ha hb fun i hi => bitN_inj ?_⟩
  rcases (by omega : i = 0 ∨ i = 1 ∨ i = 2 ∨ i = 3 ∨ i = 4 ∨ i = 5) with rfl | rfl | rfl | rfl | rfl | rfl <;> omega

theorem w_lt {a b : Kn} (ha : a.Wf) (hb : b.Wf) (h : a.le b) (hne : a ≠ b) : a.w < b.w := by
  obtain ⟨h1, h2⟩ := Kn.le_iff.1 h
  obtain ⟨l1, e1⟩ := sumN_eq ha.may hb.may h1
  obtain ⟨l2, e2⟩ := sumN_eq hb.must ha.must h2
  have l3 := sumN_le a.must
  unfold Kn.w
  rcases Nat.lt_or_ge (sumN a.may + (6 - sumN a.must)) (sumN b.may + (6 - sumN b.must)) with hl | hl
  · exact hl
  · refine absurd ?_ hne
    cases a; cases b
    simp only [Kn.mk.injEq] at *
    exact ⟨e1 (by omega), (e2 (by omega)).symm⟩

/-- What a loop's body is good for. -/
structure Steady (f : Kn → Kn) : Prop where
  wf : ∀ k, k.Wf → (f k).Wf
  mono : ∀ a b, a.Wf → b.Wf → a.le b → (f a).le (f b)

theorem loop_wf {f : Kn → Kn} (hf : Steady f) : ∀ (n : Nat) (k : Kn), k.Wf → (loopK f n k).Wf
  | 0, k, h => h
  | n + 1, k, h => by
    rw [loopK]; split
    · exact h
    · exact loop_wf hf n _ (wf_join h (hf.wf k h))

theorem loop_ge {f : Kn → Kn} : ∀ (n : Nat) (k : Kn), k.le (loopK f n k)
  | 0, k => Kn.le.refl k
  | n + 1, k => by
    rw [loopK]; split
    · exact Kn.le.refl k
    · exact (le_join_left k (f k)).trans (loop_ge n _)

theorem loop_fix {f : Kn → Kn} (hf : Steady f) : ∀ (n : Nat) (k : Kn), k.Wf → 13 ≤ n + k.w → (loopK f n k).join (f (loopK f n k)) = loopK f n k
  | 0, k, h, hn => by have := w_le k; omega
  | n + 1, k, h, hn => by
    rw [loopK]; split
    · assumption
    · rename_i hne
      have hw := wf_join h (hf.wf k h)
      have := w_lt h hw (le_join_left k (f k)) (fun e => hne e.symm)
      exact loop_fix hf n _ hw (by omega)

theorem loop_least {f : Kn → Kn} (hf : Steady f) {c : Kn} (hc : c.Wf) (hfc : (f c).le c) : ∀ (n : Nat) (k : Kn), k.Wf → k.le c → (loopK f n k).le c
  | 0, k, h, hk => hk
  | n + 1, k, h, hk => by
    rw [loopK]; split
    · exact hk
    · exact loop_least hf hc hfc n _ (wf_join h (hf.wf k h)) (join_le hk ((hf.mono k c h hc hk).trans hfc))

theorem loop_mono {f : Kn → Kn} (hf : Steady f) {a b : Kn} (ha : a.Wf) (hb : b.Wf) (h : a.le b) : (loopK f 13 a).le (loopK f 13 b) := by
  have e := loop_fix hf 13 b hb (by omega)
  refine loop_least hf (loop_wf hf 13 b hb) ?_ 13 a ha (h.trans (loop_ge 13 b))
  show (f _).join _ = _
  rw [join_comm]; exact e

theorem ltr_bit {v : UInt8} (h : ltr v) : bitV v < 64 := bitV_lt h

theorem valK_wf {c : UInt8} {vs : List UInt8} (hv : ∀ v ∈ vs, ltr v) {k : Kn} (h : k.Wf) : (valK c vs k).Wf := by
  unfold valK
  split
  · rename_i v
    have hb := bitV_lt (hv v (by simp))
    split
    · exact wf_changed h hb
    split
    · exact wf_changed (wf_needs h v) hb
    split
    · exact wf_changed (wf_needs h v) (by omega)
    · exact wf_changed h (by omega)
  · rename_i v u
    exact wf_changed (wf_needs h u) (bitV_lt (hv v (by simp)))
  · exact h

theorem valK_mono {c : UInt8} {vs : List UInt8} (hv : ∀ v ∈ vs, ltr v) {a b : Kn} (ha : a.Wf) (hb : b.Wf) (h : a.le b) : (valK c vs a).le (valK c vs b) := by
  unfold valK
  split
  · rename_i v
    have hl := bitV_lt (hv v (by simp))
    split
    · exact changed_mono ha hb h hl
    split
    · exact changed_mono (wf_needs ha v) (wf_needs hb v) (needs_mono ha hb h v) hl
    split
    · exact changed_mono (wf_needs ha v) (wf_needs hb v) (needs_mono ha hb h v) (by omega)
    · exact changed_mono ha hb h (by omega)
  · rename_i v u
    exact changed_mono (wf_needs ha u) (wf_needs hb u) (needs_mono ha hb h u) (bitV_lt (hv v (by simp)))
  · exact h

mutual
theorem Nd.steady : ∀ (x : Nd), x.Sp → Steady x.know
  | .mk c b e vs ar .nil, h => by
    simp only [Nd.Sp] at h
    refine ⟨fun k hk => ?_, fun p q hp hq hl => ?_⟩
    · simp only [Nd.know]; split
      · exact wf_no
      · exact valK_wf h.2 hk
    · simp only [Nd.know]; split
      · exact Kn.le.refl _
      · exact valK_mono h.2 hp hq hl
  | .mk c b e vs ar (.cons x .nil), h => by
    simp only [Nd.Sp] at h
    have hx := Nds.steady x _ _ h.2.2
    refine ⟨fun k hk => ?_, fun p q hp hq hl => ?_⟩
    · simp only [Nd.know]; split
      · exact loop_wf hx 13 k hk
      · exact wf_changed (hx.wf k hk) (by omega)
    · simp only [Nd.know]; split
      · exact loop_mono hx hp hq hl
      · exact changed_mono (hx.wf p hp) (hx.wf q hq) (hx.mono p q hp hq hl) (by omega)
  | .mk c b e vs ar (.cons x (.cons y z)), h => by
    simp only [Nd.Sp] at h
    obtain ⟨m, h1, h2, h3, h4, h5⟩ := h
    have hx := Nds.steady x _ _ h4
    have hy := Nds.steady y _ _ h5
    refine ⟨fun k hk => ?_, fun p q hp hq hl => ?_⟩
    · simp only [Nd.know]; exact wf_join (hx.wf k hk) (hy.wf k hk)
    · simp only [Nd.know]; exact join_mono (hx.mono p q hp hq hl) (hy.mono p q hp hq hl)
theorem Nds.steady : ∀ (x : Nds) (lo hi : Nat), x.Sp lo hi → Steady (Nds.know x)
  | .nil, lo, hi, h => ⟨fun k hk => by simpa only [Nds.know] using hk, fun p q _ _ hl => by simpa only [Nds.know] using hl⟩
  | .cons x r, lo, hi, h => by
    simp only [Nds.Sp] at h
    have hx := Nd.steady x h.2.1
    have hr := Nds.steady r _ _ h.2.2
    refine ⟨fun k hk => ?_, fun p q hp hq hl => ?_⟩
    · simp only [Nds.know]; exact hr.wf _ (hx.wf k hk)
    · simp only [Nds.know]; exact hr.mono _ _ (hx.wf p hp) (hx.wf q hq) (hx.mono p q hp hq hl)
end

/-! ### notes -/
theorem over_none {a b : Notes} {j : Nat} (h : a j = none) : a.over b j = b j := by simp [Notes.over, h]
theorem over_some {a b : Notes} {j : Nat} {k : Kn} (h : a j = some k) : a.over b j = some k := by simp [Notes.over, h]
theorem over_isSome (a b : Notes) (j : Nat) : (a.over b j).isSome = ((a j).isSome || (b j).isSome) := by
  unfold Notes.over; cases h : a j <;> simp
theorem over_cases {a b : Notes} {j : Nat} {k : Kn} (h : a.over b j = some k) : a j = some k ∨ (a j = none ∧ b j = some k) := by
  unfold Notes.over at h
  cases e : a j with
  | none => rw [e] at h; exact .inr ⟨rfl, h⟩
  | some t => rw [e] at h; exact .inl h
theorem point_isSome (i : Nat) (k : Kn) (j : Nat) : (point i k j).isSome = decide (j = i) := by
  unfold point; split <;> simp [*]

mutual
theorem Nd.note_dom : ∀ (x : Nd) (k k' : Kn) (j : Nat), (Nd.note x k j).isSome = (Nd.note x k' j).isSome
  | .mk c b e vs ar .nil, k, k', j => by simp only [Nd.note, point_isSome]
  | .mk c b e vs ar (.cons x .nil), k, k', j => by
    simp only [Nd.note]
    split
    · simp only [over_isSome, point_isSome]; rw [Nds.note_dom x _ (loopK (fun t => Nds.know x t) 13 k') j]
    · simp only [over_isSome, point_isSome]; rw [Nds.note_dom x k k' j]
  | .mk c b e vs ar (.cons x (.cons y z)), k, k', j => by
    simp only [Nd.note, over_isSome, point_isSome]
    rw [Nds.note_dom x k k' j, Nds.note_dom y k k' j]
theorem Nds.note_dom : ∀ (x : Nds) (k k' : Kn) (j : Nat), (Nds.note x k j).isSome = (Nds.note x k' j).isSome
  | .nil, k, k', j => by simp only [Nds.note]
  | .cons x r, k, k', j => by
    simp only [Nds.note, over_isSome]
    rw [Nd.note_dom x k k' j, Nds.note_dom r _ (Nd.know x k') j]
end

theorem point_some {i j : Nat} {k t : Kn} (h : point i k j = some t) : j = i ∧ t = k := by
  unfold point at h; split at h
  · rename_i e; exact ⟨e, (Option.some.inj h).symm⟩
  · cases h

theorem Nd.Sp.lt : ∀ {x : Nd}, x.Sp → x.beg < x.fin
  | .mk c b e vs ar .nil, h => by simp only [Nd.Sp, Nd.beg, Nd.fin] at *; exact h.1
  | .mk c b e vs ar (.cons x .nil), h => by simp only [Nd.Sp, Nd.beg, Nd.fin] at *; omega
  | .mk c b e vs ar (.cons x (.cons y z)), h => by simp only [Nd.Sp, Nd.beg, Nd.fin] at *; obtain ⟨m, h⟩ := h; omega
theorem Nds.Sp.le : ∀ {x : Nds} {lo hi : Nat}, x.Sp lo hi → lo ≤ hi
  | .nil, _, _, h => by simpa only [Nds.Sp] using h
  | .cons x r, _, _, h => by
    simp only [Nds.Sp] at h
    have := h.2.1.lt
    have := h.2.2.le
    omega

mutual
theorem Nd.note_in : ∀ (x : Nd) (k t : Kn) (j : Nat), x.Sp → Nd.note x k j = some t → x.beg ≤ j ∧ j < x.fin
  | .mk c b e vs ar .nil, k, t, j, h, hn => by
    simp only [Nd.Sp] at h
    simp only [Nd.note] at hn
    have := (point_some hn).1
    simp only [Nd.beg, Nd.fin]; omega
  | .mk c b e vs ar (.cons x .nil), k, t, j, h, hn => by
    simp only [Nd.Sp] at h
    simp only [Nd.note] at hn
    simp only [Nd.beg, Nd.fin]
    have hle := h.2.2.le
    split at hn
    · rcases over_cases hn with h1 | ⟨_, h1⟩
      · have := Nds.note_in x _ _ _ _ _ h.2.2 h1; omega
      · have := (point_some h1).1; omega
    · rcases over_cases hn with h1 | ⟨_, h1⟩
      · have := (point_some h1).1; omega
      · rcases over_cases h1 with h1 | ⟨_, h1⟩
        · have := Nds.note_in x _ _ _ _ _ h.2.2 h1; omega
        · have := (point_some h1).1; omega
  | .mk c b e vs ar (.cons x (.cons y z)), k, t, j, h, hn => by
    simp only [Nd.Sp] at h
    obtain ⟨m, h1, h2, h3, h4, h5⟩ := h
    simp only [Nd.note] at hn
    simp only [Nd.beg, Nd.fin]
    rcases over_cases hn with h6 | ⟨_, h6⟩
    · have := Nds.note_in y _ _ _ _ _ h5 h6; omega
    · rcases over_cases h6 with h6 | ⟨_, h6⟩
      · have := Nds.note_in x _ _ _ _ _ h4 h6; omega
      · have := (point_some h6).1; omega
theorem Nds.note_in : ∀ (x : Nds) (lo hi : Nat) (k t : Kn) (j : Nat), x.Sp lo hi → Nds.note x k j = some t → lo ≤ j ∧ j < hi
  | .nil, lo, hi, k, t, j, h, hn => by simp [Nds.note, blank] at hn
  | .cons x r, lo, hi, k, t, j, h, hn => by
    simp only [Nds.Sp] at h
    simp only [Nds.note] at hn
    have h1 := h.2.1.lt
    have h2 := h.2.2.le
    rcases over_cases hn with h6 | ⟨_, h6⟩
    · have := Nds.note_in r _ _ _ _ _ h.2.2 h6; omega
    · have := Nd.note_in x _ _ _ h.2.1 h6; omega
end

mutual
theorem Nd.note_wf : ∀ (x : Nd) (k t : Kn) (j : Nat), x.Sp → k.Wf → Nd.note x k j = some t → t.Wf
  | .mk c b e vs ar .nil, k, t, j, h, hk, hn => by
    simp only [Nd.note] at hn
    rw [(point_some hn).2]; exact hk
  | .mk c b e vs ar (.cons x .nil), k, t, j, h, hk, hn => by
    simp only [Nd.Sp] at h
    simp only [Nd.note] at hn
    have hx := Nds.steady x _ _ h.2.2
    split at hn
    · rcases over_cases hn with h1 | ⟨_, h1⟩
      · exact Nds.note_wf x _ _ _ _ _ h.2.2 (loop_wf hx 13 k hk) h1
      · rw [(point_some h1).2]; exact hk
    · rcases over_cases hn with h1 | ⟨_, h1⟩
      · rw [(point_some h1).2]; exact hx.wf k hk
      · rcases over_cases h1 with h1 | ⟨_, h1⟩
        · exact Nds.note_wf x _ _ _ _ _ h.2.2 hk h1
        · rw [(point_some h1).2]; exact hk
  | .mk c b e vs ar (.cons x (.cons y z)), k, t, j, h, hk, hn => by
    simp only [Nd.Sp] at h
    obtain ⟨m, h1, h2, h3, h4, h5⟩ := h
    simp only [Nd.note] at hn
    rcases over_cases hn with h6 | ⟨_, h6⟩
    · exact Nds.note_wf y _ _ _ _ _ h5 hk h6
    · rcases over_cases h6 with h6 | ⟨_, h6⟩
      · exact Nds.note_wf x _ _ _ _ _ h4 hk h6
      · rw [(point_some h6).2]; exact hk
theorem Nds.note_wf : ∀ (x : Nds) (lo hi : Nat) (k t : Kn) (j : Nat), x.Sp lo hi → k.Wf → Nds.note x k j = some t → t.Wf
  | .nil, lo, hi, k, t, j, h, hk, hn => by simp [Nds.note, blank] at hn
  | .cons x r, lo, hi, k, t, j, h, hk, hn => by
    simp only [Nds.Sp] at h
    simp only [Nds.note] at hn
    rcases over_cases hn with h6 | ⟨_, h6⟩
    · exact Nds.note_wf r _ _ _ _ _ h.2.2 ((Nd.steady x h.2.1).wf k hk) h6
    · exact Nd.note_wf x _ _ _ h.2.1 hk h6
end

/-- Notes that only grow. -/
def Notes.le (a b : Notes) : Prop := ∀ j t, a j = some t → ∃ u, b j = some u ∧ t.le u
theorem Notes.le.over {a b c d : Notes} (h : a.le c) (k : b.le d) (hd : ∀ j, (a j).isSome = (c j).isSome) : (a.over b).le (c.over d) := by
  intro j t e
  rcases over_cases e with e | ⟨e0, e⟩
  · obtain ⟨u, e1, e2⟩ := h j t e
    exact ⟨u, over_some e1, e2⟩
  · obtain ⟨u, e1, e2⟩ := k j t e
    have := hd j
    rw [e0] at this
    have hc : c j = none := by cases hcj : c j with | none => rfl | some z => rw [hcj] at this; cases this
    exact ⟨u, (over_none hc).trans e1, e2⟩
theorem point_le {i : Nat} {a b : Kn} (h : a.le b) : Notes.le (point i a) (point i b) := by
  intro j t e
  obtain ⟨rfl, rfl⟩ := point_some e
  exact ⟨b, by simp [point], h⟩

mutual
theorem Nd.note_mono : ∀ (x : Nd) (p q : Kn), x.Sp → p.Wf → q.Wf → p.le q → Notes.le (Nd.note x p) (Nd.note x q)
  | .mk c b e vs ar .nil, p, q, h, hp, hq, hl => by
    simp only [Nd.note]; exact point_le hl
  | .mk c b e vs ar (.cons x .nil), p, q, h, hp, hq, hl => by
    simp only [Nd.Sp] at h
    have hx := Nds.steady x _ _ h.2.2
    simp only [Nd.note]
    split
    · exact (Nds.note_mono x _ _ _ _ h.2.2 (loop_wf hx 13 p hp) (loop_wf hx 13 q hq) (loop_mono hx hp hq hl)).over (point_le hl) (Nds.note_dom x _ _)
    · exact (point_le (hx.mono p q hp hq hl)).over ((Nds.note_mono x _ _ _ _ h.2.2 hp hq hl).over (point_le hl) (Nds.note_dom x _ _)) (fun j => by simp only [point_isSome])
  | .mk c b e vs ar (.cons x (.cons y z)), p, q, h, hp, hq, hl => by
    simp only [Nd.Sp] at h
    obtain ⟨m, h1, h2, h3, h4, h5⟩ := h
    simp only [Nd.note]
    exact (Nds.note_mono y _ _ _ _ h5 hp hq hl).over ((Nds.note_mono x _ _ _ _ h4 hp hq hl).over (point_le hl) (Nds.note_dom x _ _)) (Nds.note_dom y _ _)
theorem Nds.note_mono : ∀ (x : Nds) (lo hi : Nat) (p q : Kn), x.Sp lo hi → p.Wf → q.Wf → p.le q → Notes.le (Nds.note x p) (Nds.note x q)
  | .nil, lo, hi, p, q, h, hp, hq, hl => by simp only [Nds.note]; intro j t e; cases e
  | .cons x r, lo, hi, p, q, h, hp, hq, hl => by
    simp only [Nds.Sp] at h
    have hx := Nd.steady x h.2.1
    simp only [Nds.note]
    exact (Nds.note_mono r _ _ _ _ h.2.2 (hx.wf p hp) (hx.wf q hq) (hx.mono p q hp hq hl)).over (Nd.note_mono x p q h.2.1 hp hq hl) (Nds.note_dom r _ _)
end

/-- Notes joined point by point (as the model notes). -/
def Notes.both (a b : Notes) : Notes := fun j => match a j, b j with | none, y => y | x, none => x | some x, some y => some (x.join y)
theorem both_blank_left (a : Notes) : Notes.both blank a = a := by funext j; simp [Notes.both, blank]
theorem both_apart {m a b : Notes} (h : ∀ j, a j = none ∨ b j = none) : Notes.both (Notes.both m b) a = Notes.both m (a.over b) := by
  funext j
  unfold Notes.both Notes.over
  rcases h j with h | h
  · rw [h]; cases m j <;> cases b j <;> rfl
  · rw [h]; cases m j <;> cases a j <;> rfl
/-- What is noted again, further on: only the last one counts. -/
theorem both_grow {m a b : Notes} (h : a.le b) : Notes.both (Notes.both m a) b = Notes.both m b := by
  funext j
  unfold Notes.both
  cases ha : a j with
  | none => cases m j <;> cases b j <;> rfl
  | some t =>
    obtain ⟨u, e1, e2⟩ := h j t ha
    rw [e1]
    cases m j with
    | none => show some (t.join u) = some u; rw [e2]
    | some v => show some ((v.join t).join u) = some (v.join u); rw [join_assoc, e2]
theorem over_again {m a b : Notes} (h : ∀ j, (a j).isSome = (b j).isSome) : b.over (a.over m) = b.over m := by
  funext j
  unfold Notes.over
  have := h j
  cases hb : b j with
  | some t => rfl
  | none => rw [hb] at this; cases ha : a j with | none => rfl | some z => rw [ha] at this; cases this
theorem over_assoc (a b c : Notes) : (a.over b).over c = a.over (b.over c) := by
  funext j; unfold Notes.over; cases a j <;> rfl
theorem over_blank (a : Notes) : a.over blank = a := by
  funext j; unfold Notes.over blank; cases a j <;> rfl

/-- The steps of a list lie apart, and the parts of a step. -/
theorem list_apart {x : Nd} {r : Nds} {lo hi : Nat} (h : (Nds.cons x r).Sp lo hi) (k k' : Kn) (j : Nat) : Nds.note r k' j = none ∨ Nd.note x k j = none := by
  simp only [Nds.Sp] at h
  cases e : Nds.note r k' j with
  | none => exact .inl rfl
  | some t =>
    refine .inr ?_
    cases e' : Nd.note x k j with
    | none => rfl
    | some u =>
      have := Nds.note_in r _ _ _ _ _ h.2.2 e
      have := Nd.note_in x _ _ _ h.2.1 e'
      omega
theorem body_apart {x : Nds} {lo hi i : Nat} (h : x.Sp lo hi) (hi' : i < lo ∨ hi ≤ i) (k k' : Kn) (j : Nat) : Nds.note x k j = none ∨ point i k' j = none := by
  cases e : Nds.note x k j with
  | none => exact .inl rfl
  | some t =>
    refine .inr ?_
    have := Nds.note_in x _ _ _ _ _ h e
    unfold point; rw [if_neg (by omega)]
theorem two_apart {x y : Nds} {a m e : Nat} (hx : x.Sp a m) (hy : y.Sp m e) (k k' : Kn) (j : Nat) : Nds.note y k j = none ∨ Nds.note x k' j = none := by
  cases e1 : Nds.note y k j with
  | none => exact .inl rfl
  | some t =>
    refine .inr ?_
    cases e2 : Nds.note x k' j with
    | none => rfl
    | some u =>
      have := Nds.note_in x _ _ _ _ _ hx e2
      have := Nds.note_in y _ _ _ _ _ hy e1
      omega

/-- What is known at all points of a program. -/
def notesP (x : Nd) : Notes := Nd.note x ⟨0, 0⟩

end Go.Proofs.YtkfcgamdlckncaaGreat

namespace Go.Proofs.YtkfcgamdlckncaaGreat
set_option linter.unusedVariables false
set_option linter.unusedSimpArgs false
open Go.Maps

/-- What is known, as a value. -/
def knV (k : Kn) : Value := .agg #[.int .u8 (k.may : Int), .int .u8 (k.must : Int)]
def knR (v : Value) : Option (DataW Value × List MemPlace) := some (.held v, [])
def keyL (j : Nat) : Lit := .int .i64 (j : Int)

/-- What stands at a key of a map that notes hold. -/
structure Holds (D : DataW Value) (M : Notes) : Prop where
  get : ∀ j, Maps.has D (keyL j) = (M j).isSome
  val : ∀ j k, M j = some k → ∀ z, D.atKey (keyL j) z = .held (knV k)
  keys : ∀ es, D = .map es → ∀ p ∈ es, ∃ j, j < 81 ∧ p.1 = keyL j

def MapAt (P : Program) (kt : TypeId) (w : World) (m : Nat) (M : Notes) : Prop := ∃ D : DataW Value, w.ownsMap P kt knR m 81 D ∧ Holds D M

/-- Notes at whatever number. -/
def noteI (M : Notes) (a : Int) : Option Kn := if 0 ≤ a then M a.toNat else none
def knO (o : Option Kn) : Kn := o.getD ⟨0, 0⟩

theorem keyL_inj {i j : Nat} (h : keyL i = keyL j) : i = j := by
  simp only [keyL, Lit.int.injEq, true_and] at h
  omega

theorem holds_blank : Holds (.map []) blank :=
  ⟨fun j => rfl, (fun j k h => nomatch h), fun es h p hp => by cases h; cases hp⟩

theorem MapAt.made (P : Program) (kt : TypeId) (w : World) : MapAt P kt (w.alloc (.map #[] 0)) w.heap.size blank :=
  ⟨_, (World.ownsMap_made w P kt knR).mono (by omega), holds_blank⟩

theorem MapAt.lt {P : Program} {kt : TypeId} {w : World} {m : Nat} {M : Notes} (h : MapAt P kt w m M) : m < w.heap.size := by
  obtain ⟨D, h, _⟩ := h; exact h.lt

theorem MapAt.keeps {P : Program} {kt : TypeId} {w w' : World} {m : Nat} {M : Notes} {may : Nat → Prop} (h : MapAt P kt w m M) (q : Keeps may w w') (hm : ¬ may m) : MapAt P kt w' m M := by
  obtain ⟨D, ho, hd⟩ := h
  have hl := ho.lt
  obtain ⟨es, clock, hb, r⟩ := ho
  exact ⟨D, ⟨es, clock, (q.block m hl hm).trans hb, r⟩, hd⟩

theorem mem_ins {x p : Lit × DataW Value} : ∀ (l : List (Lit × DataW Value)), p ∈ DataW.insert x l → p = x ∨ p ∈ l
  | [], h => by simpa [DataW.insert] using h
  | y :: r, h => by
    unfold DataW.insert at h
    split at h
    · rcases List.mem_cons.1 h with h | h
      · exact .inl h
      · exact .inr h
    · rcases List.mem_cons.1 h with h | h
      · exact .inr (by rw [h]; simp)
      · rcases mem_ins r h with h | h
        · exact .inl h
        · exact .inr (by simp [h])

theorem Holds.put {D : DataW Value} {M : Notes} (h : Holds D M) (hD : IsMap D) {j : Nat} (hj : j < 81) (k : Kn) : Holds (D.put (keyL j) (.held (knV k))) ((point j k).over M) := by
  have hk : WideAt.IsKeyLit (keyL j) := trivial
  refine ⟨fun i => ?_, fun i t e z => ?_, fun es e p hp => ?_⟩
  · by_cases hi : i = j
    · subst hi
      rw [has_put_same hD hk, over_some (k := k) (by simp [point])]
      rfl
    · rw [has_put_other (fun e => hi (keyL_inj e)), over_none (by simp [point, hi]), h.get]
  · by_cases hi : i = j
    · subst hi
      rw [over_some (k := k) (by simp [point])] at e
      rw [atKey_put_same hD hk]
      rw [Option.some.inj e]
    · rw [over_none (by simp [point, hi])] at e
      rw [atKey_put_other (fun e => hi (keyL_inj e)), h.val i t e]
  · obtain ⟨es0, rfl⟩ := hD
    have e' : DataW.map (DataW.insert (keyL j, .held (knV k)) (es0.filter fun p => !p.1.sameKey (keyL j))) = DataW.map es := e
    rw [← DataW.map.inj e'] at hp
    rcases mem_ins _ hp with rfl | hp
    · exact ⟨j, hj, rfl⟩
    · exact h.keys es0 rfl p (List.mem_filter.1 hp).1

/-! ### how many keys there are -/
theorem few_nat : ∀ (n : Nat) (l : List Nat), l.Nodup → (∀ x ∈ l, x < n) → l.length ≤ n
  | 0, l, _, h => by
    cases l with
    | nil => simp
    | cons x r => exact absurd (h x (by simp)) (by omega)
  | n + 1, l, hn, h => by
    have hn' : (l.erase n).Nodup := hn.erase n
    have hlt : ∀ x ∈ l.erase n, x < n := by
      intro x hx
      have h1 := h x (List.mem_of_mem_erase hx)
      have h2 : x ≠ n := by
        rintro rfl
        exact (List.Nodup.not_mem_erase hn) hx
      omega
    have := few_nat n (l.erase n) hn' hlt
    have h3 := List.le_length_erase (a := n) (l := l)
    omega

theorem Holds.few {D : DataW Value} {M : Notes} (h : Holds D M) (ht : Tidy D) : Maps.size D ≤ 81 := by
  obtain ⟨es, rfl, hp⟩ := ht
  have hkey := h.keys es rfl
  let f : Lit → Nat := fun l => match l with | .int _ a => a.toNat | _ => 0
  have hf : ∀ j, f (keyL j) = j := fun j => by show ((j : Int)).toNat = j; omega
  have hn : (es.map (fun p => f p.1)).Nodup := by
    refine List.Pairwise.map _ ?_ (List.Pairwise.and_mem.1 hp)
    rintro p q ⟨hp1, hq1, hne⟩ e
    obtain ⟨i, _, hi⟩ := hkey p hp1
    obtain ⟨j, _, hj⟩ := hkey q hq1
    rw [hi, hj, hf, hf] at e
    exact hne (by rw [hi, hj, e])
  have := few_nat 81 _ hn (by
    intro x hx
    obtain ⟨p, hp1, rfl⟩ := List.mem_map.1 hx
    obtain ⟨i, hlt, hi⟩ := hkey p hp1
    show f p.1 < 81
    rw [hi, hf]; exact hlt)
  simpa [Maps.size] using this

/-- 'm[k] = v'. -/
theorem MapAt.update {P : Program} {kt t e : TypeId} {w : World} {m : Nat} {M : Notes} (h : MapAt P kt w m M) (hk : P.underlying kt = some (.int .i64)) (ht : P.underlying t = some (.map kt e)) {j : Nat} (hj : j < 81) (k : Kn) :
    ∃ w', (Instr.mapUpdate t (.map (some m)) (.int .i64 (j : Int)) (knV k)).run P w = .ok () w' ∧ MapAt P kt w' m ((point j k).over M) ∧ Keeps (oneB m) w w' := by
  obtain ⟨D, ho, hd⟩ := h
  have K := int_keyed hk
  have hwf : (Lit.int .i64 (j : Int)).wf = true := by simp [Lit.wf, IntKind.min, IntKind.max, IntKind.signed, IntKind.bits]; omega
  obtain ⟨w', hrun, ho', hg⟩ := ho.update (val := knV k) K ht (by unfold maxLen; omega) (keyOf_int_mk hk hwf) (d := .held (knV k)) (ps := []) rfl
  have hd' := hd.put ho.isMap hj k
  have hsz := hd'.few (ho'.tidy K)
  obtain ⟨es, clock, hb, F, hs, hD⟩ := ho'
  refine ⟨w', hrun, ⟨_, ⟨es, clock, hb, F, ?_, hD⟩, hd'⟩, (Keeps.refl _ _).grown hg (fun i e => .inl (by cases e; rfl))⟩
  have hsz' : size (D.put (.int .i64 (j : Int)) (.held (knV k))) ≤ 81 := hsz
  rw [hD] at hsz'
  simpa [Maps.size, length_sorted] using hsz'

theorem Holds.noteI {D : DataW Value} {M : Notes} (h : Holds D M) (hD : IsMap D) (a : Int) : Maps.has D (.int .i64 a) = (noteI M a).isSome ∧ D.atKey (.int .i64 a) (.held (knV ⟨0, 0⟩)) = .held (knV (knO (noteI M a))) := by
  by_cases ha : 0 ≤ a
  · obtain ⟨j, rfl⟩ := Int.eq_ofNat_of_zero_le ha
    have e : Go.Proofs.YtkfcgamdlckncaaGreat.noteI M (j : Int) = M j := by unfold Go.Proofs.YtkfcgamdlckncaaGreat.noteI; rw [if_pos ha]; rfl
    rw [e]
    refine ⟨h.get j, ?_⟩
    cases hm : M j with
    | some k => exact h.val j k hm _
    | none =>
      have := h.get j
      rw [hm] at this
      exact atKey_of_not_has this _
  · have e : Go.Proofs.YtkfcgamdlckncaaGreat.noteI M a = none := by unfold Go.Proofs.YtkfcgamdlckncaaGreat.noteI; rw [if_neg ha]
    have hh : Maps.has D (.int .i64 a) = false := by
      obtain ⟨es, rfl⟩ := hD
      rw [Maps.has_eq, List.any_eq_false]
      intro p hp
      obtain ⟨j, _, hj⟩ := h.keys es rfl p hp
      rw [hj]
      have : Lit.sameKey (keyL j) (.int .i64 a) = false := Maps.sameKey_ne (fun e => by simp only [keyL, Lit.int.injEq, true_and] at e; omega)
      rw [this]; simp
    rw [e]
    exact ⟨hh, atKey_of_not_has hh _⟩

/-- 'v, ok := m[k]' and 'm[k]'. -/
theorem MapAt.look_ok {P : Program} {kt t e : TypeId} {w : World} {m : Nat} {M : Notes} (h : MapAt P kt w m M) (hk : P.underlying kt = some (.int .i64)) (ht : P.underlying t = some (.map kt e)) (hz : (zeroValue e).run P w = .ok (knV ⟨0, 0⟩) w) {a : Int} (ha : (Lit.int .i64 a).wf = true) :
    (Instr.lookup t (.map (some m)) (.int .i64 a) true).run P w = .ok (.tuple #[knV (knO (noteI M a)), .bool (noteI M a).isSome]) w := by
  obtain ⟨D, ho, hd⟩ := h
  obtain ⟨v, ps, hrun, hR⟩ := ho.look_ok (int_keyed hk) ht hz (zd := .held (knV ⟨0, 0⟩)) (zp := []) rfl (keyOf_int_mk hk ha)
  obtain ⟨e1, e2⟩ := hd.noteI ho.isMap a
  rw [hrun, e1]
  have : v = knV (knO (noteI M a)) := by
    simp only [knR, Option.some.injEq, Prod.mk.injEq] at hR
    have e3 := hR.1.trans e2
    exact DataW.held.inj e3
  rw [this]

theorem MapAt.look {P : Program} {kt t e : TypeId} {w : World} {m : Nat} {M : Notes} (h : MapAt P kt w m M) (hk : P.underlying kt = some (.int .i64)) (ht : P.underlying t = some (.map kt e)) (hz : (zeroValue e).run P w = .ok (knV ⟨0, 0⟩) w) {a : Int} (ha : (Lit.int .i64 a).wf = true) :
    (Instr.lookup t (.map (some m)) (.int .i64 a) false).run P w = .ok (knV (knO (noteI M a))) w := by
  obtain ⟨D, ho, hd⟩ := h
  obtain ⟨v, ps, hrun, hR⟩ := ho.lookup (int_keyed hk) ht hz (zd := .held (knV ⟨0, 0⟩)) (zp := []) rfl (keyOf_int_mk hk ha)
  obtain ⟨e1, e2⟩ := hd.noteI ho.isMap a
  rw [hrun]
  have : v = knV (knO (noteI M a)) := by
    simp only [knR, Option.some.injEq, Prod.mk.injEq] at hR
    have e3 := hR.1.trans e2
    exact DataW.held.inj e3
  rw [this]

end Go.Proofs.YtkfcgamdlckncaaGreat

namespace Go.Proofs.YtkfcgamdlckncaaGreat
set_option linter.unusedVariables false
set_option linter.unusedSimpArgs false

theorem mem_abc {v : UInt8} : v ∈ abc ↔ ltr v := by
  constructor
  · intro h
    simp [abc] at h
    rcases h with rfl | rfl | rfl | rfl | rfl | rfl <;> exact ⟨by decide, by decide⟩
  · rintro ⟨h1, h2⟩
    have e : v = UInt8.ofNat v.toNat := by simp
    rw [e]
    rcases (by omega : v.toNat = 97 ∨ v.toNat = 98 ∨ v.toNat = 99 ∨ v.toNat = 100 ∨ v.toNat = 101 ∨ v.toNat = 102) with h | h | h | h | h | h <;> rw [h] <;> decide

theorem mem_lets {s : Nat} {v : UInt8} : v ∈ lets s ↔ ltr v ∧ hasV s v = true := by
  unfold lets; rw [List.mem_filter, mem_abc]

theorem lets_contains {s : Nat} {v : UInt8} (h : ltr v) : (lets s).contains v = hasV s v := by
  cases e : hasV s v
  · rw [← Bool.not_eq_true, List.contains_iff_mem]; intro hm; rw [(mem_lets.1 hm).2] at e; cases e
  · rw [List.contains_iff_mem]; exact mem_lets.2 ⟨h, e⟩

theorem hasV_or (a b : Nat) (v : UInt8) : hasV (a ||| b) v = (hasV a v || hasV b v) := Nat.testBit_or ..
theorem hasV_and (a b : Nat) (v : UInt8) : hasV (a &&& b) v = (hasV a v && hasV b v) := Nat.testBit_and ..
theorem hasV_bit {v u : UInt8} (hv : ltr v) (hu : ltr u) : hasV (bitV v) u = (u == v) := by
  unfold hasV
  rw [bitV_bit]
  by_cases e : u = v
  · subst e; simp
  · have : ¬ u.toNat - 97 = v.toNat - 97 := by
      intro h
      apply e
      apply UInt8.toNat_inj.1
      have := hv.1; have := hu.1
      omega
    simp [e, this]
theorem hasV_strike {s t : Nat} {v : UInt8} (hv : ltr v) : hasV (strike s t) v = (hasV s v && !hasV t v) := by
  unfold hasV
  rw [strike_bit]
  have : v.toNat - 97 < 6 := by have := hv.1; have := hv.2; omega
  simp only [this, decide_true]
  cases s.testBit (v.toNat - 97) <;> cases t.testBit (v.toNat - 97) <;> rfl

theorem filter_abc {f g : UInt8 → Bool} (h : ∀ v, ltr v → f v = g v) : abc.filter f = abc.filter g :=
  List.filter_congr (fun v hv => h v (mem_abc.1 hv))

theorem lets_or (a b : Nat) : sortedOf (lets a ++ lets b) = lets (a ||| b) := by
  refine filter_abc fun v hv => ?_
  rw [List.contains_append, lets_contains hv, lets_contains hv, hasV_or]
theorem lets_with (s : Nat) {v : UInt8} (hv : ltr v) : sortedOf (lets s ++ [v]) = lets (s ||| bitV v) := by
  refine filter_abc fun u hu => ?_
  rw [List.contains_append, lets_contains hu, hasV_or, hasV_bit hv hu]
  cases hasV s u
  · simp only [Bool.false_or]; by_cases e : u = v
    · simp [e]
    · simp [e]
  · rfl
theorem lets_and (a b : Nat) : (lets a).filter (fun v => (lets b).contains v) = lets (a &&& b) := by
  unfold lets
  rw [List.filter_filter]
  refine filter_abc fun v hv => ?_
  have e := lets_contains (s := b) hv
  unfold lets at e
  rw [e, hasV_and, Bool.and_comm]
theorem lets_strike (s : Nat) {v : UInt8} (hv : ltr v) : (lets s).filter (fun u => u != v) = lets (strike s (bitV v)) := by
  unfold lets
  rw [List.filter_filter]
  refine filter_abc fun u hu => ?_
  rw [hasV_strike hu, hasV_bit hv hu, Bool.and_comm]
  rfl
theorem lets_len (s : Nat) : (lets s).length ≤ 6 := List.length_filter_le ..
theorem lets_ltr {s : Nat} {v : UInt8} (h : v ∈ lets s) : ltr v := (mem_lets.1 h).1

theorem lets_inj {a b : Nat} (ha : a < 64) (hb : b < 64) (h : lets a = lets b) : a = b := by
  refine six_ext ha hb fun i hi => ?_
  have e : ∀ v, ltr v → hasV a v = hasV b v := fun v hv => by rw [← lets_contains hv, ← lets_contains hv, h]
  have h1 : (UInt8.ofNat (97 + i)).toNat = 97 + i := by simp; omega
  have := e (UInt8.ofNat (97 + i)) ⟨by omega, by omega⟩
  unfold hasV at this
  rw [h1] at this
  have h2 : 97 + i - 97 = i := by omega
  rw [h2] at this
  exact this

/-! ### what the model does with a state -/
def Kn.set (k : Kn) (v : UInt8) : Kn := ⟨k.may ||| bitV v, k.must ||| bitV v⟩
def Kn.clear (k : Kn) (v : UInt8) : Kn := ⟨strike k.may (bitV v), strike k.must (bitV v)⟩
def Kn.need (k : Kn) (v : UInt8) : Kn := ⟨k.may, k.must ||| bitV v⟩

theorem strike_zero {s : Nat} (h : s < 64) : strike s 0 = s := by
  refine Nat.eq_of_testBit_eq fun i => ?_
  rw [strike_bit, Nat.zero_testBit]
  by_cases hi : i < 6
  · simp [hi]
  · simp [hi, lt64.1 h i (by omega)]
theorem or_has {s : Nat} {v : UInt8} (h : hasV s v = true) : s ||| bitV v = s := by
  refine Nat.eq_of_testBit_eq fun i => ?_
  rw [Nat.testBit_or, bitV_bit]
  by_cases e : i = v.toNat - 97
  · subst e; unfold hasV at h; simp [h]
  · simp [e]
theorem strike_strike {s : Nat} (h : s < 64) (a b : Nat) : strike (strike s a) b = strike s (a ||| b) := by
  refine Nat.eq_of_testBit_eq fun i => ?_
  simp only [strike_bit, Nat.testBit_or]
  by_cases hi : i < 6
  case neg => rw [lt64.1 h i (by omega)]; rfl
  simp only [hi, decide_true]
  cases s.testBit i <;> cases a.testBit i <;> cases b.testBit i <;> rfl
theorem strike_or_self (s : Nat) (v : UInt8) (hv : ltr v) : strike (s ||| bitV v) (bitV v) = strike s (bitV v) := by
  refine Nat.eq_of_testBit_eq fun i => ?_
  simp only [strike_bit, Nat.testBit_or]
  have : (bitV v).testBit i = true → decide (i < 6) = true := by
    intro h; rw [bitV_bit] at h
    have := hv.1; have := hv.2
    simp at h ⊢; omega
  cases e : (bitV v).testBit i
  · simp
  · rw [this e]; cases s.testBit i <;> rfl
theorem or_swap (a b c : Nat) : a ||| b ||| c = a ||| c ||| b := by rw [Nat.or_assoc, Nat.or_comm b, ← Nat.or_assoc]

theorem val_make {k : Kn} (h : k.Wf) (hn : k ≠ Kn.no) {v : UInt8} (hv : ltr v) : k.set v = k.changed (bitV v) 0 := by
  unfold Kn.changed Kn.set
  rw [if_neg hn, strike_zero (or_lt64 h.may (bitV_lt hv)), strike_zero (or_lt64 h.must (bitV_lt hv))]
theorem val_use {k : Kn} (h : k.Wf) (hn : k ≠ Kn.no) {v : UInt8} (hv : ltr v) (hh : hasV k.may v = true) : k.need v = k.changed (bitV v) 0 := by
  rw [← val_make h hn hv]
  unfold Kn.set Kn.need
  rw [or_has hh]
theorem val_clear {k : Kn} (h : k.Wf) (hn : k ≠ Kn.no) (v : UInt8) : k.clear v = k.changed 0 (bitV v) := by
  unfold Kn.changed Kn.clear
  rw [if_neg hn, Nat.or_zero, Nat.or_zero]
theorem val_drop {k : Kn} (h : k.Wf) (hn : k ≠ Kn.no) {v : UInt8} (hv : ltr v) : (k.need v).clear v = k.changed 0 (bitV v) := by
  rw [← val_clear h hn v]
  unfold Kn.clear Kn.need
  simp only
  rw [strike_or_self _ v hv]
theorem val_move {k : Kn} (h : k.Wf) (hn : k ≠ Kn.no) {v u : UInt8} (hu : ltr u) : ((k.need u).set v).clear u = k.changed (bitV v) (bitV u) := by
  unfold Kn.changed Kn.clear Kn.set Kn.need
  rw [if_neg hn]
  simp only [Kn.mk.injEq, true_and]
  rw [or_swap, strike_or_self _ u hu]

def Kn.clears (k : Kn) : List UInt8 → Kn
  | [] => k
  | v :: r => (k.clear v).clears r
theorem bitsV_fold (l : List UInt8) : ∀ a, l.foldl (fun s v => s ||| bitV v) a = a ||| bitsV l := by
  induction l with
  | nil => intro a; simp [bitsV]
  | cons v r ih =>
    intro a
    show r.foldl _ (a ||| bitV v) = a ||| r.foldl _ (0 ||| bitV v)
    rw [ih, ih (0 ||| bitV v), Nat.zero_or, Nat.or_assoc]
theorem bitsV_cons (v : UInt8) (r : List UInt8) : bitsV (v :: r) = bitV v ||| bitsV r := by
  show r.foldl _ (0 ||| bitV v) = _
  rw [bitsV_fold, Nat.zero_or]
theorem clears_eq : ∀ (l : List UInt8) (k : Kn), k.Wf → k.clears l = ⟨strike k.may (bitsV l), strike k.must (bitsV l)⟩
  | [], k, h => by
    show k = ⟨strike k.may 0, strike k.must 0⟩
    rw [strike_zero h.may, strike_zero h.must]
  | v :: r, k, h => by
    have hw : (k.clear v).may < 64 ∧ (k.clear v).must < 64 := ⟨strike_lt _ h.may, strike_lt _ h.must⟩
    rw [Kn.clears]
    have : ∀ (l : List UInt8) (k : Kn), k.may < 64 → k.must < 64 → k.clears l = ⟨strike k.may (bitsV l), strike k.must (bitsV l)⟩ := by
      intro l
      induction l with
      | nil => intro k h1 h2; show k = ⟨strike k.may 0, strike k.must 0⟩; rw [strike_zero h1, strike_zero h2]
      | cons u q ih =>
        intro k h1 h2
        rw [Kn.clears, ih _ (strike_lt _ h1) (strike_lt _ h2), bitsV_cons]
        simp only [Kn.clear, strike_strike h1, strike_strike h2]
    rw [this _ _ hw.1 hw.2, bitsV_cons]
    simp only [Kn.clear, strike_strike h.may, strike_strike h.must]
theorem val_clears {k : Kn} (h : k.Wf) (hn : k ≠ Kn.no) (l : List UInt8) : k.clears l = k.changed 0 (bitsV l) := by
  rw [clears_eq l k h]
  unfold Kn.changed
  rw [if_neg hn, Nat.or_zero, Nat.or_zero]

end Go.Proofs.YtkfcgamdlckncaaGreat

namespace Go.Proofs.YtkfcgamdlckncaaGreat
set_option linter.unusedVariables false
set_option linter.unusedSimpArgs false

abbrev AL := List (Nat × Kn)
def lookL : AL → Notes
  | [], _ => none
  | (i, k) :: r, j => if j = i then some k else lookL r j
def putL : AL → Nat → Kn → AL
  | [], i, s => [(i, s)]
  | (j, t) :: r, i, s => if j = i then (j, t.join s) :: r else (j, t) :: putL r i s
def keysL (l : AL) : List Nat := l.map Prod.fst

theorem lookL_put : ∀ (l : AL) (i : Nat) (s : Kn), lookL (putL l i s) = Notes.both (lookL l) (point i s)
  | [], i, s => by
    funext j
    simp only [putL, lookL, Notes.both, point]
  | (p, t) :: r, i, s => by
    funext j
    have ih := congrFun (lookL_put r i s) j
    unfold putL
    by_cases hp : p = i
    · subst hp
      rw [if_pos rfl]
      simp only [lookL, Notes.both, point]
      by_cases hj : j = p
      · simp only [hj, if_true]
      · simp only [hj, if_false]
        cases lookL r j <;> rfl
    · rw [if_neg hp]
      simp only [lookL]
      by_cases hj : j = p
      · subst hj
        simp only [if_true, Notes.both, point, hp, if_false, lookL]
      · simp only [hj, if_false]
        rw [ih]
        simp only [Notes.both, lookL, hj, if_false]

theorem putL_at : ∀ (pre : AL) {i : Nat} (t s : Kn) (r : AL), i ∉ keysL pre → putL (pre ++ (i, t) :: r) i s = pre ++ (i, t.join s) :: r
  | [], i, t, s, r, _ => by simp [putL]
  | (p, u) :: q, i, t, s, r, h => by
    have h1 : ¬ p = i := fun e => h (by simp [keysL, e])
    have h2 : i ∉ keysL q := fun e => h (by simp [keysL] at e ⊢; exact .inr e)
    simp only [List.cons_append, putL, h1, if_false]
    rw [putL_at q t s r h2]
theorem putL_new : ∀ (l : AL) {i : Nat} (s : Kn), i ∉ keysL l → putL l i s = l ++ [(i, s)]
  | [], i, s, _ => rfl
  | (p, u) :: q, i, s, h => by
    have h1 : ¬ p = i := fun e => h (by simp [keysL, e])
    have h2 : i ∉ keysL q := fun e => h (by simp [keysL] at e ⊢; exact .inr e)
    simp only [List.cons_append, putL, h1, if_false]
    rw [putL_new q s h2]
theorem lookL_at : ∀ (pre : AL) {i : Nat} (t : Kn) (r : AL), i ∉ keysL pre → lookL (pre ++ (i, t) :: r) i = some t
  | [], i, t, r, _ => by simp [lookL]
  | (p, u) :: q, i, t, r, h => by
    have h1 : ¬ i = p := fun e => h (by simp [keysL, e])
    have h2 : i ∉ keysL q := fun e => h (by simp [keysL] at e ⊢; exact .inr e)
    simp only [List.cons_append, lookL, h1, if_false]
    exact lookL_at q t r h2
theorem lookL_none : ∀ (l : AL) {i : Nat}, i ∉ keysL l → lookL l i = none
  | [], i, _ => rfl
  | (p, u) :: q, i, h => by
    have h1 : ¬ i = p := fun e => h (by simp [keysL, e])
    have h2 : i ∉ keysL q := fun e => h (by simp [keysL] at e ⊢; exact .inr e)
    simp only [lookL, h1, if_false]
    exact lookL_none q h2

/-- What such a list is good for. -/
structure AOk (l : AL) : Prop where
  nodup : (keysL l).Nodup
  lt : ∀ p ∈ l, p.1 < 81 ∧ p.2.Wf

theorem AOk.few {l : AL} (h : AOk l) : l.length ≤ 81 := by
  have := few_nat 81 (keysL l) h.nodup (by
    intro x hx
    obtain ⟨p, hp, rfl⟩ := List.mem_map.1 hx
    exact (h.lt p hp).1)
  simpa [keysL] using this
theorem AOk.nil : AOk [] := ⟨List.nodup_nil, fun p hp => by cases hp⟩

theorem keysL_split {l : AL} {i : Nat} (h : i ∈ keysL l) : ∃ pre t r, l = pre ++ (i, t) :: r ∧ i ∉ keysL pre := by
  induction l with
  | nil => simp [keysL] at h
  | cons p q ih =>
    obtain ⟨j, t⟩ := p
    by_cases e : j = i
    · subst e; exact ⟨[], t, q, rfl, by simp [keysL]⟩
    · have h2 : i ∈ keysL q := by
        simp only [keysL, List.map_cons, List.mem_cons] at h
        rcases h with h | h
        · exact absurd h.symm e
        · exact h
      obtain ⟨pre, u, r, rfl, hp⟩ := ih h2
      refine ⟨(j, t) :: pre, u, r, rfl, ?_⟩
      simp only [keysL, List.map_cons, List.mem_cons, not_or]
      exact ⟨fun e' => e e'.symm, hp⟩

theorem AOk.put {l : AL} (h : AOk l) {i : Nat} (hi : i < 81) {s : Kn} (hs : s.Wf) : AOk (putL l i s) := by
  by_cases hm : i ∈ keysL l
  · obtain ⟨pre, t, r, rfl, hp⟩ := keysL_split hm
    rw [putL_at pre t s r hp]
    refine ⟨?_, ?_⟩
    · have := h.nodup
      simpa [keysL] using this
    · intro p hpm
      have hlt := h.lt
      rcases List.mem_append.1 hpm with h1 | h1
      · exact hlt p (List.mem_append_left _ h1)
      · rcases List.mem_cons.1 h1 with h1 | h1
        · have ht := hlt (i, t) (by simp)
          rw [h1]; exact ⟨ht.1, wf_join ht.2 hs⟩
        · exact hlt p (by simp [h1])
  · rw [putL_new l s hm]
    refine ⟨?_, ?_⟩
    · unfold keysL at *
      rw [List.map_append, List.nodup_append]
      refine ⟨h.nodup, by simp, ?_⟩
      intro a ha b hb
      simp at hb
      subst hb
      intro e; subst e; exact hm ha
    · intro p hpm
      rcases List.mem_append.1 hpm with h1 | h1
      · exact h.lt p h1
      · rw [List.mem_singleton.1 h1]; exact ⟨hi, hs⟩

/-! ### what is known, as the model's values -/
def mayL (k : Kn) : List UInt8 := lets k.may
def mustL (k : Kn) : List UInt8 := if k = Kn.no then [] else lets k.must
def liveK (k : Kn) : Bool := decide (k ≠ Kn.no)

theorem mayL_no : mayL Kn.no = [] := by decide
theorem mustL_live {k : Kn} (h : k ≠ Kn.no) : mustL k = lets k.must := by simp [mustL, h]
theorem mustL_no : mustL Kn.no = [] := by simp [mustL]
theorem liveK_no : liveK Kn.no = false := by decide
theorem liveK_yes {k : Kn} (h : k ≠ Kn.no) : liveK k = true := by simp [liveK, h]
theorem mayL_len (k : Kn) : (mayL k).length ≤ 6 := lets_len _
theorem mustL_len (k : Kn) : (mustL k).length ≤ 6 := by unfold mustL; split; simp; exact lets_len _

theorem stK_inj {a b : Kn} (ha : a.Wf) (hb : b.Wf) (h1 : mayL a = mayL b) (h2 : mustL a = mustL b) (h3 : liveK a = liveK b) : a = b := by
  by_cases ea : a = Kn.no
  · subst ea
    rw [liveK_no] at h3
    by_cases eb : b = Kn.no
    · exact eb.symm
    · rw [liveK_yes eb] at h3; cases h3
  · by_cases eb : b = Kn.no
    · subst eb; rw [liveK_yes ea, liveK_no] at h3; cases h3
    · rw [mustL_live ea, mustL_live eb] at h2
      have e1 := lets_inj ha.may hb.may h1
      have e2 := lets_inj ha.must hb.must h2
      cases a; cases b; simp only at e1 e2; rw [e1, e2]

end Go.Proofs.YtkfcgamdlckncaaGreat

namespace Go.Proofs.YtkfcgamdlckncaaGreat
set_option linter.unusedVariables false
set_option linter.unusedSimpArgs false

/-- What is known at a point, if it is one and reached. -/
def seenK (o : Option Kn) : Option Kn := match o with | none => none | some k => if k = Kn.no then none else some k
def knownP (s : ByteArray) (at_ : Int) : Option Kn := match progP s with | none => none | some x => seenK (noteI (notesP x) at_)
def mayT (r : Option Kn) : ByteArray := match r with | none => ⟨#[]⟩ | some k => ⟨(lets k.may).toArray⟩
def mustT (r : Option Kn) : ByteArray := match r with | none => ⟨#[]⟩ | some k => ⟨(lets k.must).toArray⟩
def unsureT (r : Option Kn) : ByteArray := match r with | none => ⟨#[]⟩ | some k => ⟨(lets (strike k.may k.must)).toArray⟩
def canEndP (s : ByteArray) : Bool := (knownP s ((s.size : Int) - 1)).isSome

theorem noteI_wf {x : Nd} (hx : x.Sp) {a : Int} {k : Kn} (h : noteI (notesP x) a = some k) : k.Wf := by
  unfold noteI at h
  split at h
  · exact Nd.note_wf x _ _ _ hx wf_start h
  · cases h

theorem seen_some {o : Option Kn} {k : Kn} (h : seenK o = some k) : o = some k ∧ k ≠ Kn.no := by
  unfold seenK at h
  split at h
  · cases h
  · split at h
    · cases h
    · rename_i hn
      cases h
      exact ⟨rfl, hn⟩

end Go.Proofs.YtkfcgamdlckncaaGreat

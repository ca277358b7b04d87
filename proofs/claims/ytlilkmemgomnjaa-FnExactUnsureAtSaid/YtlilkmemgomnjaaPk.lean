/-
  What is known of variables at each point of a program, as plain functions of its tree: a pair of sets of letters, joined, changed; a loop gone through until nothing is new. Nothing of the translation is imported.
-/
import Derived.Test.YtlilkmemgomnjaaPureW
namespace Go.Proofs.Ytlilkmemgomnjaa
set_option linter.unusedVariables false
set_option linter.unusedSimpArgs false

/-- A letter that can be a variable. -/
def ltr (v : UInt8) : Prop := 97 ≤ v.toNat ∧ v.toNat ≤ 102

/-- The bit of a letter, and of letters. -/
def bitV (v : UInt8) : Nat := 1 <<< (v.toNat - 97)
def bitsV (l : List UInt8) : Nat := l.foldl (fun s v => s ||| bitV v) 0
def hasV (s : Nat) (v : UInt8) : Bool := s.testBit (v.toNat - 97)
def strike (s t : Nat) : Nat := s &&& (63 ^^^ t)
/-- The letters of a set. -/
def lets (s : Nat) : List UInt8 := abc.filter (fun v => hasV s v)

/-- What is known: the letters that may and that must hold a value. -/
structure Kn where
  may : Nat
  must : Nat
deriving DecidableEq

def Kn.no : Kn := ⟨0, 63⟩
def Kn.join (a b : Kn) : Kn := ⟨a.may ||| b.may, a.must &&& b.must⟩
def Kn.changed (k : Kn) (f e : Nat) : Kn := if k = Kn.no then k else ⟨strike (k.may ||| f) e, strike (k.must ||| f) e⟩
def Kn.needs (k : Kn) (v : UInt8) : Kn := if hasV k.may v then k else Kn.no
def Kn.le (a b : Kn) : Prop := a.join b = b
structure Kn.Wf (k : Kn) : Prop where
  may : k.may < 64
  must : k.must < 64
  sub : k = Kn.no ∨ k.must &&& k.may = k.must

theorem lt64 {n : Nat} : n < 64 ↔ ∀ i, 6 ≤ i → n.testBit i = false := by
  constructor
  · intro h i hi
    exact Nat.testBit_lt_two_pow (Nat.lt_of_lt_of_le h (by show 2 ^ 6 ≤ 2 ^ i; exact Nat.pow_le_pow_right (by omega) hi))
  · intro h
    exact Nat.lt_pow_two_of_testBit n (fun i hi => h i hi)

theorem or_lt64 {a b : Nat} (ha : a < 64) (hb : b < 64) : a ||| b < 64 := Nat.or_lt_two_pow (n := 6) ha hb
theorem and_lt64 {a : Nat} (b : Nat) (ha : a < 64) : a &&& b < 64 := by
  rw [lt64]; intro i hi; rw [Nat.testBit_and, lt64.1 ha i hi]; rfl
theorem strike_lt {a : Nat} (b : Nat) (ha : a < 64) : strike a b < 64 := and_lt64 _ ha
theorem bitV_lt {v : UInt8} (h : ltr v) : bitV v < 64 := by
  unfold bitV
  have h1 : v.toNat - 97 < 6 := by have := h.1; have := h.2; omega
  rw [Nat.shiftLeft_eq, Nat.one_mul]
  exact Nat.pow_lt_pow_right (by omega) h1
theorem bitsV_lt {l : List UInt8} (h : ∀ v ∈ l, ltr v) : bitsV l < 64 := by
  have : ∀ (l : List UInt8) (a : Nat), a < 64 → (∀ v ∈ l, ltr v) → l.foldl (fun s v => s ||| bitV v) a < 64 := by
    intro l
    induction l with
    | nil => intro a ha _; exact ha
    | cons v r ih => intro a ha hv; exact ih _ (or_lt64 ha (bitV_lt (hv v (by simp)))) (fun u hu => hv u (by simp [hu]))
  exact this l 0 (by omega) h

theorem bit63 (i : Nat) : (63 : Nat).testBit i = decide (i < 6) := by
  have h : (63 : Nat) = 2 ^ 6 - 1 := rfl
  rw [h, Nat.testBit_two_pow_sub_one]

theorem strike_bit (s t i : Nat) : (strike s t).testBit i = (s.testBit i && (decide (i < 6) != t.testBit i)) := by
  unfold strike
  rw [Nat.testBit_and, Nat.testBit_xor, bit63]

theorem bitV_bit (v : UInt8) (i : Nat) : (bitV v).testBit i = decide (i = v.toNat - 97) := by
  unfold bitV
  rw [Nat.shiftLeft_eq, Nat.one_mul, Nat.testBit_two_pow]
  by_cases h : v.toNat - 97 = i
  · simp [h]
  · have h' : ¬ i = v.toNat - 97 := fun e => h e.symm
    simp [h, h']

theorem kn_ext {a b : Kn} (h : ∀ i, a.may.testBit i = b.may.testBit i) (k : ∀ i, a.must.testBit i = b.must.testBit i) : a = b := by
  cases a; cases b
  simp only [Kn.mk.injEq]
  exact ⟨Nat.eq_of_testBit_eq h, Nat.eq_of_testBit_eq k⟩

theorem join_comm (a b : Kn) : a.join b = b.join a := by simp [Kn.join, Nat.or_comm a.may, Nat.and_comm a.must]
theorem join_assoc (a b c : Kn) : (a.join b).join c = a.join (b.join c) := by simp [Kn.join, Nat.or_assoc, Nat.and_assoc]
theorem join_self (a : Kn) : a.join a = a := by simp [Kn.join]
theorem Kn.le.refl (a : Kn) : a.le a := join_self a
theorem Kn.le.trans {a b c : Kn} (h : a.le b) (k : b.le c) : a.le c := by
  unfold Kn.le at *; rw [← k, ← join_assoc, h]
theorem Kn.le.antisymm {a b : Kn} (h : a.le b) (k : b.le a) : a = b := by
  unfold Kn.le at *; rw [← k, join_comm, h]
theorem le_join_left (a b : Kn) : a.le (a.join b) := by unfold Kn.le; rw [← join_assoc, join_self]
theorem le_join_right (a b : Kn) : b.le (a.join b) := by rw [join_comm]; exact le_join_left b a
theorem join_le {a b c : Kn} (h : a.le c) (k : b.le c) : (a.join b).le c := by
  unfold Kn.le at *; rw [join_assoc, k, h]
theorem join_mono {a b c d : Kn} (h : a.le c) (k : b.le d) : (a.join b).le (c.join d) :=
  join_le (h.trans (le_join_left c d)) (k.trans (le_join_right c d))

theorem Kn.le_iff {a b : Kn} : a.le b ↔ (∀ i, a.may.testBit i = true → b.may.testBit i = true) ∧ (∀ i, b.must.testBit i = true → a.must.testBit i = true) := by
  constructor
  · intro h
    unfold Kn.le Kn.join at h
    have h1 := congrArg Kn.may h
    have h2 := congrArg Kn.must h
    simp only at h1 h2
    refine ⟨fun i e => ?_, fun i e => ?_⟩
    · rw [← h1, Nat.testBit_or, e]; rfl
    · rw [← h2, Nat.testBit_and] at e; exact (Bool.and_eq_true_iff.1 e).1
  · rintro ⟨h1, h2⟩
    refine kn_ext (fun i => ?_) (fun i => ?_)
    · simp only [Kn.join, Nat.testBit_or]
      cases e : a.may.testBit i
      · rfl
      · rw [h1 i e]; rfl
    · simp only [Kn.join, Nat.testBit_and]
      cases e : b.must.testBit i
      · simp
      · rw [h2 i e]; rfl

theorem no_le {k : Kn} (h : k.must < 64) : Kn.no.le k := by
  refine Kn.le_iff.2 ⟨fun i e => ?_, fun i e => ?_⟩
  · simp [Kn.no] at e
  · show (63 : Nat).testBit i = true
    rw [bit63]
    by_cases hi : i < 6
    · simp [hi]
    · rw [lt64.1 h i (by omega)] at e; cases e

theorem le_no {k : Kn} (hk : k.Wf) (h : k.le Kn.no) : k = Kn.no := h.antisymm (no_le hk.must)

theorem wf_no : Kn.no.Wf := ⟨by decide, by decide, .inl rfl⟩
theorem wf_start : (⟨0, 0⟩ : Kn).Wf := ⟨by decide, by decide, .inr rfl⟩

theorem join_no {k : Kn} (h : k.must < 64) : Kn.no.join k = k := no_le h

theorem wf_sub {k : Kn} (h : k.Wf) (hn : k ≠ Kn.no) (i : Nat) (e : k.must.testBit i = true) : k.may.testBit i = true := by
  have hs := h.sub.resolve_left hn
  rw [← hs, Nat.testBit_and] at e
  exact (Bool.and_eq_true_iff.1 e).2

theorem wf_join {a b : Kn} (ha : a.Wf) (hb : b.Wf) : (a.join b).Wf := by
  by_cases ea : a = Kn.no
  · subst ea; rw [join_no hb.must]; exact hb
  by_cases eb : b = Kn.no
  · subst eb; rw [join_comm, join_no ha.must]; exact ha
  refine ⟨or_lt64 ha.may hb.may, and_lt64 _ ha.must, .inr ?_⟩
  refine Nat.eq_of_testBit_eq fun i => ?_
  simp only [Kn.join, Nat.testBit_and, Nat.testBit_or]
  cases e : a.must.testBit i
  · rfl
  · rw [wf_sub ha ea i e]; simp

/-- Live states stay alive when they are joined. -/
theorem join_live {a b : Kn} (ha : a.Wf) (hn : a ≠ Kn.no) : a.join b ≠ Kn.no := by
  intro e
  exact hn (le_no ha (e ▸ le_join_left a b))

theorem wf_changed {k : Kn} (h : k.Wf) {f e : Nat} (hf : f < 64) : (k.changed f e).Wf := by
  unfold Kn.changed
  split
  · exact h
  · rename_i hn
    refine ⟨strike_lt _ (or_lt64 h.may hf), strike_lt _ (or_lt64 h.must hf), .inr ?_⟩
    refine Nat.eq_of_testBit_eq fun i => ?_
    simp only [Nat.testBit_and, strike_bit, Nat.testBit_or]
    cases e1 : k.must.testBit i
    · cases f.testBit i <;> cases (decide (i < 6) != e.testBit i) <;> cases k.may.testBit i <;> rfl
    · rw [wf_sub h hn i e1]; cases (decide (i < 6) != e.testBit i) <;> rfl

theorem wf_needs {k : Kn} (h : k.Wf) (v : UInt8) : (k.needs v).Wf := by
  unfold Kn.needs; split
  · exact h
  · exact wf_no

/-- What is live stays so when it is changed (something must be no member of what must hold: 63 has all six, and then all six may). -/
theorem changed_live {k : Kn} (h : k.Wf) (hn : k ≠ Kn.no) {f e : Nat} (hf : f < 64) : k.changed f e ≠ Kn.no := by
  intro he
  have hw := wf_changed (f := f) (e := e) h hf
  unfold Kn.changed at he
  rw [if_neg hn] at he
  have h1 := congrArg Kn.may he
  have h2 := congrArg Kn.must he
  simp only [Kn.no] at h1 h2
  have e1 : (strike (k.must ||| f) e).testBit 0 = true := by rw [h2]; rfl
  have e2 : (strike (k.may ||| f) e).testBit 0 = false := by rw [h1]; rfl
  rw [strike_bit, Nat.testBit_or] at e1 e2
  cases e3 : k.must.testBit 0
  · rw [e3] at e1
    cases e4 : f.testBit 0
    · rw [e4] at e1; simp at e1
    · rw [e4] at e1 e2; simp at e1 e2; rw [e1] at e2; cases e2
  · rw [wf_sub h hn 0 e3] at e2
    rw [e3] at e1
    simp at e1 e2
    rw [e1] at e2; cases e2

theorem changed_mono {a b : Kn} (ha : a.Wf) (hb : b.Wf) (h : a.le b) {f e : Nat} (hf : f < 64) : (a.changed f e).le (b.changed f e) := by
  by_cases ea : a = Kn.no
  · subst ea
    have : (Kn.no).changed f e = Kn.no := by simp [Kn.changed]
    rw [this]
    exact no_le (wf_changed hb hf).must
  · have eb : b ≠ Kn.no := fun e => ea (le_no ha (e ▸ h))
    unfold Kn.changed
    rw [if_neg ea, if_neg eb]
    obtain ⟨h1, h2⟩ := Kn.le_iff.1 h
    refine Kn.le_iff.2 ⟨fun i => ?_, fun i => ?_⟩
    · simp only [strike_bit, Nat.testBit_or, Bool.and_eq_true_iff, Bool.or_eq_true_iff]
      rintro ⟨p, q⟩
      exact ⟨p.imp (h1 i) id, q⟩
    · simp only [strike_bit, Nat.testBit_or, Bool.and_eq_true_iff, Bool.or_eq_true_iff]
      rintro ⟨p, q⟩
      exact ⟨p.imp (h2 i) id, q⟩

theorem needs_mono {a b : Kn} (ha : a.Wf) (hb : b.Wf) (h : a.le b) (v : UInt8) : (a.needs v).le (b.needs v) := by
  unfold Kn.needs
  split
  · rename_i e
    have : hasV b.may v = true := (Kn.le_iff.1 h).1 _ e
    rw [if_pos this]; exact h
  · split
    · exact no_le hb.must
    · exact Kn.le.refl _

/-- What is known behind a step with variables. -/
def valK (c : UInt8) (vs : List UInt8) (k : Kn) : Kn :=
  match vs with
  | [v] => if c = 43 then k.changed (bitV v) 0 else if c = 46 then (k.needs v).changed (bitV v) 0 else if c = 45 then (k.needs v).changed 0 (bitV v) else k.changed 0 (bitV v)
  | [v, u] => (k.needs u).changed (bitV v) (bitV u)
  | _ => k

/-- A loop is gone through until nothing is new. -/
def loopK (f : Kn → Kn) : Nat → Kn → Kn
  | 0, k => k
  | n + 1, k => if k.join (f k) = k then k else loopK f n (k.join (f k))

abbrev Notes := Nat → Option Kn
/-- The first ones lie over the second ones. -/
def Notes.over (a b : Notes) : Notes := fun j => match a j with | some k => some k | none => b j
def point (i : Nat) (k : Kn) : Notes := fun j => if j = i then some k else none
def blank : Notes := fun _ => none

mutual
/-- What is known behind a step. -/
def Nd.know : Nd → Kn → Kn
  | .mk c b e vs ar .nil, k => if c = 94 ∨ c = 33 then Kn.no else valK c vs k
  | .mk c b e vs ar (.cons x .nil), k => if c = 42 then loopK (fun t => Nds.know x t) 13 k else (Nds.know x k).changed 0 (bitsV vs)
  | .mk c b e vs ar (.cons x (.cons y _)), k => (Nds.know x k).join (Nds.know y k)
def Nds.know : Nds → Kn → Kn
  | .nil, k => k
  | .cons x r, k => Nds.know r (Nd.know x k)
end

mutual
/-- What is known at the points of a step, where k is known ahead of it. -/
def Nd.note : Nd → Kn → Notes
  | .mk c b e vs ar .nil, k => point b k
  | .mk c b e vs ar (.cons x .nil), k => if c = 42 then (Nds.note x (loopK (fun t => Nds.know x t) 13 k)).over (point b k) else (point (e - 1) (Nds.know x k)).over ((Nds.note x k).over (point b k))
  | .mk c b e vs ar (.cons x (.cons y _)), k => (Nds.note y k).over ((Nds.note x k).over (point b k))
def Nds.note : Nds → Kn → Notes
  | .nil, k => blank
  | .cons x r, k => (Nds.note r (Nd.know x k)).over (Nd.note x k)
end

mutual
/-- Where the points of a step are, and that its variables are letters. -/
def Nd.Sp : Nd → Prop
  | .mk c b e vs ar .nil => b < e ∧ ∀ v ∈ vs, ltr v
  | .mk c b e vs ar (.cons x .nil) => (∀ v ∈ vs, ltr v) ∧ b + 1 ≤ e - 1 ∧ x.Sp (b + 1) (e - 1)
  | .mk c b e vs ar (.cons x (.cons y _)) => ∃ m, b + 1 ≤ m ∧ m ≤ e ∧ b < e ∧ x.Sp (b + 1) m ∧ y.Sp m e
def Nds.Sp : Nds → Nat → Nat → Prop
  | .nil, lo, hi => lo ≤ hi
  | .cons x r, lo, hi => lo ≤ x.beg ∧ x.Sp ∧ r.Sp x.fin hi
end

theorem Nds.Sp.lo : ∀ {x : Nds} {lo lo' hi : Nat}, x.Sp lo hi → lo' ≤ lo → x.Sp lo' hi
  | .nil, _, _, _, h, hl => by simp only [Nds.Sp] at *; omega
  | .cons x r, _, _, _, h, hl => by simp only [Nds.Sp] at *; exact ⟨by omega, h.2⟩
theorem Nds.Sp.hi : ∀ {x : Nds} {lo hi hi' : Nat}, x.Sp lo hi → hi ≤ hi' → x.Sp lo hi'
  | .nil, _, _, _, h, hl => by simp only [Nds.Sp] at *; omega
  | .cons x r, _, _, _, h, hl => by simp only [Nds.Sp] at *; exact ⟨h.1, h.2.1, h.2.2.hi hl⟩

theorem declP_ltr {s : ByteArray} : ∀ (n : Nat) (ar out : List UInt8) (k : Nat) (vs : List UInt8) (k1 : Nat), declP s n ar out k = some (vs, k1) → (∀ v ∈ out, ltr v) → ∀ v ∈ vs, ltr v
  | 0, ar, out, k, vs, k1, h, _ => by simp [declP] at h
  | n + 1, ar, out, k, vs, k1, h, ho => by
    rw [declP] at h
    cases hc : at? s k with
    | none => rw [hc] at h; cases h
    | some c =>
      rw [hc] at h
      simp only at h
      split at h
      · simp only [Option.some.injEq, Prod.mk.injEq] at h
        rw [← h.1]; exact ho
      · split at h
        · rename_i hcc
          refine declP_ltr n ar (out ++ [c]) (k + 1) vs k1 h ?_
          intro v hv
          rcases List.mem_append.1 hv with hv | hv
          · exact ho v hv
          · rw [List.mem_singleton.1 hv]
            exact ⟨UInt8.le_iff_toNat_le.1 hcc.1, UInt8.le_iff_toNat_le.1 hcc.2.1⟩
        · cases h

structure ReadsSp (s : ByteArray) (n : Nat) : Prop where
  step : ∀ ar d k x k2, (∀ v ∈ ar, ltr v) → stepP s n ar d k = some (x, k2) → x.Sp ∧ x.beg = k ∧ x.fin = k2 ∧ k < k2
  scope : ∀ ar d k x k2, (∀ v ∈ ar, ltr v) → scopeP s n ar d k = some (x, k2) → x.Sp ∧ x.beg = k ∧ x.fin = k2 ∧ k < k2
  brack : ∀ ar d k x k2, (∀ v ∈ ar, ltr v) → brackP s n ar d k = some (x, k2) → x.Sp (k + 1) (k2 - 1) ∧ k + 1 < k2
  steps : ∀ ar d e k x k2, (∀ v ∈ ar, ltr v) → stepsP s n ar d e k = some (x, k2) → x.Sp k (k2 - 1) ∧ k < k2

theorem readsSp (s : ByteArray) : ∀ n, ReadsSp s n
  | 0 => ⟨fun _ _ _ _ _ _ h => by simp [stepP] at h, fun _ _ _ _ _ _ h => by simp [scopeP] at h, fun _ _ _ _ _ _ h => by simp [brackP] at h, fun _ _ _ _ _ _ _ h => by simp [stepsP] at h⟩
  | n + 1 => by
    have ih := readsSp s n
    constructor
    · intro ar d k x k2 ha h
      rw [stepP] at h
      cases hc : at? s k with
      | none => rw [hc] at h; cases h
      | some c =>
        simp only [hc] at h
        split at h
        · rename_i hcc
          split at h
          · cases h
          · rename_i v k1 hv
            obtain ⟨rfl, _, hm⟩ := varP_some hv
            simp only [Option.some.injEq, Prod.mk.injEq] at h
            obtain ⟨rfl, rfl⟩ := h
            simp only [Nd.Sp, Nd.beg, Nd.fin]
            exact ⟨⟨by omega, by intro u hu; rw [List.mem_singleton.1 hu]; exact ha v hm⟩, trivial, trivial, by omega⟩
        split at h
        · rename_i hcc
          split at h
          · cases h
          · rename_i v u k1 hv
            obtain ⟨k0, h1, h2, _⟩ := moveP_some hv
            obtain ⟨rfl, _, hm1⟩ := varP_some h1
            obtain ⟨rfl, _, hm2⟩ := varP_some h2
            simp only [Option.some.injEq, Prod.mk.injEq] at h
            obtain ⟨rfl, rfl⟩ := h
            simp only [Nd.Sp, Nd.beg, Nd.fin]
            refine ⟨⟨by omega, ?_⟩, trivial, trivial, by omega⟩
            intro z hz
            simp at hz
            rcases hz with rfl | rfl
            · exact ha _ hm1
            · exact ha _ hm2
        split at h
        · rename_i hcc
          simp only [Option.some.injEq, Prod.mk.injEq] at h
          obtain ⟨rfl, rfl⟩ := h
          simp only [Nd.Sp, Nd.beg, Nd.fin]
          exact ⟨⟨by omega, by simp⟩, trivial, trivial, by omega⟩
        split at h
        · rename_i hcc
          split at h
          · cases h
          · rename_i x1 k1 h1
            split at h
            · cases h
            · rename_i x2 k2' h2
              obtain ⟨i1, l1⟩ := ih.brack _ _ _ _ _ ha h1
              obtain ⟨i2, l2⟩ := ih.brack _ _ _ _ _ ha h2
              simp only [Option.some.injEq, Prod.mk.injEq] at h
              obtain ⟨rfl, rfl⟩ := h
              simp only [Nd.Sp, Nd.beg, Nd.fin]
              exact ⟨⟨k1, by omega, by omega, by omega, (i1.lo (by omega)).hi (by omega), (i2.lo (by omega)).hi (by omega)⟩, trivial, trivial, by omega⟩
        split at h
        · rename_i hcc
          split at h
          · cases h
          · rename_i x1 k1 h1
            obtain ⟨i1, l1⟩ := ih.brack _ _ _ _ _ ha h1
            simp only [Option.some.injEq, Prod.mk.injEq] at h
            obtain ⟨rfl, rfl⟩ := h
            simp only [Nd.Sp, Nd.beg, Nd.fin]
            exact ⟨⟨by simp, by omega, i1.lo (by omega)⟩, trivial, trivial, by omega⟩
        split at h
        · exact ih.scope _ _ _ _ _ ha h
        · cases h
    · intro ar d k x k2 ha h
      rw [scopeP] at h
      split at h
      · cases h
      · split at h
        · cases h
        · rename_i vs k1 h1
          have hl := declP_len s _ _ _ _ _ _ h1
          have hvs := declP_ltr _ _ _ _ _ _ h1 (by simp)
          split at h
          · cases h
          · rename_i x1 k2' h2
            obtain ⟨i2, l2⟩ := ih.steps _ _ _ _ _ _ (by intro v hv; rcases List.mem_append.1 hv with hv | hv; exact ha v hv; exact hvs v hv) h2
            simp only [Option.some.injEq, Prod.mk.injEq] at h
            obtain ⟨rfl, rfl⟩ := h
            simp only [List.length_nil] at hl
            simp only [Nd.Sp, Nd.beg, Nd.fin]
            exact ⟨⟨hvs, by omega, i2.lo (by omega)⟩, trivial, trivial, by omega⟩
    · intro ar d k x k2 ha h
      rw [brackP] at h
      split at h
      · cases h
      · rename_i k1 h1
        obtain ⟨_, rfl, _⟩ := isP_some h1
        obtain ⟨i1, l1⟩ := ih.steps _ _ _ _ _ _ ha h
        exact ⟨i1, by omega⟩
    · intro ar d e k x k2 ha h
      rw [stepsP] at h
      split at h
      · simp only [Option.some.injEq, Prod.mk.injEq] at h
        obtain ⟨rfl, rfl⟩ := h
        simp only [Nds.Sp]
        exact ⟨by omega, by omega⟩
      · split at h
        · cases h
        · rename_i x1 k1 h1
          obtain ⟨i1, b1, f1, l1⟩ := ih.step _ _ _ _ _ ha h1
          split at h
          · cases h
          · rename_i r k2' h2
            obtain ⟨i2, l2⟩ := ih.steps _ _ _ _ _ _ ha h2
            simp only [Option.some.injEq, Prod.mk.injEq] at h
            obtain ⟨rfl, rfl⟩ := h
            simp only [Nds.Sp]
            exact ⟨⟨by omega, i1, by rw [f1]; exact i2⟩, by omega⟩

theorem progP_sp {s : ByteArray} {x : Nd} (h : progP s = some x) : x.Sp := by
  unfold progP at h
  split at h
  · cases h
  · split at h
    · split at h
      · cases h
      · rename_i y k hy
        split at h
        · have e := Option.some.inj h
          rw [← e]
          exact ((readsSp s (8 * s.size + 8)).scope _ _ _ _ _ (by simp) hy).1
        · cases h
    · cases h

end Go.Proofs.Ytlilkmemgomnjaa

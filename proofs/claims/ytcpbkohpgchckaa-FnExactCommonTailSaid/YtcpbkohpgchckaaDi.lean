/-
  The longest end that two cleanups share, plainly: unique, and what the loop over ever longer ends finds. The program's text of a tail, and where two tails meet.
-/
import Derived.Test.YtcpbkohpgchckaaDg
import Derived.Test.YtcpbkohpgchckaaDh
namespace Go.Proofs.Ytcpbkohpgchckaa
set_option linter.unusedVariables false
set_option linter.unusedSimpArgs false
open Go.RowKit Go.Maps Go.WideMaps

/-! ### plainly -/
def Sfx (t x : List UInt8) : Prop := ∃ p, x = p ++ t
theorem Sfx.refl (x : List UInt8) : Sfx x x := ⟨[], rfl⟩
theorem Sfx.trans {a b c : List UInt8} (h : Sfx a b) (k : Sfx b c) : Sfx a c := by
  obtain ⟨p, rfl⟩ := h; obtain ⟨q, rfl⟩ := k; exact ⟨q ++ p, by simp⟩
theorem Sfx.len {a b : List UInt8} (h : Sfx a b) : a.length ≤ b.length := by
  obtain ⟨p, rfl⟩ := h; simp
theorem Sfx.drop {a b : List UInt8} (h : Sfx a b) : a = b.drop (b.length - a.length) := by
  obtain ⟨p, rfl⟩ := h
  rw [List.length_append, Nat.add_sub_cancel, List.drop_left]
theorem Sfx.of_drop (x : List UInt8) (n : Nat) : Sfx (x.drop n) x := ⟨x.take n, (List.take_append_drop n x).symm⟩
theorem Sfx.eq {a b x : List UInt8} (h : Sfx a x) (k : Sfx b x) (e : a.length = b.length) : a = b := by rw [h.drop, k.drop, e]
theorem Sfx.of_len {a b x : List UInt8} (h : Sfx a x) (k : Sfx b x) (e : a.length ≤ b.length) : Sfx a b := by
  obtain ⟨p, hp⟩ := h
  obtain ⟨q, hq⟩ := k
  have h1 : a = x.drop (x.length - a.length) := Sfx.drop ⟨p, hp⟩
  have h2 : b = x.drop (x.length - b.length) := Sfx.drop ⟨q, hq⟩
  have hb : b.length ≤ x.length := by rw [hq]; simp
  refine ⟨b.take (b.length - a.length), ?_⟩
  have h3 : a = b.drop (b.length - a.length) := by
    rw [h2, List.drop_drop, List.length_drop]
    have : x.length - b.length + (x.length - (x.length - b.length) - a.length) = x.length - a.length := by omega
    rw [this]
    exact h1
  have h4 := List.take_append_drop (b.length - a.length) b
  rw [← h3] at h4
  exact h4.symm

/-- C is the longest end of whole steps that x and y share. -/
structure Com (x y C : List UInt8) : Prop where
  one : Sfx C x
  two : Sfx C y
  pairs : Pairs C
  most : ∀ D, Sfx D x → Sfx D y → Pairs D → D.length ≤ C.length
theorem Com.eq {x y C D : List UInt8} (h : Com x y C) (k : Com x y D) : C = D :=
  Sfx.eq h.one k.one (Nat.le_antisymm (k.most C h.one h.two h.pairs) (h.most D k.one k.two k.pairs))

def endN (x : List UInt8) (n : Nat) : List UInt8 := x.drop (x.length - n)
theorem endN_len {x : List UInt8} {n : Nat} (h : n ≤ x.length) : (endN x n).length = n := by unfold endN; rw [List.length_drop]; omega
theorem endN_sfx (x : List UInt8) (n : Nat) : Sfx (endN x n) x := Sfx.of_drop _ _

/-- What the model's loop holds of n: an end of n bytes is shared; and what its end says. -/
theorem com_of_stop {x y : List UInt8} {n : Nat} (hn : n % 2 = 0) (hx : n ≤ x.length) (hy : n ≤ y.length) (he : endN x n = endN y n) (hs : n + 2 ≤ x.length → n + 2 ≤ y.length → endN x (n + 2) ≠ endN y (n + 2)) : Com x y (endN x n) := by
  refine ⟨endN_sfx _ _, by rw [he]; exact endN_sfx _ _, by unfold Pairs; rw [endN_len hx]; exact hn, fun D h1 h2 hp => ?_⟩
  rw [endN_len hx]
  rcases Nat.lt_or_ge n D.length with hlt | hge
  · exfalso
    unfold Pairs at hp
    have hl1 := h1.len
    have hl2 := h2.len
    refine hs (by omega) (by omega) ?_
    have e1 : Sfx (endN x (n + 2)) D := Sfx.of_len (endN_sfx _ _) h1 (by rw [endN_len (by omega)]; omega)
    have e2 : Sfx (endN y (n + 2)) D := Sfx.of_len (endN_sfx _ _) h2 (by rw [endN_len (by omega)]; omega)
    exact Sfx.eq e1 e2 (by rw [endN_len (by omega), endN_len (by omega)])
  · exact hge

def comF (x y : List UInt8) : Nat → Nat → Nat
  | 0, n => n
  | k + 1, n => if n + 2 ≤ x.length ∧ n + 2 ≤ y.length ∧ endN x (n + 2) = endN y (n + 2) then comF x y k (n + 2) else n
theorem comF_com {x y : List UInt8} : ∀ (k n : Nat), n % 2 = 0 → n ≤ x.length → n ≤ y.length → endN x n = endN y n → x.length < n + 2 * k → Com x y (endN x (comF x y k n))
  | 0, n, h1, h2, h3, h4, h5 => by omega
  | k + 1, n, h1, h2, h3, h4, h5 => by
    unfold comF
    split
    · rename_i h
      exact comF_com k (n + 2) (by omega) h.1 h.2.1 h.2.2 (by omega)
    · rename_i h
      exact com_of_stop h1 h2 h3 h4 (fun a b e => h ⟨a, b, e⟩)
/-- The longest end of whole steps that two texts share. -/
def comT (x y : List UInt8) : List UInt8 := endN x (comF x y (x.length + 1) 0)
theorem comT_com (x y : List UInt8) : Com x y (comT x y) :=
  comF_com _ 0 rfl (Nat.zero_le _) (Nat.zero_le _) (by unfold endN; simp) (by omega)

def commonP (s : ByteArray) (a b : Int) : Option (List UInt8) := match cleanupP s a, cleanupP s b with
  | some x, some y => some (comT x y)
  | _, _ => none

theorem cleanup_fit {s : ByteArray} {at_ : Int} {c : List UInt8} (h : cleanupP s at_ = some c) : c.length ≤ 160 ∧ Pairs c := by
  unfold cleanupP at h
  cases hp : progP s with
  | none => rw [hp] at h; cases h
  | some x =>
    rw [hp] at h
    exact cleanAt_fit hp h

/-- One step shorter: what they share stays. -/
theorem meet_drop {x y C t u : List UInt8} (hC : Com x y C) (ht : Sfx C t) (hu : Sfx C u) (hpt : Pairs t) (hne : t ≠ u) (hl : u.length ≤ t.length) : Sfx C (t.drop 2) ∧ 2 ≤ t.length := by
  obtain ⟨p, hp⟩ := ht
  have hpc := hC.pairs
  have hlu := hu.len
  have hpl : 2 ≤ p.length := by
    rcases Nat.lt_or_ge p.length 2 with h | h
    · exfalso
      have hlen := congrArg List.length hp
      rw [List.length_append] at hlen
      unfold Pairs at hpt hpc
      have h0 : p.length = 0 := by omega
      have hpn : p = [] := List.length_eq_zero_iff.1 h0
      subst hpn
      simp only [List.nil_append] at hp
      obtain ⟨q, hq⟩ := hu
      have hlen2 := congrArg List.length hq
      rw [List.length_append] at hlen2
      have hqn : q = [] := List.length_eq_zero_iff.1 (by rw [hp] at hl; omega)
      subst hqn
      simp only [List.nil_append] at hq
      exact hne (by rw [hp, hq])
    · exact h
  refine ⟨⟨p.drop 2, ?_⟩, by rw [hp, List.length_append]; omega⟩
  rw [hp, List.drop_append_of_le_length hpl]

end Go.Proofs.Ytcpbkohpgchckaa

/-
  Orders of letters, plain: a program's outermost letters, all orders of some, when one text is an order of another. Nothing of the translation is imported.
-/
import Derived.Test.YtkfcgamdlckncaaHaW
namespace Go.Proofs.Ytkfcgamdlckncaa
set_option linter.unusedVariables false
set_option linter.unusedSimpArgs false

/-! ### Lists with each element once -/
theorem once_len {α : Type} [BEq α] [LawfulBEq α] : ∀ (l r : List α), l.Nodup → (∀ x ∈ l, x ∈ r) → l.length ≤ r.length
  | [], _, _, _ => Nat.zero_le _
  | x :: l, r, hn, hs => by
    obtain ⟨h1, h2⟩ := List.nodup_cons.1 hn
    have hx : x ∈ r := hs x (by simp)
    have := once_len l (r.erase x) h2 (fun y hy => (List.mem_erase_of_ne (fun e => h1 (by rw [← e]; exact hy))).2 (hs y (by simp [hy])))
    rw [List.length_erase_of_mem hx] at this
    have := List.length_pos_of_mem hx
    simp; omega

theorem once_perm {α : Type} [BEq α] [LawfulBEq α] : ∀ (l r : List α), l.Nodup → (∀ x ∈ l, x ∈ r) → r.length ≤ l.length → l.Perm r
  | [], r, _, _, h => by cases r with
    | nil => exact List.Perm.refl _
    | cons a r => simp at h
  | x :: l, r, hn, hs, h => by
    obtain ⟨h1, h2⟩ := List.nodup_cons.1 hn
    have hx : x ∈ r := hs x (by simp)
    have := once_perm l (r.erase x) h2 (fun y hy => (List.mem_erase_of_ne (fun e => h1 (by rw [← e]; exact hy))).2 (hs y (by simp [hy]))) (by rw [List.length_erase_of_mem hx]; simp at h; omega)
    exact (List.Perm.cons x this).trans (List.perm_cons_erase hx).symm

/-! ### The letters of the outermost scope -/
structure RootIs (s : ByteArray) (x : Nd) : Prop where
  decl : DeclG [] x.vars
  room : x.vars.length + 2 ≤ s.size
  short : s.size ≤ 80

theorem root_is {s : ByteArray} {x : Nd} (h : progP s = some x) : RootIs s x := by
  have hs := (progP_ok h).2.2.2.2.2
  unfold progP at h
  split at h
  · cases h
  · split at h
    · split at h
      · cases h
      · rename_i x' k hsc
        split at h
        · injection h with h
          subst h
          rw [show 8 * s.size + 8 = (8 * s.size + 7) + 1 from rfl, scopeP] at hsc
          split at hsc
          · cases hsc
          · split at hsc
            · cases hsc
            · rename_i vs k1 hd
              split at hsc
              · cases hsc
              · injection hsc with hsc
                injection hsc with hsc _
                subst hsc
                have h1 := declP_gr s _ _ _ _ _ _ hd (by simp) List.nodup_nil
                have h2 := declP_len s _ _ _ _ _ _ hd
                exact ⟨h1, by show vs.length + 2 ≤ _; simp at h2; omega, hs⟩
        · cases h
    · cases h

theorem RootIs.six {s : ByteArray} {x : Nd} (h : RootIs s x) : x.vars.length ≤ 6 :=
  once_len x.vars abc h.decl.once (fun v hv => by
    have h1 := (h.decl.each v hv).1
    unfold ltr at h1
    have h2 : v.toNat = 97 ∨ v.toNat = 98 ∨ v.toNat = 99 ∨ v.toNat = 100 ∨ v.toNat = 101 ∨ v.toNat = 102 := by omega
    have h3 : v = UInt8.ofNat v.toNat := by simp
    rcases h2 with e | e | e | e | e | e <;> rw [e] at h3 <;> rw [h3] <;> decide)

theorem ltr_abc {v : UInt8} (h : ltr v) : v ∈ abc := by
  unfold ltr at h
  have h2 : v.toNat = 97 ∨ v.toNat = 98 ∨ v.toNat = 99 ∨ v.toNat = 100 ∨ v.toNat = 101 ∨ v.toNat = 102 := by omega
  have h3 : v = UInt8.ofNat v.toNat := by simp
  rcases h2 with e | e | e | e | e | e <;> rw [e] at h3 <;> rw [h3] <;> decide

theorem mem_sortedOf {l : List UInt8} {v : UInt8} (h : ltr v) : v ∈ sortedOf l ↔ v ∈ l := by
  unfold sortedOf
  rw [List.mem_filter]
  exact ⟨fun e => by simpa using e.2, fun e => ⟨ltr_abc h, by simpa using e⟩⟩

theorem sortedOf_once (l : List UInt8) : (sortedOf l).Nodup := (show abc.Nodup by decide).filter _

theorem sortedOf_mem {l : List UInt8} {v : UInt8} (h : v ∈ sortedOf l) : v ∈ l := by
  unfold sortedOf at h
  rw [List.mem_filter] at h
  simpa using h.2

/-! ### When one text is an order of another -/
def orderOk (vars l : List UInt8) : Bool := decide (vars.length = l.length) && decide (sortedOf vars = sortedOf l)

theorem sortedOf_perm {a b : List UInt8} (h : a.Perm b) : sortedOf a = sortedOf b := by
  unfold sortedOf
  refine List.filter_congr (fun v _ => ?_)
  have := h.mem_iff (a := v)
  rw [Bool.eq_iff_iff]
  simpa using this

theorem orderOk_iff {vars l : List UInt8} (h : DeclG [] l) : orderOk vars l = true ↔ vars.Perm l := by
  unfold orderOk
  rw [Bool.and_eq_true, decide_eq_true_iff, decide_eq_true_iff]
  constructor
  · rintro ⟨h1, h2⟩
    refine (once_perm l vars h.once (fun v hv => ?_) (by omega)).symm
    exact sortedOf_mem (h2 ▸ (mem_sortedOf (h.each v hv).1).2 hv)
  · intro e
    exact ⟨e.length_eq, sortedOf_perm e⟩

/-- A text as a row of six bytes. -/
def padL (l : List UInt8) : List UInt8 := (l ++ List.replicate 6 0).take 6

theorem padL_len (l : List UInt8) : (padL l).length = 6 := by simp [padL]

theorem padL_short {l : List UInt8} (h : l.length ≤ 6) : padL l = l ++ List.replicate (6 - l.length) 0 := by
  unfold padL
  rw [List.take_append]
  rw [List.take_of_length_le h, List.take_replicate]
  congr 2
  omega

theorem pad_perm {vars l : List UInt8} (hv : vars.length = l.length) (h6 : l.length ≤ 6) : (padL vars).Perm (padL l) ↔ vars.Perm l := by
  rw [padL_short h6, padL_short (by omega), hv]
  exact List.perm_append_right_iff _

/-! ### All orders -/
def permsF : Nat → List UInt8 → List UInt8 → List (List UInt8)
  | 0, b, _ => [b]
  | n + 1, b, r => r.flatMap (fun v => permsF n (b ++ [v]) (r.filter (fun u => u != v)))

/-- All orders of the letters r, with b ahead of each. -/
def permsP (b r : List UInt8) : List (List UInt8) := permsF r.length b r

theorem permsP_nil (b : List UInt8) : permsP b [] = [b] := rfl

theorem once_filter {r : List UInt8} {v : UInt8} (hn : r.Nodup) (hv : v ∈ r) : (r.filter (fun u => u != v)).length + 1 = r.length := by
  have h1 : r.filter (fun u => u != v) = r.erase v := by rw [hn.erase_eq_filter]
  rw [h1, List.length_erase_of_mem hv]
  have := List.length_pos_of_mem hv
  omega

theorem permsP_cons {b r : List UInt8} (hn : r.Nodup) (hr : r ≠ []) : permsP b r = r.flatMap (fun v => permsP (b ++ [v]) (r.filter (fun u => u != v))) := by
  cases hl : r.length with
  | zero => exact absurd (List.length_eq_zero_iff.1 hl) hr
  | succ n =>
    unfold permsP
    rw [hl, permsF]
    rw [List.flatMap_def, List.flatMap_def]
    congr 1
    refine List.map_congr_left (fun v hv => ?_)
    have := once_filter hn hv
    rw [show (r.filter (fun u => u != v)).length = n by omega]

theorem permsF_len : ∀ (n : Nat) (b r : List UInt8), r.length ≤ 4 → (permsF n b r).length ≤ 4 ^ n
  | 0, b, r, _ => by simp [permsF]
  | n + 1, b, r, h => by
    rw [permsF, List.length_flatMap]
    have h1 : ∀ (q : List UInt8), q.length ≤ 4 → (q.map (fun v => (permsF n (b ++ [v]) (r.filter (fun u => u != v))).length)).sum ≤ q.length * 4 ^ n := by
      intro q
      induction q with
      | nil => intro _; simp
      | cons v q ih =>
        intro hq
        simp only [List.map_cons, List.sum_cons, List.length_cons]
        have h2 := permsF_len n (b ++ [v]) (r.filter (fun u => u != v)) (Nat.le_trans (List.length_filter_le _ _) h)
        have h3 := ih (by simp at hq; omega)
        rw [Nat.add_mul]
        omega
    have h4 := h1 r h
    have h5 : r.length * 4 ^ n ≤ 4 * 4 ^ n := Nat.mul_le_mul_right _ h
    rw [Nat.pow_succ, Nat.mul_comm]
    omega

theorem permsP_len {b r : List UInt8} (h : r.length ≤ 4) : (permsP b r).length ≤ 256 := by
  refine Nat.le_trans (permsF_len _ _ _ h) ?_
  exact Nat.pow_le_pow_right (by omega) h

theorem permsF_size : ∀ (n : Nat) (b r : List UInt8) (c : List UInt8), c ∈ permsF n b r → c.length = b.length + n
  | 0, b, r, c, h => by simp [permsF] at h; simp [h]
  | n + 1, b, r, c, h => by
    rw [permsF, List.mem_flatMap] at h
    obtain ⟨v, _, h⟩ := h
    have := permsF_size n _ _ c h
    simp at this
    omega

theorem permsP_size {b r c : List UInt8} (h : c ∈ permsP b r) : c.length = b.length + r.length := permsF_size _ _ _ _ h

end Go.Proofs.Ytkfcgamdlckncaa

/-
  The text of what the cells have behind each event: the plain account.
-/
import Derived.Test.YthgocacabadflaaDoorCe
import Derived.Test.YthgocacabadflaaDoorUr
namespace Go.Proofs.YthgocacabadflaaDoor
set_option linter.unusedVariables false
set_option linter.unusedSimpArgs false
open Go.RowKit

def ctext (pick : List Nat → Nat) (l : List Ev) (N : Nat) : Nat → List UInt8
  | 0 => []
  | k + 1 => (if ctext pick l N k = [] then [] else ctext pick l N k ++ [59]) ++ rowB (insS pick (l.take (k + 1))) N

theorem insS_le (pick : List Nat → Nat) {l : List Ev} (hg : Good l) : ∀ i, insS pick l i ≤ madeN l := by
  induction hg with
  | nil => intro i; exact Nat.le_refl 0
  | @snoc l e hg hf ih =>
    intro i
    rw [madeN_snoc]
    rcases hf with ⟨hk, hn⟩ | ⟨hk, _⟩
    · rw [insS_plus hk]
      split
      · rw [hn]; first | omega | (rw [if_pos hk]; omega)
      · have := ih i; first | omega | (rw [if_pos hk]; omega)
    · have h43 : ¬ e.k = 43 := by rcases hk with h | h <;> (rw [h]; decide)
      rw [if_neg h43]
      by_cases h45 : e.k = 45
      · rw [insS_minus h43 h45]
        split
        · omega
        · have := ih i; omega
      · rw [insS_dot h43 h45]
        exact ih i
theorem insS_lt (pick : List Nat → Nat) {l : List Ev} (hg : Good l) (hl : l.length ≤ 600) (k i : Nat) : insS pick (l.take k) i < 1000 := by
  have h := insS_le pick (hg.take k) i
  have h2 := (hg.take k).says.le
  have h3 : (l.take k).length ≤ 600 := by rw [List.length_take]; omega
  omega
theorem ctext_len (pick : List Nat → Nat) {l : List Ev} (hg : Good l) (hl : l.length ≤ 600) {N : Nat} (hN : N ≤ 600) : ∀ k, (ctext pick l N k).length ≤ 2401 * k
  | 0 => by simp [ctext]
  | k + 1 => by
    have ih := ctext_len pick hg hl hN k
    have hr := rowB_len (ins := insS pick (l.take (k + 1))) (fun i => insS_lt pick hg hl (k + 1) i) N
    unfold ctext
    rw [List.length_append]
    split <;> simp <;> omega
theorem ctext_ne (pick : List Nat → Nat) {l : List Ev} (hg : Good l) (hl : l.length ≤ 600) {N : Nat} (hN : N ≠ 0) {k : Nat} (hk : k ≠ 0) : ctext pick l N k ≠ [] := by
  cases k with
  | zero => exact absurd rfl hk
  | succ k =>
    unfold ctext
    have := rowB_ne (ins := insS pick (l.take (k + 1))) (fun i => insS_lt pick hg hl (k + 1) i) hN
    intro e
    exact this (List.append_eq_nil_iff.1 e).2

/-- How many cells there are. -/
def cellN (pick : List Nat → Nat) (l : List Ev) : Nat := cntN (cellsS pick l).O
theorem cellN_bnd {pick : List Nat → Nat} (hp : Picks pick) {l : List Ev} (hg : Good l) (hl : l.length ≤ 600) (h0 : l ≠ []) : cellN pick l ≤ 600 ∧ cellN pick l ≠ 0 := by
  have hc := cinv hp hg
  have hle := hg.says.le
  refine ⟨cntN_le.2 (fun c h => by have := hc.lt c h; omega), fun e0 => ?_⟩
  have hz : ∀ c ∈ (cellsS pick l).O, c < 0 := cntN_le.1 (Nat.le_of_eq e0)
  have hm : 1 ≤ madeN l := by
    cases l with
    | nil => exact absurd rfl h0
    | cons ev r =>
      have h := (hg.at 0 ev rfl).2
      rcases h with ⟨hk, _⟩ | ⟨_, hn⟩
      · unfold madeN
        rw [List.filter_cons_of_pos (by simp [hk])]
        simp
      · exact absurd hn (by simp [aliveL])
  have hlen := hc.len
  cases hO : (cellsS pick l).O with
  | nil => rw [hO] at hlen; simp at hlen; omega
  | cons c r => have := hz c (by rw [hO]; simp); omega

/-- The first event takes cell 0. -/
theorem insS_first {l : List Ev} (hg : Good l) (h0 : 0 < l.length) : insS freeN (l.take 1) 0 ≠ 0 := by
  cases l with
  | nil => simp at h0
  | cons e r =>
    have h := (hg.at 0 e rfl).2
    rcases h with ⟨hk, hn⟩ | ⟨_, hn⟩
    · have h1 : (e :: r).take 1 = [] ++ [e] := rfl
      rw [h1, insS_plus hk]
      have hf : freeN (cellsS freeN []).T = 0 := by
        have := picks_free.le (cellsS freeN []).T 0 (fun c h => by cases h)
        omega
      rw [if_pos hf.symm, hn]
      omega
    · exact absurd hn (by simp [aliveL])

/-- What CellsText answers. -/
def cellsT : Option (List Ev) → ByteArray
  | none => ⟨#[]⟩
  | some l => if l = [] then ⟨#[45]⟩ else ⟨(ctext freeN l (cellN freeN l) l.length).toArray⟩
def CtP (w : World) (r : Option (List Ev)) (e : Ending) (w' : World) : Prop := e = .returned (.tuple #[.string (cellsT r), .bool r.isSome]) ∧ Keeps noB w w'

end Go.Proofs.YthgocacabadflaaDoor

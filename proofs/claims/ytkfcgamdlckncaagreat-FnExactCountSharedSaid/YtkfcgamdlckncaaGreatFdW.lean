/-
  The tails of cleanups, plain: the list of all of them in order, each once. Nothing of the translation is imported.
  slices.SortedFunc(maps.Keys(..), byLength): the keys of the table of tails, in order.
  slices.SortedFunc(maps.Keys(..), byLength): the keys of the table of tails, in order.
  The program's inOrder: the tails of all cleanups, asked for one by one, then listed in order.
  The program's inOrder: a range that asks for the tails, the sorted texts, the list.
-/
import Derived.Test.YtkfcgamdlckncaaGreatPureW
import Derived.Test.YtkfcgamdlckncaaGreatDg
import Derived.Test.YtkfcgamdlckncaaGreatShelfT
import Derived.Shelf.SlIter.Nil
import Derived.Shelf.SlSortCmp.Whole1
import Derived.Sort.OwnSorted
import Derived.Sort.Walk0
import Derived.Shelf.SlSortCmp.NoneTotal
import Derived.RangeFuncBound
import Derived.Test.YtkfcgamdlckncaaGreatDb
import Derived.Test.YtkfcgamdlckncaaGreatRtW
namespace Go.Proofs.YtkfcgamdlckncaaGreat
set_option linter.unusedVariables false
set_option linter.unusedSimpArgs false

/-! ### The order: by length, then by bytes -/
theorem bl_tri {x y : List UInt8} (h1 : ¬ x < y) (h2 : ¬ y < x) : x = y := List.le_antisymm (List.not_lt.1 h2) (List.not_lt.1 h1)

def ltT (t u : List UInt8) : Bool := decide (t.length < u.length) || (decide (t.length = u.length) && decide (t < u))

theorem ltT_iff {t u : List UInt8} : ltT t u = true ↔ t.length < u.length ∨ (t.length = u.length ∧ t < u) := by simp [ltT]

theorem ltT_irrefl (t : List UInt8) : ltT t t = false := by
  rw [Bool.eq_false_iff]
  intro h
  rcases ltT_iff.1 h with h | h
  · omega
  · exact List.lt_irrefl t h.2
theorem ltT_trans {t u v : List UInt8} (h1 : ltT t u = true) (h2 : ltT u v = true) : ltT t v = true := by
  rw [ltT_iff] at *
  rcases h1 with h1 | h1
  · rcases h2 with h2 | h2
    · exact .inl (by omega)
    · exact .inl (by omega)
  · rcases h2 with h2 | h2
    · exact .inl (by omega)
    · exact .inr ⟨by omega, List.lt_trans h1.2 h2.2⟩
theorem ltT_tri {t u : List UInt8} (h1 : ltT t u = false) (h2 : ltT u t = false) : t = u := by
  have a1 : ¬ (t.length < u.length ∨ (t.length = u.length ∧ t < u)) := fun h => by rw [ltT_iff.2 h] at h1; cases h1
  have a2 : ¬ (u.length < t.length ∨ (u.length = t.length ∧ u < t)) := fun h => by rw [ltT_iff.2 h] at h2; cases h2
  have hl : t.length = u.length := by omega
  exact bl_tri (fun h => a1 (.inr ⟨hl, h⟩)) (fun h => a2 (.inr ⟨hl.symm, h⟩))

def SortedT (l : List (List UInt8)) : Prop := l.Pairwise (fun a b => ltT a b = true)

theorem SortedT.once {l : List (List UInt8)} (h : SortedT l) : l.Nodup := h.imp (fun h e => by rw [e, ltT_irrefl] at h; cases h)

theorem sortedT_one {l m : List (List UInt8)} (hl : SortedT l) (hm : SortedT m) (h : ∀ t, t ∈ l ↔ t ∈ m) : l = m := by
  refine List.Perm.eq_of_pairwise (le := fun a b => ltT a b = true) (fun a b _ _ h1 h2 => ?_) hl hm ((List.perm_ext_iff_of_nodup hl.once hm.once).2 h)
  have := ltT_trans h1 h2
  rw [ltT_irrefl] at this
  cases this

/-! ### One tail more -/
theorem ins_ok {t : List UInt8} {p q : List (List UInt8)} (h : SortedT (p ++ q)) (hp : ∀ a ∈ p, ltT a t = true) (hq : ∀ b ∈ q, ltT t b = true) : SortedT (p ++ t :: q) := by
  unfold SortedT at *
  rw [List.pairwise_append] at h ⊢
  refine ⟨h.1, List.pairwise_cons.2 ⟨hq, h.2.1⟩, fun a ha b hb => ?_⟩
  rcases List.mem_cons.1 hb with rfl | hb
  · exact hp a ha
  · exact ltT_trans (hp a ha) (hq b hb)

def insT (t : List UInt8) (l : List (List UInt8)) : List (List UInt8) :=
  if t ∈ l then l else l.takeWhile (fun a => ltT a t) ++ t :: l.dropWhile (fun a => ltT a t)

theorem mem_insT {t u : List UInt8} {l : List (List UInt8)} : u ∈ insT t l ↔ u = t ∨ u ∈ l := by
  unfold insT
  split
  · exact ⟨.inr, fun h => h.elim (fun e => by rw [e]; assumption) id⟩
  · have e : l = l.takeWhile (fun a => ltT a t) ++ l.dropWhile (fun a => ltT a t) := List.takeWhile_append_dropWhile.symm
    have h2 : u ∈ l ↔ u ∈ l.takeWhile (fun a => ltT a t) ∨ u ∈ l.dropWhile (fun a => ltT a t) := by
      rw [← List.mem_append, ← e]
    rw [List.mem_append, List.mem_cons, h2]
    constructor
    · rintro (h | h | h)
      · exact .inr (.inl h)
      · exact .inl h
      · exact .inr (.inr h)
    · rintro (h | h | h)
      · exact .inr (.inl h)
      · exact .inl h
      · exact .inr (.inr h)

theorem drop_after {t : List UInt8} : ∀ (l : List (List UInt8)), SortedT l → t ∉ l → ∀ b ∈ l.dropWhile (fun a => ltT a t), ltT t b = true
  | [], _, _, b, hb => by simp at hb
  | a :: r, h, hn, b, hb => by
    obtain ⟨h1, h2⟩ := List.pairwise_cons.1 h
    rw [List.dropWhile_cons] at hb
    split at hb
    · exact drop_after r h2 (fun e => hn (by simp [e])) b hb
    · rename_i ha
      have hta : ltT t a = true := by
        cases e : ltT t a with
        | true => rfl
        | false => exact absurd (by simp [ltT_tri e (by simpa using ha)]) hn
      rcases List.mem_cons.1 hb with rfl | hb
      · exact hta
      · exact ltT_trans hta (h1 b hb)

theorem insT_sorted {t : List UInt8} {l : List (List UInt8)} (h : SortedT l) : SortedT (insT t l) := by
  unfold insT
  split
  · exact h
  · rename_i hn
    refine ins_ok (by rw [List.takeWhile_append_dropWhile]; exact h) (fun a ha => ?_) (drop_after l h hn)
    have := List.all_takeWhile (l := l) (p := fun a => ltT a t)
    rw [List.all_eq_true] at this
    exact this a ha

theorem insT_len {t : List UInt8} {l : List (List UInt8)} : (insT t l).length ≤ l.length + 1 := by
  unfold insT
  split
  · omega
  · have e := congrArg List.length (List.takeWhile_append_dropWhile (p := fun a => ltT a t) (l := l))
    rw [List.length_append] at e
    rw [List.length_append, List.length_cons]
    omega

/-- What stands at a place found from behind is what insT makes. -/
theorem insT_at {t : List UInt8} {l : List (List UInt8)} (h : SortedT l) (hn : t ∉ l) (k : Nat) (hp : ∀ a ∈ l.take k, ltT a t = true) (hq : ∀ b ∈ l.drop k, ltT t b = true) : l.take k ++ t :: l.drop k = insT t l := by
  refine sortedT_one (ins_ok (by rw [List.take_append_drop]; exact h) hp hq) (insT_sorted h) (fun u => ?_)
  rw [mem_insT]
  have h2 : u ∈ l ↔ u ∈ l.take k ∨ u ∈ l.drop k := by rw [← List.mem_append, List.take_append_drop]
  rw [List.mem_append, List.mem_cons, h2]
  constructor
  · rintro (h | h | h)
    · exact .inr (.inl h)
    · exact .inl h
    · exact .inr (.inr h)
  · rintro (h | h | h)
    · exact .inr (.inl h)
    · exact .inl h
    · exact .inr (.inr h)

/-! ### All tails -/
/-- The tails of one cleanup, those that begin ahead of step n, put into a list. -/
def tailsN (c : List UInt8) : Nat → List (List UInt8) → List (List UInt8)
  | 0, l => l
  | n + 1, l => insT (c.drop (2 * n)) (tailsN c n l)

/-- The tails of all cleanups. -/
def tailsF (cs : List (List UInt8)) (l : List (List UInt8)) : List (List UInt8) := cs.foldl (fun l c => tailsN c (c.length / 2) l) l
def tailsL (cs : List (List UInt8)) : List (List UInt8) := tailsF cs []

theorem tailsF_snoc (cs : List (List UInt8)) (c : List UInt8) : tailsL (cs ++ [c]) = tailsN c (c.length / 2) (tailsL cs) := by
  unfold tailsL tailsF; rw [List.foldl_append]; rfl

theorem tailsN_sorted (c : List UInt8) : ∀ (n : Nat) (l : List (List UInt8)), SortedT l → SortedT (tailsN c n l)
  | 0, _, h => h
  | n + 1, l, h => insT_sorted (tailsN_sorted c n l h)
theorem mem_tailsN (c : List UInt8) : ∀ (n : Nat) (l : List (List UInt8)) (t : List UInt8), t ∈ tailsN c n l ↔ t ∈ l ∨ ∃ k, k < n ∧ t = c.drop (2 * k)
  | 0, l, t => by simp [tailsN]
  | n + 1, l, t => by
    rw [tailsN, mem_insT, mem_tailsN c n l t]
    constructor
    · rintro (h | h | ⟨k, h1, h2⟩)
      · exact .inr ⟨n, by omega, h⟩
      · exact .inl h
      · exact .inr ⟨k, by omega, h2⟩
    · rintro (h | ⟨k, h1, h2⟩)
      · exact .inr (.inl h)
      · by_cases hk : k = n
        · exact .inl (by rw [h2, hk])
        · exact .inr (.inr ⟨k, by omega, h2⟩)
theorem tailsN_len (c : List UInt8) : ∀ (n : Nat) (l : List (List UInt8)), (tailsN c n l).length ≤ l.length + n
  | 0, l => by simp [tailsN]
  | n + 1, l => by
    rw [tailsN]
    have := tailsN_len c n l
    have := @insT_len (c.drop (2 * n)) (tailsN c n l)
    omega

theorem tailsF_sorted : ∀ (cs l : List (List UInt8)), SortedT l → SortedT (tailsF cs l)
  | [], _, h => h
  | c :: cs, l, h => tailsF_sorted cs _ (tailsN_sorted c _ l h)
theorem tailsL_sorted (cs : List (List UInt8)) : SortedT (tailsL cs) := tailsF_sorted cs [] List.Pairwise.nil

/-- A tail of some cleanups. -/
def IsTail (cs : List (List UInt8)) (t : List UInt8) : Prop := ∃ c ∈ cs, ∃ k, k < c.length / 2 ∧ t = c.drop (2 * k)

theorem mem_tailsF : ∀ (cs l : List (List UInt8)) (t : List UInt8), t ∈ tailsF cs l ↔ t ∈ l ∨ IsTail cs t
  | [], l, t => by simp [tailsF, IsTail]
  | c :: cs, l, t => by
    show t ∈ tailsF cs (tailsN c (c.length / 2) l) ↔ _
    rw [mem_tailsF cs _ t, mem_tailsN]
    unfold IsTail
    constructor
    · rintro ((h | h) | ⟨d, h1, h2⟩)
      · exact .inl h
      · exact .inr ⟨c, by simp, h⟩
      · exact .inr ⟨d, by simp [h1], h2⟩
    · rintro (h | ⟨d, h1, h2⟩)
      · exact .inl (.inl h)
      · rcases List.mem_cons.1 h1 with rfl | h1
        · exact .inl (.inr h2)
        · exact .inr ⟨d, h1, h2⟩
theorem mem_tailsL {cs : List (List UInt8)} {t : List UInt8} : t ∈ tailsL cs ↔ IsTail cs t := by
  unfold tailsL; rw [mem_tailsF]; simp

theorem tailsF_len : ∀ (cs l : List (List UInt8)), (∀ c ∈ cs, c.length ≤ 160) → (tailsF cs l).length ≤ l.length + 80 * cs.length
  | [], l, _ => by simp [tailsF]
  | c :: cs, l, h => by
    show (tailsF cs (tailsN c (c.length / 2) l)).length ≤ _
    have h1 := tailsF_len cs (tailsN c (c.length / 2) l) (fun d hd => h d (by simp [hd]))
    have h2 := tailsN_len c (c.length / 2) l
    have h3 := h c (by simp)
    rw [List.length_cons]
    omega
theorem tailsL_len {cs : List (List UInt8)} (h : ∀ c ∈ cs, c.length ≤ 160) (h2 : cs.length ≤ 80) : (tailsL cs).length ≤ 6400 := by
  have := tailsF_len cs [] h
  unfold tailsL
  simp at this
  omega

/-- A tail of whole steps. -/
theorem tail_even {cs : List (List UInt8)} (h : ∀ c ∈ cs, c.length % 2 = 0) {t : List UInt8} (ht : IsTail cs t) : t.length % 2 = 0 ∧ t ≠ [] ∧ ∃ c ∈ cs, t.length ≤ c.length := by
  obtain ⟨c, hc, k, hk, rfl⟩ := ht
  have := h c hc
  refine ⟨by rw [List.length_drop]; omega, fun e => ?_, c, hc, by rw [List.length_drop]; omega⟩
  have := congrArg List.length e
  rw [List.length_drop] at this
  simp at this
  omega

/-- Where a text stands in a list. -/
def idxT (l : List (List UInt8)) (t : List UInt8) : Int := if t ∈ l then (l.idxOf t : Int) else -1

end Go.Proofs.YtkfcgamdlckncaaGreat

namespace Go.Proofs.YtkfcgamdlckncaaGreat
set_option linter.unusedVariables false
set_option linter.unusedSimpArgs false
open Go.RowKit Go.Shelf Go.Maps
open Go.Sort (grow putRow putCells alloc_eq_grow grow_grow)

set_option maxHeartbeats 1000000 in
theorem isNaN_T (s : ByteArray) (w : World) : Calls Tryz.prog 80 #[.string s] w fun e w' => e = .returned (.bool false) ∧ w' = w := by
  go_enter Tryz.func80, Tryz.ntmps80
  go_wp2
  go_ret
  exact ⟨by simp, rfl⟩
set_option maxHeartbeats 1000000 in
theorem isNaN_I (x : Int) (w : World) : Calls Tryz.prog 79 #[.int .i64 x] w fun e w' => e = .returned (.bool false) ∧ w' = w := by
  go_enter Tryz.func79, Tryz.ntmps79
  go_wp2
  go_ret
  exact ⟨by simp, rfl⟩

def cmpI (a b : Int) : Int := if a < b then -1 else if b < a then 1 else 0
def cmpS (t u : List UInt8) : Int := if t < u then -1 else if u < t then 1 else 0

set_option maxHeartbeats 1000000 in
theorem compare_I (a b : Int) (w : World) : Calls Tryz.prog 54 #[.int .i64 a, .int .i64 b] w fun e w' => e = .returned (.int .i64 (cmpI a b)) ∧ w' = w := by
  unfold cmpI
  by_cases h1 : a < b
  · go_enter Tryz.func54, Tryz.ntmps54
    go_wp2_with (go_at_call 79; refine (isNaN_I _ _).mono ?_; rintro e w' ⟨rfl, rfl⟩)
    go_ret
    exact ⟨by simp [h1], rfl⟩
  · by_cases h2 : b < a
    · go_enter Tryz.func54, Tryz.ntmps54
      go_wp2_with (go_at_call 79; refine (isNaN_I _ _).mono ?_; rintro e w' ⟨rfl, rfl⟩)
      go_ret
      exact ⟨by simp [h1, h2], rfl⟩
    · go_enter Tryz.func54, Tryz.ntmps54
      go_wp2_with (go_at_call 79; refine (isNaN_I _ _).mono ?_; rintro e w' ⟨rfl, rfl⟩)
      go_ret
      exact ⟨by simp [h1, h2], rfl⟩

theorem less_iff {t u : List UInt8} : Op.bytesLess t u = true ↔ t < u := by
  rw [bytesLess_eq]; simp

set_option maxHeartbeats 1000000 in
theorem compare_S (t u : List UInt8) (w : World) : Calls Tryz.prog 55 #[encStr t, encStr u] w fun e w' => e = .returned (.int .i64 (cmpS t u)) ∧ w' = w := by
  unfold encStr
  by_cases h1 : t < u
  · have hb : Op.bytesLess t u = true := less_iff.2 h1
    have hr : cmpS t u = -1 := by unfold cmpS; rw [if_pos h1]
    rw [hr]
    clear h1 hr
    go_enter Tryz.func55, Tryz.ntmps55
    go_wp2_with (go_at_call 80; refine (isNaN_T _ _).mono ?_; rintro e w' ⟨rfl, rfl⟩)
    go_ret
    exact ⟨rfl, rfl⟩
  · have hb : Op.bytesLess t u = false := by rw [Bool.eq_false_iff]; exact fun h => h1 (less_iff.1 h)
    by_cases h2 : u < t
    · have hq : (t == u) = false := by rw [beq_eq_false_iff_ne]; exact fun e => by rw [e] at h2; exact List.lt_irrefl u h2
      have hr : cmpS t u = 1 := by unfold cmpS; rw [if_neg h1, if_pos h2]
      rw [hr]
      clear h1 h2 hr
      go_enter Tryz.func55, Tryz.ntmps55
      go_wp2_with (go_at_call 80; refine (isNaN_T _ _).mono ?_; rintro e w' ⟨rfl, rfl⟩)
      go_ret
      exact ⟨rfl, rfl⟩
    · have hq : (t == u) = true := by rw [beq_iff_eq]; exact bl_tri h1 h2
      have hr : cmpS t u = 0 := by unfold cmpS; rw [if_neg h1, if_neg h2]
      rw [hr]
      clear h1 h2 hr
      go_enter Tryz.func55, Tryz.ntmps55
      go_wp2_with (go_at_call 80; refine (isNaN_T _ _).mono ?_; rintro e w' ⟨rfl, rfl⟩)
      go_ret
      exact ⟨rfl, rfl⟩

/-! ### cmp.Or at two -/
def orI (a b : Int) : Int := if a = 0 then b else a
/-- What the loop of Or holds. -/
def OrAt (a b : Int) (w : World) (vi : Value) (wr : World) : Prop := wr = w ∧ ((vi = .int .i64 0) ∨ (vi = .int .i64 1 ∧ a = 0) ∨ (vi = .int .i64 2 ∧ a = 0 ∧ b = 0))
set_option maxHeartbeats 1000000 in
theorem or_I (g : Nat) (a b : Int) (w : World) (h0 : w.cell? ⟨g, 0, none⟩ = some (.int .i64 a)) (h1 : w.cell? ⟨g, 1, none⟩ = some (.int .i64 b)) : Calls Tryz.prog 53 #[.slice (some ⟨g, 0, none⟩) 2 2] w fun e w' => e = .returned (.int .i64 (orI a b)) ∧ w' = w := by
  obtain ⟨RES, hRES⟩ : ∃ RES, orI a b = RES := ⟨_, rfl⟩
  rw [hRES]
  have HR := Lib.hid hRES
  clear hRES
  go_enter Tryz.func53, Tryz.ntmps53
  go_wp2
  go_loopw [8] (fun vi wr => OrAt a b w vi wr) (fun vi _ => 3 - (intOf vi).toNat)
  case atStart => exact ⟨rfl, .inl rfl⟩
  case round =>
    obtain ⟨rfl, h⟩ := hrel
    rcases h with rfl | ⟨rfl, ha⟩ | ⟨rfl, ha, hb⟩
    · have HN : Hid (a = 0 → OrAt a b wr (.int .i64 1) wr) := fun h => ⟨rfl, .inr (.inl ⟨rfl, h⟩)⟩
      have HE : Hid (a ≠ 0 → RES = a) := fun h => by rw [← HR.out]; unfold orI; rw [if_neg h]
      by_cases ha : a = 0
      · have HN1 := Lib.hid (HN.out ha)
        clear HN HE HR
        subst ha
        go_wp2
        go_roundw
        case rel => exact HN1.out
        case measure => simp [intOf]
      · have HE1 := Lib.hid (HE.out ha)
        clear HN HE HR
        go_wp2
        go_ret
        exact ⟨by rw [HE1.out]; rfl, rfl⟩
    · have HN : Hid (b = 0 → OrAt a b wr (.int .i64 2) wr) := fun h => ⟨rfl, .inr (.inr ⟨rfl, ha, h⟩)⟩
      have HE : Hid (RES = b) := Lib.hid (by rw [← HR.out, ha]; rfl)
      clear HR ha
      by_cases hb : b = 0
      · have HN1 := Lib.hid (HN.out hb)
        clear HN HE
        subst hb
        go_wp2
        go_roundw
        case rel => exact HN1.out
        case measure => simp [intOf]
      · clear HN
        go_wp2
        go_ret
        exact ⟨by rw [HE.out]; rfl, rfl⟩
    · have HE : Hid (RES = 0) := Lib.hid (by rw [← HR.out, ha, hb]; rfl)
      clear HR ha hb h0 h1
      go_wp2
      go_ret
      exact ⟨by rw [HE.out]; rfl, rfl⟩

/-! ### byLength -/
def cfT (t u : List UInt8) : Int := orI (cmpI t.length u.length) (cmpS t u)
set_option maxHeartbeats 1000000 in
theorem byLength_any (t u : List UInt8) (W : World) : Calls Tryz.prog 37 #[encStr t, encStr u] W fun e w' => e = .returned (.int .i64 (cfT t u)) ∧ ∃ q os', w' = grow (W.drewN q) os' := by
  have hI := Lib.hid (fun (a b : Int) W => compare_I a b W)
  have hS := Lib.hid (compare_S t u)
  have hO := Lib.hid (fun g a b W h0 h1 => or_I g a b W h0 h1)
  unfold cfT
  have e1 : ((⟨t.toArray⟩ : ByteArray).size : Int) = t.length := rfl
  have e2 : ((⟨u.toArray⟩ : ByteArray).size : Int) = u.length := rfl
  unfold encStr at *
  generalize (⟨t.toArray⟩ : ByteArray) = T at *
  generalize (⟨u.toArray⟩ : ByteArray) = U at *
  rw [← e1, ← e2]
  clear e1 e2
  generalize cmpS t u = cs at *
  obtain ⟨ci, hci⟩ : ∃ ci, cmpI T.size U.size = ci := ⟨_, rfl⟩
  rw [hci]
  go_enter Tryz.func37, Tryz.ntmps37
  go_wp2_with (first
    | (go_at_call 54; refine (hI.out _ _ _).mono ?_; rw [hci]; rintro e w' ⟨rfl, rfl⟩)
    | (go_at_call 55; refine (hS.out _).mono ?_; rintro e w' ⟨rfl, rfl⟩)
    | (go_at_call 53; refine (hO.out _ ci cs _ (((Blk.new _ _ _).cell 0).trans rfl) (((Blk.new _ _ _).cell 1).trans rfl)).mono ?_; rintro e w' ⟨rfl, rfl⟩))
  go_ret
  exact ⟨rfl, 0, _, by rw [alloc_eq_grow]; rfl⟩

theorem byLength_lays (blk off size : Nat) (w : World) : CmpLays1 Tryz.prog 37 #[] encStr cfT blk off size w := fun _ _ _ _ x y => byLength_any x y _

theorem ltT_cf (t u : List UInt8) : ltOf cfT t u = ltT t u := by
  rw [Bool.eq_iff_iff, ltT_iff]
  unfold ltOf cfT orI cmpI cmpS
  rcases Nat.lt_trichotomy t.length u.length with h | h | h
  · have : (t.length : Int) < u.length := by omega
    simp [this, h]
  · have h1 : ¬ (t.length : Int) < u.length := by omega
    have h2 : ¬ (u.length : Int) < t.length := by omega
    rw [if_neg h1, if_neg h2, if_pos rfl]
    by_cases h3 : t < u
    · simp [h3, h]
    · by_cases h4 : u < t
      · simp [h3, h4, h]
      · simp [h3, h4, h]
  · have h1 : ¬ (t.length : Int) < u.length := by omega
    have h2 : (u.length : Int) < t.length := by omega
    rw [if_neg h1, if_pos h2]
    simp
    omega

theorem swoT : Sort.SWO (ltOf cfT) where
  irrefl x := by rw [ltT_cf]; exact ltT_irrefl x
  trans x y z h1 h2 := by rw [ltT_cf] at *; exact ltT_trans h1 h2
  ntrans x y z h1 h2 := by
    rw [ltT_cf] at *
    cases e : ltT x z with
    | false => rfl
    | true =>
      exfalso
      cases e1 : ltT y x with
      | true => have := ltT_trans e1 e; rw [this] at h2; cases h2
      | false =>
        have := ltT_tri h1 e1
        subst this
        rw [e] at h2; cases h2

end Go.Proofs.YtkfcgamdlckncaaGreat

namespace Go.Proofs.YtkfcgamdlckncaaGreat
set_option linter.unusedVariables false
set_option linter.unusedSimpArgs false
open Go.RowKit Go.Shelf Go.Maps
open Go.Sort (grow putRow)

theorem keepsBelowT {B : Nat} {w w' : World} (hB : w.heap.size ≤ B) (h : Below B w w') : Keeps noB w w' := ⟨h.os, h.tape, h.output, h.size, fun k hk _ => h.block k (by omega)⟩

/-- The table's keys are the tails. -/
theorem tails_keys {cs : List (List UInt8)} {w : World} {m N : Nat} {A : TailM} {D : DataW Value} (hown : w.ownsMap Tryz.prog 9 heldR m N D)
    (hd : ∀ t z, D.atKey (.string t) z = match A t with | some g => .held (.pointer (some ⟨g, 0, none⟩)) | none => z) (hA : ∀ t, (A t).isSome = true ↔ IsTail cs t) : (tailsL cs).Perm (strKeys D) := by
  have K := string_keyed (P := Tryz.prog) Tryz.underlying9
  obtain ⟨es, hD, hpw, _⟩ := hown.entries K
  obtain ⟨es', hD', hko⟩ := hown.keysOf
  obtain rfl : es = es' := by rw [hD] at hD'; simpa using hD'
  have hh : ∀ x, x ∈ tailsL cs ↔ has D (.string x) = true := fun x => by
    rw [mem_tailsL, ← hA x]
    cases hx : A x with
    | none =>
      have h1 : has D (.string x) = false := has_false_of_atKey (fun z => by rw [hd x z, hx])
      rw [h1]; simp
    | some g =>
      have h1 : has D (.string x) = true := has_true_of_atKey (fun z => by rw [hd x z, hx])
      rw [h1]; simp
  subst hD
  exact perm_strKeys hpw (fun p hp => by obtain ⟨v, hv⟩ := hko p hp; obtain ⟨x, _, hx, _⟩ := Maps.keyOf_str Tryz.underlying9 hv; exact ⟨x, hx⟩) (tailsL_sorted cs).once hh

theorem tails_sort {cs ss : List (List UInt8)} (h : ss.Perm (tailsL cs)) : ss.mergeSort (fun x y => !(ltOf cfT) y x) = tailsL cs := by
  have tr : ∀ a b c : List UInt8, (!(ltOf cfT) b a) = true → (!(ltOf cfT) c b) = true → (!(ltOf cfT) c a) = true := fun a b c h1 h2 => by
    rw [ltT_cf] at *
    cases e : ltT c a with
    | false => rfl
    | true =>
      exfalso
      simp only [Bool.not_eq_true'] at h1 h2
      cases e1 : ltT a b with
      | true => have := ltT_trans e e1; rw [this] at h2; cases h2
      | false =>
        have := ltT_tri e1 h1
        subst this
        rw [e] at h2; cases h2
  have tot : ∀ a b : List UInt8, ((!(ltOf cfT) b a) || (!(ltOf cfT) a b)) = true := fun a b => by
    rw [ltT_cf, ltT_cf]
    cases e1 : ltT b a with
    | false => rfl
    | true =>
      cases e2 : ltT a b with
      | false => rfl
      | true => have := ltT_trans e1 e2; rw [ltT_irrefl] at this; cases this
  refine List.Perm.eq_of_pairwise (le := fun a b => (!(ltOf cfT) b a) = true) (fun a b _ _ h1 h2 => ?_) (List.pairwise_mergeSort tr tot ss) ?_ ((List.mergeSort_perm ss _).trans h)
  · rw [ltT_cf] at h1 h2
    simp only [Bool.not_eq_true'] at h1 h2
    exact ltT_tri h2 h1
  · refine (tailsL_sorted cs).imp (fun {a b} h => ?_)
    rw [ltT_cf]
    cases e : ltT b a with
    | false => rfl
    | true => have := ltT_trans h e; rw [ltT_irrefl] at this; cases this

set_option maxRecDepth 100000 in
set_option maxHeartbeats 2000000 in
theorem sortedF_any {cs : List (List UInt8)} {w2 : World} {lo m N : Nat} {A : TailM} (hT : TailsAt w2 lo m N A) (hN : N ≤ 100000) (hA : ∀ t, (A t).isSome = true ↔ IsTail cs t) (hcl : (tailsL cs).length ≤ 6400) (n : Nat) (hn : 5 ≤ n) :
    CallsIn Fence.wide n Tryz.prog 35 #[.func (.func 52) #[] #[.pointer (some ⟨w2.heap.size, 0, none⟩)], .func (.func 37) #[] #[]] (w2.alloc (.cells #[.map (some m)] 72))
      (fun e w' => ∃ v, e = .returned v ∧ w'.ownsRow (w2.heap.size + 1) 9 1 v (tailsL cs).length ((tailsL cs).map encStr) ∧ Keeps noB w2 w') := by
  obtain ⟨D, hown, hd⟩ := hT.map
  have hbl := hown.lt
  have hsz : Maps.size D ≤ N := hown.size_le
  have hperm := tails_keys hown hd hA
  obtain ⟨W1, hW1⟩ : ∃ W1, W1 = w2.alloc (.cells #[.map (some m)] 72) := ⟨_, rfl⟩
  have q1 : Keeps noB w2 W1 := by rw [hW1]; exact (Keeps.refl _ _).alloc _
  have hs1 : W1.heap.size = w2.heap.size + 1 := by rw [hW1]; simp
  have hseq : SeqGives Fence.wide (n - 1 - 1 - 1) Tryz.prog 52 #[.pointer (some ⟨w2.heap.size, 0, none⟩)] encStr (fun ss => ss.Perm (strKeys D)) (Maps.size D) W1 := by
    rw [hW1]
    exact AnyZ.keys_gives (ρ := Tryz.keysT_ren) { Tryz.keysT with } Fence.wide _ trivial rfl (by omega) w2.heap.size m N D _ (by simp) (by simp) (by
      obtain ⟨es, clock, hb, Ft, hs, hD⟩ := hown
      exact ⟨es, clock, (Below.heap_alloc _ _ m hbl).trans hb, Ft, hs, hD⟩)
  have HC := Lib.hid (AnyZ.collect_in Tryz.collectT Fence.wide (n - 1) trivial trivial rfl (by omega) 52 #[.pointer (some ⟨w2.heap.size, 0, none⟩)] trivial (enters_of Tryz.func52 (by kernel_rfl) rfl) _ _ (by unfold maxLen; omega) (by omega) _ hseq)
  rw [← hW1]
  have HQ := Lib.hid (And.intro q1 (And.intro hs1 hperm))
  clear hT hown hd hbl hsz hseq hW1 q1 hs1 hperm hA hN
  refine callsIn_of_wp Tryz.func35 rfl trivial ?_ rfl
  simp only [Tryz.ntmps35, List.size_toArray, List.length_cons, List.length_nil, Nat.reduceAdd, Nat.reduceSub, Array.replicate_succ, Array.replicate_zero, List.push_toArray, List.append_toArray, List.nil_append, List.cons_append]
  gi_wp2
  refine ⟨trivial, fun _ => by omega, ?_⟩
  refine CallsIn.mono HC.out ?_
  rintro e W ⟨v, ss, rfl, hS, hrow, hnil, hb⟩
  have hpm : ss.Perm (tailsL cs) := hS.trans HQ.out.2.2.symm
  have hsrt := tails_sort hpm
  have hlen := hpm.length_eq
  have qb : Keeps noB w2 W := HQ.out.1.trans (keepsBelowT (Nat.le_refl _) hb)
  have hs1 := HQ.out.2.1
  rcases hrow.2 with ⟨rfl, hz⟩ | ⟨gb, cap, cur, rfl, hbase, hgb, r1, r2, r3, r4⟩
  · have HE : Hid (W.ownsRow (w2.heap.size + 1) 9 1 (.slice none 0 0) (tailsL cs).length ((tailsL cs).map encStr) ∧ Keeps noB w2 W) := Lib.hid (by
      have hss : ss = [] := List.eq_nil_of_length_eq_zero hz
      rw [hss] at hlen
      have hl : tailsL cs = [] := List.eq_nil_of_length_eq_zero (by rw [← hlen]; rfl)
      rw [hl]
      exact ⟨⟨rfl, .inl ⟨rfl, rfl⟩⟩, qb⟩)
    clear hnil hrow hS hpm hsrt hlen qb hs1 hb
    gi_wp2
    refine ⟨trivial, fun _ => by omega, ?_⟩
    refine CallsIn.mono (callsIn_wide.2 (AnyF.slices_SortFunc_none (ρ := Tryz.sortT_ren) { Tryz.sortT with } none 0 (.func (.func 37) #[] #[]) W)) ?_
    rintro e w' ⟨rfl, rfl⟩
    gi_wp2
    go_ret
    exact ⟨.slice none 0 0, rfl, HE.out.1, HE.out.2⟩
  · have hH : Sort.Holds encStr W gb 0 ss.toArray := holds_of_block hgb (by simpa using r4)
    have hgl : gb < W.heap.size := (Array.getElem?_eq_some_iff.1 hgb).1
    have hsz : ss.length < 4611686018427387904 := by omega
    have eg : ∀ args w, (callFunc 37 args).run Tryz.prog w = .ok (.enter 37 args) w := enters_of Tryz.func37 (by kernel_rfl) rfl
    have cS := Any.slices_SortFunc_total Tryz.sortT encStr (fun _ => rfl) cfT swoT 37 #[] gb 0 cap ss.toArray W eg (byLength_lays gb 0 ss.toArray.size W) hH hgl (by simpa using hsz) (fun x y h1 h2 => by rw [ltT_cf] at h1 h2; exact ltT_tri h1 h2)
    have hss : ss.toArray.size = ss.length := by simp
    have hst : ss.toArray.toList = ss := by simp
    rw [hss, hst, hsrt] at cS
    have HE : Hid (∀ nn os, (grow (putRow encStr (Sort.ahead W nn) gb 0 (tailsL cs).toArray) os).ownsRow (w2.heap.size + 1) 9 1 (.slice (some ⟨gb, 0, none⟩) ss.length cap) (tailsL cs).length ((tailsL cs).map encStr) ∧ Keeps noB w2 (grow (putRow encStr (Sort.ahead W nn) gb 0 (tailsL cs).toArray) os)) := Lib.hid (fun nn os => by
      have h1 := ownsRow_sorted (n := nn) (os := os) (ts := tailsL cs) hlen.symm hbase hgb r1 r2 r3
      rw [hs1] at h1
      refine ⟨by rw [← hlen]; exact h1, ?_⟩
      exact qb.grown (grownBy_sorted _) (fun i e => by cases e; exact .inr (by omega)))
    have CS := Lib.hid cS
    clear hnil hrow hS hpm hsrt hlen qb hs1 hb hH hgl hsz eg cS hss hst r1 r2 r3 r4 hgb hbase
    gi_wp2
    refine ⟨trivial, fun _ => by omega, ?_⟩
    refine CallsIn.mono (callsIn_wide.2 CS.out) ?_
    rintro e w' ⟨rfl, nn, os, rfl⟩
    gi_wp2
    go_ret
    exact ⟨_, rfl, (HE.out nn os).1, (HE.out nn os).2⟩

end Go.Proofs.YtkfcgamdlckncaaGreat

namespace Go.Proofs.YtkfcgamdlckncaaGreat
set_option linter.unusedVariables false
set_option linter.unusedSimpArgs false
open Go.RowKit Go.Shelf Go.Maps

attribute [local go_sem] Oper.semAt_some

/-! ### what the table holds behind the rounds -/
theorem TailsAt.even {w : World} {lo m N : Nat} {A : TailM} (h : TailsAt w lo m N A) : ∀ (n : Nat) (t : List UInt8) (g : Nat), t.length ≤ n → A t = some g → t.length % 2 = 0
  | 0, t, g, hl, e => by omega
  | n + 1, t, g, hl, e => by
    obtain ⟨c, v, r, rfl, _, _, _, hr⟩ := h.node t g e
    simp only [List.length_cons] at hl ⊢
    rcases hr with rfl | hr
    · rfl
    · cases hA : A r with
      | none => rw [hA] at hr; cases hr
      | some g2 =>
        have := h.even n r g2 (by omega) hA
        omega

theorem TailsAt.down {w : World} {lo m N : Nat} {A : TailM} (h : TailsAt w lo m N A) {L : List UInt8} (hs : L = [] ∨ (A L).isSome) : ∀ (k : Nat), 2 * k < L.length → (A (L.drop (2 * k))).isSome = true
  | 0, hk => by
    rcases hs with rfl | hs
    · cases hk
    · exact hs
  | k + 1, hk => by
    have ih := h.down hs k (by omega)
    cases hA : A (L.drop (2 * k)) with
    | none => rw [hA] at ih; cases ih
    | some g =>
      obtain ⟨c, v, r, he, _, _, _, hr⟩ := h.node _ _ hA
      have e2 : L.drop (2 * (k + 1)) = r := by
        have : L.drop (2 * (k + 1)) = (L.drop (2 * k)).drop 2 := by rw [List.drop_drop]; congr 1
        rw [this, he]; rfl
      rw [e2]
      rcases hr with rfl | hr
      · exfalso
        have := congrArg List.length e2
        rw [List.length_drop] at this
        simp at this
        omega
      · exact hr

/-- The table holds the tails of what was asked for, and no other. -/
def HasT (cs : List (List UInt8)) (A : TailM) : Prop := ∀ t, (A t).isSome = true ↔ IsTail cs t

theorem HasT.nil : HasT [] (fun _ => none) := fun t => by simp [IsTail]

theorem HasT.snoc {w : World} {lo m N : Nat} {A A' : TailM} {cs : List (List UInt8)} {L : List UInt8} {B : Nat} (h : HasT cs A) (hT : TailsAt w lo m N A') (hx : Ext A A') (hs : L = [] ∨ (A' L).isSome) (hn : ∀ t g, A' t = some g → A t = some g ∨ (B ≤ g ∧ ∃ p, p ++ t = L)) (hL : L.length % 2 = 0) : HasT (cs ++ [L]) A' := by
  intro t
  constructor
  · intro h1
    cases hA : A' t with
    | none => rw [hA] at h1; cases h1
    | some g =>
      rcases hn t g hA with e | ⟨_, p, hp⟩
      · obtain ⟨c, hc, h2⟩ := (h t).1 (by rw [e]; rfl)
        exact ⟨c, by simp [hc], h2⟩
      · have he := hT.even t.length t g (Nat.le_refl _) hA
        have hne : t ≠ [] := fun e => by rw [e, hT.nil] at hA; cases hA
        have hl := congrArg List.length hp
        rw [List.length_append] at hl
        have htl : 0 < t.length := by cases t with
          | nil => exact absurd rfl hne
          | cons => simp
        refine ⟨L, by simp, p.length / 2, by omega, ?_⟩
        have : 2 * (p.length / 2) = p.length := by omega
        rw [this, ← hp, List.drop_left]
  · rintro ⟨c, hc, k, hk, rfl⟩
    rcases List.mem_append.1 hc with hc | hc
    · have h1 := (h _).2 ⟨c, hc, k, hk, rfl⟩
      cases hA : A (c.drop (2 * k)) with
      | none => rw [hA] at h1; cases h1
      | some g => rw [hx _ _ hA]; rfl
    · obtain rfl : c = L := by simpa using hc
      exact hT.down hs k (by omega)

/-! ### the list of the tails -/
theorem Tryz.zeroK40 : (Tryz.prog.info? 40).map (fun i => (i.zero, i.size, i.bytes)) = some (some (.pointer none), 1, 8) := by kernel_rfl

/-- What the loop over the sorted texts holds. -/
def InAt (w3 : World) (A : TailM) (tl : List (List UInt8)) (v5 vi : Value) (wr : World) : Prop :=
  ∃ i, i ≤ tl.length ∧ vi = .int .i64 i ∧ wr.ownsRow 0 40 1 v5 i ((tl.take i).map (tailV A)) ∧ (∀ g, v5.ownBlock = some g → w3.heap.size ≤ g) ∧ Keeps noB w3 wr

theorem in_next {w3 wr : World} {A : TailM} {tl : List (List UInt8)} {i : Nat} {a : Option Addr} {c : Nat} {t : List UInt8} {pv : Value} (hrow : wr.ownsRow 0 40 1 (.slice a i c) i ((tl.take i).map (tailV A))) (hfr : ∀ g, (Value.slice a i c).ownBlock = some g → w3.heap.size ≤ g)
    (q : Keeps noB w3 wr) (ht : tl[i]? = some t) (hp : tailV A t = pv) (hl : tl.length ≤ 6400) :
    ∃ a' c' w', (Builtin.append_ #[38, 38] 38 #[.slice a i c, .slice (some ⟨wr.heap.size, 0, none⟩) 1 1]).run Tryz.prog (wr.alloc (.cells #[pv] 40)) = .ok (.slice a' (i + 1) c') w' ∧ InAt w3 A tl (.slice a' (i + 1) c') (.int .i64 ((i : Int) + 1)) w' := by
  obtain ⟨i0, hi, hz0, hz1, hz2⟩ := info_parts Tryz.zeroK40
  have hil : i < tl.length := (List.getElem?_eq_some_iff.1 ht).1
  obtain ⟨v', w', hr, ho', hg', hf⟩ := run_append_fresh (P := Tryz.prog) (wr.alloc (.cells #[pv] 40)) 38 38 40 i0 (.pointer none) 1 8 Tryz.underlying38 hi hz0 hz1 hz2 rfl (by omega)
    (.slice a i c) i _ (((Keeps.refl noB wr).alloc _).ownsRow hrow (fun _ _ _ => id)) ⟨wr.heap.size, 0, none⟩ 1 1 [pv] rfl (cells_one wr _ _) (fun u hu => by simp at hu; subst hu; rw [← hp]; unfold tailV; cases A t <;> rfl) (by unfold maxLen; omega) (by omega)
  obtain ⟨a', c', rfl⟩ := row_shape (ok := fun _ => True) ⟨ho', fun _ _ => trivial⟩
  refine ⟨a', c', w', hr, i + 1, hil, rfl, ?_, fun g hg => ?_, ?_⟩
  · have e : (tl.take (i + 1)).map (tailV A) = (tl.take i).map (tailV A) ++ [pv] := by
      rw [List.take_add_one, ht, List.map_append, ← hp]; rfl
    rw [e]; exact ho'
  · have hs := q.size
    rcases hf with e | e
    · exact hfr g (e.symm.trans hg)
    · have := e g hg; simp at this; omega
  · have qa : Keeps (fun g => (Value.slice a i c).ownBlock = some g) wr w' := ((Keeps.refl _ wr).alloc _).grown hg' (fun g hg => .inl hg)
    exact q.transNew qa (fun j hj e => by have := hfr j e; omega)

end Go.Proofs.YtkfcgamdlckncaaGreat

namespace Go.Proofs.YtkfcgamdlckncaaGreat
set_option linter.unusedVariables false
set_option linter.unusedSimpArgs false
open Go.RowKit Go.Shelf Go.Maps

attribute [local go_sem] Oper.semAt_some

/-- How inOrder ends. -/
def OrderPost (cs : List (List UInt8)) (mm : Nat) (w : World) (e : Ending) (w' : World) : Prop :=
  ∃ v N A, e = .returned v ∧ TailsAt w' 0 mm N A ∧ N ≤ 12800 ∧ HasT cs A ∧ w'.ownsRow 0 40 1 v (tailsL cs).length ((tailsL cs).map (tailV A)) ∧ (∀ g, v.ownBlock = some g → w.heap.size ≤ g) ∧ Keeps (oneB mm) w w'

theorem OrderPost.quiet {cs : List (List UInt8)} {mm : Nat} {w w1 w2 : World} {e : Ending} (h : OrderPost cs mm w e w1) (q : Keeps noB w1 w2) : OrderPost cs mm w e w2 := by
  obtain ⟨v, N, A, h1, h2, h3, h4, h5, h6, h7⟩ := h
  exact ⟨v, N, A, h1, h2.quiet q, h3, h4, q.ownsRow h5 (fun _ _ _ => id), h6, h7.trans (q.mono (fun _ e => e.elim))⟩

theorem resInOrder (W : World) (v : Value) (tmps : Array Value) (h2 : tmps.getD 2 undef = v) : (results Tryz.f18 tmps).run Tryz.prog W = .ok v W := by
  have h2' : tmps[2]?.getD undef = v := by simpa using h2
  simp [results, Tryz.results18, go_sem, h2']

theorem cells_of_row {w : World} {base : Nat} {e : TypeId} {a : Option Addr} {n c : Nat} {xs : List Value} (h : w.ownsRow base e 1 (.slice a n c) n xs) {j : Nat} {u : Value} (hj : xs[j]? = some u) : ∃ g, a = some ⟨g, 0, none⟩ ∧ w.cell? ⟨g, j, none⟩ = some u := by
  obtain ⟨h1, h2⟩ := h
  rcases h2 with ⟨he, hz⟩ | ⟨g', c', cur, e, hb, hh, hnc, hcm, hcs, htk⟩
  · subst hz
    have : xs = [] := List.length_eq_zero_iff.1 (by simpa using h1)
    rw [this] at hj; cases hj
  · injection e with e1 e2 e3
    refine ⟨g', e1, ?_⟩
    have hjl : j < xs.length := (List.getElem?_eq_some_iff.1 hj).1
    rw [Nat.mul_one] at htk
    have hjn : j < n := by rw [h1] at hjl; omega
    have h3 : (cur.toList.take n)[j]? = some u := by rw [htk]; exact hj
    rw [List.getElem?_take_of_lt hjn] at h3
    simp only [World.cell?, hh]
    simp only [Option.isSome_none, Bool.false_eq_true, if_false]
    rw [← Array.getElem?_toList]
    exact h3

set_option maxRecDepth 100000 in
set_option maxHeartbeats 4000000 in
theorem inOrder_any {s : ByteArray} {x : Nd} {b0 R Q C mm : Nat} {wx w : World} (hok : ExitsOk s x b0 R Q wx) (qx : Keeps noB wx w) (hbC : Blk w C (cleanC R Q mm) 74) (hm1 : wx.heap.size ≤ mm) (hmC : mm < C) (hmap : w.ownsMap Tryz.prog 9 heldR mm 0 (.map [])) :
    Calls Tryz.prog 18 #[.pointer (some ⟨C, 0, none⟩)] w (OrderPost ((exitsL x).map Prod.snd) mm w) := by
  refine (callsIn_wide (n := 9)).1 ?_
  obtain ⟨F, hF⟩ : ∃ F, F = Fence.wide := ⟨_, rfl⟩
  have hFf : ∀ f, F.fn f := by subst hF; exact fun _ => trivial
  have hdd : ∀ k : Nat, (F.depth.isSome = true → 1 ≤ k) := by subst hF; intro k h; simp [Fence.wide] at h
  have hro : F.round = none := by subst hF; rfl
  have hds : F.depth.isSome = false := by subst hF; rfl
  have HFEW := Lib.hid (And.intro (exits_few hok.prog) (fun q hq => exits_fit hok.prog (q := q) hq))
  have HTL : Hid ((tailsL ((exitsL x).map Prod.snd)).length ≤ 6400) := Lib.hid (tailsL_len (fun c hc => by
    obtain ⟨q, hq, rfl⟩ := List.mem_map.1 hc
    exact (HFEW.out.2 q hq).2.1) (by rw [List.length_map]; exact HFEW.out.1))
  have HOK := Lib.hid hok
  have HQX := Lib.hid qx
  have HKY : Hid (∀ n' mb W, CallsIn F n' Tryz.prog 36 #[.map mb] W fun e w' => e = .returned (.func (.func 52) #[] #[.pointer (some ⟨W.heap.size, 0, none⟩)]) ∧ w' = W.alloc (.cells #[.map mb] 72)) := Lib.hid (fun n' mb W => by rw [hF]; exact AnyZ.keys_in Tryz.keysT Fence.wide n' trivial rfl mb W)
  have HSF : Hid (∀ n' (w2 : World) N A, TailsAt w2 0 mm N A → N ≤ 12800 → HasT ((exitsL x).map Prod.snd) A → 5 ≤ n' →
      CallsIn F n' Tryz.prog 35 #[.func (.func 52) #[] #[.pointer (some ⟨w2.heap.size, 0, none⟩)], .func (.func 37) #[] #[]] (w2.alloc (.cells #[.map (some mm)] 72))
      (fun e w' => ∃ v, e = .returned v ∧ w'.ownsRow (w2.heap.size + 1) 9 1 v (tailsL ((exitsL x).map Prod.snd)).length ((tailsL ((exitsL x).map Prod.snd)).map encStr) ∧ Keeps noB w2 w')) := Lib.hid (fun n' w2 N A h1 h2 h3 h4 => by
    rw [hF]; exact sortedF_any h1 (by omega) h3 HTL.out n' h4)
  rw [← hF]
  have HF := Lib.hid hF
  clear hF
  refine callsIn_of_wp_marks Tryz.func18 rfl (hFf _) ?_ hro
  simp only [Tryz.ntmps18, List.size_toArray, List.length_cons, List.length_nil, Nat.reduceAdd, Nat.reduceSub, Array.replicate_succ, Array.replicate_zero, List.push_toArray, List.append_toArray, List.nil_append, List.cons_append]
  obtain ⟨M, hM⟩ : ∃ M, M = w.heap.size := ⟨_, rfl⟩
  have hlC := hbC.lt
  have hxs := qx.size
  have k0 : Keeps noB w (w.alloc (.cells #[.pointer (some ⟨C, 0, none⟩)] 35)) := (Keeps.refl _ _).alloc _
  have c0 : Blk (w.alloc (.cells #[.pointer (some ⟨C, 0, none⟩)] 35)) w.heap.size #[.pointer (some ⟨C, 0, none⟩)] 35 := Blk.new _ _ _
  have hs0 : (w.alloc (.cells #[.pointer (some ⟨C, 0, none⟩)] 35)).heap.size = w.heap.size + 1 := by simp
  have rC : (w.alloc (.cells #[.pointer (some ⟨C, 0, none⟩)] 35)).cell? ⟨C, 0, none⟩ = some (.func (.func 44) #[] #[.pointer (some ⟨R, 0, none⟩), .pointer (some ⟨Q, 0, none⟩)]) := ((k0.blk hbC id).cell 0).trans rfl
  have hT0 : TailsAt (w.alloc (.cells #[.pointer (some ⟨C, 0, none⟩)] 35)) 0 mm 0 (fun _ => none) := (TailsAt.start hmap).quiet k0
  have hbC2 := k0.blk hbC id
  have hlm := hmap.lt
  clear hok qx hbC hmap
  gi_wp2
  generalize w.alloc (.cells #[.pointer (some ⟨C, 0, none⟩)] 35) = w2 at *
  rw [← hM] at c0 hs0 hlC hxs hlm ⊢
  have HK1 := Lib.hid (And.intro k0 (And.intro hM (And.intro hbC2 c0)))
  clear k0 hM rC hbC2 c0
  refine wp_range HF.out (gf := 44) (lb := #[ptr R, ptr Q]) (all := exitsL x) (enc := encX) (prot := between b0 wx) (own := ownT mm (fun _ => none))
    rfl (enters_of Tryz.func44 (by kernel_rfl) rfl)
    (fun W q => HOK.out.iterM (may := noB) (fun _ _ e => e) W ((HQX.out.trans HK1.out.1).trans q))
    (fun pre own W' => ∃ N A, own = ownT mm A ∧ N ≤ 160 * pre.length ∧ TailsAt W' 0 mm N A ∧ Owns (ownT mm (fun _ => none)) own w2 W' ∧ HasT (pre.map Prod.snd) A) (fun _ _ _ _ => False) ?hI ?hIx ?hown ?hprot ?hps ?h0 ?hround ?hdone ?hstop
  case hI =>
    rintro pre own W W' ⟨N, A, rfl, hN, hT, ho, hb⟩ q
    exact ⟨N, A, rfl, hN, hT.keeps q (fun k hk e => e.2 hk), ho.ahead q (fun i e => e.1), hb⟩
  case hIx => rintro c pre own W W' h q; exact h
  case hown =>
    rintro k (rfl | ⟨t, e⟩)
    · omega
    · cases e
  case hprot =>
    rintro k hk
    have h2 := hk.2
    refine ⟨?_, by omega⟩
    rintro (rfl | ⟨t, e⟩)
    · omega
    · cases e
  case hps => rintro y args rfl; rfl
  case h0 =>
    refine ⟨0, _, rfl, Nat.le_refl _, hT0, Owns.refl ?_, HasT.nil⟩
    rintro k (rfl | ⟨t, e⟩)
    · omega
    · cases e
  case hround =>
    rintro l n pre ⟨pb, L⟩ post args own1 W1 hall henc ⟨N, A, rfl, hN, hT, ho1, hbN⟩ hlt hl hnl hll
    unfold encX at henc
    subst henc
    have hpm : (pb, L) ∈ exitsL x := by rw [hall]; simp
    obtain ⟨hp1, hp2, hp3⟩ := HFEW.out.2 (pb, L) hpm
    simp only at hp1 hp2 hp3
    have hpl : pre.length ≤ 79 := by
      have h1 := HFEW.out.1
      rw [hall, List.length_append, List.length_cons] at h1
      omega
    clear hall hpm
    simp only
    gi_wp2
    refine ⟨Keeps.refl _ _, fun W3 q3 hs3 => ?_⟩
    clear hs3
    have hk13 : Keeps (fun k => w2.heap.size ≤ k ∧ ¬ ownT mm A k) W1 W3 := q3.mono (fun k e => by obtain rfl : k = l := e; exact ⟨hl, hnl⟩)
    have ho3 := ho1.ahead hk13 (fun i e => e.1)
    have hT3 := hT.keeps hk13 (fun k hk e => e.2 hk)
    have hnM : ¬ ownT mm (fun _ => none) M := by
      rintro (h | ⟨t, e⟩)
      · omega
      · cases e
    have hnC : ¬ ownT mm (fun _ => none) C := by
      rintro (h | ⟨t, e⟩)
      · omega
      · cases e
    have d0 : Blk W3 M #[.pointer (some ⟨C, 0, none⟩)] 35 := ho3.keeps.blk HK1.out.2.2.2 hnM
    have dC : Blk W3 C (cleanC R Q mm) 74 := ho3.keeps.blk HK1.out.2.2.1 hnC
    have y0 := d0.cell 0
    simp at y0
    have HTA : Hid (∀ n', CallsIn F n' Tryz.prog 26 #[.pointer (some ⟨C, 0, none⟩), .string ⟨L.toArray⟩] W3 (TailPost W3 0 mm N A L)) := fun n' => by
      rw [HF.out]
      exact callsIn_wide.2 (tail_all L.length L W3 C R Q 0 mm N A rfl hp3 (by omega) (by omega) dC (by omega) (Nat.zero_le _) hT3)
    have HX := Lib.hid (And.intro hT3 (And.intro ho3 (And.intro hN (And.intro hp3 (And.intro hbN hp2)))))
    have hFf2 := Lib.hid hFf
    clear hT hT3 ho1 ho3 hbN d0 dC hk13 q3 hnM hnC hlt hl hnl hll hp3 hN hp2 hp1
    gi_wp2
    refine CallsIn.mono (HTA.out _) ?_
    rintro e W4 ⟨A', rfl, hT4, hx4, hs4, hn4, q4⟩
    unfold tailV
    obtain ⟨pr, hpr⟩ : ∃ pr, (A' L).map (fun g => (⟨g, 0, none⟩ : Addr)) = pr := ⟨_, rfl⟩
    rw [hpr]
    clear hpr
    have HEND : Hid (∃ own', Owns (ownT mm A) own' W3 W4 ∧ ∃ N A, own' = ownT mm A ∧ N ≤ 160 * (pre ++ [(pb, L)]).length ∧ TailsAt W4 0 mm N A ∧ Owns (ownT mm (fun _ => none)) own' w2 W4 ∧ HasT ((pre ++ [(pb, L)]).map Prod.snd) A) := Lib.hid (by
      obtain ⟨hT3, ho3, hN, hp3, hbN, hp2⟩ := HX.out
      have hO : Owns (ownT mm A) (ownT mm A') W3 W4 := by
        refine ⟨?_, fun k hk => hT4.lt k hk, q4.mono (fun k e => .inl e)⟩
        rintro k (rfl | ⟨t, e⟩)
        · exact .inl (.inl rfl)
        · rcases hn4 t _ e with h | h
          · exact .inl (.inr ⟨t, h⟩)
          · exact .inr h.1
      refine ⟨ownT mm A', hO, N + L.length, A', rfl, ?_, hT4, ho3.trans hO, ?_⟩
      · rw [List.length_append]; simp only [List.length_cons, List.length_nil]; omega
      · rw [List.map_append]
        exact hbN.snoc hT4 hx4 hs4 hn4 hp3)
    clear hT4 hx4 hs4 hn4 q4
    gi_wp2
    exact HEND.out
  case hdone =>
    rintro D own' W' hb ⟨N, A, rfl, hN, hT, ho, hbN⟩
    have hD := hb.new
    have hDl : D < W'.heap.size := (Array.getElem?_eq_some_iff.1 hb.none).1
    have HD := Lib.hid hb.none
    have hnM : ¬ ownT mm (fun _ => none) M := by
      rintro (h | ⟨t, e⟩)
      · omega
      · cases e
    have hnC : ¬ ownT mm (fun _ => none) C := by
      rintro (h | ⟨t, e⟩)
      · omega
      · cases e
    have hDT : ¬ ownT mm A D := hb.free
    have d0 : Blk W' M #[.pointer (some ⟨C, 0, none⟩)] 35 := ho.keeps.blk HK1.out.2.2.2 hnM
    have dC : Blk W' C (cleanC R Q mm) 74 := ho.keeps.blk HK1.out.2.2.1 hnC
    have hN2 : N ≤ 12800 := by have := HFEW.out.1; omega
    have HS := Lib.hid (fun n' hn => HSF.out n' W' N A hT hN2 hbN hn)
    have HE : Hid (Keeps (oneB mm) w W' ∧ TailsAt W' 0 mm N A ∧ HasT ((exitsL x).map Prod.snd) A ∧ N ≤ 12800 ∧ ¬ ownT mm A D ∧ Blk W' M #[.pointer (some ⟨C, 0, none⟩)] 35 ∧ Blk W' C (cleanC R Q mm) 74) := Lib.hid (by
      have e := HK1.out.2.1
      refine ⟨(HK1.out.1.mono (fun _ e => e.elim)).transNew ho.keeps (may := oneB mm) (fun i hi e2 => ?_), hT, hbN, hN2, hDT, d0, dC⟩
      rcases e2 with h | ⟨t, e3⟩
      · exact h
      · cases e3)
    have y0 := d0.cell 0
    have y1 := dC.cell 1
    simp at y0
    simp [cleanC] at y1
    have hDg : w2.heap.size ≤ D := hD
    clear hb hT ho hbN HSF hnM hnC hDT d0 dC hN hN2 hT0
    dsimp only
    gi_wp2
    refine (HKY.out _ _ _).mono ?_
    rintro e w3 ⟨rfl, rfl⟩
    gi_wp2
    refine (HS.out _ (by omega)).mono ?_
    rintro e w4 ⟨v, rfl, hrow, q4⟩
    obtain ⟨va, vk, rfl⟩ := row_shape (ok := fun _ => True) ⟨ownsRow_base_a hrow (Nat.zero_le _), fun _ _ => trivial⟩
    obtain ⟨TL, hTLe⟩ : ∃ TL, TL = tailsL ((exitsL x).map Prod.snd) := ⟨_, rfl⟩
    have HM : Hid (∀ t, t ∈ TL → t.length ≤ 160 ∧ ∃ g, A t = some g) := Lib.hid (fun t ht => by
      have h1 : IsTail ((exitsL x).map Prod.snd) t := mem_tailsL.1 (by rw [← hTLe]; exact ht)
      have h2 := (HE.out.2.2.1 t).2 h1
      obtain ⟨c, hc, k, hk, rfl⟩ := h1
      obtain ⟨q, hq, rfl⟩ := List.mem_map.1 hc
      have h3 := (HFEW.out.2 q hq).2.1
      refine ⟨by rw [List.length_drop]; omega, ?_⟩
      cases hA : A (q.2.drop (2 * k)) with
      | none => rw [hA] at h2; cases h2
      | some g => exact ⟨g, rfl⟩)
    have hTN : TL.length ≤ 6400 := by rw [hTLe]; exact HTL.out
    rw [← hTLe] at hrow
    obtain ⟨n, hn⟩ : ∃ n, n = TL.length := ⟨_, rfl⟩
    rw [← hTLe, ← hn]
    rw [← hn] at hrow hTN
    have HC : Hid (∀ wr, Keeps noB w4 wr → ∀ i t, TL[i]? = some t → ∃ g, va = some ⟨g, 0, none⟩ ∧ wr.cell? ⟨g, i, none⟩ = some (encStr t)) := Lib.hid (fun wr q i t ht => cells_of_row (q.ownsRow hrow (fun _ _ _ => id)) (by rw [List.getElem?_map, ht]; rfl))
    have HQ4 := Lib.hid (And.intro q4 (And.intro hn hTLe))
    have H0 : Hid (InAt w4 A TL (.slice none 0 0) (.int .i64 0) w4) := Lib.hid ⟨0, Nat.zero_le _, rfl, ⟨rfl, .inl ⟨rfl, rfl⟩⟩, fun g hg => by simp [Value.ownBlock] at hg, Keeps.refl _ _⟩
    have hD4 : D < w4.heap.size := Nat.lt_of_lt_of_le hDl q4.size
    clear hrow q4 hn hTLe y0 y1 HS hD
    gi_wp2
    gi_loopw [5, 24] (fun v5 vi wr => InAt w4 A TL v5 vi wr) (fun _ vi _ => n + 1 - (intOf vi).toNat)
    case atStart => exact H0.out
    case round =>
      clear H0
      obtain ⟨i, hi, rfl, hrow5, hfr5, q5⟩ := hrel
      obtain ⟨a5, c5, rfl⟩ := row_shape (ok := fun _ => True) ⟨hrow5, fun _ _ => trivial⟩
      rw [← HQ4.out.2.1] at hi
      have y0 : wr.cell? ⟨M, 0, none⟩ = some (.pointer (some ⟨C, 0, none⟩)) := by
        have := (((HQ4.out.1.trans q5).blk HE.out.2.2.2.2.2.1 id).cell 0)
        simpa using this
      have y1 : wr.cell? ⟨C, 1, none⟩ = some (.map (some mm)) := (((HQ4.out.1.trans q5).blk HE.out.2.2.2.2.2.2 id).cell 1).trans rfl
      by_cases hin : i < n
      · obtain ⟨t, ht⟩ : ∃ t, TL[i]? = some t := ⟨_, List.getElem?_eq_getElem (by rw [← HQ4.out.2.1]; exact hin)⟩
        obtain ⟨g, rfl, hcell⟩ := HC.out wr q5 i t ht
        obtain ⟨htl, gt, hgt⟩ := HM.out t (List.mem_of_getElem? ht)
        have hTw : TailsAt wr 0 mm N A := HE.out.2.1.quiet (HQ4.out.1.trans q5)
        have hlk := hTw.map.look Tryz.underlying9 Tryz.underlying72 (t := 72) (zeroTl wr) ⟨t.toArray⟩ (by show t.toArray.size ≤ 1000; simp; omega)
        have htv : tailV A t = .pointer (some ⟨gt, 0, none⟩) := by unfold tailV; rw [hgt]; rfl
        have hlk' : (Instr.lookup 72 (.map (some mm)) (.string ⟨t.toArray⟩) false).run Tryz.prog wr = .ok (.pointer (some ⟨gt, 0, none⟩)) wr := by rw [hlk]; exact congrArg (fun v => Result.ok v wr) htv
        obtain ⟨a', c', w', hr, hnx⟩ := in_next hrow5 hfr5 q5 ht htv (by rw [← HQ4.out.2.1]; exact hTN)
        have HNX := Lib.hid hnx
        unfold encStr at hcell
        generalize (⟨t.toArray⟩ : ByteArray) = S at hcell hlk'
        have hi0 : (0 : Int) ≤ (i : Int) := by omega
        have hi1 : (i : Int) < (n : Int) := by omega
        clear hrow5 hfr5 q5 ht hgt htl hTw hlk htv hnx
        gi_wp2_with (gi_at_builtin; refine wpListIn_append_run _ rfl _ _ _ _ rfl _ _ rfl rfl _ _ hr ?_)
        refine ⟨HNX.out, ?_⟩
        simp [intOf]
        omega
      · have hie : i = n := by omega
        subst hie
        have HEND : Hid (∀ W2, Keeps (fun k => k ∈ [D]) wr W2 → OrderPost ((exitsL x).map Prod.snd) mm w (.returned (.slice a5 i c5)) W2) := Lib.hid (fun W2 q2 => by
          have hq := HQ4.out.1.trans q5
          have hi2 := HQ4.out.2.1
          have e1 : TL.take i = TL := by rw [List.take_of_length_le (by omega)]
          rw [e1] at hrow5
          have hmw := HE.out.1.size
          refine ⟨_, N, A, rfl, (HE.out.2.1.quiet hq).keeps q2 (fun k hk e => ?_), HE.out.2.2.2.1, HE.out.2.2.1, ?_, fun g hg => ?_, ?_⟩
          · simp at e; subst e; exact HE.out.2.2.2.2.1 hk
          · rw [← HQ4.out.2.2, ← hi2]
            exact q2.ownsRow hrow5 (fun g hg hl e => by simp at e; have := hfr5 g hg; omega)
          · have := hfr5 g hg
            have h1 := HQ4.out.1.size
            have h2 := HE.out.1.size
            omega
          · exact (HE.out.1.trans (hq.mono (fun _ e => e.elim))).transNew q2 (fun i hi e => by simp at e; subst e; have := HK1.out.2.1; omega))
        have HDW : Hid (wr.heap[D]? = some (.deferred (some []))) := Lib.hid ((q5.block D hD4 id).trans ((HQ4.out.1.block D hDl id).trans HD.out))
        clear hrow5 hfr5 q5 hTN hi
        gi_wp2
        refine leaves_marks [D] _ (by simp) (fun D' hD' => by simp at hD'; subst hD'; exact HDW.out) (fun W2 q2 _ => ?_)
        exact ⟨_, resInOrder W2 (.slice a5 i c5) _ rfl, HEND.out W2 q2⟩
  case hstop => intro D c pre post own' W' _ _ h; exact h.elim

end Go.Proofs.YtkfcgamdlckncaaGreat

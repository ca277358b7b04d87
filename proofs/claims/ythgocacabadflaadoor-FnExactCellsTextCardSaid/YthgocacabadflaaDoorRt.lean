/-
  The model's l7Alive, and what it says of events.
-/
import Derived.Test.YthgocacabadflaaDoorRr
namespace Go.Proofs.YthgocacabadflaaDoor
set_option linter.unusedVariables false
set_option linter.unusedSimpArgs false
open Go.RowKit

/-! ### the plain account -/
theorem asc_ext : ∀ (a b : List Nat), a.Pairwise (· < ·) → b.Pairwise (· < ·) → (∀ x, x ∈ a ↔ x ∈ b) → a = b
  | [], [], _, _, _ => rfl
  | [], y :: b, _, _, h => by have := (h y).2 (by simp); simp at this
  | x :: a, [], _, _, h => by have := (h x).1 (by simp); simp at this
  | x :: a, y :: b, ha, hb, h => by
    have ha := List.pairwise_cons.1 ha
    have hb := List.pairwise_cons.1 hb
    have e : x = y := by
      rcases List.mem_cons.1 ((h x).1 (by simp)) with h1 | h1
      · exact h1
      · rcases List.mem_cons.1 ((h y).2 (by simp)) with h2 | h2
        · exact h2.symm
        · have := ha.1 y h2; have := hb.1 x h1; omega
    subst e
    rw [asc_ext a b ha.2 hb.2 (fun z => ?_)]
    constructor
    · intro hz
      rcases List.mem_cons.1 ((h z).1 (by simp [hz])) with h1 | h1
      · have := ha.1 z hz; omega
      · exact h1
    · intro hz
      rcases List.mem_cons.1 ((h z).2 (by simp [hz])) with h1 | h1
      · have := hb.1 z hz; omega
      · exact h1

/-- The numbers of the lives that fit. -/
def selN (p : Lf → Bool) : Nat → List Lf → List Nat
  | _, [] => []
  | k, f :: r => if p f = true then (k + 1) :: selN p (k + 1) r else selN p (k + 1) r
theorem selN_mem (p : Lf → Bool) : ∀ (k : Nat) (s : List Lf) (n : Nat), n ∈ selN p k s ↔ ∃ j f, n = k + j + 1 ∧ s[j]? = some f ∧ p f = true
  | k, [], n => by simp [selN]
  | k, x :: r, n => by
    have ih := selN_mem p (k + 1) r n
    have hr : (∃ j f, n = k + 1 + j + 1 ∧ r[j]? = some f ∧ p f = true) → ∃ j f, n = k + j + 1 ∧ (x :: r)[j]? = some f ∧ p f = true := fun ⟨j, f, h1, h2, h3⟩ => ⟨j + 1, f, by omega, by simpa using h2, h3⟩
    unfold selN
    by_cases hx : p x = true
    · rw [if_pos hx, List.mem_cons, ih]
      constructor
      · rintro (rfl | h)
        · exact ⟨0, x, by omega, rfl, hx⟩
        · exact hr h
      · rintro ⟨j, f, h1, h2, h3⟩
        cases j with
        | zero => exact .inl (by omega)
        | succ j => exact .inr ⟨j, f, by omega, by simpa using h2, h3⟩
    · rw [if_neg hx, ih]
      constructor
      · exact hr
      · rintro ⟨j, f, h1, h2, h3⟩
        cases j with
        | zero => have : x = f := by simpa using h2
                  subst this; exact absurd h3 hx
        | succ j => exact ⟨j, f, by omega, by simpa using h2, h3⟩
theorem selN_asc (p : Lf → Bool) : ∀ (k : Nat) (s : List Lf), (selN p k s).Pairwise (· < ·)
  | _, [] => List.Pairwise.nil
  | k, x :: r => by
    unfold selN
    split
    · refine List.pairwise_cons.2 ⟨fun b hb => ?_, selN_asc p (k + 1) r⟩
      obtain ⟨j, f, h1, _⟩ := (selN_mem p (k + 1) r b).1 hb
      omega
    · exact selN_asc p (k + 1) r
theorem selN_snoc (p : Lf → Bool) : ∀ (k : Nat) (s : List Lf) (f : Lf), selN p k (s ++ [f]) = selN p k s ++ (if p f = true then [k + s.length + 1] else [])
  | k, [], f => by show (if p f = true then (k + 1) :: [] else []) = _; simp [selN]
  | k, x :: r, f => by
    have ih := selN_snoc p (k + 1) r f
    show (if p x = true then (k + 1) :: selN p (k + 1) (r ++ [f]) else selN p (k + 1) (r ++ [f])) = (if p x = true then (k + 1) :: selN p (k + 1) r else selN p (k + 1) r) ++ _
    rw [ih, show k + 1 + r.length + 1 = k + (x :: r).length + 1 by simp; omega]
    split <;> rfl
theorem selN_len (p : Lf → Bool) : ∀ (k : Nat) (s : List Lf), (selN p k s).length ≤ s.length
  | _, [] => Nat.le_refl _
  | k, x :: r => by
    have := selN_len p (k + 1) r
    unfold selN
    split <;> simp <;> omega
theorem selN_take {p : Lf → Bool} {s : List Lf} {i : Nat} {f : Lf} (h : s[i]? = some f) : selN p 0 (s.take (i + 1)) = selN p 0 (s.take i) ++ (if p f = true then [i + 1] else []) := by
  have hi := (List.getElem?_eq_some_iff.1 h).1
  rw [List.take_add_one, h]
  show selN p 0 (s.take i ++ [f]) = _
  rw [selN_snoc, List.length_take, Nat.min_eq_left (by omega), Nat.zero_add]

/-- Alive behind event k. -/
def atK (k : Int) (f : Lf) : Bool := decide (f.b ≤ k ∧ (f.d < 0 ∨ k < f.d))

theorem alive_mem {l : List Ev} (hg : Good l) : ∀ (k : Nat), k < l.length → ∀ n, n ∈ aliveL (l.take (k + 1)) ↔ 1 ≤ n ∧ ∃ f, (livesL l)[n - 1]? = some f ∧ f.b ≤ (k : Int) ∧ (f.d < 0 ∨ (k : Int) < f.d) := by
  induction hg with
  | nil => intro k hk; simp at hk
  | @snoc l e hg hf ih =>
    intro k hk n
    by_cases hkl : k < l.length
    · rw [List.take_append_of_le_length (by omega), ih k hkl n, livesL_snoc]
      refine and_congr_right (fun hn1 => ?_)
      unfold lifeStep
      by_cases h43 : e.k = 43
      · rw [if_pos h43]
        constructor
        · rintro ⟨f, h1, h2⟩
          exact ⟨f, by rw [List.getElem?_append_left (List.getElem?_eq_some_iff.1 h1).1]; exact h1, h2⟩
        · rintro ⟨f, h1, h2⟩
          by_cases hx : n - 1 < (livesL l).length
          · rw [List.getElem?_append_left hx] at h1; exact ⟨f, h1, h2⟩
          · rw [List.getElem?_append_right (by omega)] at h1
            have hz := (List.getElem?_eq_some_iff.1 h1).1
            simp at hz
            rw [show n - 1 - (livesL l).length = 0 by omega] at h1
            have := Option.some.inj (show some (⟨l.length, l.length, -1⟩ : Lf) = some f from h1)
            subst this
            have h3 : (l.length : Int) ≤ (k : Int) := h2.1
            omega
      · rw [if_neg h43]
        have hal : ∀ f, (livesL l)[e.n - 1]? = some f → f.d < 0 := fun f h => by
          rcases hf with ⟨h1, _⟩ | ⟨_, h1⟩
          · exact absurd h1 h43
          · obtain ⟨_, f2, h2, h3⟩ := (hg.says.alive e.n).1 h1
            rw [h] at h2; rw [Option.some.inj h2]; exact h3
        by_cases h46 : e.k = 46
        · rw [if_pos h46]
          by_cases hx : e.n - 1 = n - 1
          · rw [← hx, mod_eq]
            constructor
            · rintro ⟨f, h1, h2⟩; exact ⟨{ f with u := (l.length : Int) }, by rw [h1]; rfl, h2⟩
            · rintro ⟨f, h1, h2⟩
              cases hc : (livesL l)[e.n - 1]? with
              | none => rw [hc] at h1; cases h1
              | some g => rw [hc] at h1; have := Option.some.inj h1; subst this; exact ⟨g, rfl, h2⟩
          · rw [mod_ne hx]
        · rw [if_neg h46]
          by_cases hx : e.n - 1 = n - 1
          · rw [← hx, mod_eq]
            constructor
            · rintro ⟨f, h1, h2, h3⟩; exact ⟨{ f with d := (l.length : Int) }, by rw [h1]; rfl, h2, .inr (show (k : Int) < (l.length : Int) by omega)⟩
            · rintro ⟨f, h1, h2⟩
              cases hc : (livesL l)[e.n - 1]? with
              | none => rw [hc] at h1; cases h1
              | some g => rw [hc] at h1; have := Option.some.inj h1; subst this; exact ⟨g, rfl, h2.1, .inl (hal g hc)⟩
          · rw [mod_ne hx]
    · have hke : k = l.length := by simp at hk; omega
      subst hke
      have hs := (hg.snoc hf).says
      rw [List.take_of_length_le (by simp), hs.alive n]
      refine and_congr_right (fun hn1 => ?_)
      constructor
      · rintro ⟨f, h1, h2⟩
        have hb := hs.bnd _ f h1
        rw [List.length_append] at hb
        exact ⟨f, h1, by simp at hb; omega, .inl h2⟩
      · rintro ⟨f, h1, h2, h3⟩
        have hb := hs.bnd _ f h1
        rw [List.length_append] at hb
        exact ⟨f, h1, by simp at hb; omega⟩

theorem alive_sel {l : List Ev} (hg : Good l) {k : Nat} (hk : k < l.length) : selN (atK (k : Int)) 0 (livesL l) = aliveL (l.take (k + 1)) := by
  refine asc_ext _ _ (selN_asc _ _ _) (hg.take (k + 1)).says.asc (fun n => ?_)
  rw [selN_mem, alive_mem hg k hk n]
  constructor
  · rintro ⟨j, f, rfl, h1, h2⟩
    unfold atK at h2
    exact ⟨by omega, f, by rw [show 0 + j + 1 - 1 = j by omega]; exact h1, of_decide_eq_true h2⟩
  · rintro ⟨h1, f, h2, h3⟩
    exact ⟨n - 1, f, by omega, h2, by unfold atK; exact decide_eq_true h3⟩

/-- What the loop of l7Alive holds. -/
def AlAt (w : World) (k : Int) (s : List Lf) (vo vi : Value) (wr : World) : Prop :=
  ∃ i : Nat, i ≤ s.length ∧ vi = .int .i64 (i : Int) ∧ NRow wr vo (selN (atK k) 0 (s.take i)) ∧ (∀ g, vo.ownBlock = some g → w.heap.size ≤ g) ∧ Keeps noB w wr

set_option maxRecDepth 100000 in
set_option maxHeartbeats 8000000 in
theorem alive_any (v : Value) (s : List Lf) (k : Int) (w : World) (h : LRow w v s) (hl : s.length ≤ 600) : Calls Tryd.prog 43 #[v, .int .i64 k] w (WithoutPost w (selN (atK k) 0 s)) := by
  obtain ⟨i0, hi, hz0, hz1, hz2⟩ := info_parts Tryd.infoI3
  have HI := Lib.hid (And.intro hi (And.intro hz0 (And.intro hz1 hz2)))
  obtain ⟨a, c, rfl⟩ := row_shape (ok := fun _ => True) ⟨h, fun _ _ => trivial⟩
  obtain ⟨N, hN⟩ : ∃ N, N = s.length := ⟨_, rfl⟩
  have o1 := World.ownsRow_made w #[] 0 (e := 3) (size := 1) (Nat.zero_le _) (by simp [maxLen]) rfl
  have HP : Hid (AlAt w k s (.slice (some ⟨w.heap.size, 0, none⟩) 0 0) (.int .i64 0) (w.alloc (.cells #[] 3))) :=
    ⟨0, Nat.zero_le _, rfl, o1, fun g hg => by simp [Value.ownBlock] at hg; omega, (Keeps.refl noB w).alloc _⟩
  have HR : Hid (∀ i wr, Keeps noB w wr → i < N → ∃ g f, a = some ⟨g, 0, none⟩ ∧ N ≤ c ∧ s[i]? = some f ∧ wr.cell? ⟨g, i * 3, none⟩ = some (.int .i64 f.b) ∧ wr.cell? ⟨g, i * 3 + 1, none⟩ = some (.int .i64 f.u) ∧ wr.cell? ⟨g, i * 3 + 2, none⟩ = some (.int .i64 f.d)) := fun i wr q hi => by
    obtain ⟨g, d, e, hc, hgl, hh⟩ := row_capM (ok := fun _ => True) h (by omega)
    simp only [Value.slice.injEq, true_and] at e
    obtain ⟨rfl, rfl⟩ := e
    have hm := List.getElem?_eq_getElem (l := s) (i := i) (by omega)
    obtain ⟨g0, g1, g2⟩ := lfC_get s i _ hm
    rw [show 3 * i = i * 3 by omega] at g0 g1 g2
    exact ⟨g, _, rfl, by omega, hm, (q.cell (p := ⟨g, i * 3, none⟩) hgl id).trans (hh _ _ g0).1, (q.cell (p := ⟨g, i * 3 + 1, none⟩) hgl id).trans (hh _ _ g1).1, (q.cell (p := ⟨g, i * 3 + 2, none⟩) hgl id).trans (hh _ _ g2).1⟩
  have HN := Lib.hid hN
  rw [← hN] at hl ⊢
  clear h hN o1 hi hz0 hz1 hz2
  go_enter Tryd.func43, Tryd.ntmps43
  go_wp2_with fail
  go_loopw [5, 11] (fun vo vi wr => AlAt w k s vo vi wr) (fun _ vi _ => N - (intOf vi).toNat)
  case atStart => exact HP.out
  case round =>
    clear HP
    obtain ⟨i, hin, rfl, hrow, hfr, hq⟩ := hrel
    rw [← HN.out] at hin
    obtain ⟨T, hT⟩ : ∃ T, T = selN (atK k) 0 (s.take i) := ⟨_, rfl⟩
    rw [← hT] at hrow
    have hTl : T.length ≤ i := by
      rw [hT]
      refine Nat.le_trans (selN_len _ _ _) ?_
      rw [List.length_take]; omega
    obtain ⟨a', c', rfl⟩ := hrow.shape
    obtain ⟨nL, hnL⟩ : ∃ nL, nL = T.length := ⟨_, rfl⟩
    by_cases hlt : i < N
    · obtain ⟨g, f, rfl, hc, hm, r1, r2, r3⟩ := HR.out i wr hq hlt
      have hi1 : (i : Int) < (N : Int) := by omega
      have hi2 : (N : Int) ≤ (c : Int) := by omega
      have hi6 : (i : Int) ≤ 600 := by omega
      have hstep := selN_take (p := atK k) hm
      rw [← hT] at hstep
      -- a life that fits
      have HYES : Hid (atK k f = true → ∀ v' w3, w3.ownsRow 0 3 1 v' (nL + 1) (T.map i64 ++ [.int .i64 ((i : Int) + 1)]) → ((wr.alloc (.cells #[.int .i64 f.b, .int .i64 f.u, .int .i64 f.d] 41)).alloc (.cells #[.int .i64 ((i : Int) + 1)] 3)).grownBy w3 (Value.slice a' nL c').ownBlock →
          Fresh ((wr.alloc (.cells #[.int .i64 f.b, .int .i64 f.u, .int .i64 f.d] 41)).alloc (.cells #[.int .i64 ((i : Int) + 1)] 3)) (.slice a' nL c') v' → AlAt w k s v' (.int .i64 ((i : Int) + 1)) w3) := fun hk v' w3 hown' hgrow hfresh => by
        have qa : Keeps (fun g => (Value.slice a' nL c').ownBlock = some g) wr w3 := (((Keeps.refl _ wr).alloc _).alloc _).grown hgrow (fun g hg => .inl hg)
        have h2 : ∀ g, (Value.slice a' nL c').ownBlock = some g → w.heap.size ≤ g := by rw [hnL]; exact hfr
        refine ⟨i + 1, by rw [← HN.out]; omega, by go_num, ?_, ?_, hq.transNew qa (fun i hi e => by have := h2 i e; omega)⟩
        · rw [hstep, if_pos hk]
          unfold NRow
          rw [List.length_append, List.map_append, ← hnL]
          exact hown'
        · intro g hg
          rcases hfresh with h | h
          · exact h2 g (h ▸ hg)
          · have := h g hg; have := hq.size; simp at *; omega
      have HNO : Hid (¬ atK k f = true → ∀ W', Keeps noB wr W' → AlAt w k s (.slice a' nL c') (.int .i64 ((i : Int) + 1)) W') := fun hk W' q => by
        rw [if_neg hk, List.append_nil] at hstep
        rw [hnL]
        exact ⟨i + 1, by rw [← HN.out]; omega, by go_num, by rw [hstep]; exact hrow.keeps q (fun _ _ e => e), hfr, hq.trans q⟩
      obtain ⟨LV, hLV⟩ : ∃ LV, LV = T.map i64 := ⟨_, rfl⟩
      have HOW : Hid (wr.ownsRow 0 3 1 (.slice a' nL c') nL LV) := by rw [hnL, hLV]; exact hrow
      have hn1 : nL ≤ 600 := by omega
      rw [← hLV] at HYES
      rw [← hnL]
      clear hstep hm hT hTl hnL hrow hfr hq hLV
      obtain ⟨hi1', hz0, hz1, hz2⟩ := HI.out
      by_cases hb : f.b ≤ k
      · by_cases hd : f.d < 0
        · have HK : Hid (atK k f = true) := Lib.hid (by unfold atK; exact decide_eq_true ⟨hb, .inl hd⟩)
          go_wp2_with (at_builtin; refine wpList_append_fresh _ rfl _ _ 25 rfl 3 i0 _ 1 8 Tryd.underlying25 hi1' hz0 hz1 hz2 rfl (by decide) (.slice a' nL c') nL LV rfl ((((Keeps.refl noB wr).alloc _).alloc _).ownsRow HOW.out (fun _ _ _ e => e)) ⟨wr.heap.size + 1, 0, none⟩ 1 1 [.int .i64 ((i : Int) + 1)] rfl rfl (by have h := cells_one (wr.alloc (.cells #[.int .i64 f.b, .int .i64 f.u, .int .i64 f.d] 41)) (.int .i64 ((i : Int) + 1)) 3; rw [World.size_alloc] at h; exact h) (by intro u hu; simp at hu; subst hu; rfl) (by unfold maxLen; omega) (by omega) ?_)
          intro v' w3 hown' hgrow hfresh
          have HE := Lib.hid (HYES.out HK.out v' w3 hown' hgrow hfresh)
          obtain ⟨a2, c2, rfl⟩ := row_shape (ok := fun _ => True) ⟨hown', fun _ _ => trivial⟩
          clear hown' hgrow hfresh
          go_wp2_with fail
          go_roundw
          case rel => exact HE.out
          case measure => simp [intOf]; omega
        · by_cases hd2 : k < f.d
          · have HK : Hid (atK k f = true) := Lib.hid (by unfold atK; exact decide_eq_true ⟨hb, .inr hd2⟩)
            go_wp2_with (at_builtin; refine wpList_append_fresh _ rfl _ _ 25 rfl 3 i0 _ 1 8 Tryd.underlying25 hi1' hz0 hz1 hz2 rfl (by decide) (.slice a' nL c') nL LV rfl ((((Keeps.refl noB wr).alloc _).alloc _).ownsRow HOW.out (fun _ _ _ e => e)) ⟨wr.heap.size + 1, 0, none⟩ 1 1 [.int .i64 ((i : Int) + 1)] rfl rfl (by have h := cells_one (wr.alloc (.cells #[.int .i64 f.b, .int .i64 f.u, .int .i64 f.d] 41)) (.int .i64 ((i : Int) + 1)) 3; rw [World.size_alloc] at h; exact h) (by intro u hu; simp at hu; subst hu; rfl) (by unfold maxLen; omega) (by omega) ?_)
            intro v' w3 hown' hgrow hfresh
            have HE := Lib.hid (HYES.out HK.out v' w3 hown' hgrow hfresh)
            obtain ⟨a2, c2, rfl⟩ := row_shape (ok := fun _ => True) ⟨hown', fun _ _ => trivial⟩
            clear hown' hgrow hfresh
            go_wp2_with fail
            go_roundw
            case rel => exact HE.out
            case measure => simp [intOf]; omega
          · have HE := Lib.hid (HNO.out (by unfold atK; simp; omega))
            clear HNO HYES
            go_wp2_with fail
            go_roundw
            case rel => exact HE.out _ ((Keeps.refl _ _).alloc _)
            case measure => simp [intOf]; omega
      · have HE := Lib.hid (HNO.out (by unfold atK; simp; omega))
        clear HNO HYES
        go_wp2_with fail
        go_roundw
        case rel => exact HE.out _ ((Keeps.refl _ _).alloc _)
        case measure => simp [intOf]; omega
    · have HE : Hid (WithoutPost w (selN (atK k) 0 s) (.returned (.slice a' nL c')) wr) := by
        rw [List.take_of_length_le (by have := HN.out; omega)] at hT
        rw [← hT, hnL]
        exact ⟨_, rfl, hrow, hfr, hq⟩
      have hi1 : ¬ (i : Int) < (N : Int) := by omega
      rw [← hnL]
      clear hT hTl hnL hrow hfr hq
      go_wp2_with fail
      go_ret
      exact HE.out

end Go.Proofs.YthgocacabadflaaDoor

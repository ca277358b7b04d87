/-
  AreNested, on both sides.
-/
import Derived.Test.YtnjkaojgcnepdaaDoorRu
import Derived.Test.YtnjkaojgcnepdaaDoorQi
import Derived.BigQuiet
import Derived.Deep.QuietTactic
import Derived.Sort.BigQuietIn
namespace Go.Proofs.YtnjkaojgcnepdaaDoor
set_option linter.unusedVariables false
set_option linter.unusedSimpArgs false
open Go.RowKit

attribute [local go_sem] Oper.semAt_some

/-! ### the plain account -/
/-- A value is destroyed only as the last one made that is alive. -/
def popOk (A : List Nat) (e : Ev) : Bool := if e.k = 45 then decide (A.getLast? = some e.n) else true
def nestB (l : List Ev) : Bool := (List.range l.length).all (fun j => match l[j]? with | some e => popOk (aliveL (l.take j)) e | none => true)
theorem nestB_true {l : List Ev} (h : ∀ (j : Nat) (e : Ev), l[j]? = some e → popOk (aliveL (l.take j)) e = true) : nestB l = true := by
  unfold nestB
  rw [List.all_eq_true]
  intro j _
  cases he : l[j]? with
  | none => rfl
  | some e => exact h j e he
theorem nestB_false {l : List Ev} {j : Nat} {e : Ev} (he : l[j]? = some e) (h : popOk (aliveL (l.take j)) e = false) : nestB l = false := by
  unfold nestB
  rw [List.all_eq_false]
  refine ⟨j, List.mem_range.2 (List.getElem?_eq_some_iff.1 he).1, ?_⟩
  rw [he]
  show ¬ popOk (aliveL (l.take j)) e = true
  rw [h]; decide
def nestV (r : Option (List Ev)) : Bool := r.isSome && nestB (r.getD [])

theorem asc_last {A : List Nat} {p : Nat} (h : A.Pairwise (· < ·)) (hp : A.getLast? = some p) : ∀ m ∈ A, m ≤ p := fun m hm => by
  obtain ⟨P, rfl⟩ := List.getLast?_eq_some_iff.1 hp
  rcases List.mem_append.1 hm with h1 | h1
  · exact Nat.le_of_lt ((List.pairwise_append.1 h).2.2 m h1 p (by simp))
  · have : m = p := by simpa using h1
    omega

theorem last_out {A : List Nat} {n : Nat} (h : A.Pairwise (· < ·)) (hn : n ∈ A) : A.getLast? = some n ↔ ¬ ∃ m, (A.filter (fun m => decide (m ≠ n))).getLast? = some m ∧ n < m := by
  constructor
  · rintro hl ⟨m, hm, hlt⟩
    have h1 := List.mem_of_getLast? hm
    have := asc_last h hl m (List.mem_filter.1 h1).1
    omega
  · intro hno
    cases hl : A.getLast? with
    | none => rw [List.getLast?_eq_none_iff] at hl; subst hl; simp at hn
    | some p =>
      by_cases hpn : p = n
      · rw [hpn]
      · exfalso
        have hpA := List.mem_of_getLast? hl
        have hpF : p ∈ A.filter (fun m => decide (m ≠ n)) := List.mem_filter.2 ⟨hpA, by simpa using hpn⟩
        cases hf : (A.filter (fun m => decide (m ≠ n))).getLast? with
        | none => rw [List.getLast?_eq_none_iff] at hf; rw [hf] at hpF; simp at hpF
        | some m =>
          have h1 := asc_last (h.filter _) hf p hpF
          have h2 := asc_last h hl n hn
          exact hno ⟨m, hf, by omega⟩

/-- What the program looks for. -/
def bad (l : List Ev) (x : Nat × List Nat) : Prop := ∃ e m, l[x.1]? = some e ∧ e.k = 45 ∧ x.2.getLast? = some m ∧ e.n < m

theorem bad_iff {l : List Ev} (hg : Good l) {j : Nat} {e : Ev} (he : l[j]? = some e) : bad l (j, aliveL (l.take (j + 1))) ↔ popOk (aliveL (l.take j)) e = false := by
  unfold bad popOk
  have hj := hg.at j e he
  by_cases hk : e.k = 45
  · have hin : e.n ∈ aliveL (l.take j) := by
      rcases hj.2 with ⟨h1, _⟩ | ⟨_, h1⟩
      · rw [hk] at h1; exact absurd h1 (by decide)
      · exact h1
    have hst : aliveL (l.take (j + 1)) = (aliveL (l.take j)).filter (fun m => decide (m ≠ e.n)) := by
      rw [alive_take he]; unfold aliveStep; rw [if_neg (by rw [hk]; decide), if_pos hk]
    have h := last_out hj.1.says.asc hin
    rw [if_pos hk]
    constructor
    · rintro ⟨e2, m, h1, h2, h3, h4⟩
      have : e2 = e := by rw [he] at h1; exact (Option.some.inj h1).symm
      subst this
      rw [hst] at h3
      exact decide_eq_false (fun e => (h.1 e) ⟨m, h3, h4⟩)
    · intro hf
      have hf := of_decide_eq_false hf
      have : ∃ m, ((aliveL (l.take j)).filter (fun m => decide (m ≠ e.n))).getLast? = some m ∧ e.n < m := Classical.byContradiction (fun hc => hf (h.2 hc))
      obtain ⟨m, h1, h2⟩ := this
      exact ⟨e, m, he, hk, by rw [hst]; exact h1, h2⟩
  · rw [if_neg hk]
    constructor
    · rintro ⟨e2, m, h1, h2, _⟩
      have : e2 = e := by rw [he] at h1; exact (Option.some.inj h1).symm
      subst this; exact absurd h2 hk
    · intro h; cases h

theorem behind_mem {l : List Ev} {x : Nat × List Nat} (h : x ∈ behindL l) : ∃ j e, l[j]? = some e ∧ x = (j, aliveL (l.take (j + 1))) := by
  unfold behindL at h
  obtain ⟨j, hj, rfl⟩ := List.mem_map.1 h
  exact ⟨j, _, List.getElem?_eq_getElem (List.mem_range.1 hj), rfl⟩
theorem nest_of_none {l : List Ev} (hg : Good l) (h : ∀ x ∈ behindL l, ¬ bad l x) : nestB l = true := nestB_true (fun j e he => by
  have hx := h (j, aliveL (l.take (j + 1))) (List.mem_of_getElem? (behindL_get (List.getElem?_eq_some_iff.1 he).1))
  rw [bad_iff hg he] at hx
  simpa using hx)
theorem nest_of_some {l : List Ev} (hg : Good l) {x : Nat × List Nat} (hx : x ∈ behindL l) (h : bad l x) : nestB l = false := by
  obtain ⟨j, e, he, rfl⟩ := behind_mem hx
  exact nestB_false he ((bad_iff hg he).1 h)

theorem NRow.pop {w : World} {g n c : Nat} {P : List Nat} {p : Nat} (h : NRow w (.slice (some ⟨g, 0, none⟩) (n + 1) c) (P ++ [p])) (hP : P.length = n) : NRow w (.slice (some ⟨g, 0, none⟩) n c) P := by
  unfold NRow at h ⊢
  obtain ⟨h1, h2⟩ := h
  refine ⟨by simp, ?_⟩
  rcases h2 with ⟨e, _⟩ | ⟨g', c', cur, e, hb, hh, hnc, hcm, hcs, htk⟩
  · cases e
  · injection e with e1 e2 e3
    injection e1 with e1
    injection e1 with e1 _ _
    subst e1
    subst e3
    refine .inr ⟨g, c, cur, by rw [hP], hb, hh, by simp at hnc; omega, hcm, hcs, ?_⟩
    have e2 : cur.toList.take (P.length * 1) = (cur.toList.take ((P ++ [p]).length * 1)).take P.length := by
      rw [List.take_take]; congr 1; simp
    rw [e2, htk, List.map_append, List.take_append_of_le_length (by simp), List.take_of_length_le (by simp)]

/-- What the model's loop holds. -/
def NsAt (w w1 : World) (l : List Ev) (vo vi : Value) (wr : World) : Prop :=
  ∃ i : Nat, i ≤ l.length ∧ vi = .int .i64 (i : Int) ∧ NRow wr vo (aliveL (l.take i)) ∧ (∀ g, vo.ownBlock = some g → w1.heap.size ≤ g) ∧ (∀ (j : Nat) (e : Ev), j < i → l[j]? = some e → popOk (aliveL (l.take j)) e = true) ∧ Keeps noB w1 wr

set_option maxRecDepth 100000 in
set_option maxHeartbeats 8000000 in
theorem snested_any (s : ByteArray) (hs : s.size ≤ 1048576) (w : World) : Calls Tryd.prog 25 #[.string s] w (ValidP w (nestV (readP s))) := by
  obtain ⟨i0, hi, hz0, hz1, hz2⟩ := info_parts Tryd.infoI3
  have HI := Lib.hid (And.intro hi (And.intro hz0 (And.intro hz1 hz2)))
  have hgl : Good ((readP s).getD []) ∧ ((readP s).getD []).length ≤ 600 := by
    cases hr : readP s with
    | none => exact ⟨.nil, by simp⟩
    | some l => exact readP_good hr
  have hsome : nestB ((readP s).getD []) = false → (readP s).isSome = true := by
    cases hr : readP s with
    | none => intro h; cases h
    | some l => intro _; rfl
  obtain ⟨hg, hl⟩ := hgl
  have H := Lib.hid (read_any s hs w)
  unfold ReadPost at H
  unfold nestV
  generalize (readP s).getD [] = l at *
  generalize (readP s).isSome = bv at *
  obtain ⟨N, hN⟩ : ∃ N, N = l.length := ⟨_, rfl⟩
  have hN6 : N ≤ 600 := by omega
  have HN := Lib.hid hN
  have HG := Lib.hid (And.intro hg hl)
  clear hg hl hi hz0 hz1 hz2 hsome
  go_enter Tryd.func25, Tryd.ntmps25
  go_wp2_with fail
  refine H.out.mono ?_
  rintro e w1 ⟨v, rfl, hrow, _, q1⟩
  obtain ⟨a, c, rfl⟩ := row_shape (ok := fun _ => True) ⟨hrow, fun _ _ => trivial⟩
  have HQ := Lib.hid q1
  have o1 := World.ownsRow_made w1 #[] 0 (e := 3) (size := 1) (Nat.zero_le _) (by simp [maxLen]) rfl
  have HP : Hid (NsAt w w1 l (.slice (some ⟨w1.heap.size, 0, none⟩) 0 0) (.int .i64 0) (w1.alloc (.cells #[] 3))) :=
    ⟨0, Nat.zero_le _, rfl, o1, fun g hg => by simp [Value.ownBlock] at hg; omega, fun j e hj _ => by omega, (Keeps.refl noB w1).alloc _⟩
  have HR : Hid (∀ i wr, Keeps noB w1 wr → i < N → ∃ g e, a = some ⟨g, 0, none⟩ ∧ N ≤ c ∧ l[i]? = some e ∧ wr.cell? ⟨g, i * 2, none⟩ = some (.int .u8 (e.k.toNat : Int)) ∧ wr.cell? ⟨g, i * 2 + 1, none⟩ = some (.int .i64 (e.n : Int))) := fun i wr q hi => by
    obtain ⟨g, d, e, hc, hgl, hh⟩ := row_capM (ok := fun _ => True) hrow (by omega)
    simp only [Value.slice.injEq, true_and] at e
    obtain ⟨rfl, rfl⟩ := e
    have hm := List.getElem?_eq_getElem (l := l) (i := i) (by omega)
    obtain ⟨g0, g1⟩ := evC_get l i _ hm
    rw [show 2 * i = i * 2 by omega] at g0 g1
    exact ⟨g, _, rfl, by omega, hm, (q.cell (p := ⟨g, i * 2, none⟩) hgl id).trans (hh _ _ g0).1, (q.cell (p := ⟨g, i * 2 + 1, none⟩) hgl id).trans (hh _ _ g1).1⟩
  rw [← hN]
  clear q1 hrow hN o1
  go_wp2_with fail
  go_loopw [5, 16] (fun vo vi wr => NsAt w w1 l vo vi wr) (fun _ vi _ => N - (intOf vi).toNat)
  case atStart => exact HP.out
  case round =>
    clear HP
    obtain ⟨i, hin, rfl, hrow, hfr, hok, hq⟩ := hrel
    rw [← HN.out] at hin
    obtain ⟨A, hA⟩ : ∃ A, A = aliveL (l.take i) := ⟨_, rfl⟩
    have hfew : A.length ≤ 600 := by rw [hA]; exact alive_few HG.out.1 HG.out.2 i
    rw [← hA] at hrow
    obtain ⟨a', c', rfl⟩ := hrow.shape
    obtain ⟨nL, hnL⟩ : ∃ nL, nL = A.length := ⟨_, rfl⟩
    by_cases hlt : i < N
    · obtain ⟨gl, e, rfl, hc, hm, r1, r2⟩ := HR.out i wr hq hlt
      have hi1 : (i : Int) < (N : Int) := by omega
      have hi2 : (N : Int) ≤ (c : Int) := by omega
      have hfit := (HG.out.1.at i e hm).2
      have hstep := alive_take hm
      rw [← hA] at hstep
      have hasc := (HG.out.1.take i).says.asc
      rw [← hA] at hasc
      obtain ⟨kv, hkv⟩ : ∃ kv : Int, kv = (e.k.toNat : Int) := ⟨_, rfl⟩
      have hk43 : (kv == 43) = decide (e.k = 43) := by rw [hkv]; exact byte_is e.k 43
      have hk45 : (kv == 45) = decide (e.k = 45) := by rw [hkv]; exact byte_is e.k 45
      rw [← hkv] at r1
      have hnext : popOk A e = true → ∀ (j : Nat) (e : Ev), j < i + 1 → l[j]? = some e → popOk (aliveL (l.take j)) e = true := fun hp j e2 hj he2 => by
        by_cases hji : j < i
        · exact hok j e2 hji he2
        · obtain rfl : j = i := by omega
          rw [hm] at he2
          rw [← Option.some.inj he2, ← hA]; exact hp
      have HROW := Lib.hid (And.intro hrow (And.intro hfr (And.intro hq hnext)))
      have hn6 : nL ≤ 600 := by omega
      rcases hfit with ⟨h43, hn0⟩ | ⟨hk, hn⟩
      · have x1 : (kv == 43) = true := by rw [hk43]; simp [h43]
        have hst : aliveL (l.take (i + 1)) = A ++ [e.n] := by rw [hstep]; unfold aliveStep; rw [if_pos h43]
        have hpo : popOk A e = true := by unfold popOk; rw [if_neg (by rw [h43]; decide)]
        have HST := Lib.hid (And.intro hst hpo)
        obtain ⟨LV, hLV⟩ : ∃ LV, LV = A.map i64 := ⟨_, rfl⟩
        have HO : Hid (wr.ownsRow 0 3 1 (.slice a' nL c') nL LV) := by have h := HROW.out.1; unfold NRow at h; rw [← hnL, ← hLV] at h; exact h
        have HLV := Lib.hid hLV
        have HNL := Lib.hid hnL
        rw [← hnL]
        clear hstep hst hpo hm h43 hn0 hasc hk43 hk45 hkv hLV hnL hfew hA hrow hfr hq hok hnext
        obtain ⟨hi1', hz0, hz1, hz2⟩ := HI.out
        go_wp2_with (at_builtin; refine wpList_append_fresh _ rfl _ _ 28 rfl 3 i0 _ 1 8 Tryd.underlying28 hi1' hz0 hz1 hz2 rfl (by decide) (.slice a' nL c') nL LV rfl ((((Keeps.refl noB wr).alloc _).alloc _).ownsRow HO.out (fun _ _ _ e => e)) ⟨wr.heap.size + 1, 0, none⟩ 1 1 [.int .i64 (e.n : Int)] rfl rfl (by have h := cells_one (wr.alloc (.cells #[.int .u8 kv, .int .i64 (e.n : Int)] 60)) (.int .i64 (e.n : Int)) 3; rw [World.size_alloc] at h; exact h) (by intro u hu; simp at hu; subst hu; rfl) (by unfold maxLen; omega) (by omega) ?_)
        intro v' w3 hown' hgrow hfresh
        have hnew : NsAt w w1 l v' (.int .i64 ((i : Int) + 1)) w3 := by
          obtain ⟨h1, h2, h3, h4⟩ := HROW.out
          have qa : Keeps (fun g => (Value.slice a' nL c').ownBlock = some g) wr w3 := (((Keeps.refl _ wr).alloc _).alloc _).grown hgrow (fun g hg => .inl hg)
          have h2 : ∀ g, (Value.slice a' nL c').ownBlock = some g → w1.heap.size ≤ g := by rw [HNL.out]; exact h2
          refine ⟨i + 1, by rw [← HN.out]; omega, by go_num, ?_, ?_, h4 HST.out.2, h3.transNew qa (fun i hi e => by have := h2 i e; omega)⟩
          · rw [HST.out.1]
            unfold NRow
            rw [List.length_append, List.map_append, ← HNL.out, ← HLV.out]
            exact hown'
          · intro g hg
            rcases hfresh with h | h
            · exact h2 g (h ▸ hg)
            · have := h g hg; have := h3.size; simp at *; omega
        obtain ⟨a2, c2, rfl⟩ := row_shape (ok := fun _ => True) ⟨hown', fun _ _ => trivial⟩
        have HE := Lib.hid hnew
        clear hown' hgrow hfresh hnew
        go_wp2_with fail
        go_roundw
        case rel => exact HE.out
        case measure => simp [intOf]; omega
      · have h43 : ¬ e.k = 43 := by rcases hk with h | h <;> (rw [h]; decide)
        have x1 : (kv == 43) = false := by rw [hk43]; simp [h43]
        rcases hk with hk | hk
        · have x2 : (kv == 45) = false := by rw [hk45, hk]; decide
          have hst : aliveL (l.take (i + 1)) = A := by rw [hstep]; unfold aliveStep; rw [if_neg h43, if_neg (by rw [hk]; decide)]
          have hpo : popOk A e = true := by unfold popOk; rw [if_neg (by rw [hk]; decide)]
          have HE : Hid (∀ W', Keeps noB wr W' → NsAt w w1 l (.slice a' nL c') (.int .i64 ((i : Int) + 1)) W') := fun W' q => by
            rw [hnL]
            exact ⟨i + 1, by rw [← HN.out]; omega, by go_num, by rw [hst]; exact hrow.keeps q (fun _ _ e => e), hfr, hnext hpo, hq.trans q⟩
          rw [← hnL]
          clear hstep hst hpo hm h43 hasc hk43 hk45 hkv hk hn hnL hfew hA hrow hfr hq hok hnext
          go_wp2_with fail
          go_roundw
          case rel => exact HE.out _ ((Keeps.refl _ _).alloc _)
          case measure => simp [intOf]; omega
        · have x2 : (kv == 45) = true := by rw [hk45]; simp [hk]
          rw [← hA] at hn
          obtain ⟨p, hp⟩ : ∃ p, A.getLast? = some p := by
            cases h : A.getLast? with
            | none => rw [List.getLast?_eq_none_iff] at h; rw [h] at hn; simp at hn
            | some p => exact ⟨p, rfl⟩
          obtain ⟨P, hAP⟩ := List.getLast?_eq_some_iff.1 hp
          obtain ⟨mL, hmL⟩ : ∃ mL, mL = P.length := ⟨_, rfl⟩
          have hnm : nL = mL + 1 := by rw [hnL, hAP, hmL]; simp
          have hAm : A.length = mL + 1 := by omega
          obtain ⟨gA, d, e1, hcA, hgA, hcellA⟩ := hrow.get (by omega)
          simp only [Value.slice.injEq, true_and] at e1
          obtain ⟨rfl, rfl⟩ := e1
          have hl0 := (hcellA mL p (by rw [hAP, hmL]; simp)).1
          have hcn : (mL : Int) + 1 ≤ (c' : Int) := by omega
          have hm6 : (mL : Int) ≤ 600 := by omega
          have hm0 : (0 : Int) ≤ (mL : Int) := by omega
          have t1 : ¬ gA = wr.heap.size := by omega
          rw [hAm]
          by_cases hpn : p = e.n
          · have y1 : ((p : Int) != (e.n : Int)) = false := by simp [hpn]
            have hpo : popOk A e = true := by unfold popOk; rw [if_pos hk, hp, hpn]; simp
            have hst : aliveL (l.take (i + 1)) = P := by
              rw [hstep]; unfold aliveStep
              rw [if_neg h43, if_pos hk, out_at A mL e.n hasc (by rw [hAP, hmL, ← hpn]; simp), hAP, hmL]
              simp
            have HE : Hid (∀ W', Keeps noB wr W' → NsAt w w1 l (.slice (some ⟨gA, 0, none⟩) mL c') (.int .i64 ((i : Int) + 1)) W') := fun W' q => by
              have h1 := hrow.keeps q (fun _ _ e => e)
              rw [hAm, hAP] at h1
              refine ⟨i + 1, by rw [← HN.out]; omega, by go_num, by rw [hst]; exact h1.pop hmL.symm, fun g hg => ?_, hnext hpo, hq.trans q⟩
              have : gA = g := by simpa [Value.ownBlock] using hg
              rw [← this]; exact hfr gA rfl
            have HQ0 := Lib.hid hq
            clear hstep hst hpo hm h43 hasc hk43 hk45 hkv hk hn hnL hfew hA hrow hfr hq hok hnext hp hAP hmL hnm hAm hcellA hpn HROW
            go_wp2_with fail
            go_quiet (fail)
            go_wp2_with fail
            go_roundw
            case rel => exact HE.out _ (((Keeps.refl _ _).alloc _).drewN _)
            case measure => simp [intOf]; omega
          · have y1 : ((p : Int) != (e.n : Int)) = true := by simp; omega
            have hpo : popOk A e = false := by unfold popOk; rw [if_pos hk, hp]; exact decide_eq_false (fun e => hpn (Option.some.inj e))
            have HE : Hid (∀ W', Keeps noB wr W' → ValidP w (bv && nestB l) (.returned (.bool false)) W') := fun W' q => by
              rw [nestB_false hm (by rw [← hA]; exact hpo), Bool.and_false]
              exact ⟨rfl, HQ.out.trans (hq.trans q)⟩
            clear hstep hpo hm h43 hasc hk43 hk45 hkv hk hn hnL hfew hA hrow hfr hq hok hnext hp hAP hmL hnm hAm hcellA hpn HROW
            go_wp2_with fail
            go_quiet (fail)
            go_wp2_with fail
            go_ret
            exact HE.out _ (((Keeps.refl _ _).alloc _).drewN _)
    · have HE : Hid (ValidP w (bv && nestB l) (.returned (.bool bv)) wr) := by
        rw [nestB_true (fun j e he => hok j e (by have := (List.getElem?_eq_some_iff.1 he).1; have := HN.out; omega) he), Bool.and_true]
        exact ⟨rfl, HQ.out.trans hq⟩
      have hi1 : ¬ (i : Int) < (N : Int) := by omega
      rw [← hnL]
      clear hA hrow hfr hq hok hfew hnL
      go_wp2_with fail
      go_ret
      exact HE.out

end Go.Proofs.YtnjkaojgcnepdaaDoor

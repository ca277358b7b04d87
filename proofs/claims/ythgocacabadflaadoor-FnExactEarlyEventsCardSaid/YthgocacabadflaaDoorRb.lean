/-
  The program's livesThat: the lives that are over, and those that are left.
-/
import Derived.Test.YthgocacabadflaaDoorQf
namespace Go.Proofs.YthgocacabadflaaDoor
set_option linter.unusedVariables false
set_option linter.unusedSimpArgs false
open Go.RowKit

theorem isOver_any (b u d : Int) (w : World) : Calls Tryd.prog 59 #[.agg #[.int .i64 b, .int .i64 u, .int .i64 d]] w fun e w' => e = .returned (.bool (decide (0 ≤ d))) ∧ Keeps noB w w' := by
  by_cases hd : 0 ≤ d
  all_goals
    have hdd := hd
    go_enter Tryd.func59, Tryd.ntmps59
    go_wp2_with fail
    go_ret
    exact ⟨by simp [hd], (Keeps.refl _ _).alloc _⟩

def overL (f : Lf) : Bool := decide (0 ≤ f.d)
def leftL (f : Lf) : Bool := decide (f.d < 0)

def ThatPost (w : World) (s : List Lf) (e : Ending) (w' : World) : Prop :=
  ∃ v, e = .returned v ∧ LRow w' v s ∧ (∀ g, v.ownBlock = some g → w.heap.size ≤ g) ∧ Keeps noB w w'

/-- What the loop of livesThat holds. -/
def ThAt (p : Lf → Bool) (w : World) (s : List Lf) (vo vi : Value) (wr : World) : Prop :=
  ∃ i : Nat, i ≤ s.length ∧ vi = .int .i64 (i : Int) ∧ LRow wr vo ((s.take i).filter p) ∧ (∀ g, vo.ownBlock = some g → w.heap.size ≤ g) ∧ Keeps noB w wr

set_option maxRecDepth 100000 in
set_option maxHeartbeats 8000000 in
theorem lives_overL (w : World) (H : Nat) (own : Nat → Prop) (l : List Ev) (ve vl : Value) (h : HistAt w H own l ve vl) (hg : Good l) (hl : l.length ≤ 600) :
    Calls Tryd.prog 58 #[.pointer (some ⟨H, 0, none⟩), .func (.func 59) #[] #[]] w (ThatPost w ((livesL l).filter overL)) := by
  obtain ⟨j0, hj, hy0, hy1, hy2⟩ := info_parts Tryd.infoL41
  have HJ := Lib.hid (And.intro hj (And.intro hy0 (And.intro hy1 hy2)))
  have hsay := hg.says
  have hle := hsay.le
  have b1 := h.blk.cell 1
  simp at b1
  have hlen6 : (livesL l).length ≤ 600 := by rw [hsay.made]; omega
  have hrl := h.lfs
  obtain ⟨a, c, rfl⟩ := h.shape.2
  clear h hsay hle hg hl
  generalize livesL l = s at *
  obtain ⟨N, hN⟩ : ∃ N, N = s.length := ⟨_, rfl⟩
  have HP : Hid (ThAt overL w s (.slice none 0 0) (.int .i64 0) w) :=
    ⟨0, Nat.zero_le _, rfl, ⟨rfl, .inl ⟨rfl, rfl⟩⟩, fun g hg => by simp [Value.ownBlock] at hg, Keeps.refl noB w⟩
  have HR : Hid (∀ i wr, Keeps noB w wr → i < N → ∃ g f, a = some ⟨g, 0, none⟩ ∧ N ≤ c ∧ s[i]? = some f ∧ wr.cell? ⟨g, i * 3, none⟩ = some (.int .i64 f.b) ∧ wr.cell? ⟨g, i * 3 + 1, none⟩ = some (.int .i64 f.u) ∧ wr.cell? ⟨g, i * 3 + 2, none⟩ = some (.int .i64 f.d)) := fun i wr q hi => by
    obtain ⟨g, d, e, hc, hgl, hh⟩ := row_capM (ok := fun _ => True) hrl (by omega)
    simp only [Value.slice.injEq, true_and] at e
    obtain ⟨rfl, rfl⟩ := e
    have hm := List.getElem?_eq_getElem (l := s) (i := i) (by omega)
    obtain ⟨g0, g1, g2⟩ := lfC_get s i _ hm
    rw [show 3 * i = i * 3 by omega] at g0 g1 g2
    exact ⟨g, _, rfl, by omega, hm, (q.cell (p := ⟨g, i * 3, none⟩) hgl id).trans (hh _ _ g0).1, (q.cell (p := ⟨g, i * 3 + 1, none⟩) hgl id).trans (hh _ _ g1).1, (q.cell (p := ⟨g, i * 3 + 2, none⟩) hgl id).trans (hh _ _ g2).1⟩
  have HN := Lib.hid hN
  rw [← hN] at hlen6 b1
  clear hrl hN hj hy0 hy1 hy2
  go_enter Tryd.func58, Tryd.ntmps58
  go_wp2_with fail
  go_loopw [5, 13] (fun vo vi wr => ThAt overL w s vo vi wr) (fun _ vi _ => N - (intOf vi).toNat)
  case atStart => exact HP.out
  case round =>
    clear HP b1
    obtain ⟨i, hin, rfl, hrow, hfr, hq⟩ := hrel
    rw [← HN.out] at hin
    obtain ⟨L, hL⟩ : ∃ L, L = (s.take i).filter overL := ⟨_, rfl⟩
    rw [← hL] at hrow
    have hLl : L.length ≤ i := by
      rw [hL]
      refine Nat.le_trans (List.length_filter_le _ _) ?_
      rw [List.length_take]; omega
    obtain ⟨a', c', rfl⟩ := row_shape (ok := fun _ => True) ⟨hrow, fun _ _ => trivial⟩
    obtain ⟨nL, hnL⟩ : ∃ nL, nL = L.length := ⟨_, rfl⟩
    by_cases hlt : i < N
    · obtain ⟨g, f, rfl, hc, hm, r1, r2, r3⟩ := HR.out i wr hq hlt
      have hi1 : (i : Int) < (N : Int) := by omega
      have hi2 : (N : Int) ≤ (c : Int) := by omega
      have hstep : (s.take (i + 1)).filter overL = L ++ (if overL f = true then [f] else []) := by
        rw [hL, List.take_add_one, hm, List.filter_append]
        congr 1
        show List.filter overL [f] = _
        cases e : overL f <;> simp [e]
      have HIS : Hid (∀ W, Calls Tryd.prog 59 #[.agg #[.int .i64 f.b, .int .i64 f.u, .int .i64 f.d]] W fun e w' => e = .returned (.bool (overL f)) ∧ Keeps noB W w') := fun W => isOver_any f.b f.u f.d W
      obtain ⟨pf, hpf⟩ : ∃ pf, pf = overL f := ⟨_, rfl⟩
      rw [← hpf] at HIS hstep
      clear hpf
      have HQ := Lib.hid hq
      cases pf with
      | false =>
        have HE : Hid (∀ W', Keeps noB wr W' → ThAt overL w s (.slice a' L.length c') (.int .i64 ((i : Int) + 1)) W') := fun W' q => by
          rw [if_neg (by decide), List.append_nil] at hstep
          exact ⟨i + 1, by rw [← HN.out]; omega, by go_num, by rw [hstep]; exact q.ownsRow hrow (fun _ _ _ e => e), hfr, hq.trans q⟩
        rw [← hnL] at HE hrow ⊢
        clear hstep hm hL hLl hnL hrow hfr hq
        go_wp2_with (go_at_call 59; refine (HIS.out _).mono ?_; rintro e w5 ⟨rfl, q5⟩; have Q5 := Lib.hid (((Keeps.refl noB wr).alloc _).trans q5); clear q5)
        go_roundw
        case rel => exact HE.out _ Q5.out
        case measure => simp [intOf]; omega
      | true =>
        have HS := Lib.hid (And.intro hrow (And.intro hfr (And.intro hq (And.intro hnL (by rw [if_pos rfl] at hstep; exact hstep)))))
        rw [← hnL] at hLl ⊢
        obtain ⟨LC, hLC⟩ : ∃ LC, LC = lfC L := ⟨_, rfl⟩
        have HO : Hid (wr.ownsRow 0 41 3 (.slice a' nL c') nL LC) := by rw [hnL, hLC]; exact hrow
        have hn1 : nL ≤ 600 := by omega
        have HLC := Lib.hid hLC
        have HNL := Lib.hid hnL
        clear hstep hm hL hrow hfr hq hLC hnL hLl
        have HBX : Hid (Blk (wr.alloc (.cells #[.int .i64 f.b, .int .i64 f.u, .int .i64 f.d] 41)) wr.heap.size #[.int .i64 f.b, .int .i64 f.u, .int .i64 f.d] 41) := Blk.new _ _ _
        obtain ⟨hj, hy0, hy1, hy2⟩ := HJ.out
        go_wp2_with (first | (go_at_call 59; refine (HIS.out _).mono ?_; rintro e w5 ⟨rfl, q5⟩; have Q5 := Lib.hid (((Keeps.refl noB wr).alloc _).trans q5); have B5 := q5.blk HBX.out id; have s0 := B5.cell 0; have s1 := B5.cell 1; have s2 := B5.cell 2; simp at s0 s1 s2; clear q5 B5) | (at_builtin; refine wpList_append_fresh _ rfl _ _ 36 rfl 41 j0 _ 3 24 Tryd.underlying36 hj hy0 hy1 hy2 rfl (by decide) (.slice a' nL c') nL LC rfl ((Q5.out.alloc _).ownsRow HO.out (fun _ _ _ e => e)) ⟨w5.heap.size, 0, none⟩ 1 1 [.int .i64 f.b, .int .i64 f.u, .int .i64 f.d] rfl rfl (cells_all w5 #[.int .i64 f.b, .int .i64 f.u, .int .i64 f.d] 41) (by intro u hu; simp at hu; rcases hu with rfl | rfl | rfl <;> rfl) (by unfold maxLen; omega) (by omega) ?_))
        intro v' w3 hown' hgrow hfresh
        have hnew : ThAt overL w s v' (.int .i64 ((i : Int) + 1)) w3 := by
          obtain ⟨h1, h2, h3, h4, h5⟩ := HS.out
          have qa : Keeps (fun g => (Value.slice a' nL c').ownBlock = some g) wr w3 := ((Q5.out.alloc _).mono (fun _ e => e.elim)).grown hgrow (fun g hg => .inl hg)
          have h2 : ∀ g, (Value.slice a' nL c').ownBlock = some g → w.heap.size ≤ g := by rw [HNL.out]; exact h2
          refine ⟨i + 1, by rw [← HN.out]; omega, by go_num, ?_, ?_, h3.transNew qa (fun i hi e => by have := h2 i e; omega)⟩
          · rw [h5]
            unfold LRow
            rw [List.length_append, lfC_snoc, ← HNL.out, ← HLC.out]
            exact hown'
          · intro g hg
            rcases hfresh with h | h
            · exact h2 g (h ▸ hg)
            · have := h g hg; have := h3.size; have := Q5.out.size; simp at *; omega
        obtain ⟨a2, c2, rfl⟩ := row_shape (ok := fun _ => True) ⟨hown', fun _ _ => trivial⟩
        have HE := Lib.hid hnew
        clear hown' hgrow hfresh hnew
        go_wp2_with fail
        go_roundw
        case rel => exact HE.out
        case measure => simp [intOf]; omega
    · have HE : Hid (ThatPost w (s.filter overL) (.returned (.slice a' L.length c')) wr) := by
        rw [List.take_of_length_le (by have := HN.out; omega)] at hL
        rw [← hL]
        exact ⟨_, rfl, hrow, hfr, hq⟩
      have hi1 : ¬ (i : Int) < (N : Int) := by omega
      rw [← hnL] at HE ⊢
      clear hL hrow hfr hq hLl hnL
      go_wp2_with fail
      go_ret
      exact HE.out

set_option maxRecDepth 100000 in
set_option maxHeartbeats 8000000 in
theorem lives_leftL (w : World) (H : Nat) (own : Nat → Prop) (l : List Ev) (ve vl : Value) (h : HistAt w H own l ve vl) (hg : Good l) (hl : l.length ≤ 600) :
    Calls Tryd.prog 58 #[.pointer (some ⟨H, 0, none⟩), .func (.func 77) #[] #[]] w (ThatPost w ((livesL l).filter leftL)) := by
  obtain ⟨j0, hj, hy0, hy1, hy2⟩ := info_parts Tryd.infoL41
  have HJ := Lib.hid (And.intro hj (And.intro hy0 (And.intro hy1 hy2)))
  have hsay := hg.says
  have hle := hsay.le
  have b1 := h.blk.cell 1
  simp at b1
  have hlen6 : (livesL l).length ≤ 600 := by rw [hsay.made]; omega
  have hrl := h.lfs
  obtain ⟨a, c, rfl⟩ := h.shape.2
  clear h hsay hle hg hl
  generalize livesL l = s at *
  obtain ⟨N, hN⟩ : ∃ N, N = s.length := ⟨_, rfl⟩
  have HP : Hid (ThAt leftL w s (.slice none 0 0) (.int .i64 0) w) :=
    ⟨0, Nat.zero_le _, rfl, ⟨rfl, .inl ⟨rfl, rfl⟩⟩, fun g hg => by simp [Value.ownBlock] at hg, Keeps.refl noB w⟩
  have HR : Hid (∀ i wr, Keeps noB w wr → i < N → ∃ g f, a = some ⟨g, 0, none⟩ ∧ N ≤ c ∧ s[i]? = some f ∧ wr.cell? ⟨g, i * 3, none⟩ = some (.int .i64 f.b) ∧ wr.cell? ⟨g, i * 3 + 1, none⟩ = some (.int .i64 f.u) ∧ wr.cell? ⟨g, i * 3 + 2, none⟩ = some (.int .i64 f.d)) := fun i wr q hi => by
    obtain ⟨g, d, e, hc, hgl, hh⟩ := row_capM (ok := fun _ => True) hrl (by omega)
    simp only [Value.slice.injEq, true_and] at e
    obtain ⟨rfl, rfl⟩ := e
    have hm := List.getElem?_eq_getElem (l := s) (i := i) (by omega)
    obtain ⟨g0, g1, g2⟩ := lfC_get s i _ hm
    rw [show 3 * i = i * 3 by omega] at g0 g1 g2
    exact ⟨g, _, rfl, by omega, hm, (q.cell (p := ⟨g, i * 3, none⟩) hgl id).trans (hh _ _ g0).1, (q.cell (p := ⟨g, i * 3 + 1, none⟩) hgl id).trans (hh _ _ g1).1, (q.cell (p := ⟨g, i * 3 + 2, none⟩) hgl id).trans (hh _ _ g2).1⟩
  have HN := Lib.hid hN
  rw [← hN] at hlen6 b1
  clear hrl hN hj hy0 hy1 hy2
  go_enter Tryd.func58, Tryd.ntmps58
  go_wp2_with fail
  go_loopw [5, 13] (fun vo vi wr => ThAt leftL w s vo vi wr) (fun _ vi _ => N - (intOf vi).toNat)
  case atStart => exact HP.out
  case round =>
    clear HP b1
    obtain ⟨i, hin, rfl, hrow, hfr, hq⟩ := hrel
    rw [← HN.out] at hin
    obtain ⟨L, hL⟩ : ∃ L, L = (s.take i).filter leftL := ⟨_, rfl⟩
    rw [← hL] at hrow
    have hLl : L.length ≤ i := by
      rw [hL]
      refine Nat.le_trans (List.length_filter_le _ _) ?_
      rw [List.length_take]; omega
    obtain ⟨a', c', rfl⟩ := row_shape (ok := fun _ => True) ⟨hrow, fun _ _ => trivial⟩
    obtain ⟨nL, hnL⟩ : ∃ nL, nL = L.length := ⟨_, rfl⟩
    by_cases hlt : i < N
    · obtain ⟨g, f, rfl, hc, hm, r1, r2, r3⟩ := HR.out i wr hq hlt
      have hi1 : (i : Int) < (N : Int) := by omega
      have hi2 : (N : Int) ≤ (c : Int) := by omega
      have hstep : (s.take (i + 1)).filter leftL = L ++ (if leftL f = true then [f] else []) := by
        rw [hL, List.take_add_one, hm, List.filter_append]
        congr 1
        show List.filter leftL [f] = _
        cases e : leftL f <;> simp [e]
      have HIS : Hid (∀ W, Calls Tryd.prog 77 #[.agg #[.int .i64 f.b, .int .i64 f.u, .int .i64 f.d]] W fun e w' => e = .returned (.bool (leftL f)) ∧ Keeps noB W w') := fun W => isLeft_any f.b f.u f.d W
      obtain ⟨pf, hpf⟩ : ∃ pf, pf = leftL f := ⟨_, rfl⟩
      rw [← hpf] at HIS hstep
      clear hpf
      have HQ := Lib.hid hq
      cases pf with
      | false =>
        have HE : Hid (∀ W', Keeps noB wr W' → ThAt leftL w s (.slice a' L.length c') (.int .i64 ((i : Int) + 1)) W') := fun W' q => by
          rw [if_neg (by decide), List.append_nil] at hstep
          exact ⟨i + 1, by rw [← HN.out]; omega, by go_num, by rw [hstep]; exact q.ownsRow hrow (fun _ _ _ e => e), hfr, hq.trans q⟩
        rw [← hnL] at HE hrow ⊢
        clear hstep hm hL hLl hnL hrow hfr hq
        go_wp2_with (go_at_call 77; refine (HIS.out _).mono ?_; rintro e w5 ⟨rfl, q5⟩; have Q5 := Lib.hid (((Keeps.refl noB wr).alloc _).trans q5); clear q5)
        go_roundw
        case rel => exact HE.out _ Q5.out
        case measure => simp [intOf]; omega
      | true =>
        have HS := Lib.hid (And.intro hrow (And.intro hfr (And.intro hq (And.intro hnL (by rw [if_pos rfl] at hstep; exact hstep)))))
        rw [← hnL] at hLl ⊢
        obtain ⟨LC, hLC⟩ : ∃ LC, LC = lfC L := ⟨_, rfl⟩
        have HO : Hid (wr.ownsRow 0 41 3 (.slice a' nL c') nL LC) := by rw [hnL, hLC]; exact hrow
        have hn1 : nL ≤ 600 := by omega
        have HLC := Lib.hid hLC
        have HNL := Lib.hid hnL
        clear hstep hm hL hrow hfr hq hLC hnL hLl
        have HBX : Hid (Blk (wr.alloc (.cells #[.int .i64 f.b, .int .i64 f.u, .int .i64 f.d] 41)) wr.heap.size #[.int .i64 f.b, .int .i64 f.u, .int .i64 f.d] 41) := Blk.new _ _ _
        obtain ⟨hj, hy0, hy1, hy2⟩ := HJ.out
        go_wp2_with (first | (go_at_call 77; refine (HIS.out _).mono ?_; rintro e w5 ⟨rfl, q5⟩; have Q5 := Lib.hid (((Keeps.refl noB wr).alloc _).trans q5); have B5 := q5.blk HBX.out id; have s0 := B5.cell 0; have s1 := B5.cell 1; have s2 := B5.cell 2; simp at s0 s1 s2; clear q5 B5) | (at_builtin; refine wpList_append_fresh _ rfl _ _ 36 rfl 41 j0 _ 3 24 Tryd.underlying36 hj hy0 hy1 hy2 rfl (by decide) (.slice a' nL c') nL LC rfl ((Q5.out.alloc _).ownsRow HO.out (fun _ _ _ e => e)) ⟨w5.heap.size, 0, none⟩ 1 1 [.int .i64 f.b, .int .i64 f.u, .int .i64 f.d] rfl rfl (cells_all w5 #[.int .i64 f.b, .int .i64 f.u, .int .i64 f.d] 41) (by intro u hu; simp at hu; rcases hu with rfl | rfl | rfl <;> rfl) (by unfold maxLen; omega) (by omega) ?_))
        intro v' w3 hown' hgrow hfresh
        have hnew : ThAt leftL w s v' (.int .i64 ((i : Int) + 1)) w3 := by
          obtain ⟨h1, h2, h3, h4, h5⟩ := HS.out
          have qa : Keeps (fun g => (Value.slice a' nL c').ownBlock = some g) wr w3 := ((Q5.out.alloc _).mono (fun _ e => e.elim)).grown hgrow (fun g hg => .inl hg)
          have h2 : ∀ g, (Value.slice a' nL c').ownBlock = some g → w.heap.size ≤ g := by rw [HNL.out]; exact h2
          refine ⟨i + 1, by rw [← HN.out]; omega, by go_num, ?_, ?_, h3.transNew qa (fun i hi e => by have := h2 i e; omega)⟩
          · rw [h5]
            unfold LRow
            rw [List.length_append, lfC_snoc, ← HNL.out, ← HLC.out]
            exact hown'
          · intro g hg
            rcases hfresh with h | h
            · exact h2 g (h ▸ hg)
            · have := h g hg; have := h3.size; have := Q5.out.size; simp at *; omega
        obtain ⟨a2, c2, rfl⟩ := row_shape (ok := fun _ => True) ⟨hown', fun _ _ => trivial⟩
        have HE := Lib.hid hnew
        clear hown' hgrow hfresh hnew
        go_wp2_with fail
        go_roundw
        case rel => exact HE.out
        case measure => simp [intOf]; omega
    · have HE : Hid (ThatPost w (s.filter leftL) (.returned (.slice a' L.length c')) wr) := by
        rw [List.take_of_length_le (by have := HN.out; omega)] at hL
        rw [← hL]
        exact ⟨_, rfl, hrow, hfr, hq⟩
      have hi1 : ¬ (i : Int) < (N : Int) := by omega
      rw [← hnL] at HE ⊢
      clear hL hrow hfr hq hLl hnL
      go_wp2_with fail
      go_ret
      exact HE.out

end Go.Proofs.YthgocacabadflaaDoor

/-
  The model's l7Lives: the lives that events tell of.
-/
import Derived.Test.YthgocacabadflaaDoorQf
namespace Go.Proofs.YthgocacabadflaaDoor
set_option linter.unusedVariables false
set_option linter.unusedSimpArgs false
open Go.RowKit

theorem Good.at {l : List Ev} (h : Good l) : ∀ (i : Nat) (e : Ev), l[i]? = some e → Good (l.take i) ∧ fits (l.take i) e := by
  induction h with
  | nil => intro i e h; simp at h
  | @snoc l x hg hf ih =>
    intro i e h
    by_cases hi : i < l.length
    · rw [List.getElem?_append_left hi] at h
      rw [List.take_append_of_le_length (by omega)]
      exact ih i e h
    · rw [List.getElem?_append_right (by omega)] at h
      have hz := (List.getElem?_eq_some_iff.1 h).1
      simp at hz
      rw [show i - l.length = 0 by omega] at h
      have : x = e := by simpa using h
      subst this
      rw [show i = l.length by omega, List.take_append_of_le_length (Nat.le_refl _), List.take_length]
      exact ⟨hg, hf⟩

theorem Good.take {l : List Ev} (h : Good l) (i : Nat) : Good (l.take i) := by
  by_cases hi : i < l.length
  · exact (h.at i _ (List.getElem?_eq_getElem hi)).1
  · rw [List.take_of_length_le (by omega)]; exact h

theorem lives_take {l : List Ev} {i : Nat} {e : Ev} (h : l[i]? = some e) : livesL (l.take (i + 1)) = lifeStep (livesL (l.take i)) i e := by
  have hi := (List.getElem?_eq_some_iff.1 h).1
  rw [List.take_add_one, h]
  show livesL (l.take i ++ [e]) = _
  rw [livesL_snoc, List.length_take, Nat.min_eq_left (by omega)]

def LivesPost (w : World) (s : List Lf) (e : Ending) (w' : World) : Prop :=
  ∃ v, e = .returned v ∧ LRow w' v s ∧ (∀ g, v.ownBlock = some g → w.heap.size ≤ g) ∧ Keeps noB w w'

/-- What the loop of l7Lives holds. -/
def LvAt (w : World) (l : List Ev) (vo vi : Value) (wr : World) : Prop :=
  ∃ i : Nat, i ≤ l.length ∧ vi = .int .i64 (i : Int) ∧ LRow wr vo (livesL (l.take i)) ∧ (∀ g, vo.ownBlock = some g → w.heap.size ≤ g) ∧ Keeps noB w wr

theorem LvAt.set {w wr : World} {l : List Ev} {i g c j : Nat} {s : List Lf} {u : Value} {o : Obj} (h : LRow wr (.slice (some ⟨g, 0, none⟩) (livesL (l.take i)).length c) (livesL (l.take i))) (hf : w.heap.size ≤ g) (hq : Keeps noB w wr) (hi : i < l.length)
    (hj : j < (livesL (l.take i)).length * 3) (hs : livesL (l.take (i + 1)) = s) (hc : (lfC (livesL (l.take i))).set j u = lfC s) (hl : s.length = (livesL (l.take i)).length) :
    LvAt w l (.slice (some ⟨g, 0, none⟩) (livesL (l.take i)).length c) (.int .i64 ((i : Int) + 1)) ((wr.setCell ⟨g, j, none⟩ u).alloc o) := by
  refine ⟨i + 1, hi, by go_num, ?_, fun g' hg => by have : g = g' := by simpa [Value.ownBlock] using hg
                                                    omega, (hq.setCell (p := ⟨g, j, none⟩) (.inr hf) _).alloc o⟩
  have h2 := (((Keeps.refl noB (wr.setCell ⟨g, j, none⟩ u)).alloc o)).ownsRow (row_set h j hj u) (fun _ _ _ e => e)
  rw [hs]
  unfold LRow
  rw [hl, ← hc]
  exact h2

set_option maxRecDepth 100000 in
set_option maxHeartbeats 8000000 in
theorem lives_any (v : Value) (l : List Ev) (hg : Good l) (hl : l.length ≤ 600) (w : World) (h : ERow w v l) : Calls Tryd.prog 32 #[v] w (LivesPost w (livesL l)) := by
  obtain ⟨j0, hj, hy0, hy1, hy2⟩ := info_parts Tryd.infoL41
  have HJ := Lib.hid (And.intro hj (And.intro hy0 (And.intro hy1 hy2)))
  obtain ⟨a, c, rfl⟩ := row_shape (ok := fun _ => True) ⟨h, fun _ _ => trivial⟩
  obtain ⟨N, hN⟩ : ∃ N, N = l.length := ⟨_, rfl⟩
  have o1 := World.ownsRow_made w #[] 0 (e := 41) (size := 3) (Nat.zero_le _) (by simp [maxLen]) rfl
  have HP : Hid (LvAt w l (.slice (some ⟨w.heap.size, 0, none⟩) 0 0) (.int .i64 0) (w.alloc (.cells #[] 41))) :=
    ⟨0, Nat.zero_le _, rfl, o1, fun g hg => by simp [Value.ownBlock] at hg; omega, (Keeps.refl noB w).alloc _⟩
  have HR : Hid (∀ i wr, Keeps noB w wr → i < N → ∃ g e, a = some ⟨g, 0, none⟩ ∧ N ≤ c ∧ l[i]? = some e ∧ wr.cell? ⟨g, i * 2, none⟩ = some (.int .u8 (e.k.toNat : Int)) ∧ wr.cell? ⟨g, i * 2 + 1, none⟩ = some (.int .i64 (e.n : Int))) := fun i wr q hi => by
    obtain ⟨g, d, e, hc, hgl, hh⟩ := row_capM (ok := fun _ => True) h (by omega)
    simp only [Value.slice.injEq, true_and] at e
    obtain ⟨rfl, rfl⟩ := e
    have hm := List.getElem?_eq_getElem (l := l) (i := i) (by omega)
    obtain ⟨g0, g1⟩ := evC_get l i _ hm
    rw [show 2 * i = i * 2 by omega] at g0 g1
    exact ⟨g, _, rfl, by omega, hm, (q.cell (p := ⟨g, i * 2, none⟩) hgl id).trans (hh _ _ g0).1, (q.cell (p := ⟨g, i * 2 + 1, none⟩) hgl id).trans (hh _ _ g1).1⟩
  have HN := Lib.hid hN
  have HG := Lib.hid hg
  rw [← hN] at hl ⊢
  clear h hN o1 hj hy0 hy1 hy2 hg
  go_enter Tryd.func32, Tryd.ntmps32
  go_wp2_with fail
  go_loopw [3, 9] (fun vo vi wr => LvAt w l vo vi wr) (fun _ vi _ => N - (intOf vi).toNat)
  case atStart => exact HP.out
  case round =>
    clear HP
    obtain ⟨i, hin, rfl, hrow, hfr, hq⟩ := hrel
    rw [← HN.out] at hin
    have hsay := (HG.out.take i).says
    have hlen6 : (livesL (l.take i)).length ≤ 600 := by
      have := hsay.le
      rw [hsay.made]
      refine Nat.le_trans this ?_
      rw [List.length_take]; omega
    obtain ⟨a', c', rfl⟩ := row_shape (ok := fun _ => True) ⟨hrow, fun _ _ => trivial⟩
    obtain ⟨nL, hnL⟩ : ∃ nL, nL = (livesL (l.take i)).length := ⟨_, rfl⟩
    by_cases hlt : i < N
    · obtain ⟨gl, e, rfl, hc, hm, r1, r2⟩ := HR.out i wr hq hlt
      have hi1 : (i : Int) < (N : Int) := by omega
      have hi2 : (N : Int) ≤ (c : Int) := by omega
      have hfit := (HG.out.at i e hm).2
      have hstep := lives_take hm
      obtain ⟨kv, hkv⟩ : ∃ kv : Int, kv = (e.k.toNat : Int) := ⟨_, rfl⟩
      have hk43 : (kv == 43) = decide (e.k = 43) := by rw [hkv]; exact byte_is e.k 43
      have hk46 : (kv == 46) = decide (e.k = 46) := by rw [hkv]; exact byte_is e.k 46
      have hk45 : (kv == 45) = decide (e.k = 45) := by rw [hkv]; exact byte_is e.k 45
      rw [← hkv] at r1
      rcases hfit with ⟨h43, hn⟩ | ⟨hk, hn⟩
      · have x1 : (kv == 43) = true := by rw [hk43]; simp [h43]
        have HS := Lib.hid (And.intro hrow (And.intro hfr (And.intro hq (And.intro hnL (by unfold lifeStep at hstep; rw [if_pos h43] at hstep; exact hstep)))))
        rw [← hnL] at hlen6 ⊢
        obtain ⟨LC, hLC⟩ : ∃ LC, LC = lfC (livesL (l.take i)) := ⟨_, rfl⟩
        have HO : Hid (wr.ownsRow 0 41 3 (.slice a' nL c') nL LC) := by rw [hnL, hLC]; exact hrow
        have HLC := Lib.hid hLC
        have HNL := Lib.hid hnL
        clear hstep hm hrow hfr hq h43 hn hsay hk43 hk46 hk45 hkv hLC hnL
        obtain ⟨hj, hy0, hy1, hy2⟩ := HJ.out
        go_wp2_with (at_builtin; refine wpList_append_fresh _ rfl _ _ 36 rfl 41 j0 _ 3 24 Tryd.underlying36 hj hy0 hy1 hy2 rfl (by decide) (.slice a' nL c') nL LC rfl ((((Keeps.refl noB wr).alloc _).alloc _).ownsRow HO.out (fun _ _ _ e => e)) ⟨wr.heap.size + 1, 0, none⟩ 1 1 [.int .i64 i, .int .i64 i, .int .i64 (-1)] rfl rfl (by have h := cells_all (wr.alloc (.cells #[.int .u8 kv, .int .i64 (e.n : Int)] 39)) #[.int .i64 i, .int .i64 i, .int .i64 (-1)] 41; rw [World.size_alloc] at h; exact h) (by intro u hu; simp at hu; rcases hu with rfl | rfl | rfl <;> rfl) (by unfold maxLen; omega) (by omega) ?_)
        intro v' w3 hown' hgrow hfresh
        have hnew : LvAt w l v' (.int .i64 ((i : Int) + 1)) w3 := by
          obtain ⟨h1, h2, h3, h4, h5⟩ := HS.out
          have qa : Keeps (fun g => (Value.slice a' nL c').ownBlock = some g) wr w3 := (((Keeps.refl _ wr).alloc _).alloc _).grown hgrow (fun g hg => .inl hg)
          have h2 : ∀ g, (Value.slice a' nL c').ownBlock = some g → w.heap.size ≤ g := by rw [HNL.out]; exact h2
          refine ⟨i + 1, by rw [← HN.out]; omega, by go_num, ?_, ?_, h3.transNew qa (fun i hi e => by have := h2 i e; omega)⟩
          · rw [h5]
            unfold LRow
            rw [List.length_append, lfC_snoc, ← HNL.out, ← HLC.out]
            exact hown'
          · intro g hg
            rcases hfresh with h | h
            · exact h2 g (h ▸ hg)
            · have := h g hg; have := h3.size; simp at *; omega
        obtain ⟨a2, c2, rfl⟩ := row_shape (ok := fun _ => True) ⟨hown', fun _ _ => trivial⟩
        have HE := Lib.hid hnew
        clear hown' hgrow hfresh hnew
        go_wp2_with fail
        go_roundw
        case rel => exact HE.out
        case measure => simp [intOf]; omega
      · obtain ⟨hn1, f, hf, _⟩ := (hsay.alive e.n).1 hn
        have hfl := (List.getElem?_eq_some_iff.1 hf).1
        obtain ⟨m, hmn⟩ : ∃ m, e.n = m + 1 := ⟨e.n - 1, by omega⟩
        have hml : m < nL := by omega
        obtain ⟨gL, cL, e1, hcL, hgL, hcellL⟩ := row_capM (ok := fun _ => True) hrow (by omega)
        simp only [Value.slice.injEq, true_and] at e1
        obtain ⟨rfl, rfl⟩ := e1
        obtain ⟨g0, g1, g2⟩ := lfC_get _ _ _ hf
        rw [show e.n - 1 = m by omega, show 3 * m = m * 3 by omega] at g0 g1 g2
        obtain ⟨l0, u0⟩ := (hcellL _ _ g0)
        obtain ⟨l1, u1⟩ := (hcellL _ _ g1)
        obtain ⟨l2, u2⟩ := (hcellL _ _ g2)
        rw [hmn, show ((m + 1 : Nat) : Int) = (m : Int) + 1 by omega] at r2
        have hcn : (nL : Int) ≤ (c' : Int) := by omega
        have hmi : (m : Int) < (nL : Int) := by omega
        have h43 : ¬ e.k = 43 := by rcases hk with h | h <;> (rw [h]; decide)
        have x1 : (kv == 43) = false := by rw [hk43]; simp [h43]
        have hm0 : (0 : Int) ≤ (m : Int) := by omega
        have hm6 : (m : Int) ≤ 600 := by omega
        have hgw := hfr gL rfl
        obtain ⟨t0, t1⟩ : (gL < wr.heap.size) ∧ ¬ gL = wr.heap.size := ⟨hgL, by omega⟩
        rcases hk with hk | hk
        · have x2 : (kv == 46) = true := by rw [hk46]; simp [hk]
          have HE : Hid (LvAt w l (.slice (some ⟨gL, 0, none⟩) nL c') (.int .i64 ((i : Int) + 1)) ((wr.setCell ⟨gL, m * 3 + 1, none⟩ (.int .i64 (i : Int))).alloc (.cells #[.int .u8 kv, .int .i64 ((m : Int) + 1)] 39))) := by
            rw [hnL]
            refine LvAt.set (s := (livesL (l.take i)).modify m (fun f => { f with u := (i : Int) })) hrow hgw hq (by have := HN.out; omega) (by omega) ?_ ?_ (by simp)
            · rw [hstep]; unfold lifeStep; rw [if_neg h43, if_pos hk, show e.n - 1 = m by omega]
            · rw [show m * 3 + 1 = 3 * m + 1 by omega]; exact lfC_set_u _ _ _ (by omega)
          rw [← hnL]
          clear hstep hm hrow hfr hq h43 hn hsay hk43 hk46 hk45 hkv hnL hf hfl g0 g1 g2 hcellL hk hn1 hmn hgL
          go_wp2_with fail
          go_roundw
          case rel => exact HE.out
          case measure => simp [intOf]; omega
        · have x2 : (kv == 46) = false := by rw [hk46]; simp [hk]
          have x3 : (kv == 45) = true := by rw [hk45]; simp [hk]
          have HE : Hid (LvAt w l (.slice (some ⟨gL, 0, none⟩) nL c') (.int .i64 ((i : Int) + 1)) ((wr.setCell ⟨gL, m * 3 + 2, none⟩ (.int .i64 (i : Int))).alloc (.cells #[.int .u8 kv, .int .i64 ((m : Int) + 1)] 39))) := by
            rw [hnL]
            refine LvAt.set (s := (livesL (l.take i)).modify m (fun f => { f with d := (i : Int) })) hrow hgw hq (by have := HN.out; omega) (by omega) ?_ ?_ (by simp)
            · rw [hstep]; unfold lifeStep; rw [if_neg h43, if_neg (by rw [hk]; decide), show e.n - 1 = m by omega]
            · rw [show m * 3 + 2 = 3 * m + 2 by omega]; exact lfC_set_d _ _ _ (by omega)
          rw [← hnL]
          clear hstep hm hrow hfr hq h43 hn hsay hk43 hk46 hk45 hkv hnL hf hfl g0 g1 g2 hcellL hk hn1 hmn hgL
          go_wp2_with fail
          go_roundw
          case rel => exact HE.out
          case measure => simp [intOf]; omega
    · have HE : Hid (LivesPost w (livesL l) (.returned (.slice a' (livesL (l.take i)).length c')) wr) := by
        rw [List.take_of_length_le (by have := HN.out; omega)] at hrow ⊢
        rw [List.take_of_length_le (by have := HN.out; omega)] at hfr
        exact ⟨_, rfl, hrow, hfr, hq⟩
      have hi1 : ¬ (i : Int) < (N : Int) := by omega
      rw [← hnL] at HE ⊢
      clear hrow hfr hq hnL hsay hlen6
      go_wp2_with fail
      go_ret
      exact HE.out

end Go.Proofs.YthgocacabadflaaDoor

/-
  The model's l7In and l7Without: lists of numbers.
-/
import Derived.Test.YthgocacabadflaaDoorSx
namespace Go.Proofs.YthgocacabadflaaDoor
set_option linter.unusedVariables false
set_option linter.unusedSimpArgs false
open Go.RowKit

theorem Tryd.infoI3 : (Tryd.prog.info? 3).map (fun i => (i.zero, i.size, i.bytes)) = some (some (.int .i64 0), 1, 8) := by kernel_rfl

/-- A row of numbers. -/
def NRow (w : World) (v : Value) (l : List Nat) : Prop := w.ownsRow 0 3 1 v l.length (l.map i64)

theorem NRow.keeps {may : Nat → Prop} {w w' : World} {v : Value} {l : List Nat} (h : NRow w v l) (q : Keeps may w w') (hm : ∀ g, v.ownBlock = some g → ¬ may g) : NRow w' v l := q.ownsRow h (fun g hg _ => hm g hg)
theorem NRow.shape {w : World} {v : Value} {l : List Nat} (h : NRow w v l) : ∃ a c, v = .slice a l.length c := row_shape (ok := fun _ => True) ⟨h, fun _ _ => trivial⟩
theorem row_capM {w : World} {ok : Nat → Prop} {e : TypeId} {size : Nat} {v : Value} {n : Nat} {xs : List Value} (h : w.ownsRow 0 e size v n xs) (hn : 0 < n) :
    ∃ g c, v = .slice (some ⟨g, 0, none⟩) n c ∧ n ≤ c ∧ g < w.heap.size ∧ ∀ j u, xs[j]? = some u → w.cell? ⟨g, j, none⟩ = some u ∧ w.frozen? ⟨g, j, none⟩ = false := by
  obtain ⟨g, c, rfl, _, hg, hc⟩ := row_get (ok := fun _ => True) ⟨h, fun _ _ => trivial⟩ hn
  rcases h.2 with ⟨e, _⟩ | ⟨g', c', cur, e, _, hh, hnc, _⟩
  · cases e
  · simp only [Value.slice.injEq, Option.some.injEq, Addr.mk.injEq, and_true, true_and] at e
    obtain ⟨rfl, rfl⟩ := e
    exact ⟨g, c, rfl, hnc, hg, fun j u hj => ⟨hc j u hj, (show Blk w g cur _ from hh).free j⟩⟩
theorem NRow.get {w : World} {v : Value} {l : List Nat} (h : NRow w v l) (hn : 0 < l.length) :
    ∃ g c, v = .slice (some ⟨g, 0, none⟩) l.length c ∧ l.length ≤ c ∧ g < w.heap.size ∧ ∀ (j : Nat) (m : Nat), l[j]? = some m → w.cell? ⟨g, j, none⟩ = some (.int .i64 (m : Int)) ∧ w.frozen? ⟨g, j, none⟩ = false := by
  obtain ⟨g, c, e, hc, hg, h1⟩ := row_capM (ok := fun _ => True) h hn
  exact ⟨g, c, e, hc, hg, fun j m hj => h1 j _ (by rw [List.getElem?_map, hj]; rfl)⟩

def inB (l : List Nat) (n : Int) : Bool := l.any (fun m => decide ((m : Int) = n))

set_option maxRecDepth 100000 in
set_option maxHeartbeats 4000000 in
theorem in_any (v : Value) (l : List Nat) (n : Int) (w : World) (h : NRow w v l) (hl : l.length ≤ 100000) : Calls Tryd.prog 50 #[v, .int .i64 n] w fun e w' => e = .returned (.bool (inB l n)) ∧ w' = w := by
  obtain ⟨a, c, rfl⟩ := h.shape
  obtain ⟨N, hN⟩ : ∃ N, N = l.length := ⟨_, rfl⟩
  have HR : Hid (∀ i, i < N → ∃ g m, a = some ⟨g, 0, none⟩ ∧ N ≤ c ∧ l[i]? = some m ∧ w.cell? ⟨g, i, none⟩ = some (.int .i64 (m : Int))) := fun i hi => by
    obtain ⟨g, d, e, hc, hg, hh⟩ := h.get (by omega)
    simp only [Value.slice.injEq, true_and] at e
    obtain ⟨rfl, rfl⟩ := e
    have hm := List.getElem?_eq_getElem (l := l) (i := i) (by omega)
    exact ⟨g, _, rfl, by omega, hm, (hh i _ hm).1⟩
  have HN := Lib.hid hN
  rw [← hN] at hl ⊢
  clear h hN
  go_enter Tryd.func50, Tryd.ntmps50
  go_wp2_with fail
  go_loop [9] (fun vi => ∃ i : Nat, i ≤ N ∧ vi = .int .i64 (i : Int) ∧ inB (l.take i) n = false) (fun vi => N - (intOf vi).toNat)
  case atStart => exact ⟨0, Nat.zero_le _, rfl, rfl⟩
  case round =>
    obtain ⟨i, hin, rfl, hno⟩ := hrel
    by_cases hlt : i < N
    · obtain ⟨g, m, rfl, hc, hm, r1⟩ := HR.out i hlt
      have hi1 : (i : Int) < (N : Int) := by omega
      have hstep : inB (l.take (i + 1)) n = decide ((m : Int) = n) := by
        unfold inB at hno ⊢
        rw [List.take_add_one, hm, List.any_append, hno]; simp
      by_cases hmn : (m : Int) = n
      · have e1 : ((m : Int) == n) = true := by simp [hmn]
        have HE : Hid (inB l n = true) := by
          unfold inB
          rw [List.any_eq_true]
          exact ⟨m, List.mem_of_getElem? hm, by simp [hmn]⟩
        clear hmn hstep hno hm
        go_wp2_with fail
        go_ret
        rw [HE.out]; exact ⟨rfl, rfl⟩
      · have e1 : ((m : Int) == n) = false := by rw [beq_eq_false_iff_ne]; exact hmn
        have HE : Hid (inB (l.take (i + 1)) n = false) := Lib.hid (by rw [hstep]; simp [hmn])
        clear hmn hstep hno hm
        go_wp2_with fail
        go_round
        case rel => exact ⟨i + 1, hlt, by go_num, HE.out⟩
        case measure => simp [intOf]; omega
    · have HE : Hid (inB l n = false) := by
        rw [List.take_of_length_le (by have := HN.out; omega)] at hno; exact hno
      have hi1 : ¬ (i : Int) < (N : Int) := by omega
      clear hno
      go_wp2_with fail
      go_ret
      rw [HE.out]; exact ⟨rfl, rfl⟩

def WithoutPost (w : World) (l : List Nat) (e : Ending) (w' : World) : Prop :=
  ∃ v, e = .returned v ∧ NRow w' v l ∧ (∀ g, v.ownBlock = some g → w.heap.size ≤ g) ∧ Keeps noB w w'
def outN (l : List Nat) (n : Int) : List Nat := l.filter (fun m => decide ((m : Int) ≠ n))

/-- What the loop of l7Without holds. -/
def WoAt (w : World) (l : List Nat) (n : Int) (vo vi : Value) (wr : World) : Prop :=
  ∃ i : Nat, i ≤ l.length ∧ vi = .int .i64 (i : Int) ∧ NRow wr vo (outN (l.take i) n) ∧ (∀ g, vo.ownBlock = some g → w.heap.size ≤ g) ∧ Keeps noB w wr

set_option maxRecDepth 100000 in
set_option maxHeartbeats 4000000 in
theorem without_any (v : Value) (l : List Nat) (n : Int) (w : World) (h : NRow w v l) (hl : l.length ≤ 100000) : Calls Tryd.prog 51 #[v, .int .i64 n] w (WithoutPost w (outN l n)) := by
  obtain ⟨i0, hi, hz0, hz1, hz2⟩ := info_parts Tryd.infoI3
  have HI := Lib.hid (And.intro hi (And.intro hz0 (And.intro hz1 hz2)))
  obtain ⟨a, c, rfl⟩ := h.shape
  obtain ⟨N, hN⟩ : ∃ N, N = l.length := ⟨_, rfl⟩
  have o1 := World.ownsRow_made w #[] 0 (e := 3) (size := 1) (Nat.zero_le _) (by simp [maxLen]) rfl
  have HP : Hid (WoAt w l n (.slice (some ⟨w.heap.size, 0, none⟩) 0 0) (.int .i64 0) (w.alloc (.cells #[] 3))) :=
    ⟨0, Nat.zero_le _, rfl, o1, fun g hg => by simp [Value.ownBlock] at hg; omega, (Keeps.refl noB w).alloc _⟩
  have HR : Hid (∀ i wr, Keeps noB w wr → i < N → ∃ g m, a = some ⟨g, 0, none⟩ ∧ N ≤ c ∧ l[i]? = some m ∧ wr.cell? ⟨g, i, none⟩ = some (.int .i64 (m : Int))) := fun i wr q hi => by
    obtain ⟨g, d, e, hc, hg, hh⟩ := h.get (by omega)
    simp only [Value.slice.injEq, true_and] at e
    obtain ⟨rfl, rfl⟩ := e
    have hm := List.getElem?_eq_getElem (l := l) (i := i) (by omega)
    exact ⟨g, _, rfl, by omega, hm, (q.cell (p := ⟨g, i, none⟩) hg id).trans (hh i _ hm).1⟩
  have HN := Lib.hid hN
  rw [← hN] at hl ⊢
  clear h hN o1 hi hz0 hz1 hz2
  go_enter Tryd.func51, Tryd.ntmps51
  go_wp2_with fail
  go_loopw [5, 11] (fun vo vi wr => WoAt w l n vo vi wr) (fun _ vi _ => N - (intOf vi).toNat)
  case atStart => exact HP.out
  case round =>
    clear HP
    obtain ⟨i, hin, rfl, hrow, hfr, hq⟩ := hrel
    rw [← HN.out] at hin
    obtain ⟨L, hL⟩ : ∃ L, L = outN (l.take i) n := ⟨_, rfl⟩
    rw [← hL] at hrow
    have hLl : L.length ≤ i := by
      rw [hL]
      refine Nat.le_trans (List.length_filter_le _ _) ?_
      rw [List.length_take]; omega
    obtain ⟨a', c', rfl⟩ := hrow.shape
    obtain ⟨nL, hnL⟩ : ∃ nL, nL = L.length := ⟨_, rfl⟩
    by_cases hlt : i < N
    · obtain ⟨g, m, rfl, hc, hm, r1⟩ := HR.out i wr hq hlt
      have hi1 : (i : Int) < (N : Int) := by omega
      have hstep : outN (l.take (i + 1)) n = L ++ (if (m : Int) = n then [] else [m]) := by
        rw [hL]; unfold outN
        rw [List.take_add_one, hm, List.filter_append]
        congr 1
        by_cases e : (m : Int) = n <;> simp [e]
      by_cases hmn : (m : Int) = n
      · have e1 : ((m : Int) != n) = false := by simp [hmn]
        have HE : Hid (WoAt w l n (.slice a' L.length c') (.int .i64 ((i : Int) + 1)) wr) := by
          rw [if_pos hmn, List.append_nil] at hstep
          exact ⟨i + 1, by rw [← HN.out]; omega, by go_num, by rw [hstep]; exact hrow, hfr, hq⟩
        rw [← hnL] at HE hrow ⊢
        clear hmn hstep hm hL hLl hnL hrow hfr hq
        go_wp2_with fail
        go_roundw
        case rel => exact HE.out
        case measure => simp [intOf]; omega
      · have e1 : ((m : Int) != n) = true := by simp [hmn]
        have HS := Lib.hid (And.intro hrow (And.intro hfr (And.intro hq (And.intro hnL (by rw [if_neg hmn] at hstep; exact hstep)))))
        rw [← hnL] at hLl ⊢
        obtain ⟨LV, hLV⟩ : ∃ LV, LV = L.map i64 := ⟨_, rfl⟩
        have HO : Hid (wr.ownsRow 0 3 1 (.slice a' nL c') nL LV) := by rw [hnL, hLV]; exact hrow
        have hn1 : nL ≤ 100000 := by omega
        clear hmn hstep hm hL hrow hfr hq
        obtain ⟨hi1', hz0, hz1, hz2⟩ := HI.out
        have HLV := Lib.hid hLV
        have HNL := Lib.hid hnL
        clear hLV hnL hLl
        go_wp2_with (at_builtin; refine wpList_append_fresh _ rfl _ _ 25 rfl 3 i0 _ 1 8 Tryd.underlying25 hi1' hz0 hz1 hz2 rfl (by decide) (.slice a' nL c') nL LV rfl (HO.out.alloc _) ⟨wr.heap.size, 0, none⟩ 1 1 [.int .i64 (m : Int)] rfl rfl (cells_one wr (.int .i64 (m : Int)) 3) (by intro u hu; simp at hu; subst hu; rfl) (by unfold maxLen; omega) (by omega) ?_)
        intro v' w3 hown' hgrow hfresh
        have hnew : WoAt w l n v' (.int .i64 ((i : Int) + 1)) w3 := by
          obtain ⟨h1, h2, h3, h4, h5⟩ := HS.out
          have qa : Keeps (fun g => (Value.slice a' nL c').ownBlock = some g) wr w3 := ((Keeps.refl _ wr).alloc _).grown hgrow (fun g hg => .inl hg)
          have h2 : ∀ g, (Value.slice a' nL c').ownBlock = some g → w.heap.size ≤ g := by rw [HNL.out]; exact h2
          refine ⟨i + 1, by rw [← HN.out]; omega, by go_num, ?_, ?_, h3.transNew qa (fun i hi e => by have := h2 i e; omega)⟩
          · rw [h5]
            unfold NRow
            rw [List.length_append, List.map_append, ← HNL.out, ← HLV.out]
            exact hown'
          · intro g hg
            rcases hfresh with h | h
            · exact h2 g (h ▸ hg)
            · have := h g hg; have := h3.size; simp at *; omega
        obtain ⟨a2, c2, rfl⟩ := row_shape (ok := fun _ => True) ⟨hown', fun _ _ => trivial⟩
        have HE := Lib.hid hnew
        clear hown' hgrow hfresh hnew
        go_wp2_with fail
        go_roundw
        case rel => exact HE.out
        case measure => simp [intOf]; omega
    · have HE : Hid (WithoutPost w (outN l n) (.returned (.slice a' L.length c')) wr) := by
        rw [List.take_of_length_le (by have := HN.out; omega)] at hL
        rw [← hL]
        exact ⟨_, rfl, hrow, hfr, hq⟩
      have hi1 : ¬ (i : Int) < (N : Int) := by omega
      rw [← hnL] at HE ⊢
      clear hL hrow hfr hq hLl hnL
      go_wp2_with fail
      go_ret
      exact HE.out

end Go.Proofs.YthgocacabadflaaDoor

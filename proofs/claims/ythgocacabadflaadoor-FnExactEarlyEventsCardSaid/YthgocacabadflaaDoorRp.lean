/-
  The program's valueOf: the number of the value that has a life.
-/
import Derived.Test.YthgocacabadflaaDoorRa
import Derived.Test.YthgocacabadflaaDoorRda
import Derived.BigQuiet
import Derived.Deep.QuietTactic
import Derived.StillTailTactics
namespace Go.Proofs.YthgocacabadflaaDoor
set_option linter.unusedVariables false
set_option linter.unusedSimpArgs false
open Go.RowKit

/-- Values are made one behind the other. -/
theorem lives_born {l : List Ev} (hg : Good l) : ((livesL l).map Lf.b).Pairwise (· < ·) := by
  induction hg with
  | nil => exact List.Pairwise.nil
  | @snoc l e hg hf ih =>
    rw [livesL_snoc]
    unfold lifeStep
    have hm : ∀ (s : List Lf) (i : Nat) (F : Lf → Lf), (∀ f, (F f).b = f.b) → (s.modify i F).map Lf.b = s.map Lf.b := fun s i F hF => by
      apply List.ext_getElem?
      intro j
      rw [List.getElem?_map, List.getElem?_map]
      by_cases h : i = j
      · subst h
        rw [mod_eq]
        cases s[i]? with
        | none => rfl
        | some f => show some (F f).b = some f.b; rw [hF]
      · rw [mod_ne h]
    split
    · rw [List.map_append, List.pairwise_append]
      refine ⟨ih, List.pairwise_singleton _ _, fun a ha b hb => ?_⟩
      have hb : b = (l.length : Int) := by simpa using hb
      obtain ⟨f, hf1, rfl⟩ := List.mem_map.1 ha
      obtain ⟨i, hi⟩ := List.getElem?_of_mem hf1
      have := hg.says.bnd i f hi
      omega
    · split
      · rw [hm _ _ (fun f => { f with u := (l.length : Int) }) (fun f => rfl)]; exact ih
      · rw [hm _ _ (fun f => { f with d := (l.length : Int) }) (fun f => rfl)]; exact ih

theorem lives_first {l : List Ev} (hg : Good l) {i j : Nat} {x f : Lf} (hij : i < j) (hx : (livesL l)[i]? = some x) (hf : (livesL l)[j]? = some f) : x.b < f.b := by
  have h := List.pairwise_iff_getElem.1 (lives_born hg)
  obtain ⟨i1, rfl⟩ := List.getElem?_eq_some_iff.1 hx
  obtain ⟨j1, rfl⟩ := List.getElem?_eq_some_iff.1 hf
  have := h i j (by simpa using i1) (by simpa using j1) hij
  simpa using this

set_option maxRecDepth 100000 in
set_option maxHeartbeats 4000000 in
theorem index_life (w : World) (v : Value) (s : List Lf) (f : Lf) (j : Nat) (h : LRow w v s) (hl : s.length ≤ 600) (hj : s[j]? = some f) (hfirst : ∀ (i : Nat) (x : Lf), i < j → s[i]? = some x → x.b < f.b) :
    Calls Tryd.prog 76 #[v, .agg #[.int .i64 f.b, .int .i64 f.u, .int .i64 f.d]] w fun e w' => e = .returned (.int .i64 (j : Int)) ∧ Keeps noB w w' := by
  have hjl := (List.getElem?_eq_some_iff.1 hj).1
  obtain ⟨gl, c, rfl, hcc, hgl, hh⟩ := LRn.get (n := s.length) (show LRn w v s.length s from h) (by omega)
  obtain ⟨N, hN⟩ : ∃ N, N = s.length := ⟨_, rfl⟩
  have bX := Blk.new w #[.int .i64 f.b, .int .i64 f.u, .int .i64 f.d] 41
  have HR : Hid (∀ i wr, Keeps noB (w.alloc (.cells #[.int .i64 f.b, .int .i64 f.u, .int .i64 f.d] 41)) wr → i ≤ j → ∃ x, ((i < j ∧ (f.b == x.b) = false) ∨ (i = j ∧ x = f)) ∧
      (wr.cell? ⟨gl, i * 3, none⟩ = some (.int .i64 x.b) ∧ wr.cell? ⟨gl, i * 3 + 1, none⟩ = some (.int .i64 x.u) ∧ wr.cell? ⟨gl, i * 3 + 2, none⟩ = some (.int .i64 x.d)) ∧
      (wr.cell? ⟨w.heap.size, 0, none⟩ = some (.int .i64 f.b) ∧ wr.cell? ⟨w.heap.size, 1, none⟩ = some (.int .i64 f.u) ∧ wr.cell? ⟨w.heap.size, 2, none⟩ = some (.int .i64 f.d))) := fun i wr q hi => by
    have q0 : Keeps noB w wr := ((Keeps.refl noB w).alloc _).trans q
    have b := q.blk bX id
    have hm := List.getElem?_eq_getElem (l := s) (i := i) (by omega)
    obtain ⟨⟨g0, g1, g2⟩, _⟩ := hh i _ hm
    refine ⟨s[i], ?_, ⟨(q0.cell (p := ⟨gl, i * 3, none⟩) hgl id).trans g0, (q0.cell (p := ⟨gl, i * 3 + 1, none⟩) hgl id).trans g1, (q0.cell (p := ⟨gl, i * 3 + 2, none⟩) hgl id).trans g2⟩, (b.cell 0).trans rfl, (b.cell 1).trans rfl, (b.cell 2).trans rfl⟩
    by_cases hij : i < j
    · have := hfirst i _ hij hm
      exact .inl ⟨hij, by rw [beq_eq_false_iff_ne]; omega⟩
    · obtain rfl : i = j := by omega
      rw [hm] at hj
      exact .inr ⟨rfl, Option.some.inj hj⟩
  have hjN : (j : Int) < (N : Int) := by omega
  have hcN : (N : Int) ≤ (c : Int) := by omega
  rw [← hN] at hl hcc ⊢
  clear h hh hN bX hfirst hj hjl
  go_enter Tryd.func76, Tryd.ntmps76
  go_wp2_with fail
  generalize hW1 : w.alloc (.cells #[.int .i64 f.b, .int .i64 f.u, .int .i64 f.d] 41) = W1 at *
  have HW1 : Hid (Keeps noB w W1) := by rw [← hW1]; exact (Keeps.refl _ _).alloc _
  clear hW1
  go_loopw [8] (fun vi wr => ∃ i : Nat, i ≤ j ∧ vi = .int .i64 (i : Int) ∧ Keeps noB W1 wr) (fun vi _ => N - (intOf vi).toNat)
  case atStart => exact ⟨0, Nat.zero_le _, rfl, Keeps.refl _ _⟩
  case round =>
    obtain ⟨i, hin, rfl, hq⟩ := hrel
    obtain ⟨x, hx, ⟨r1, r2, r3⟩, r4, r5, r6⟩ := HR.out i wr hq hin
    have HQ := Lib.hid hq
    have hi1 : (i : Int) < (N : Int) := by omega
    rcases hx with ⟨hij, hne⟩ | ⟨rfl, rfl⟩
    · clear hq
      go_wp2_with fail
      go_quiet (fail)
      go_wp2_with fail
      go_roundw
      case rel => exact ⟨i + 1, hij, by go_num, HQ.out.drewN _⟩
      case measure => simp [intOf]; omega
    · have e1 : (x.b == x.b) = true := by simp
      have e2 : (x.u == x.u) = true := by simp
      have e3 : (x.d == x.d) = true := by simp
      clear hq
      go_wp2_with fail
      go_quiet (fail)
      go_wp2_with fail
      go_ret
      exact ⟨rfl, HW1.out.trans (HQ.out.drewN _)⟩

set_option maxRecDepth 100000 in
set_option maxHeartbeats 4000000 in
theorem valueOf_any (w : World) (H : Nat) (own : Nat → Prop) (l : List Ev) (ve vl : Value) (h : HistAt w H own l ve vl) (hg : Good l) (hl : l.length ≤ 600) (f : Lf) (j : Nat) (hj : (livesL l)[j]? = some f) :
    Calls Tryd.prog 62 #[.pointer (some ⟨H, 0, none⟩), .agg #[.int .i64 f.b, .int .i64 f.u, .int .i64 f.d]] w fun e w' => e = .returned (.int .i64 ((j : Int) + 1)) ∧ Keeps noB w w' := by
  have hsay := hg.says
  have hle := hsay.le
  have hlen6 : (livesL l).length ≤ 600 := by rw [hsay.made]; omega
  have hjl := (List.getElem?_eq_some_iff.1 hj).1
  have hj6 : (j : Int) ≤ 600 := by omega
  have hwr : IntKind.i64.wrap ((j : Int) + 1) = (j : Int) + 1 := by rw [IntKind.wrap_i64]; omega
  have q0 : Keeps noB w (w.alloc (.cells #[.int .i64 f.b, .int .i64 f.u, .int .i64 f.d] 41)).drew := ((Keeps.refl noB w).alloc _).drew
  have HIX : Hid (∀ W, Keeps noB w W → Calls Tryd.prog 76 #[vl, .agg #[.int .i64 f.b, .int .i64 f.u, .int .i64 f.d]] W fun e w' => e = .returned (.int .i64 (j : Int)) ∧ Keeps noB w w') := fun W q =>
    (index_life W vl (livesL l) f j ((h.keeps q (fun _ _ e => e)).lfs) hlen6 hj (fun i x hi hx => lives_first hg hi hx hj)).mono (fun e w' hp => ⟨hp.1, q.trans hp.2⟩)
  have b1 := ((h.keeps q0 (fun _ _ e => e)).blk.cell 1)
  simp only [List.getElem?_toArray, List.getElem?_cons_succ, List.getElem?_cons_zero] at b1
  have bX : Blk (w.alloc (.cells #[.int .i64 f.b, .int .i64 f.u, .int .i64 f.d] 41)).drew w.heap.size #[.int .i64 f.b, .int .i64 f.u, .int .i64 f.d] 41 := (Blk.new w _ _).drew
  have x0 := (bX.cell 0).trans rfl
  have x1 := (bX.cell 1).trans rfl
  have x2 := (bX.cell 2).trans rfl
  have HQ0 := Lib.hid q0
  obtain ⟨a, c, rfl⟩ := h.shape.2
  clear h hsay hle hlen6 hj hg hl hjl q0 bX
  generalize (livesL l).length = nL at *
  go_enter Tryd.func62, Tryd.ntmps62
  go_wp2_with fail
  generalize hW1 : (w.alloc (.cells #[.int .i64 f.b, .int .i64 f.u, .int .i64 f.d] 41)).drew = W1 at *
  go_region_with (go_at_call 76; refine (HIX.out _ HQ0.out).mono ?_; rintro e w5 ⟨rfl, q5⟩; have Q5 := Lib.hid q5; clear q5)
  all_goals
    simp only [List.getElem_toArray, List.getElem_cons_succ, List.getElem_cons_zero, hwr]
    go_simp
    go_wp2_with fail
    go_ret
    exact ⟨rfl, Q5.out⟩

end Go.Proofs.YthgocacabadflaaDoor

/-
  Walks of the model: what a step destroys unsaid (l5Vars), and what is destroyed of variables (l5Plan).
  Walks of the model: l3Points, the points of a program in ascending order.
  Walks of the model: l5Each: for each point of a program what is destroyed there unsaid, and whether it is reached.
  Walks of the model: PlansOf, IsWritten, PlanAt.
-/
import Derived.Test.YtcpbkohpgchckaaYp
import Derived.Test.YtcpbkohpgchckaaVgW
import Derived.Deep.QuietTactic
import Derived.BigQuiet
import Derived.Test.YtcpbkohpgchckaaEbW
import Derived.Test.YtcpbkohpgchckaaZba
import Derived.Test.YtcpbkohpgchckaaSqW
import Derived.Test.YtcpbkohpgchckaaVsb
namespace Go.Proofs.Ytcpbkohpgchckaa
set_option linter.unusedVariables false
set_option linter.unusedSimpArgs false
open Go.RowKit

/-! ### l5Vars -/
set_option maxRecDepth 100000 in
set_option maxHeartbeats 4000000 in
theorem svars_any {z : Nd} (hf : z.Fit) (a : Option Addr) (n m : Nat) (w : World) : Calls Try.prog 87 #[.agg #[.int .u8 (z.kind.toNat : Int), .int .i64 (z.beg : Int), .int .i64 (z.fin : Int), .string ⟨z.vars.toArray⟩, .slice a n m, .string ⟨z.scope.toArray⟩]] w (fun e w' => e = .returned (.string ⟨(unsaidN z).toArray⟩) ∧ Keeps noB w w') := by
  have hk : z.kind = 43 ∨ z.kind = 46 ∨ z.kind = 45 ∨ z.kind = 126 ∨ z.kind = 61 ∨ z.kind = 94 ∨ z.kind = 33 ∨ z.kind = 42 ∨ z.kind = 123 ∨ z.kind = 63 := by
    obtain ⟨c, b, e, vs, ar, bs⟩ := z
    show c = 43 ∨ c = 46 ∨ c = 45 ∨ c = 126 ∨ c = 61 ∨ c = 94 ∨ c = 33 ∨ c = 42 ∨ c = 123 ∨ c = 63
    match bs, hf with
    | .nil, hf => simp only [Nd.Fit] at hf; rcases hf with ⟨h, _⟩ | ⟨h, _⟩ | ⟨h, _⟩ <;> grind
    | .cons y .nil, hf => simp only [Nd.Fit] at hf; rcases hf.1 with ⟨h, _⟩ | h <;> grind
    | .cons y (.cons u .nil), hf => simp only [Nd.Fit] at hf; grind
    | .cons y (.cons u (.cons q r)), hf => simp only [Nd.Fit] at hf
  have hone : z.kind = 43 ∨ z.kind = 61 → 1 ≤ z.vars.length := by
    intro h
    obtain ⟨c, b, e, vs, ar, bs⟩ := z
    have hh : c = 43 ∨ c = 61 := h
    clear h
    show 1 ≤ vs.length
    match bs, hf with
    | .nil, hf =>
      simp only [Nd.Fit] at hf
      rcases hf with ⟨_, v, rfl, _⟩ | ⟨_, v, u, rfl, _⟩ | ⟨h2, _⟩
      · simp
      · simp
      · rcases h2 with rfl | rfl <;> exact absurd hh (by decide)
    | .cons y .nil, hf => simp only [Nd.Fit] at hf; rcases hf.1 with ⟨rfl, _⟩ | rfl <;> exact absurd hh (by decide)
    | .cons y (.cons u .nil), hf => simp only [Nd.Fit] at hf; obtain ⟨rfl, _⟩ := hf; exact absurd hh (by decide)
    | .cons y (.cons u (.cons q r)), hf => simp only [Nd.Fit] at hf
  have hun : unsaidN z = if z.kind = 43 ∨ z.kind = 61 then z.vars.take 1 else if z.kind = 94 ∨ z.kind = 33 then z.scope else [] := rfl
  obtain ⟨sv, hsv⟩ : ∃ sv : ByteArray, sv = ⟨z.vars.toArray⟩ := ⟨_, rfl⟩
  obtain ⟨sc, hsc⟩ : ∃ sc : ByteArray, sc = ⟨z.scope.toArray⟩ := ⟨_, rfl⟩
  have hsz : sv.size = z.vars.length := by rw [hsv]; exact size_arr _
  have hex : (⟨(z.vars.take 1).toArray⟩ : ByteArray) = sv.extract 0 1 := by
    rw [hsv]
    refine ByteArray.ext ?_
    rw [ByteArray.data_extract]
    apply Array.ext'
    simp
  obtain ⟨T, hT⟩ : ∃ T : ByteArray, T = ⟨(unsaidN z).toArray⟩ := ⟨_, rfl⟩
  have hT1 : z.kind = 43 ∨ z.kind = 61 → T = sv.extract 0 1 := fun h => by rw [hT, hun, if_pos h, hex]
  have hT2 : ¬ (z.kind = 43 ∨ z.kind = 61) → z.kind = 94 ∨ z.kind = 33 → T = sc := fun h h2 => by rw [hT, hun, if_neg h, if_pos h2, hsc]
  have hT3 : ¬ (z.kind = 43 ∨ z.kind = 61) → ¬ (z.kind = 94 ∨ z.kind = 33) → T = ⟨#[]⟩ := fun h h2 => by rw [hT, hun, if_neg h, if_neg h2]
  rw [← hsv, ← hsc, ← hT]
  obtain ⟨kd, hkd⟩ : ∃ kd, z.kind = kd := ⟨_, rfl⟩
  rw [hkd] at hk hone hT1 hT2 hT3 ⊢
  have hsl : 1 ≤ z.vars.length → (1 : Int) ≤ (sv.size : Int) := fun h => by omega
  clear hsv hsc hex hun hf hkd hT
  rcases hk with rfl | rfl | rfl | rfl | rfl | rfl | rfl | rfl | rfl | rfl
  all_goals
    first
      | (have h1 := hsl (hone (by decide)); have hT := Lib.hid (hT1 (by decide)); clear hone hsl hsz hT1 hT2 hT3
         go_enter Try.func87, Try.ntmps87
         go_wp2_with fail
         go_ret
         exact ⟨congrArg (fun t => Ending.returned (.string t)) hT.out.symm, (Keeps.refl _ _).alloc _⟩)
      | (have hT := Lib.hid (hT2 (by decide) (by decide)); clear hone hsl hsz hT1 hT2 hT3
         go_enter Try.func87, Try.ntmps87
         go_wp2_with fail
         go_ret
         exact ⟨congrArg (fun t => Ending.returned (.string t)) hT.out.symm, (Keeps.refl _ _).alloc _⟩)
      | (have hT := Lib.hid (hT3 (by decide) (by decide)); clear hone hsl hsz hT1 hT2 hT3
         go_enter Try.func87, Try.ntmps87
         go_wp2_with fail
         go_ret
         exact ⟨congrArg (fun t => Ending.returned (.string t)) hT.out.symm, (Keeps.refl _ _).alloc _⟩)

end Go.Proofs.Ytcpbkohpgchckaa

namespace Go.Proofs.Ytcpbkohpgchckaa
set_option linter.unusedVariables false
set_option linter.unusedSimpArgs false
open Go.RowKit

/-! ### the points as they are put in one by one -/
/-- What is gathered when some ends have been put in. -/
def insL (x : Nd) (ed : List Nat) : List Nat := ed.foldl (fun l e => insN e l) (begsL x.pre.list)
theorem insL_snoc (x : Nd) (ed : List Nat) (e : Nat) : insL x (ed ++ [e]) = insN e (insL x ed) := by unfold insL; rw [List.foldl_append]; rfl

theorem insN_pos (e : Nat) (l : List Nat) : 0 < (insN e l).length := by unfold insN; rw [List.length_append, List.length_cons]; omega
theorem fold_pos : ∀ (ed l : List Nat), 0 < l.length → 0 < (ed.foldl (fun l e => insN e l) l).length
  | [], l, h => h
  | e :: ed, l, _ => fold_pos ed (insN e l) (insN_pos e l)
theorem insL_pos (x : Nd) (ed : List Nat) : 0 < (insL x ed).length := by
  refine fold_pos ed _ ?_
  obtain ⟨c, b, e, vs, ar, bs⟩ := x
  show 0 < (begsL (Nd.mk c b e vs ar bs :: bs.pre.list)).length
  unfold begsL
  simp

theorem ends_in {s : ByteArray} {x : Nd} (hp : progP s = some x) {a : Nat} (h : a ∈ begsL x.pre.list ∨ a ∈ endsL x.pre.list) : a ≤ 80 := by
  have hm : a ∈ x.pts.map Prod.fst := (Nd.pts_perm x).mem_iff.2 (List.mem_append.2 h)
  obtain ⟨p, hpm, rfl⟩ := List.mem_map.1 hm
  exact (progP_pts hp p hpm).2.2

theorem insL_ok {s : ByteArray} {x : Nd} (hp : progP s = some x) {ed er : List Nat} (h : endsL x.pre.list = ed ++ er) : Asc (insL x ed) ∧ (insL x ed).length ≤ 81 ∧ ∀ a ∈ insL x ed, a ≤ 80 := by
  have hA := pts_ascN (progP_sp hp) (progP_fit hp)
  have hP := Nd.pts_perm x
  have hN : (begsL x.pre.list ++ endsL x.pre.list).Nodup := hP.nodup_iff.1 (hA.imp (fun hlt => by omega))
  have hB : Asc (begsL x.pre.list) := hA.sublist (Nd.begs_sub x)
  have hN2 : (begsL x.pre.list ++ ed).Nodup := by
    rw [h, ← List.append_assoc] at hN
    exact (List.nodup_append.1 hN).1
  obtain ⟨f1, f2⟩ := fold_asc ed (begsL x.pre.list) hB hN2
  have hb : ∀ a ∈ insL x ed, a ≤ 80 := fun a ha => by
    rcases (f2 a).1 ha with h1 | h1
    · exact ends_in hp (.inl h1)
    · exact ends_in hp (.inr (by rw [h]; exact List.mem_append_left _ h1))
  refine ⟨f1, ?_, hb⟩
  have := asc_len (insL x ed) 0 81 f1 (fun a ha => by have := hb a ha; omega)
  omega

theorem endsL_snoc (l : List Nd) (z : Nd) : endsL (l ++ [z]) = endsL l ++ (if z.kind = 123 then [z.fin - 1] else []) := by
  rw [endsL_app]
  congr 1
  unfold endsL
  by_cases h : z.kind = 123
  · rw [if_pos h, List.filter_cons, if_pos (by simp [h])]; rfl
  · rw [if_neg h, List.filter_cons, if_neg (by simp [h])]; rfl
theorem begsL_snoc (l : List Nd) (z : Nd) : begsL (l ++ [z]) = begsL l ++ [z.beg] := by rw [begsL_app]; rfl
theorem endsL_len (l : List Nd) : (endsL l).length ≤ l.length := by unfold endsL; rw [List.length_map]; exact List.length_filter_le _ _

theorem addr_at (g k j : Nat) : (⟨g, k, none⟩ : Addr).add j = ⟨g, k + j, none⟩ := by
  unfold Addr.add
  split <;> simp_all

/-- What the first loop holds: the begins, the ends. -/
def PtsAt (w w1 : World) (ok : Nat → Prop) (all : List Nd) (cs : List Value) (g : Nat) (vo ve vi : Value) (wr : World) : Prop :=
  ∃ (i : Nat) (pre : List Nd) (y : Nds), vi = .int .i64 i ∧ i = pre.length ∧ all.length < i + g ∧ pre ++ y.list = all ∧ RepSL w1 ok y (cs.drop (i * 6)) ∧
    wr.ownsRow 0 3 1 vo (begsL pre).length ((begsL pre).map fun k => i64 k) ∧ wr.ownsRow 0 3 1 ve (endsL pre).length ((endsL pre).map fun k => i64 k) ∧
    (∀ g, vo.ownBlock = some g → g = w.heap.size + 1 ∨ w1.heap.size ≤ g) ∧ (∀ g, ve.ownBlock = some g → g = w.heap.size + 2 ∨ w1.heap.size ≤ g) ∧ (∀ g, vo.ownBlock = some g → ve.ownBlock ≠ some g) ∧
    w.heap.size + 2 < w1.heap.size ∧ Keeps noB w wr ∧ Keeps (twoB (w.heap.size + 1) (w.heap.size + 2)) w1 wr

/-- What the second loop holds: some ends have been put in. -/
def InsAt (w : World) (x : Nd) (vE : Value) (nE : Nat) (vo vi : Value) (wr : World) : Prop :=
  ∃ (ed er : List Nat), endsL x.pre.list = ed ++ er ∧ vi = .int .i64 ed.length ∧ wr.ownsRow 0 3 1 vo (insL x ed).length ((insL x ed).map fun k => i64 k) ∧ (∀ g, vo.ownBlock = some g → w.heap.size ≤ g) ∧
    wr.ownsRow 0 3 1 vE nE ((endsL x.pre.list).map fun k => i64 k) ∧ Keeps noB w wr

set_option maxRecDepth 100000 in
set_option maxHeartbeats 8000000 in
theorem spoints_any {s : ByteArray} {x : Nd} (hp : progP s = some x) (w : World) (ok : Nat → Prop) (hok : ∀ g, ok g → g < w.heap.size) (x0 x1 x2 : Int) (x3 x7 : ByteArray) (x4 : Option Addr) (x5 x6 : Nat)
    (hrep : RepS w ok x [.int .u8 x0, .int .i64 x1, .int .i64 x2, .string x3, .slice x4 x5 x6, .string x7]) :
    Calls Try.prog 85 #[.agg #[.int .u8 x0, .int .i64 x1, .int .i64 x2, .string x3, .slice x4 x5 x6, .string x7]] w (fun e w' => ∃ v, e = .returned v ∧ Row w' (fromB w.heap.size) 3 1 v (x.pts.map Prod.fst).length ((x.pts.map Prod.fst).map fun k => i64 k) ∧ Keeps noB w w') := by
  obtain ⟨i0, hi, hz0, hz1, hz2⟩ := info_parts Try.infoI3
  have HI := Lib.hid (And.intro hi (And.intro hz0 (And.intro hz1 hz2)))
  have HF := Lib.hid (progP_few hp)
  have HIN := Lib.hid (fun ed er h => insL_ok (ed := ed) (er := er) hp h)
  have HPE := Lib.hid (points_eq hp)
  have hlt0 := (Nd.pts_in x (progP_sp hp) (progP_fit hp) (x.beg, unsaidN x) (by rw [Nd.pts_eq]; simp)).2
  have HB80 := Lib.hid (fun a h => ends_in hp (a := a) h)
  have HZ : Hid (∀ z ∈ x.pre.list, z.kind = 123 → 1 ≤ z.fin ∧ z.fin ≤ 81) := fun z hz hk => by
    obtain ⟨h1, h2⟩ := pre_fs x.pre.len x rfl (progP_sp hp) (progP_fit hp) z hz
    have h3 := (Nd.pts_in z h1 h2 (z.beg, unsaidN z) (by rw [Nd.pts_eq]; simp)).2
    have h3 : z.beg < z.fin := h3
    refine ⟨by omega, ?_⟩
    have h5 : z.fin - 1 ≤ 80 := ends_in hp (.inr (by unfold endsL; exact List.mem_map.2 ⟨z, List.mem_filter.2 ⟨hz, by simp [hk]⟩, rfl⟩))
    omega
  clear hi hz0 hz1 hz2
  obtain ⟨w1, hw1⟩ : ∃ w1, w1 = ((w.alloc (.cells #[.int .u8 x0, .int .i64 x1, .int .i64 x2, .string x3, .slice x4 x5 x6, .string x7] 55)).alloc (.cells #[] 3)).alloc (.cells #[] 3) := ⟨_, rfl⟩
  have q1 : Keeps noB w w1 := by rw [hw1]; exact (((Keeps.refl _ _).alloc _).alloc _).alloc _
  have hs1 : w1.heap.size = w.heap.size + 3 := by rw [hw1]; simp
  have o1 : w1.ownsRow 0 3 1 (.slice (some ⟨w.heap.size + 1, 0, none⟩) 0 0) 0 [] := by
    rw [hw1]
    have := World.ownsRow_made (w.alloc (.cells #[.int .u8 x0, .int .i64 x1, .int .i64 x2, .string x3, .slice x4 x5 x6, .string x7] 55)) #[] 0 (e := 3) (size := 1) (Nat.zero_le _) (by simp [maxLen]) rfl
    rw [World.size_alloc] at this
    exact this.alloc _
  have o2 : w1.ownsRow 0 3 1 (.slice (some ⟨w.heap.size + 2, 0, none⟩) 0 0) 0 [] := by
    rw [hw1]
    have := World.ownsRow_made ((w.alloc (.cells #[.int .u8 x0, .int .i64 x1, .int .i64 x2, .string x3, .slice x4 x5 x6, .string x7] 55)).alloc (.cells #[] 3)) #[] 0 (e := 3) (size := 1) (Nat.zero_le _) (by simp [maxLen]) rfl
    rw [World.size_alloc, World.size_alloc] at this
    exact this
  have HE := Lib.hid (each_all x.pre.len x _ w1 (fun g => g < w.heap.size ∧ ok g) rfl (by have := HF.out; omega)
    ((Hands.of_keeps (ok := ok) q1 (fun g _ _ e => e) (fun g hg hl => ⟨by omega, hg⟩)).repS x _ hrep) (fun g hg => by have := hg.1; omega))
  have HQ1 := Lib.hid (And.intro q1 (And.intro o1 (And.intro o2 hs1)))
  have HW1 := Lib.hid hw1
  clear q1 o1 o2 hrep hw1 hs1 hlt0
  go_enter Try.func85, Try.ntmps85
  go_wp2_with fail
  rw [← HW1.out]
  refine HE.out.mono ?_
  rintro e w2 ⟨v, rfl, hout⟩
  obtain ⟨hp0, cs, hown, hrep, hfrom, q2⟩ := hout
  obtain ⟨g, n, hv, _, hg, hcell⟩ := row_at (ok := fun _ => True) ⟨hown, fun _ _ => trivial⟩ hp0
  subst hv
  have hgf : w1.heap.size ≤ g := hfrom g rfl
  have hs2 := q2.size
  have hs1 := HQ1.out.2.2.2
  have HP : Hid (PtsAt w w2 (fun g => g < w.heap.size ∧ ok g) x.pre.list cs (x.pre.len + 1) (.slice (some ⟨w.heap.size + 1, 0, none⟩) 0 0) (.slice (some ⟨w.heap.size + 2, 0, none⟩) 0 0) (.int .i64 0) w2) := by
    refine ⟨0, [], x.pre, rfl, rfl, by rw [Nds.list_len]; omega, rfl, by simpa using hrep, ?_, ?_, ?_, ?_, ?_, by omega, HQ1.out.1.trans q2, Keeps.refl _ _⟩
    · exact q2.ownsRow HQ1.out.2.1 (fun _ _ _ e => e)
    · exact q2.ownsRow HQ1.out.2.2.1 (fun _ _ _ e => e)
    · intro g hg; exact .inl (by simpa [Value.ownBlock] using hg.symm)
    · intro g hg; exact .inl (by simpa [Value.ownBlock] using hg.symm)
    · intro g hg e; simp [Value.ownBlock] at hg e; omega
  have hpl : x.pre.len ≤ 80 := by have := HF.out; omega
  have HR := Lib.hid (And.intro hcell (And.intro hg (And.intro hgf (And.intro hs2 (And.intro hs1 (HQ1.out.1.trans q2))))))
  clear hown hrep hfrom q2 hcell hg hgf hs2 hs1
  go_upto_region 4 with fail
  go_loopg [3, 4, 15] (x.pre.len + 1) (fun g vo ve vi wr => PtsAt w w2 (fun g => g < w.heap.size ∧ ok g) x.pre.list cs g vo ve vi wr)
  case atStart => exact HP.out
  case round =>
    clear HP
    obtain ⟨i, pre, y, rfl, hi, hgk, hpre, hy, hrow1, hrow2, hfr1, hfr2, hdj, hww, hq, hq2⟩ := hrel
    cases gk with
    | zero => rw [← hpre] at hgk; simp at hgk; omega
    | succ gk =>
    have hil := congrArg List.length hpre
    rw [List.length_append, Nds.list_len, Nds.list_len, ← hi] at hil
    obtain ⟨L1, hL1⟩ : ∃ L, L = begsL pre := ⟨_, rfl⟩
    obtain ⟨L2, hL2⟩ : ∃ L, L = endsL pre := ⟨_, rfl⟩
    have hn1 : L1.length = pre.length := by rw [hL1]; unfold begsL; rw [List.length_map]
    have hn2 : L2.length ≤ pre.length := by rw [hL2]; exact endsL_len pre
    rw [← hL1] at hrow1
    rw [← hL2] at hrow2
    obtain ⟨n1, hN1⟩ : ∃ n, n = L1.length := ⟨_, rfl⟩
    obtain ⟨n2, hN2⟩ : ∃ n, n = L2.length := ⟨_, rfl⟩
    rw [← hN1] at hrow1 hn1
    rw [← hN2] at hrow2 hn2
    obtain ⟨a, c, rfl⟩ := row_slice (ok := fun _ => True) ⟨hrow1, fun _ _ => trivial⟩
    obtain ⟨b, c2, rfl⟩ := row_slice (ok := fun _ => True) ⟨hrow2, fun _ _ => trivial⟩
    cases y with
    | nil =>
      simp only [Nds.len] at hil
      have hd : ¬ i < x.pre.len := by omega
      simp only [Nds.list, List.append_nil] at hpre
      have HI2 : Hid (InsAt w x (.slice b n2 c2) n2 (.slice a n1 c) (.int .i64 0) wr) := by
        refine ⟨[], endsL x.pre.list, rfl, rfl, ?_, ?_, ?_, hq⟩
        · show wr.ownsRow 0 _ 1 _ (begsL x.pre.list).length ((begsL x.pre.list).map fun k => i64 k)
          rw [← hpre, ← hL1, ← hN1]; exact hrow1
        · intro g hg; have := hfr1 g hg; omega
        · rw [← hpre, ← hL2]; exact hrow2
      have hn80 : n2 ≤ 80 := by omega
      have HNE : Hid (n2 = (endsL x.pre.list).length) := by rw [← hpre, ← hL2]; exact hN2
      clear hpre hrow1 hrow2 hfr1 hfr2 hdj hq hq2 hy hL1 hL2 hN1 hN2 hn1 hn2 hgk hil hi
      go_upto_region 11 with fail
      go_loopw [3, 36] (fun vo vi wr => InsAt w x (.slice b n2 c2) n2 vo vi wr) (fun _ vi _ => n2 - (intOf vi).toNat)
      case atStart => exact HI2.out
      case round =>
        clear HI2
        obtain ⟨ed, er, hE, rfl, hrow, hfr, hrE, hq⟩ := hrel
        obtain ⟨hA, hlen, hb⟩ := HIN.out ed er hE
        have hpos := insL_pos x ed
        obtain ⟨L, hL⟩ : ∃ L, L = insL x ed := ⟨_, rfl⟩
        rw [← hL] at hrow hA hlen hb hpos
        obtain ⟨nL, hnL⟩ : ∃ n, n = L.length := ⟨_, rfl⟩
        rw [← hnL] at hrow hpos hlen
        obtain ⟨gO, cO, rfl, _, hgO, hcellO⟩ := row_get (ok := fun _ => True) ⟨hrow, fun _ _ => trivial⟩ hpos
        have hel := congrArg List.length hE
        rw [List.length_append, ← HNE.out] at hel
        cases er with
        | nil =>
          have hd : ¬ ed.length < n2 := by simp at hel; omega
          have HX : Hid (Row wr (fromB w.heap.size) 3 1 (.slice (some ⟨gO, 0, none⟩) nL cO) (x.pts.map Prod.fst).length ((x.pts.map Prod.fst).map fun k => i64 k) ∧ Keeps noB w wr) := by
            have e1 : x.pts.map Prod.fst = L := by rw [hL, ← HPE.out]; unfold insL; rw [hE, List.append_nil]
            rw [e1, ← hnL]
            exact ⟨⟨hrow, fun g hg => hfr g hg⟩, hq⟩
          clear hrow hfr hrE hq hA hlen hb hpos hL hnL hE hel hcellO hgO
          go_wp2_with fail
          go_ret
          exact ⟨_, rfl, HX.out.1, HX.out.2⟩
        | cons e er =>
          have hd : ed.length < n2 := by simp at hel; omega
          obtain ⟨gE, cE, hvE, _, hgE, hcellE⟩ := row_get (ok := fun _ => True) ⟨hrE, fun _ _ => trivial⟩ (by omega)
          obtain ⟨rfl, rfl⟩ : b = some ⟨gE, 0, none⟩ ∧ c2 = cE := by simpa using hvE
          have s0 : wr.cell? ⟨gE, ed.length, none⟩ = some (.int .i64 (e : Int)) := hcellE ed.length _ (by rw [hE]; simp [i64])
          have he80 : e ≤ 80 := HB80.out e (.inr (by rw [hE]; simp))
          have hnl81 : nL ≤ 81 := hlen
          have HC : Hid (∀ W, Keeps noB wr W → ∀ (j v : Nat), L[j]? = some v → W.cell? ⟨gO, j, none⟩ = some (.int .i64 (v : Int))) := fun W q j v hj =>
            (q.cell (p := ⟨gO, j, none⟩) hgO id).trans (hcellO j _ (by rw [List.getElem?_map, hj]; rfl))
          have HNX : Hid (∀ v' W, W.ownsRow 0 3 1 v' (nL + 1) ((insN e L).map fun k => i64 k) → (∀ g, v'.ownBlock = some g → wr.heap.size ≤ g) → Keeps noB wr W → (insN e L).length = nL + 1 → InsAt w x (.slice (some ⟨gE, 0, none⟩) n2 c2) n2 v' (.int .i64 ((ed.length + 1 : Nat) : Int)) W) := fun v' W ho hfr2 q hln => by
            have e2 : insL x (ed ++ [e]) = insN e L := by rw [insL_snoc, ← hL]
            refine ⟨ed ++ [e], er, by rw [hE]; simp, by simp, ?_, fun g hg => by have := hfr2 g hg; have := hq.size; omega, q.ownsRow hrE (fun _ _ _ e => e), hq.trans q⟩
            rw [e2, hln]; exact ho
          have HA := Lib.hid (And.intro hA hnL)
          have hcap : nL ≤ cO := by
            rcases hrow.2 with ⟨h, _⟩ | ⟨g2, cap, cur, h, _, _, hnc, _⟩
            · cases h
            · obtain ⟨_, rfl⟩ : _ ∧ cO = cap := by simpa using h
              exact hnc
          have hln : L.length = nL := hnL.symm
          have HDN := Lib.hid hd
          clear hrow hfr hrE hq hA hb hL hE hel hcellO hcellE hvE hnL
          go_upto_region 14 with fail
          go_loopw [9] (fun vk W => ∃ k : Nat, vk = .int .i64 (k : Int) ∧ k ≤ nL ∧ (∀ j (hj : j < L.length), k ≤ j → e < L[j]) ∧ W = wr) (fun vk _ => (intOf vk).toNat)
          case atStart => exact ⟨nL, rfl, Nat.le_refl _, fun j hj hk => by omega, rfl⟩
          case round =>
            obtain ⟨k, rfl, hk, hgt, rfl⟩ := hrel
            have HG := Lib.hid hgt
            have hkc : k ≤ cO := by omega
            clear hgt
            rcases Nat.eq_zero_or_pos k with h0 | h0
            · have hk0 : ¬ 0 < k := by omega
              have HCUT : Hid (L.take k ++ e :: L.drop k = insN e L) := insN_cut HA.out.1 (by omega) HG.out (.inl h0)
              have H0 := Lib.hid h0
              clear h0 hd
              go_wp2_with fail
              by_cases hck : cO = k
              · have hck2 : k = cO := hck.symm
                subst hck2
                clear hck
                have HTc : Hid (∀ W, Keeps noB wr W → ∀ j u, ((L.take k).map fun k => i64 k)[j]? = some u → W.cell? ((⟨gO, 0, none⟩ : Addr).add j) = some u) := fun W q j u hu => by
                  rw [addr_at, Nat.zero_add]
                  rw [List.getElem?_map] at hu
                  cases hj : (L.take k)[j]? with
                  | none => rw [hj] at hu; cases hu
                  | some v =>
                    rw [hj] at hu
                    injection hu with hu
                    rw [← hu]
                    exact HC.out W q j v (by rw [List.getElem?_take] at hj; split at hj <;> first | exact hj | cases hj)
                have HDc : Hid (∀ W, Keeps noB wr W → ∀ j u, ((L.drop k).map fun k => i64 k)[j]? = some u → W.cell? ((⟨gO, 0, none⟩ : Addr).add j) = some u) := fun W q j u hu => by
                  rw [List.getElem?_map, List.getElem?_drop] at hu
                  cases hj : L[k + j]? with
                  | none => rw [hj] at hu; cases hu
                  | some v =>
                    have hlt : k + j < L.length := (List.getElem?_eq_some_iff.1 hj).1
                    rw [hj] at hu
                    injection hu with hu
                    rw [← hu]
                    first
                      | (rw [addr_at]; exact HC.out W q (k + j) v hj)
                      | (exfalso; omega)
                have HTl : Hid (((L.take k).map fun k => i64 k).length = k * 1) := Lib.hid (by rw [List.length_map, List.length_take]; omega)
                have HDl : Hid (((L.drop k).map fun k => i64 k).length = 0 * 1) := Lib.hid (by rw [List.length_map, List.length_drop]; omega)
                have H1T : Hid (∀ u ∈ (L.take k).map fun k => i64 k, u.oneCell' = true) := fun u hu => by obtain ⟨a, _, rfl⟩ := List.mem_map.1 hu; rfl
                have H1D : Hid (∀ u ∈ (L.drop k).map fun k => i64 k, u.oneCell' = true) := fun u hu => by obtain ⟨a, _, rfl⟩ := List.mem_map.1 hu; rfl
                have HFIN : Hid (∀ v' W, W.ownsRow 0 3 1 v' (k + 1 + 0) (((L.take k).map fun k => i64 k) ++ [i64 e] ++ ((L.drop k).map fun k => i64 k)) → (∀ g, v'.ownBlock = some g → wr.heap.size ≤ g) → Keeps noB wr W → InsAt w x (.slice (some ⟨gE, 0, none⟩) n2 c2) n2 v' (.int .i64 ((ed.length + 1 : Nat) : Int)) W ∧ ∃ a c, v' = .slice a (k + 1 + 0) c) := fun v' W ho hf q => by
                  refine ⟨HNX.out v' W ?_ hf q ?_, row_shape (ok := fun _ => True) ⟨ho, fun _ _ => trivial⟩⟩
                  · rw [← HCUT.out, List.map_append, List.map_cons]
                    rw [List.append_assoc] at ho
                    have e1 : k + 1 + 0 = nL + 1 := by omega
                    rw [e1] at ho
                    exact ho
                  · rw [← HCUT.out, List.length_append, List.length_cons, List.length_take, List.length_drop]; omega
                have HMADE : Hid (∀ W, Keeps noB wr W → (W.alloc (.cells #[] 3)).ownsRow 0 3 1 (.slice (some ⟨W.heap.size, 0, none⟩) 0 0) 0 []) := fun W _ => World.ownsRow_made W #[] 0 (e := 3) (size := 1) (Nat.zero_le _) (by simp [maxLen]) rfl
                have HMADE2 : Hid (((wr.alloc (.cells #[.int .i64 (e : Int)] 3)).alloc (.cells #[] 3)).ownsRow 0 3 1 (.slice (some ⟨wr.heap.size + 1, 0, none⟩) 0 0) 0 []) := by
                  have := HMADE.out (wr.alloc (.cells #[.int .i64 (e : Int)] 3)) ((Keeps.refl _ _).alloc _)
                  rw [World.size_alloc] at this
                  exact this
                obtain ⟨hi1, hz0, hz1, hz2⟩ := HI.out
                go_region_law (first
                  | (refine step_append_fresh rfl (.tmp 55) (.tmp 58) 24 rfl 3 i0 (.int .i64 0) 1 8 Try.underlying24 hi1 hz0 hz1 hz2 rfl (by decide) (.slice (some ⟨wr.heap.size, 0, none⟩) 0 0) 0 [] (by rfl) (HMADE.out wr (Keeps.refl _ _)) ⟨gO, 0, none⟩ k k ((L.take k).map fun k => i64 k) (by rfl) HTl.out (HTc.out _ (((Keeps.refl noB wr).alloc (.cells #[] 3)).drew)) H1T.out (by unfold maxLen; omega) (by omega) ?_
                     intro v59 w59 ho59 hg59 hf59
                     have q59 : Keeps noB wr w59 := (((Keeps.refl noB wr).alloc (.cells #[] 3)).drew).grown hg59 (fun g hg' => .inr (by simp [Value.ownBlock] at hg'; omega))
                     rw [Nat.zero_add, List.nil_append] at ho59
                     have hb59 : ∀ g, v59.ownBlock = some g → wr.heap.size ≤ g := fun g hg' => by
                       rcases hf59 with h | h
                       · rw [h] at hg'; simp [Value.ownBlock] at hg'; omega
                       · have := h g hg'; simp at this; omega
                     obtain ⟨a59, c59, rfl⟩ := row_shape (ok := fun _ => True) ⟨ho59, fun _ _ => trivial⟩
                     have H59 := Lib.hid (And.intro q59 (And.intro ho59 hb59))
                     clear q59 ho59 hb59 hg59 hf59)
                  | (refine step_append_fresh rfl (.tmp 55) (.tmp 58) 24 rfl 3 i0 (.int .i64 0) 1 8 Try.underlying24 hi1 hz0 hz1 hz2 rfl (by decide) (.slice (some ⟨wr.heap.size, 0, none⟩) 0 0) 0 [] (by rfl) ((HMADE.out wr (Keeps.refl _ _)).alloc (.cells #[.int .i64 (e : Int)] 3)) ⟨gO, 0, none⟩ k k ((L.take k).map fun k => i64 k) (by rfl) HTl.out (HTc.out _ ((((Keeps.refl noB wr).alloc (.cells #[] 3)).alloc (.cells #[.int .i64 (e : Int)] 3)).drew)) H1T.out (by unfold maxLen; omega) (by omega) ?_
                     intro v59 w59 ho59 hg59 hf59
                     have q59 : Keeps noB wr w59 := ((((Keeps.refl noB wr).alloc (.cells #[] 3)).alloc (.cells #[.int .i64 (e : Int)] 3)).drew).grown hg59 (fun g hg' => .inr (by simp [Value.ownBlock] at hg'; omega))
                     rw [Nat.zero_add, List.nil_append] at ho59
                     have hb59 : ∀ g, v59.ownBlock = some g → wr.heap.size ≤ g := fun g hg' => by
                       rcases hf59 with h | h
                       · rw [h] at hg'; simp [Value.ownBlock] at hg'; omega
                       · have := h g hg'; simp at this; omega
                     have hB59 := Blk.new (wr.alloc (.cells #[] 3)) #[.int .i64 (e : Int)] 3
                     rw [World.size_alloc] at hB59
                     have h59 : Hid (Blk w59 (wr.heap.size + 1) #[i64 e] 3) := Lib.hid ((hg59.block (wr.heap.size + 1) (by simp) (fun e => by simp [Value.ownBlock] at e)).trans hB59)
                     clear hB59
                     obtain ⟨a59, c59, rfl⟩ := row_shape (ok := fun _ => True) ⟨ho59, fun _ _ => trivial⟩
                     have H59 := Lib.hid (And.intro q59 (And.intro ho59 hb59))
                     clear q59 ho59 hb59 hg59 hf59)
                  | (refine step_append_fresh rfl (.tmp 55) (.tmp 58) 24 rfl 3 i0 (.int .i64 0) 1 8 Try.underlying24 hi1 hz0 hz1 hz2 rfl (by decide) (.slice (some ⟨wr.heap.size + 1, 0, none⟩) 0 0) 0 [] (by rfl) (HMADE2.out) ⟨gO, 0, none⟩ k k ((L.take k).map fun k => i64 k) (by rfl) HTl.out (HTc.out _ ((((Keeps.refl noB wr).alloc (.cells #[.int .i64 (e : Int)] 3)).alloc (.cells #[] 3)).drew)) H1T.out (by unfold maxLen; omega) (by omega) ?_
                     intro v59 w59 ho59 hg59 hf59
                     have q59 : Keeps noB wr w59 := ((((Keeps.refl noB wr).alloc (.cells #[.int .i64 (e : Int)] 3)).alloc (.cells #[] 3)).drew).grown hg59 (fun g hg' => .inr (by simp [Value.ownBlock] at hg'; omega))
                     rw [Nat.zero_add, List.nil_append] at ho59
                     have hb59 : ∀ g, v59.ownBlock = some g → wr.heap.size ≤ g := fun g hg' => by
                       rcases hf59 with h | h
                       · rw [h] at hg'; simp [Value.ownBlock] at hg'; omega
                       · have := h g hg'; simp at this; omega
                     have h59 : Hid (Blk w59 wr.heap.size #[i64 e] 3) := Lib.hid ((hg59.block wr.heap.size (by simp; omega) (fun e => by simp [Value.ownBlock] at e)).trans ((Blk.new wr #[.int .i64 (e : Int)] 3).alloc (.cells #[] 3)))
                     obtain ⟨a59, c59, rfl⟩ := row_shape (ok := fun _ => True) ⟨ho59, fun _ _ => trivial⟩
                     have H59 := Lib.hid (And.intro q59 (And.intro ho59 hb59))
                     clear q59 ho59 hb59 hg59 hf59)
                  | (refine step_append_fresh rfl (.tmp 59) (.tmp 61) 24 rfl 3 i0 (.int .i64 0) 1 8 Try.underlying24 hi1 hz0 hz1 hz2 rfl (by decide) (.slice a59 k c59) k ((L.take k).map fun k => i64 k) (by rfl) (H59.out.2.1.alloc (.cells #[.int .i64 (e : Int)] 3)) ⟨w59.heap.size, 0, none⟩ 1 1 [i64 e] (by rfl) rfl (cells_one w59 (i64 e) 3) (fun u hu => by simp at hu; subst hu; rfl) (by unfold maxLen; omega) (by omega) ?_
                     intro v62 w62 ho62 hg62 hf62
                     have q62 : Keeps noB wr w62 := (H59.out.1.alloc (.cells #[.int .i64 (e : Int)] 3)).grown hg62 (fun g hg' => .inr (H59.out.2.2 g hg'))
                     have hb62 : ∀ g, v62.ownBlock = some g → wr.heap.size ≤ g := fun g hg' => by
                       rcases hf62 with h | h
                       · rw [h] at hg'; exact H59.out.2.2 g hg'
                       · have h1 := h g hg'; have h2 := H59.out.1.size; (try simp at h1); omega
                     obtain ⟨a62, c62, rfl⟩ := row_shape (ok := fun _ => True) ⟨ho62, fun _ _ => trivial⟩
                     have H62 := Lib.hid (And.intro q62 (And.intro ho62 hb62))
                     clear q62 ho62 hb62 hg62 hf62)
                  | (refine step_append_fresh rfl (.tmp 59) (.tmp 61) 24 rfl 3 i0 (.int .i64 0) 1 8 Try.underlying24 hi1 hz0 hz1 hz2 rfl (by decide) (.slice a59 k c59) k ((L.take k).map fun k => i64 k) (by rfl) (H59.out.2.1) ⟨wr.heap.size + 1, 0, none⟩ 1 1 [i64 e] (by rfl) rfl (fun j u hu => by cases j with | zero => (simp at hu; subst hu; exact h59.out.cell 0) | succ j => simp at hu) (fun u hu => by simp at hu; subst hu; rfl) (by unfold maxLen; omega) (by omega) ?_
                     intro v62 w62 ho62 hg62 hf62
                     have q62 : Keeps noB wr w62 := (H59.out.1).grown hg62 (fun g hg' => .inr (H59.out.2.2 g hg'))
                     have hb62 : ∀ g, v62.ownBlock = some g → wr.heap.size ≤ g := fun g hg' => by
                       rcases hf62 with h | h
                       · rw [h] at hg'; exact H59.out.2.2 g hg'
                       · have h1 := h g hg'; have h2 := H59.out.1.size; (try simp at h1); omega
                     obtain ⟨a62, c62, rfl⟩ := row_shape (ok := fun _ => True) ⟨ho62, fun _ _ => trivial⟩
                     have H62 := Lib.hid (And.intro q62 (And.intro ho62 hb62))
                     clear q62 ho62 hb62 hg62 hf62)
                  | (refine step_append_fresh rfl (.tmp 59) (.tmp 61) 24 rfl 3 i0 (.int .i64 0) 1 8 Try.underlying24 hi1 hz0 hz1 hz2 rfl (by decide) (.slice a59 k c59) k ((L.take k).map fun k => i64 k) (by rfl) (H59.out.2.1) ⟨wr.heap.size, 0, none⟩ 1 1 [i64 e] (by rfl) rfl (fun j u hu => by cases j with | zero => (simp at hu; subst hu; exact h59.out.cell 0) | succ j => simp at hu) (fun u hu => by simp at hu; subst hu; rfl) (by unfold maxLen; omega) (by omega) ?_
                     intro v62 w62 ho62 hg62 hf62
                     have q62 : Keeps noB wr w62 := (H59.out.1).grown hg62 (fun g hg' => .inr (H59.out.2.2 g hg'))
                     have hb62 : ∀ g, v62.ownBlock = some g → wr.heap.size ≤ g := fun g hg' => by
                       rcases hf62 with h | h
                       · rw [h] at hg'; exact H59.out.2.2 g hg'
                       · have h1 := h g hg'; have h2 := H59.out.1.size; (try simp at h1); omega
                     obtain ⟨a62, c62, rfl⟩ := row_shape (ok := fun _ => True) ⟨ho62, fun _ _ => trivial⟩
                     have H62 := Lib.hid (And.intro q62 (And.intro ho62 hb62))
                     clear q62 ho62 hb62 hg62 hf62)
                  | (refine step_append_fresh rfl (.tmp 62) (.tmp 65) 24 rfl 3 i0 (.int .i64 0) 1 8 Try.underlying24 hi1 hz0 hz1 hz2 rfl (by decide) (.slice a62 (k + 1) c62) (k + 1) (((L.take k).map fun k => i64 k) ++ [i64 e]) (by rfl) H62.out.2.1 ⟨gO, 0, none⟩ 0 0 ((L.drop k).map fun k => i64 k) (by rfl) HDl.out (HDc.out _ H62.out.1) H1D.out (by unfold maxLen; omega) (by omega) ?_
                     intro v66 w66 ho66 hg66 hf66
                     have q66 : Keeps noB wr w66 := H62.out.1.grown hg66 (fun g hg' => .inr (H62.out.2.2 g hg'))
                     have hb66 : ∀ g, v66.ownBlock = some g → wr.heap.size ≤ g := fun g hg' => by
                       rcases hf66 with h | h
                       · rw [h] at hg'; exact H62.out.2.2 g hg'
                       · have h1 := h g hg'; have h2 := H62.out.1.size; (try simp at h1); omega
                     obtain ⟨hins, a66, c66, rfl⟩ := HFIN.out v66 w66 ho66 hb66 q66
                     have HE := Lib.hid hins
                     clear hins q66 ho66 hb66 hg66 hf66))
                all_goals
                  have hd := HDN.out
                  go_wp2_with fail
                  go_roundw
                  case rel => exact HE.out
                  case measure => simp [intOf]; omega
              · skip
                have HTc : Hid (∀ W, Keeps noB wr W → ∀ j u, ((L.take k).map fun k => i64 k)[j]? = some u → W.cell? ((⟨gO, 0, none⟩ : Addr).add j) = some u) := fun W q j u hu => by
                  rw [addr_at, Nat.zero_add]
                  rw [List.getElem?_map] at hu
                  cases hj : (L.take k)[j]? with
                  | none => rw [hj] at hu; cases hu
                  | some v =>
                    rw [hj] at hu
                    injection hu with hu
                    rw [← hu]
                    exact HC.out W q j v (by rw [List.getElem?_take] at hj; split at hj <;> first | exact hj | cases hj)
                have HDc : Hid (∀ W, Keeps noB wr W → ∀ j u, ((L.drop k).map fun k => i64 k)[j]? = some u → W.cell? ((⟨gO, k, none⟩ : Addr).add j) = some u) := fun W q j u hu => by
                  rw [List.getElem?_map, List.getElem?_drop] at hu
                  cases hj : L[k + j]? with
                  | none => rw [hj] at hu; cases hu
                  | some v =>
                    have hlt : k + j < L.length := (List.getElem?_eq_some_iff.1 hj).1
                    rw [hj] at hu
                    injection hu with hu
                    rw [← hu]
                    first
                      | (rw [addr_at]; exact HC.out W q (k + j) v hj)
                      | (exfalso; omega)
                have HTl : Hid (((L.take k).map fun k => i64 k).length = k * 1) := Lib.hid (by rw [List.length_map, List.length_take]; omega)
                have HDl : Hid (((L.drop k).map fun k => i64 k).length = (nL - k) * 1) := Lib.hid (by rw [List.length_map, List.length_drop]; omega)
                have H1T : Hid (∀ u ∈ (L.take k).map fun k => i64 k, u.oneCell' = true) := fun u hu => by obtain ⟨a, _, rfl⟩ := List.mem_map.1 hu; rfl
                have H1D : Hid (∀ u ∈ (L.drop k).map fun k => i64 k, u.oneCell' = true) := fun u hu => by obtain ⟨a, _, rfl⟩ := List.mem_map.1 hu; rfl
                have HFIN : Hid (∀ v' W, W.ownsRow 0 3 1 v' (k + 1 + (nL - k)) (((L.take k).map fun k => i64 k) ++ [i64 e] ++ ((L.drop k).map fun k => i64 k)) → (∀ g, v'.ownBlock = some g → wr.heap.size ≤ g) → Keeps noB wr W → InsAt w x (.slice (some ⟨gE, 0, none⟩) n2 c2) n2 v' (.int .i64 ((ed.length + 1 : Nat) : Int)) W ∧ ∃ a c, v' = .slice a (k + 1 + (nL - k)) c) := fun v' W ho hf q => by
                  refine ⟨HNX.out v' W ?_ hf q ?_, row_shape (ok := fun _ => True) ⟨ho, fun _ _ => trivial⟩⟩
                  · rw [← HCUT.out, List.map_append, List.map_cons]
                    rw [List.append_assoc] at ho
                    have e1 : k + 1 + (nL - k) = nL + 1 := by omega
                    rw [e1] at ho
                    exact ho
                  · rw [← HCUT.out, List.length_append, List.length_cons, List.length_take, List.length_drop]; omega
                have HMADE : Hid (∀ W, Keeps noB wr W → (W.alloc (.cells #[] 3)).ownsRow 0 3 1 (.slice (some ⟨W.heap.size, 0, none⟩) 0 0) 0 []) := fun W _ => World.ownsRow_made W #[] 0 (e := 3) (size := 1) (Nat.zero_le _) (by simp [maxLen]) rfl
                have HMADE2 : Hid (((wr.alloc (.cells #[.int .i64 (e : Int)] 3)).alloc (.cells #[] 3)).ownsRow 0 3 1 (.slice (some ⟨wr.heap.size + 1, 0, none⟩) 0 0) 0 []) := by
                  have := HMADE.out (wr.alloc (.cells #[.int .i64 (e : Int)] 3)) ((Keeps.refl _ _).alloc _)
                  rw [World.size_alloc] at this
                  exact this
                obtain ⟨hi1, hz0, hz1, hz2⟩ := HI.out
                go_region_law (first
                  | (refine step_append_fresh rfl (.tmp 55) (.tmp 58) 24 rfl 3 i0 (.int .i64 0) 1 8 Try.underlying24 hi1 hz0 hz1 hz2 rfl (by decide) (.slice (some ⟨wr.heap.size, 0, none⟩) 0 0) 0 [] (by rfl) (HMADE.out wr (Keeps.refl _ _)) ⟨gO, 0, none⟩ k cO ((L.take k).map fun k => i64 k) (by rfl) HTl.out (HTc.out _ (((Keeps.refl noB wr).alloc (.cells #[] 3)).drew)) H1T.out (by unfold maxLen; omega) (by omega) ?_
                     intro v59 w59 ho59 hg59 hf59
                     have q59 : Keeps noB wr w59 := (((Keeps.refl noB wr).alloc (.cells #[] 3)).drew).grown hg59 (fun g hg' => .inr (by simp [Value.ownBlock] at hg'; omega))
                     rw [Nat.zero_add, List.nil_append] at ho59
                     have hb59 : ∀ g, v59.ownBlock = some g → wr.heap.size ≤ g := fun g hg' => by
                       rcases hf59 with h | h
                       · rw [h] at hg'; simp [Value.ownBlock] at hg'; omega
                       · have := h g hg'; simp at this; omega
                     obtain ⟨a59, c59, rfl⟩ := row_shape (ok := fun _ => True) ⟨ho59, fun _ _ => trivial⟩
                     have H59 := Lib.hid (And.intro q59 (And.intro ho59 hb59))
                     clear q59 ho59 hb59 hg59 hf59)
                  | (refine step_append_fresh rfl (.tmp 55) (.tmp 58) 24 rfl 3 i0 (.int .i64 0) 1 8 Try.underlying24 hi1 hz0 hz1 hz2 rfl (by decide) (.slice (some ⟨wr.heap.size, 0, none⟩) 0 0) 0 [] (by rfl) ((HMADE.out wr (Keeps.refl _ _)).alloc (.cells #[.int .i64 (e : Int)] 3)) ⟨gO, 0, none⟩ k cO ((L.take k).map fun k => i64 k) (by rfl) HTl.out (HTc.out _ ((((Keeps.refl noB wr).alloc (.cells #[] 3)).alloc (.cells #[.int .i64 (e : Int)] 3)).drew)) H1T.out (by unfold maxLen; omega) (by omega) ?_
                     intro v59 w59 ho59 hg59 hf59
                     have q59 : Keeps noB wr w59 := ((((Keeps.refl noB wr).alloc (.cells #[] 3)).alloc (.cells #[.int .i64 (e : Int)] 3)).drew).grown hg59 (fun g hg' => .inr (by simp [Value.ownBlock] at hg'; omega))
                     rw [Nat.zero_add, List.nil_append] at ho59
                     have hb59 : ∀ g, v59.ownBlock = some g → wr.heap.size ≤ g := fun g hg' => by
                       rcases hf59 with h | h
                       · rw [h] at hg'; simp [Value.ownBlock] at hg'; omega
                       · have := h g hg'; simp at this; omega
                     have hB59 := Blk.new (wr.alloc (.cells #[] 3)) #[.int .i64 (e : Int)] 3
                     rw [World.size_alloc] at hB59
                     have h59 : Hid (Blk w59 (wr.heap.size + 1) #[i64 e] 3) := Lib.hid ((hg59.block (wr.heap.size + 1) (by simp) (fun e => by simp [Value.ownBlock] at e)).trans hB59)
                     clear hB59
                     obtain ⟨a59, c59, rfl⟩ := row_shape (ok := fun _ => True) ⟨ho59, fun _ _ => trivial⟩
                     have H59 := Lib.hid (And.intro q59 (And.intro ho59 hb59))
                     clear q59 ho59 hb59 hg59 hf59)
                  | (refine step_append_fresh rfl (.tmp 55) (.tmp 58) 24 rfl 3 i0 (.int .i64 0) 1 8 Try.underlying24 hi1 hz0 hz1 hz2 rfl (by decide) (.slice (some ⟨wr.heap.size + 1, 0, none⟩) 0 0) 0 [] (by rfl) (HMADE2.out) ⟨gO, 0, none⟩ k cO ((L.take k).map fun k => i64 k) (by rfl) HTl.out (HTc.out _ ((((Keeps.refl noB wr).alloc (.cells #[.int .i64 (e : Int)] 3)).alloc (.cells #[] 3)).drew)) H1T.out (by unfold maxLen; omega) (by omega) ?_
                     intro v59 w59 ho59 hg59 hf59
                     have q59 : Keeps noB wr w59 := ((((Keeps.refl noB wr).alloc (.cells #[.int .i64 (e : Int)] 3)).alloc (.cells #[] 3)).drew).grown hg59 (fun g hg' => .inr (by simp [Value.ownBlock] at hg'; omega))
                     rw [Nat.zero_add, List.nil_append] at ho59
                     have hb59 : ∀ g, v59.ownBlock = some g → wr.heap.size ≤ g := fun g hg' => by
                       rcases hf59 with h | h
                       · rw [h] at hg'; simp [Value.ownBlock] at hg'; omega
                       · have := h g hg'; simp at this; omega
                     have h59 : Hid (Blk w59 wr.heap.size #[i64 e] 3) := Lib.hid ((hg59.block wr.heap.size (by simp; omega) (fun e => by simp [Value.ownBlock] at e)).trans ((Blk.new wr #[.int .i64 (e : Int)] 3).alloc (.cells #[] 3)))
                     obtain ⟨a59, c59, rfl⟩ := row_shape (ok := fun _ => True) ⟨ho59, fun _ _ => trivial⟩
                     have H59 := Lib.hid (And.intro q59 (And.intro ho59 hb59))
                     clear q59 ho59 hb59 hg59 hf59)
                  | (refine step_append_fresh rfl (.tmp 59) (.tmp 61) 24 rfl 3 i0 (.int .i64 0) 1 8 Try.underlying24 hi1 hz0 hz1 hz2 rfl (by decide) (.slice a59 k c59) k ((L.take k).map fun k => i64 k) (by rfl) (H59.out.2.1.alloc (.cells #[.int .i64 (e : Int)] 3)) ⟨w59.heap.size, 0, none⟩ 1 1 [i64 e] (by rfl) rfl (cells_one w59 (i64 e) 3) (fun u hu => by simp at hu; subst hu; rfl) (by unfold maxLen; omega) (by omega) ?_
                     intro v62 w62 ho62 hg62 hf62
                     have q62 : Keeps noB wr w62 := (H59.out.1.alloc (.cells #[.int .i64 (e : Int)] 3)).grown hg62 (fun g hg' => .inr (H59.out.2.2 g hg'))
                     have hb62 : ∀ g, v62.ownBlock = some g → wr.heap.size ≤ g := fun g hg' => by
                       rcases hf62 with h | h
                       · rw [h] at hg'; exact H59.out.2.2 g hg'
                       · have h1 := h g hg'; have h2 := H59.out.1.size; (try simp at h1); omega
                     obtain ⟨a62, c62, rfl⟩ := row_shape (ok := fun _ => True) ⟨ho62, fun _ _ => trivial⟩
                     have H62 := Lib.hid (And.intro q62 (And.intro ho62 hb62))
                     clear q62 ho62 hb62 hg62 hf62)
                  | (refine step_append_fresh rfl (.tmp 59) (.tmp 61) 24 rfl 3 i0 (.int .i64 0) 1 8 Try.underlying24 hi1 hz0 hz1 hz2 rfl (by decide) (.slice a59 k c59) k ((L.take k).map fun k => i64 k) (by rfl) (H59.out.2.1) ⟨wr.heap.size + 1, 0, none⟩ 1 1 [i64 e] (by rfl) rfl (fun j u hu => by cases j with | zero => (simp at hu; subst hu; exact h59.out.cell 0) | succ j => simp at hu) (fun u hu => by simp at hu; subst hu; rfl) (by unfold maxLen; omega) (by omega) ?_
                     intro v62 w62 ho62 hg62 hf62
                     have q62 : Keeps noB wr w62 := (H59.out.1).grown hg62 (fun g hg' => .inr (H59.out.2.2 g hg'))
                     have hb62 : ∀ g, v62.ownBlock = some g → wr.heap.size ≤ g := fun g hg' => by
                       rcases hf62 with h | h
                       · rw [h] at hg'; exact H59.out.2.2 g hg'
                       · have h1 := h g hg'; have h2 := H59.out.1.size; (try simp at h1); omega
                     obtain ⟨a62, c62, rfl⟩ := row_shape (ok := fun _ => True) ⟨ho62, fun _ _ => trivial⟩
                     have H62 := Lib.hid (And.intro q62 (And.intro ho62 hb62))
                     clear q62 ho62 hb62 hg62 hf62)
                  | (refine step_append_fresh rfl (.tmp 59) (.tmp 61) 24 rfl 3 i0 (.int .i64 0) 1 8 Try.underlying24 hi1 hz0 hz1 hz2 rfl (by decide) (.slice a59 k c59) k ((L.take k).map fun k => i64 k) (by rfl) (H59.out.2.1) ⟨wr.heap.size, 0, none⟩ 1 1 [i64 e] (by rfl) rfl (fun j u hu => by cases j with | zero => (simp at hu; subst hu; exact h59.out.cell 0) | succ j => simp at hu) (fun u hu => by simp at hu; subst hu; rfl) (by unfold maxLen; omega) (by omega) ?_
                     intro v62 w62 ho62 hg62 hf62
                     have q62 : Keeps noB wr w62 := (H59.out.1).grown hg62 (fun g hg' => .inr (H59.out.2.2 g hg'))
                     have hb62 : ∀ g, v62.ownBlock = some g → wr.heap.size ≤ g := fun g hg' => by
                       rcases hf62 with h | h
                       · rw [h] at hg'; exact H59.out.2.2 g hg'
                       · have h1 := h g hg'; have h2 := H59.out.1.size; (try simp at h1); omega
                     obtain ⟨a62, c62, rfl⟩ := row_shape (ok := fun _ => True) ⟨ho62, fun _ _ => trivial⟩
                     have H62 := Lib.hid (And.intro q62 (And.intro ho62 hb62))
                     clear q62 ho62 hb62 hg62 hf62)
                  | (refine step_append_fresh rfl (.tmp 62) (.tmp 65) 24 rfl 3 i0 (.int .i64 0) 1 8 Try.underlying24 hi1 hz0 hz1 hz2 rfl (by decide) (.slice a62 (k + 1) c62) (k + 1) (((L.take k).map fun k => i64 k) ++ [i64 e]) (by rfl) H62.out.2.1 ⟨gO, k, none⟩ (nL - k) (cO - k) ((L.drop k).map fun k => i64 k) (by rfl) HDl.out (HDc.out _ H62.out.1) H1D.out (by unfold maxLen; omega) (by omega) ?_
                     intro v66 w66 ho66 hg66 hf66
                     have q66 : Keeps noB wr w66 := H62.out.1.grown hg66 (fun g hg' => .inr (H62.out.2.2 g hg'))
                     have hb66 : ∀ g, v66.ownBlock = some g → wr.heap.size ≤ g := fun g hg' => by
                       rcases hf66 with h | h
                       · rw [h] at hg'; exact H62.out.2.2 g hg'
                       · have h1 := h g hg'; have h2 := H62.out.1.size; (try simp at h1); omega
                     obtain ⟨hins, a66, c66, rfl⟩ := HFIN.out v66 w66 ho66 hb66 q66
                     have HE := Lib.hid hins
                     clear hins q66 ho66 hb66 hg66 hf66))
                all_goals
                  have hd := HDN.out
                  go_wp2_with fail
                  go_roundw
                  case rel => exact HE.out
                  case measure => simp [intOf]; omega
            · obtain ⟨v, hv⟩ : ∃ v, L[k - 1]? = some v := ⟨_, List.getElem?_eq_getElem (by omega)⟩
              have s1 := HC.out wr (Keeps.refl _ _) (k - 1) v hv
              have h1 : ((k : Int) - 1).toNat = k - 1 := by omega
              have h2 : (0 : Int) ≤ (k : Int) - 1 := by omega
              have h3 : (k : Int) - 1 < (nL : Int) := by omega
              have h4 : (k : Int) - 1 = ((k - 1 : Nat) : Int) := by omega
              by_cases hc : e < v
              · have hdc : decide ((e : Int) < (v : Int)) = true := by simp; omega
                have HN : Hid (∀ j (hj : j < L.length), k - 1 ≤ j → e < L[j]) := fun j hj hkj => by
                  rcases Nat.lt_or_ge j k with h5 | h5
                  · have h6 : j = k - 1 := by omega
                    have h7 : L[j]? = some v := by rw [h6]; exact hv
                    rw [List.getElem?_eq_getElem hj] at h7
                    injection h7 with h7
                    omega
                  · exact HG.out j hj h5
                clear hv hd
                go_wp2_with fail
                exact ⟨⟨k - 1, rfl, by omega, HN.out, trivial⟩, by simp [intOf]; omega⟩
              · have hdc : decide ((e : Int) < (v : Int)) = false := by simp; omega
                have HCUT : Hid (L.take k ++ e :: L.drop k = insN e L) := insN_cut HA.out.1 (by omega) HG.out (.inr ⟨v, hv, by omega⟩)
                clear hv hd
                go_wp2_with fail
                by_cases hck : cO = k
                · have hck2 : k = cO := hck.symm
                  subst hck2
                  clear hck
                  have HTc : Hid (∀ W, Keeps noB wr W → ∀ j u, ((L.take k).map fun k => i64 k)[j]? = some u → W.cell? ((⟨gO, 0, none⟩ : Addr).add j) = some u) := fun W q j u hu => by
                    rw [addr_at, Nat.zero_add]
                    rw [List.getElem?_map] at hu
                    cases hj : (L.take k)[j]? with
                    | none => rw [hj] at hu; cases hu
                    | some v =>
                      rw [hj] at hu
                      injection hu with hu
                      rw [← hu]
                      exact HC.out W q j v (by rw [List.getElem?_take] at hj; split at hj <;> first | exact hj | cases hj)
                  have HDc : Hid (∀ W, Keeps noB wr W → ∀ j u, ((L.drop k).map fun k => i64 k)[j]? = some u → W.cell? ((⟨gO, 0, none⟩ : Addr).add j) = some u) := fun W q j u hu => by
                    rw [List.getElem?_map, List.getElem?_drop] at hu
                    cases hj : L[k + j]? with
                    | none => rw [hj] at hu; cases hu
                    | some v =>
                      have hlt : k + j < L.length := (List.getElem?_eq_some_iff.1 hj).1
                      rw [hj] at hu
                      injection hu with hu
                      rw [← hu]
                      first
                        | (rw [addr_at]; exact HC.out W q (k + j) v hj)
                        | (exfalso; omega)
                  have HTl : Hid (((L.take k).map fun k => i64 k).length = k * 1) := Lib.hid (by rw [List.length_map, List.length_take]; omega)
                  have HDl : Hid (((L.drop k).map fun k => i64 k).length = 0 * 1) := Lib.hid (by rw [List.length_map, List.length_drop]; omega)
                  have H1T : Hid (∀ u ∈ (L.take k).map fun k => i64 k, u.oneCell' = true) := fun u hu => by obtain ⟨a, _, rfl⟩ := List.mem_map.1 hu; rfl
                  have H1D : Hid (∀ u ∈ (L.drop k).map fun k => i64 k, u.oneCell' = true) := fun u hu => by obtain ⟨a, _, rfl⟩ := List.mem_map.1 hu; rfl
                  have HFIN : Hid (∀ v' W, W.ownsRow 0 3 1 v' (k + 1 + 0) (((L.take k).map fun k => i64 k) ++ [i64 e] ++ ((L.drop k).map fun k => i64 k)) → (∀ g, v'.ownBlock = some g → wr.heap.size ≤ g) → Keeps noB wr W → InsAt w x (.slice (some ⟨gE, 0, none⟩) n2 c2) n2 v' (.int .i64 ((ed.length + 1 : Nat) : Int)) W ∧ ∃ a c, v' = .slice a (k + 1 + 0) c) := fun v' W ho hf q => by
                    refine ⟨HNX.out v' W ?_ hf q ?_, row_shape (ok := fun _ => True) ⟨ho, fun _ _ => trivial⟩⟩
                    · rw [← HCUT.out, List.map_append, List.map_cons]
                      rw [List.append_assoc] at ho
                      have e1 : k + 1 + 0 = nL + 1 := by omega
                      rw [e1] at ho
                      exact ho
                    · rw [← HCUT.out, List.length_append, List.length_cons, List.length_take, List.length_drop]; omega
                  have HMADE : Hid (∀ W, Keeps noB wr W → (W.alloc (.cells #[] 3)).ownsRow 0 3 1 (.slice (some ⟨W.heap.size, 0, none⟩) 0 0) 0 []) := fun W _ => World.ownsRow_made W #[] 0 (e := 3) (size := 1) (Nat.zero_le _) (by simp [maxLen]) rfl
                  have HMADE2 : Hid (((wr.alloc (.cells #[.int .i64 (e : Int)] 3)).alloc (.cells #[] 3)).ownsRow 0 3 1 (.slice (some ⟨wr.heap.size + 1, 0, none⟩) 0 0) 0 []) := by
                    have := HMADE.out (wr.alloc (.cells #[.int .i64 (e : Int)] 3)) ((Keeps.refl _ _).alloc _)
                    rw [World.size_alloc] at this
                    exact this
                  obtain ⟨hi1, hz0, hz1, hz2⟩ := HI.out
                  go_region_law (first
                    | (refine step_append_fresh rfl (.tmp 55) (.tmp 58) 24 rfl 3 i0 (.int .i64 0) 1 8 Try.underlying24 hi1 hz0 hz1 hz2 rfl (by decide) (.slice (some ⟨wr.heap.size, 0, none⟩) 0 0) 0 [] (by rfl) (HMADE.out wr (Keeps.refl _ _)) ⟨gO, 0, none⟩ k k ((L.take k).map fun k => i64 k) (by rfl) HTl.out (HTc.out _ (((Keeps.refl noB wr).alloc (.cells #[] 3)).drew)) H1T.out (by unfold maxLen; omega) (by omega) ?_
                       intro v59 w59 ho59 hg59 hf59
                       have q59 : Keeps noB wr w59 := (((Keeps.refl noB wr).alloc (.cells #[] 3)).drew).grown hg59 (fun g hg' => .inr (by simp [Value.ownBlock] at hg'; omega))
                       rw [Nat.zero_add, List.nil_append] at ho59
                       have hb59 : ∀ g, v59.ownBlock = some g → wr.heap.size ≤ g := fun g hg' => by
                         rcases hf59 with h | h
                         · rw [h] at hg'; simp [Value.ownBlock] at hg'; omega
                         · have := h g hg'; simp at this; omega
                       obtain ⟨a59, c59, rfl⟩ := row_shape (ok := fun _ => True) ⟨ho59, fun _ _ => trivial⟩
                       have H59 := Lib.hid (And.intro q59 (And.intro ho59 hb59))
                       clear q59 ho59 hb59 hg59 hf59)
                    | (refine step_append_fresh rfl (.tmp 55) (.tmp 58) 24 rfl 3 i0 (.int .i64 0) 1 8 Try.underlying24 hi1 hz0 hz1 hz2 rfl (by decide) (.slice (some ⟨wr.heap.size, 0, none⟩) 0 0) 0 [] (by rfl) ((HMADE.out wr (Keeps.refl _ _)).alloc (.cells #[.int .i64 (e : Int)] 3)) ⟨gO, 0, none⟩ k k ((L.take k).map fun k => i64 k) (by rfl) HTl.out (HTc.out _ ((((Keeps.refl noB wr).alloc (.cells #[] 3)).alloc (.cells #[.int .i64 (e : Int)] 3)).drew)) H1T.out (by unfold maxLen; omega) (by omega) ?_
                       intro v59 w59 ho59 hg59 hf59
                       have q59 : Keeps noB wr w59 := ((((Keeps.refl noB wr).alloc (.cells #[] 3)).alloc (.cells #[.int .i64 (e : Int)] 3)).drew).grown hg59 (fun g hg' => .inr (by simp [Value.ownBlock] at hg'; omega))
                       rw [Nat.zero_add, List.nil_append] at ho59
                       have hb59 : ∀ g, v59.ownBlock = some g → wr.heap.size ≤ g := fun g hg' => by
                         rcases hf59 with h | h
                         · rw [h] at hg'; simp [Value.ownBlock] at hg'; omega
                         · have := h g hg'; simp at this; omega
                       have hB59 := Blk.new (wr.alloc (.cells #[] 3)) #[.int .i64 (e : Int)] 3
                       rw [World.size_alloc] at hB59
                       have h59 : Hid (Blk w59 (wr.heap.size + 1) #[i64 e] 3) := Lib.hid ((hg59.block (wr.heap.size + 1) (by simp) (fun e => by simp [Value.ownBlock] at e)).trans hB59)
                       clear hB59
                       obtain ⟨a59, c59, rfl⟩ := row_shape (ok := fun _ => True) ⟨ho59, fun _ _ => trivial⟩
                       have H59 := Lib.hid (And.intro q59 (And.intro ho59 hb59))
                       clear q59 ho59 hb59 hg59 hf59)
                    | (refine step_append_fresh rfl (.tmp 55) (.tmp 58) 24 rfl 3 i0 (.int .i64 0) 1 8 Try.underlying24 hi1 hz0 hz1 hz2 rfl (by decide) (.slice (some ⟨wr.heap.size + 1, 0, none⟩) 0 0) 0 [] (by rfl) (HMADE2.out) ⟨gO, 0, none⟩ k k ((L.take k).map fun k => i64 k) (by rfl) HTl.out (HTc.out _ ((((Keeps.refl noB wr).alloc (.cells #[.int .i64 (e : Int)] 3)).alloc (.cells #[] 3)).drew)) H1T.out (by unfold maxLen; omega) (by omega) ?_
                       intro v59 w59 ho59 hg59 hf59
                       have q59 : Keeps noB wr w59 := ((((Keeps.refl noB wr).alloc (.cells #[.int .i64 (e : Int)] 3)).alloc (.cells #[] 3)).drew).grown hg59 (fun g hg' => .inr (by simp [Value.ownBlock] at hg'; omega))
                       rw [Nat.zero_add, List.nil_append] at ho59
                       have hb59 : ∀ g, v59.ownBlock = some g → wr.heap.size ≤ g := fun g hg' => by
                         rcases hf59 with h | h
                         · rw [h] at hg'; simp [Value.ownBlock] at hg'; omega
                         · have := h g hg'; simp at this; omega
                       have h59 : Hid (Blk w59 wr.heap.size #[i64 e] 3) := Lib.hid ((hg59.block wr.heap.size (by simp; omega) (fun e => by simp [Value.ownBlock] at e)).trans ((Blk.new wr #[.int .i64 (e : Int)] 3).alloc (.cells #[] 3)))
                       obtain ⟨a59, c59, rfl⟩ := row_shape (ok := fun _ => True) ⟨ho59, fun _ _ => trivial⟩
                       have H59 := Lib.hid (And.intro q59 (And.intro ho59 hb59))
                       clear q59 ho59 hb59 hg59 hf59)
                    | (refine step_append_fresh rfl (.tmp 59) (.tmp 61) 24 rfl 3 i0 (.int .i64 0) 1 8 Try.underlying24 hi1 hz0 hz1 hz2 rfl (by decide) (.slice a59 k c59) k ((L.take k).map fun k => i64 k) (by rfl) (H59.out.2.1.alloc (.cells #[.int .i64 (e : Int)] 3)) ⟨w59.heap.size, 0, none⟩ 1 1 [i64 e] (by rfl) rfl (cells_one w59 (i64 e) 3) (fun u hu => by simp at hu; subst hu; rfl) (by unfold maxLen; omega) (by omega) ?_
                       intro v62 w62 ho62 hg62 hf62
                       have q62 : Keeps noB wr w62 := (H59.out.1.alloc (.cells #[.int .i64 (e : Int)] 3)).grown hg62 (fun g hg' => .inr (H59.out.2.2 g hg'))
                       have hb62 : ∀ g, v62.ownBlock = some g → wr.heap.size ≤ g := fun g hg' => by
                         rcases hf62 with h | h
                         · rw [h] at hg'; exact H59.out.2.2 g hg'
                         · have h1 := h g hg'; have h2 := H59.out.1.size; (try simp at h1); omega
                       obtain ⟨a62, c62, rfl⟩ := row_shape (ok := fun _ => True) ⟨ho62, fun _ _ => trivial⟩
                       have H62 := Lib.hid (And.intro q62 (And.intro ho62 hb62))
                       clear q62 ho62 hb62 hg62 hf62)
                    | (refine step_append_fresh rfl (.tmp 59) (.tmp 61) 24 rfl 3 i0 (.int .i64 0) 1 8 Try.underlying24 hi1 hz0 hz1 hz2 rfl (by decide) (.slice a59 k c59) k ((L.take k).map fun k => i64 k) (by rfl) (H59.out.2.1) ⟨wr.heap.size + 1, 0, none⟩ 1 1 [i64 e] (by rfl) rfl (fun j u hu => by cases j with | zero => (simp at hu; subst hu; exact h59.out.cell 0) | succ j => simp at hu) (fun u hu => by simp at hu; subst hu; rfl) (by unfold maxLen; omega) (by omega) ?_
                       intro v62 w62 ho62 hg62 hf62
                       have q62 : Keeps noB wr w62 := (H59.out.1).grown hg62 (fun g hg' => .inr (H59.out.2.2 g hg'))
                       have hb62 : ∀ g, v62.ownBlock = some g → wr.heap.size ≤ g := fun g hg' => by
                         rcases hf62 with h | h
                         · rw [h] at hg'; exact H59.out.2.2 g hg'
                         · have h1 := h g hg'; have h2 := H59.out.1.size; (try simp at h1); omega
                       obtain ⟨a62, c62, rfl⟩ := row_shape (ok := fun _ => True) ⟨ho62, fun _ _ => trivial⟩
                       have H62 := Lib.hid (And.intro q62 (And.intro ho62 hb62))
                       clear q62 ho62 hb62 hg62 hf62)
                    | (refine step_append_fresh rfl (.tmp 59) (.tmp 61) 24 rfl 3 i0 (.int .i64 0) 1 8 Try.underlying24 hi1 hz0 hz1 hz2 rfl (by decide) (.slice a59 k c59) k ((L.take k).map fun k => i64 k) (by rfl) (H59.out.2.1) ⟨wr.heap.size, 0, none⟩ 1 1 [i64 e] (by rfl) rfl (fun j u hu => by cases j with | zero => (simp at hu; subst hu; exact h59.out.cell 0) | succ j => simp at hu) (fun u hu => by simp at hu; subst hu; rfl) (by unfold maxLen; omega) (by omega) ?_
                       intro v62 w62 ho62 hg62 hf62
                       have q62 : Keeps noB wr w62 := (H59.out.1).grown hg62 (fun g hg' => .inr (H59.out.2.2 g hg'))
                       have hb62 : ∀ g, v62.ownBlock = some g → wr.heap.size ≤ g := fun g hg' => by
                         rcases hf62 with h | h
                         · rw [h] at hg'; exact H59.out.2.2 g hg'
                         · have h1 := h g hg'; have h2 := H59.out.1.size; (try simp at h1); omega
                       obtain ⟨a62, c62, rfl⟩ := row_shape (ok := fun _ => True) ⟨ho62, fun _ _ => trivial⟩
                       have H62 := Lib.hid (And.intro q62 (And.intro ho62 hb62))
                       clear q62 ho62 hb62 hg62 hf62)
                    | (refine step_append_fresh rfl (.tmp 62) (.tmp 65) 24 rfl 3 i0 (.int .i64 0) 1 8 Try.underlying24 hi1 hz0 hz1 hz2 rfl (by decide) (.slice a62 (k + 1) c62) (k + 1) (((L.take k).map fun k => i64 k) ++ [i64 e]) (by rfl) H62.out.2.1 ⟨gO, 0, none⟩ 0 0 ((L.drop k).map fun k => i64 k) (by rfl) HDl.out (HDc.out _ H62.out.1) H1D.out (by unfold maxLen; omega) (by omega) ?_
                       intro v66 w66 ho66 hg66 hf66
                       have q66 : Keeps noB wr w66 := H62.out.1.grown hg66 (fun g hg' => .inr (H62.out.2.2 g hg'))
                       have hb66 : ∀ g, v66.ownBlock = some g → wr.heap.size ≤ g := fun g hg' => by
                         rcases hf66 with h | h
                         · rw [h] at hg'; exact H62.out.2.2 g hg'
                         · have h1 := h g hg'; have h2 := H62.out.1.size; (try simp at h1); omega
                       obtain ⟨hins, a66, c66, rfl⟩ := HFIN.out v66 w66 ho66 hb66 q66
                       have HE := Lib.hid hins
                       clear hins q66 ho66 hb66 hg66 hf66))
                  all_goals
                    have hd := HDN.out
                    go_wp2_with fail
                    go_roundw
                    case rel => exact HE.out
                    case measure => simp [intOf]; omega
                · skip
                  have HTc : Hid (∀ W, Keeps noB wr W → ∀ j u, ((L.take k).map fun k => i64 k)[j]? = some u → W.cell? ((⟨gO, 0, none⟩ : Addr).add j) = some u) := fun W q j u hu => by
                    rw [addr_at, Nat.zero_add]
                    rw [List.getElem?_map] at hu
                    cases hj : (L.take k)[j]? with
                    | none => rw [hj] at hu; cases hu
                    | some v =>
                      rw [hj] at hu
                      injection hu with hu
                      rw [← hu]
                      exact HC.out W q j v (by rw [List.getElem?_take] at hj; split at hj <;> first | exact hj | cases hj)
                  have HDc : Hid (∀ W, Keeps noB wr W → ∀ j u, ((L.drop k).map fun k => i64 k)[j]? = some u → W.cell? ((⟨gO, k, none⟩ : Addr).add j) = some u) := fun W q j u hu => by
                    rw [List.getElem?_map, List.getElem?_drop] at hu
                    cases hj : L[k + j]? with
                    | none => rw [hj] at hu; cases hu
                    | some v =>
                      have hlt : k + j < L.length := (List.getElem?_eq_some_iff.1 hj).1
                      rw [hj] at hu
                      injection hu with hu
                      rw [← hu]
                      first
                        | (rw [addr_at]; exact HC.out W q (k + j) v hj)
                        | (exfalso; omega)
                  have HTl : Hid (((L.take k).map fun k => i64 k).length = k * 1) := Lib.hid (by rw [List.length_map, List.length_take]; omega)
                  have HDl : Hid (((L.drop k).map fun k => i64 k).length = (nL - k) * 1) := Lib.hid (by rw [List.length_map, List.length_drop]; omega)
                  have H1T : Hid (∀ u ∈ (L.take k).map fun k => i64 k, u.oneCell' = true) := fun u hu => by obtain ⟨a, _, rfl⟩ := List.mem_map.1 hu; rfl
                  have H1D : Hid (∀ u ∈ (L.drop k).map fun k => i64 k, u.oneCell' = true) := fun u hu => by obtain ⟨a, _, rfl⟩ := List.mem_map.1 hu; rfl
                  have HFIN : Hid (∀ v' W, W.ownsRow 0 3 1 v' (k + 1 + (nL - k)) (((L.take k).map fun k => i64 k) ++ [i64 e] ++ ((L.drop k).map fun k => i64 k)) → (∀ g, v'.ownBlock = some g → wr.heap.size ≤ g) → Keeps noB wr W → InsAt w x (.slice (some ⟨gE, 0, none⟩) n2 c2) n2 v' (.int .i64 ((ed.length + 1 : Nat) : Int)) W ∧ ∃ a c, v' = .slice a (k + 1 + (nL - k)) c) := fun v' W ho hf q => by
                    refine ⟨HNX.out v' W ?_ hf q ?_, row_shape (ok := fun _ => True) ⟨ho, fun _ _ => trivial⟩⟩
                    · rw [← HCUT.out, List.map_append, List.map_cons]
                      rw [List.append_assoc] at ho
                      have e1 : k + 1 + (nL - k) = nL + 1 := by omega
                      rw [e1] at ho
                      exact ho
                    · rw [← HCUT.out, List.length_append, List.length_cons, List.length_take, List.length_drop]; omega
                  have HMADE : Hid (∀ W, Keeps noB wr W → (W.alloc (.cells #[] 3)).ownsRow 0 3 1 (.slice (some ⟨W.heap.size, 0, none⟩) 0 0) 0 []) := fun W _ => World.ownsRow_made W #[] 0 (e := 3) (size := 1) (Nat.zero_le _) (by simp [maxLen]) rfl
                  have HMADE2 : Hid (((wr.alloc (.cells #[.int .i64 (e : Int)] 3)).alloc (.cells #[] 3)).ownsRow 0 3 1 (.slice (some ⟨wr.heap.size + 1, 0, none⟩) 0 0) 0 []) := by
                    have := HMADE.out (wr.alloc (.cells #[.int .i64 (e : Int)] 3)) ((Keeps.refl _ _).alloc _)
                    rw [World.size_alloc] at this
                    exact this
                  obtain ⟨hi1, hz0, hz1, hz2⟩ := HI.out
                  go_region_law (first
                    | (refine step_append_fresh rfl (.tmp 55) (.tmp 58) 24 rfl 3 i0 (.int .i64 0) 1 8 Try.underlying24 hi1 hz0 hz1 hz2 rfl (by decide) (.slice (some ⟨wr.heap.size, 0, none⟩) 0 0) 0 [] (by rfl) (HMADE.out wr (Keeps.refl _ _)) ⟨gO, 0, none⟩ k cO ((L.take k).map fun k => i64 k) (by rfl) HTl.out (HTc.out _ (((Keeps.refl noB wr).alloc (.cells #[] 3)).drew)) H1T.out (by unfold maxLen; omega) (by omega) ?_
                       intro v59 w59 ho59 hg59 hf59
                       have q59 : Keeps noB wr w59 := (((Keeps.refl noB wr).alloc (.cells #[] 3)).drew).grown hg59 (fun g hg' => .inr (by simp [Value.ownBlock] at hg'; omega))
                       rw [Nat.zero_add, List.nil_append] at ho59
                       have hb59 : ∀ g, v59.ownBlock = some g → wr.heap.size ≤ g := fun g hg' => by
                         rcases hf59 with h | h
                         · rw [h] at hg'; simp [Value.ownBlock] at hg'; omega
                         · have := h g hg'; simp at this; omega
                       obtain ⟨a59, c59, rfl⟩ := row_shape (ok := fun _ => True) ⟨ho59, fun _ _ => trivial⟩
                       have H59 := Lib.hid (And.intro q59 (And.intro ho59 hb59))
                       clear q59 ho59 hb59 hg59 hf59)
                    | (refine step_append_fresh rfl (.tmp 55) (.tmp 58) 24 rfl 3 i0 (.int .i64 0) 1 8 Try.underlying24 hi1 hz0 hz1 hz2 rfl (by decide) (.slice (some ⟨wr.heap.size, 0, none⟩) 0 0) 0 [] (by rfl) ((HMADE.out wr (Keeps.refl _ _)).alloc (.cells #[.int .i64 (e : Int)] 3)) ⟨gO, 0, none⟩ k cO ((L.take k).map fun k => i64 k) (by rfl) HTl.out (HTc.out _ ((((Keeps.refl noB wr).alloc (.cells #[] 3)).alloc (.cells #[.int .i64 (e : Int)] 3)).drew)) H1T.out (by unfold maxLen; omega) (by omega) ?_
                       intro v59 w59 ho59 hg59 hf59
                       have q59 : Keeps noB wr w59 := ((((Keeps.refl noB wr).alloc (.cells #[] 3)).alloc (.cells #[.int .i64 (e : Int)] 3)).drew).grown hg59 (fun g hg' => .inr (by simp [Value.ownBlock] at hg'; omega))
                       rw [Nat.zero_add, List.nil_append] at ho59
                       have hb59 : ∀ g, v59.ownBlock = some g → wr.heap.size ≤ g := fun g hg' => by
                         rcases hf59 with h | h
                         · rw [h] at hg'; simp [Value.ownBlock] at hg'; omega
                         · have := h g hg'; simp at this; omega
                       have hB59 := Blk.new (wr.alloc (.cells #[] 3)) #[.int .i64 (e : Int)] 3
                       rw [World.size_alloc] at hB59
                       have h59 : Hid (Blk w59 (wr.heap.size + 1) #[i64 e] 3) := Lib.hid ((hg59.block (wr.heap.size + 1) (by simp) (fun e => by simp [Value.ownBlock] at e)).trans hB59)
                       clear hB59
                       obtain ⟨a59, c59, rfl⟩ := row_shape (ok := fun _ => True) ⟨ho59, fun _ _ => trivial⟩
                       have H59 := Lib.hid (And.intro q59 (And.intro ho59 hb59))
                       clear q59 ho59 hb59 hg59 hf59)
                    | (refine step_append_fresh rfl (.tmp 55) (.tmp 58) 24 rfl 3 i0 (.int .i64 0) 1 8 Try.underlying24 hi1 hz0 hz1 hz2 rfl (by decide) (.slice (some ⟨wr.heap.size + 1, 0, none⟩) 0 0) 0 [] (by rfl) (HMADE2.out) ⟨gO, 0, none⟩ k cO ((L.take k).map fun k => i64 k) (by rfl) HTl.out (HTc.out _ ((((Keeps.refl noB wr).alloc (.cells #[.int .i64 (e : Int)] 3)).alloc (.cells #[] 3)).drew)) H1T.out (by unfold maxLen; omega) (by omega) ?_
                       intro v59 w59 ho59 hg59 hf59
                       have q59 : Keeps noB wr w59 := ((((Keeps.refl noB wr).alloc (.cells #[.int .i64 (e : Int)] 3)).alloc (.cells #[] 3)).drew).grown hg59 (fun g hg' => .inr (by simp [Value.ownBlock] at hg'; omega))
                       rw [Nat.zero_add, List.nil_append] at ho59
                       have hb59 : ∀ g, v59.ownBlock = some g → wr.heap.size ≤ g := fun g hg' => by
                         rcases hf59 with h | h
                         · rw [h] at hg'; simp [Value.ownBlock] at hg'; omega
                         · have := h g hg'; simp at this; omega
                       have h59 : Hid (Blk w59 wr.heap.size #[i64 e] 3) := Lib.hid ((hg59.block wr.heap.size (by simp; omega) (fun e => by simp [Value.ownBlock] at e)).trans ((Blk.new wr #[.int .i64 (e : Int)] 3).alloc (.cells #[] 3)))
                       obtain ⟨a59, c59, rfl⟩ := row_shape (ok := fun _ => True) ⟨ho59, fun _ _ => trivial⟩
                       have H59 := Lib.hid (And.intro q59 (And.intro ho59 hb59))
                       clear q59 ho59 hb59 hg59 hf59)
                    | (refine step_append_fresh rfl (.tmp 59) (.tmp 61) 24 rfl 3 i0 (.int .i64 0) 1 8 Try.underlying24 hi1 hz0 hz1 hz2 rfl (by decide) (.slice a59 k c59) k ((L.take k).map fun k => i64 k) (by rfl) (H59.out.2.1.alloc (.cells #[.int .i64 (e : Int)] 3)) ⟨w59.heap.size, 0, none⟩ 1 1 [i64 e] (by rfl) rfl (cells_one w59 (i64 e) 3) (fun u hu => by simp at hu; subst hu; rfl) (by unfold maxLen; omega) (by omega) ?_
                       intro v62 w62 ho62 hg62 hf62
                       have q62 : Keeps noB wr w62 := (H59.out.1.alloc (.cells #[.int .i64 (e : Int)] 3)).grown hg62 (fun g hg' => .inr (H59.out.2.2 g hg'))
                       have hb62 : ∀ g, v62.ownBlock = some g → wr.heap.size ≤ g := fun g hg' => by
                         rcases hf62 with h | h
                         · rw [h] at hg'; exact H59.out.2.2 g hg'
                         · have h1 := h g hg'; have h2 := H59.out.1.size; (try simp at h1); omega
                       obtain ⟨a62, c62, rfl⟩ := row_shape (ok := fun _ => True) ⟨ho62, fun _ _ => trivial⟩
                       have H62 := Lib.hid (And.intro q62 (And.intro ho62 hb62))
                       clear q62 ho62 hb62 hg62 hf62)
                    | (refine step_append_fresh rfl (.tmp 59) (.tmp 61) 24 rfl 3 i0 (.int .i64 0) 1 8 Try.underlying24 hi1 hz0 hz1 hz2 rfl (by decide) (.slice a59 k c59) k ((L.take k).map fun k => i64 k) (by rfl) (H59.out.2.1) ⟨wr.heap.size + 1, 0, none⟩ 1 1 [i64 e] (by rfl) rfl (fun j u hu => by cases j with | zero => (simp at hu; subst hu; exact h59.out.cell 0) | succ j => simp at hu) (fun u hu => by simp at hu; subst hu; rfl) (by unfold maxLen; omega) (by omega) ?_
                       intro v62 w62 ho62 hg62 hf62
                       have q62 : Keeps noB wr w62 := (H59.out.1).grown hg62 (fun g hg' => .inr (H59.out.2.2 g hg'))
                       have hb62 : ∀ g, v62.ownBlock = some g → wr.heap.size ≤ g := fun g hg' => by
                         rcases hf62 with h | h
                         · rw [h] at hg'; exact H59.out.2.2 g hg'
                         · have h1 := h g hg'; have h2 := H59.out.1.size; (try simp at h1); omega
                       obtain ⟨a62, c62, rfl⟩ := row_shape (ok := fun _ => True) ⟨ho62, fun _ _ => trivial⟩
                       have H62 := Lib.hid (And.intro q62 (And.intro ho62 hb62))
                       clear q62 ho62 hb62 hg62 hf62)
                    | (refine step_append_fresh rfl (.tmp 59) (.tmp 61) 24 rfl 3 i0 (.int .i64 0) 1 8 Try.underlying24 hi1 hz0 hz1 hz2 rfl (by decide) (.slice a59 k c59) k ((L.take k).map fun k => i64 k) (by rfl) (H59.out.2.1) ⟨wr.heap.size, 0, none⟩ 1 1 [i64 e] (by rfl) rfl (fun j u hu => by cases j with | zero => (simp at hu; subst hu; exact h59.out.cell 0) | succ j => simp at hu) (fun u hu => by simp at hu; subst hu; rfl) (by unfold maxLen; omega) (by omega) ?_
                       intro v62 w62 ho62 hg62 hf62
                       have q62 : Keeps noB wr w62 := (H59.out.1).grown hg62 (fun g hg' => .inr (H59.out.2.2 g hg'))
                       have hb62 : ∀ g, v62.ownBlock = some g → wr.heap.size ≤ g := fun g hg' => by
                         rcases hf62 with h | h
                         · rw [h] at hg'; exact H59.out.2.2 g hg'
                         · have h1 := h g hg'; have h2 := H59.out.1.size; (try simp at h1); omega
                       obtain ⟨a62, c62, rfl⟩ := row_shape (ok := fun _ => True) ⟨ho62, fun _ _ => trivial⟩
                       have H62 := Lib.hid (And.intro q62 (And.intro ho62 hb62))
                       clear q62 ho62 hb62 hg62 hf62)
                    | (refine step_append_fresh rfl (.tmp 62) (.tmp 65) 24 rfl 3 i0 (.int .i64 0) 1 8 Try.underlying24 hi1 hz0 hz1 hz2 rfl (by decide) (.slice a62 (k + 1) c62) (k + 1) (((L.take k).map fun k => i64 k) ++ [i64 e]) (by rfl) H62.out.2.1 ⟨gO, k, none⟩ (nL - k) (cO - k) ((L.drop k).map fun k => i64 k) (by rfl) HDl.out (HDc.out _ H62.out.1) H1D.out (by unfold maxLen; omega) (by omega) ?_
                       intro v66 w66 ho66 hg66 hf66
                       have q66 : Keeps noB wr w66 := H62.out.1.grown hg66 (fun g hg' => .inr (H62.out.2.2 g hg'))
                       have hb66 : ∀ g, v66.ownBlock = some g → wr.heap.size ≤ g := fun g hg' => by
                         rcases hf66 with h | h
                         · rw [h] at hg'; exact H62.out.2.2 g hg'
                         · have h1 := h g hg'; have h2 := H62.out.1.size; (try simp at h1); omega
                       obtain ⟨hins, a66, c66, rfl⟩ := HFIN.out v66 w66 ho66 hb66 q66
                       have HE := Lib.hid hins
                       clear hins q66 ho66 hb66 hg66 hf66))
                  all_goals
                    have hd := HDN.out
                    go_wp2_with fail
                    go_roundw
                    case rel => exact HE.out
                    case measure => simp [intOf]; omega
    | cons z y3 =>
      simp only [Nds.len] at hil
      have hd : i < x.pre.len := by omega
      have hzm : z ∈ x.pre.list := by rw [← hpre]; simp [Nds.list]
      have hcw : ∀ j u, cs[j]? = some u → wr.cell? ⟨g, j, none⟩ = some u := fun j u hu =>
        (hq2.cell (p := ⟨g, j, none⟩) HR.out.2.1 (fun e => by have h1 := HR.out.2.2.1; have h2 := HR.out.2.2.2.2.1; have e : g = w.heap.size + 1 ∨ g = w.heap.size + 2 := e; rcases e with e | e <;> omega)).trans (HR.out.1 j u hu)
      obtain ⟨⟨na, nn, nm, hn⟩, hy3⟩ := node_at hcw hy
      have s0 : wr.cell? ⟨g, i * 6, none⟩ = some (.int .u8 _) := hn.s0
      have s1 : wr.cell? ⟨g, i * 6 + 1, none⟩ = some (.int .i64 _) := hn.s1
      have s2 : wr.cell? ⟨g, i * 6 + 2, none⟩ = some (.int .i64 _) := hn.s2
      have s3 : wr.cell? ⟨g, i * 6 + 3, none⟩ = some (.string _) := hn.s3
      have s4 := hn.s4
      have s5 : wr.cell? ⟨g, i * 6 + 5, none⟩ = some (.string _) := hn.s5
      have hb80 := HB80.out z.beg (.inl (List.mem_map.2 ⟨z, hzm, rfl⟩))
      have hn80 : n1 ≤ 80 := by omega
      have hn80' : n2 ≤ 80 := by omega
      have hsn1 : begsL (pre ++ [z]) = L1 ++ [z.beg] := by rw [begsL_snoc, ← hL1]
      have hsn2 := endsL_snoc pre z
      rw [← hL2] at hsn2
      have hl1 : ∀ g, (Value.slice a n1 c).ownBlock = some g → g < wr.heap.size := fun g hg => (hrow1.lt g hg).2
      have hl2 : ∀ g, (Value.slice b n2 c2).ownBlock = some g → g < wr.heap.size := fun g hg => (hrow2.lt g hg).2
      have HO := Lib.hid (And.intro hpre (And.intro hrow1 (And.intro hrow2 (And.intro hfr1 (And.intro hfr2 (And.intro hdj (And.intro hq (And.intro hq2 (And.intro hy3 (And.intro hi (And.intro hil (And.intro hN1 (And.intro hN2 (And.intro hsn1 (And.intro hsn2 (And.intro hl1 hl2))))))))))))))))
      have HGK := Lib.hid hgk
      clear hpre hrow1 hrow2 hfr1 hfr2 hdj hq hq2 hy hcw hn hy3 hil hi hL1 hL2 hN1 hN2 hsn1 hsn2 hl1 hl2 hn1 hn2 hgk
      obtain ⟨hi1, hz0, hz1, hz2⟩ := HI.out
      go_wp2_with (at_builtin; refine wpList_append_fresh _ rfl _ _ 24 rfl 3 i0 _ 1 8 Try.underlying24 hi1 hz0 hz1 hz2 rfl (by decide) (.slice a n1 c) n1 (L1.map fun k => i64 k) rfl ?own ⟨wr.heap.size + 1, 0, none⟩ 1 1 [i64 z.beg] rfl ?c1 ?c2 ?c3 ?c4 ?c5 ?_)
      case own => exact (HO.out.2.1.alloc _).alloc _
      case c1 => rfl
      case c2 =>
        intro j u hu
        have h := cells_one (wr.alloc (.cells #[.int .u8 z.kind.toNat, .int .i64 z.beg, .int .i64 z.fin, .string ⟨z.vars.toArray⟩, .slice na nn nm, .string ⟨z.scope.toArray⟩] 55)) (i64 z.beg) 3 j u hu
        rw [World.size_alloc] at h
        exact h
      case c3 => intro u hu; simp at hu; subst hu; rfl
      case c4 => unfold maxLen; omega
      case c5 => omega
      intro v' w3 hown' hgrow hfresh
      have qa : Keeps (fun g => (Value.slice a n1 c).ownBlock = some g) wr w3 := ((((Keeps.refl _ wr).alloc _).alloc _)).grown hgrow (fun g hg => .inl hg)
      have bz : Blk w3 wr.heap.size #[.int .u8 z.kind.toNat, .int .i64 z.beg, .int .i64 z.fin, .string ⟨z.vars.toArray⟩, .slice na nn nm, .string ⟨z.scope.toArray⟩] 55 := by
        have h0 := (Blk.new wr #[.int .u8 z.kind.toNat, .int .i64 z.beg, .int .i64 z.fin, .string ⟨z.vars.toArray⟩, .slice na nn nm, .string ⟨z.scope.toArray⟩] 55).alloc (.cells #[.int .i64 z.beg] 3)
        exact (hgrow.block wr.heap.size (by simp; omega) (fun e => by have := HO.out.2.2.2.2.2.2.2.2.2.2.2.2.2.2.2.1 _ e.symm; omega)).trans h0
      obtain ⟨a', c', rfl⟩ := row_slice (ok := fun _ => True) ⟨hown', fun _ _ => trivial⟩
      have hs3 : wr.heap.size + 2 ≤ w3.heap.size := by have := hgrow.size; simpa using this
      have t0 := bz.cell 0
      have t2 := bz.cell 2
      simp at t0 t2
      have HB := Lib.hid (And.intro hown' (And.intro qa (And.intro hfresh (And.intro bz hs3))))
      have HD1 : Hid (∀ g, (Value.slice a' (n1 + 1) c').ownBlock = some g → ((Value.slice a n1 c).ownBlock = some g ∨ wr.heap.size + 2 ≤ g)) := fun g hg => by
        rcases hfresh with h | h
        · exact .inl (h ▸ hg)
        · exact .inr (by have := h g hg; simpa using this)
      clear hown' hgrow hfresh qa bz hs3
      by_cases hk : z.kind = 123
      · obtain ⟨hf1, hf2⟩ := HZ.out z hzm hk
        have hkk : ((z.kind.toNat : Int) == 123) = true := by rw [hk]; rfl
        have hfc : (z.fin : Int) - 1 = ((z.fin - 1 : Nat) : Int) := by omega
        have HK := Lib.hid hk
        clear hk
        go_wp2_with (at_builtin; refine wpList_append_fresh _ rfl _ _ 24 rfl 3 i0 _ 1 8 Try.underlying24 hi1 hz0 hz1 hz2 rfl (by decide) (.slice b n2 c2) n2 (L2.map fun k => i64 k) rfl ?own ⟨w3.heap.size, 0, none⟩ 1 1 [i64 (z.fin - 1)] rfl ?c1 ?c2 ?c3 ?c4 ?c5 ?_)
        case own => exact (HB.out.2.1.ownsRow HO.out.2.2.1 (fun g hg hl e => HO.out.2.2.2.2.2.1 g e hg)).alloc _
        case c1 => rfl
        case c2 =>
          intro j u hu
          exact cells_one w3 (i64 (z.fin - 1)) 3 j u hu
        case c3 => intro u hu; simp at hu; subst hu; rfl
        case c4 => unfold maxLen; omega
        case c5 => omega
        intro v2 w4 hown2 hgrow2 hfresh2
        have hnew : PtsAt w w2 (fun g => g < w.heap.size ∧ ok g) x.pre.list cs gk (.slice a' (n1 + 1) c') v2 (.int .i64 ((i + 1 : Nat) : Int)) w4 := by
          obtain ⟨hpre, hrow1, hrow2, hfr1, hfr2, hdj, hq, hq2, hy3, hi, hil, hN1, hN2, hsn1, hsn2, hl1, hl2⟩ := HO.out
          obtain ⟨hown', qa, hfresh, bz, hs3⟩ := HB.out
          have qb : Keeps (fun g => (Value.slice b n2 c2).ownBlock = some g) w3 w4 := ((Keeps.refl _ w3).alloc _).grown hgrow2 (fun g hg => .inl hg)
          have hd2 : ∀ g, v2.ownBlock = some g → (Value.slice b n2 c2).ownBlock = some g ∨ w3.heap.size ≤ g := fun g hg => by
            rcases hfresh2 with h | h
            · exact .inl (h ▸ hg)
            · exact .inr (by have := h g hg; simp at this; omega)
          have hd12 : ∀ g, (Value.slice a' (n1 + 1) c').ownBlock = some g → (Value.slice b n2 c2).ownBlock ≠ some g := fun g hg e => by
            rcases HD1.out g hg with h | h
            · exact hdj g h e
            · have := hl2 g e; omega
          have hq2s := hq2.size
          have hqs := hq.size
          refine ⟨i + 1, pre ++ [z], y3, rfl, by simp [hi], by have := HGK.out; omega, by rw [← hpre]; simp [Nds.list], hy3, ?_, ?_, ?_, ?_, ?_, hww, ?_, ?_⟩
          · rw [hsn1, List.length_append, List.map_append, ← hN1]
            exact qb.ownsRow hown' (fun g hg hl e => hd12 g hg e)
          · rw [hsn2, if_pos HK.out, List.length_append, List.map_append, ← hN2]; exact hown2
          · intro g hg
            rcases HD1.out g hg with h | h
            · exact hfr1 g h
            · omega
          · intro g hg
            rcases hd2 g hg with h | h
            · exact hfr2 g h
            · omega
          · intro g hg e
            rcases hd2 g e with h | h
            · exact hd12 g hg h
            · have := (hown'.lt g hg).2; omega
          · exact (hq.transNew qa (fun i hi e => by have := hfr1 i e; omega)).transNew qb (fun i hi e => by have := hfr2 i e; omega)
          · exact (hq2.transNew qa (fun i hi e => by have := hfr1 i e; simp only [twoB]; omega)).transNew qb (fun i hi e => by have := hfr2 i e; simp only [twoB]; omega)
        obtain ⟨b', c2', rfl⟩ := row_slice (ok := fun _ => True) ⟨hown2, fun _ _ => trivial⟩
        have HN := Lib.hid hnew
        clear hown2 hgrow2 hfresh2 hnew
        go_wp2_with fail
        go_roundg gk
        case measure => omega
        case rel => exact HN.out
      · have hkk : ((z.kind.toNat : Int) == 123) = false := by
          rw [beq_eq_false_iff_ne]
          exact fun e => hk (UInt8.toNat_inj.1 (by have : (123 : UInt8).toNat = 123 := rfl; omega))
        have hnew : PtsAt w w2 (fun g => g < w.heap.size ∧ ok g) x.pre.list cs gk (.slice a' (n1 + 1) c') (.slice b n2 c2) (.int .i64 ((i + 1 : Nat) : Int)) w3 := by
          obtain ⟨hpre, hrow1, hrow2, hfr1, hfr2, hdj, hq, hq2, hy3, hi, hil, hN1, hN2, hsn1, hsn2, hl1, hl2⟩ := HO.out
          obtain ⟨hown', qa, hfresh, bz, hs3⟩ := HB.out
          have hq2s := hq2.size
          have hqs := hq.size
          refine ⟨i + 1, pre ++ [z], y3, rfl, by simp [hi], by have := HGK.out; omega, by rw [← hpre]; simp [Nds.list], hy3, ?_, ?_, ?_, hfr2, ?_, hww, ?_, ?_⟩
          · rw [hsn1, List.length_append, List.map_append, ← hN1]; exact hown'
          · rw [hsn2, if_neg hk, List.append_nil, ← hN2]
            exact qa.ownsRow hrow2 (fun g hg hl e => hdj g e hg)
          · intro g hg
            rcases HD1.out g hg with h | h
            · exact hfr1 g h
            · omega
          · intro g hg e
            rcases HD1.out g hg with h | h
            · exact hdj g h e
            · have := hl2 g e; omega
          · exact hq.transNew qa (fun i hi e => by have := hfr1 i e; omega)
          · exact hq2.transNew qa (fun i hi e => by have := hfr1 i e; simp only [twoB]; omega)
        have HN := Lib.hid hnew
        clear hnew hk
        go_wp2_with fail
        go_roundg gk
        case measure => omega
        case rel => exact HN.out

end Go.Proofs.Ytcpbkohpgchckaa

namespace Go.Proofs.Ytcpbkohpgchckaa
set_option linter.unusedVariables false
set_option linter.unusedSimpArgs false
open Go.RowKit

theorem Try.infoS59 : (Try.prog.info? 9).map (fun i => (i.zero, i.size, i.bytes)) = some (some (.string ⟨#[]⟩), 1, 16) := by kernel_rfl
theorem Try.infoB54 : (Try.prog.info? 4).map (fun i => (i.zero, i.size, i.bytes)) = some (some (.bool false), 1, 1) := by kernel_rfl

/-- What l5Each tells of some points: where, what, whether reached. -/
def atC (l : List Pt) : List Value := l.map (fun p => i64 p.1)
def plC (x : Nd) (l : List Pt) : List Value := l.map (fun p => Value.string ⟨(planK (knownJ x p.1) p.2).toArray⟩)
def lvC (x : Nd) (l : List Pt) : List Value := l.map (fun p => Value.bool (liveK (knownJ x p.1)))
theorem atC_snoc (l : List Pt) (p : Pt) : atC (l ++ [p]) = atC l ++ [i64 p.1] := by unfold atC; rw [List.map_append]; rfl
theorem plC_snoc (x : Nd) (l : List Pt) (p : Pt) : plC x (l ++ [p]) = plC x l ++ [Value.string ⟨(planK (knownJ x p.1) p.2).toArray⟩] := by unfold plC; rw [List.map_append]; rfl
theorem lvC_snoc (x : Nd) (l : List Pt) (p : Pt) : lvC x (l ++ [p]) = lvC x l ++ [Value.bool (liveK (knownJ x p.1))] := by unfold lvC; rw [List.map_append]; rfl

/-- The answer of l5Each. -/
def EachPost5 (w : World) (res : Option Nd) (e : Ending) (w' : World) : Prop :=
  ∃ v1 v2 v3 n c1 c2 c3, e = .returned (.tuple #[v1, v2, v3]) ∧ Row w' (fromB w.heap.size) 3 1 v1 n c1 ∧ Row w' (fromB w.heap.size) 9 1 v2 n c2 ∧ Row w' (fromB w.heap.size) 4 1 v3 n c3 ∧ Keeps noB w w' ∧
    match res with
    | none => n = 0
    | some x => n = x.pts.length ∧ c1 = atC x.pts ∧ c2 = plC x x.pts ∧ c3 = lvC x x.pts

theorem res5E (W : World) (a b c : Value) (tmps : Array Value) (h2 : tmps.getD 2 undef = a) (h3 : tmps.getD 3 undef = b) (h4 : tmps.getD 4 undef = c) : (results Try.f56 tmps).run Try.prog W = .ok (.tuple #[a, b, c]) W := by
  have h2' : tmps[2]?.getD undef = a := by simpa using h2
  have h3' : tmps[3]?.getD undef = b := by simpa using h3
  have h4' : tmps[4]?.getD undef = c := by simpa using h4
  simp [results, Try.results56, go_sem, h2', h3', h4']

/-- Two rows of different types lie apart. -/
theorem rows_apart {w : World} {b1 b2 : Nat} {e1 e2 : TypeId} {s1 s2 n1 n2 : Nat} {v1 v2 : Value} {x1 x2 : List Value} (h1 : w.ownsRow b1 e1 s1 v1 n1 x1) (h2 : w.ownsRow b2 e2 s2 v2 n2 x2) (hne : e1 ≠ e2) {g : Nat} (hg : v1.ownBlock = some g) : v2.ownBlock ≠ some g := by
  intro hg2
  rcases h1.2 with ⟨rfl, _⟩ | ⟨g1, c1, cur1, rfl, _, hh1, _⟩
  · simp [Value.ownBlock] at hg
  · rcases h2.2 with ⟨rfl, _⟩ | ⟨g2, c2, cur2, rfl, _, hh2, _⟩
    · simp [Value.ownBlock] at hg2
    · simp [Value.ownBlock] at hg hg2
      subst hg
      subst hg2
      rw [hh1] at hh2
      injection hh2 with hh2
      injection hh2 with _ hh2
      exact hne hh2

/-- A step that is no scope has two variables at most. -/
theorem few_vars {m : Nd} (hf : m.Fit) (hk : m.kind ≠ 123) : m.vars.length ≤ 100 := by
  obtain ⟨c, b, e, vs, ar, bs⟩ := m
  have hk : c ≠ 123 := hk
  show vs.length ≤ 100
  match bs, hf with
  | .nil, hf =>
    simp only [Nd.Fit] at hf
    rcases hf with ⟨_, v, rfl, _⟩ | ⟨_, v, u, rfl, _⟩ | ⟨_, rfl⟩ <;> simp
  | .cons y .nil, hf =>
    simp only [Nd.Fit] at hf
    rcases hf.1 with ⟨_, rfl⟩ | h
    · simp
    · exact absurd h hk
  | .cons y (.cons u .nil), hf => simp only [Nd.Fit] at hf; rw [hf.2.1]; simp
  | .cons y (.cons u (.cons q r)), hf => simp only [Nd.Fit] at hf

/-- The three rows that l5Each has made, and what else lies. -/
def threeB (m : Nat) : Nat → Prop := fun k => k = m ∨ k = m + 1 ∨ k = m + 2
def EachAt5 (w w2 : World) (x : Nd) (v5 v6 v7 vi : Value) (wr : World) : Prop :=
  ∃ (done todo : List Pt), x.pts = done ++ todo ∧ vi = .int .i64 done.length ∧
    wr.ownsRow 0 3 1 v5 done.length (atC done) ∧ wr.ownsRow 0 9 1 v6 done.length (plC x done) ∧ wr.ownsRow 0 4 1 v7 done.length (lvC x done) ∧
    (∀ g, v5.ownBlock = some g → threeB w.heap.size g ∨ w2.heap.size ≤ g) ∧ (∀ g, v6.ownBlock = some g → threeB w.heap.size g ∨ w2.heap.size ≤ g) ∧ (∀ g, v7.ownBlock = some g → threeB w.heap.size g ∨ w2.heap.size ≤ g) ∧
    Keeps noB w wr ∧ Keeps (threeB w.heap.size) w2 wr

/-- What the inner loop holds: what some steps tell of the point. -/
def TellAt (k : Kn) (at_ : Nat) (wA : World) (ok : Nat → Prop) (all : List Nd) (cs : List Value) (g : Nat) (vp vi : Value) (wr : World) : Prop :=
  ∃ (i : Nat) (pre : List Nd) (y : Nds), vi = .int .i64 i ∧ i = pre.length ∧ all.length < i + g ∧ pre ++ y.list = all ∧ RepSL wA ok y (cs.drop (i * 6)) ∧ vp = .string ⟨(lastK k at_ pre).toArray⟩ ∧ Keeps noB wA wr

set_option maxRecDepth 100000 in
set_option maxHeartbeats 4000000 in
theorem seach5_none (s : ByteArray) (hs : s.size ≤ 1048576) (hp : progP s = none) (w : World) : Calls Try.prog 56 #[.string s] w (EachPost5 w none) := by
  have H := Lib.hid (sread_any s hs (((w.alloc (.cells #[] 3)).alloc (.cells #[] 9)).alloc (.cells #[] 4)))
  rw [hp] at H
  clear hp
  go_enter Try.func56, Try.ntmps56
  go_wp2_with fail
  refine H.out.mono ?_
  rintro e w1 ⟨⟨x0, x1, x2, x3, x4, x5, x6, x7, rfl⟩, q1⟩
  have hnv : nodeV x0 x1 x2 x3 x4 x5 x6 x7 = .agg #[.int .u8 x0, .int .i64 x1, .int .i64 x2, .string x3, .slice x4 x5 x6, .string x7] := rfl
  have o1 := World.ownsRow_made w #[] 0 (e := 3) (size := 1) (Nat.zero_le _) (by simp [maxLen]) rfl
  have o2 := World.ownsRow_made (w.alloc (.cells #[] 3)) #[] 0 (e := 9) (size := 1) (Nat.zero_le _) (by simp [maxLen]) rfl
  have o3 := World.ownsRow_made ((w.alloc (.cells #[] 3)).alloc (.cells #[] 9)) #[] 0 (e := 4) (size := 1) (Nat.zero_le _) (by simp [maxLen]) rfl
  rw [World.size_alloc] at o2
  rw [World.size_alloc, World.size_alloc] at o3
  have HX := Lib.hid (And.intro (q1.ownsRow ((o1.alloc (.cells #[] 9)).alloc (.cells #[] 4)) (fun _ _ _ e => e)) (And.intro (q1.ownsRow (o2.alloc (.cells #[] 4)) (fun _ _ _ e => e)) (And.intro (q1.ownsRow o3 (fun _ _ _ e => e)) ((((Keeps.refl noB w).alloc _).alloc _).alloc _ |>.trans q1))))
  clear q1 o1 o2 o3
  go_wp2_with fail
  refine bodyPost_ret (res5E _ _ _ _ _ rfl rfl rfl) rfl ?_
  refine ⟨_, _, _, 0, [], [], [], rfl, ⟨HX.out.1.alloc _, ?_⟩, ⟨HX.out.2.1.alloc _, ?_⟩, ⟨HX.out.2.2.1.alloc _, ?_⟩, HX.out.2.2.2.alloc _, rfl⟩
  all_goals
    intro g hg
    simp [Value.ownBlock] at hg
    simp [fromB]
    omega

set_option maxRecDepth 100000 in
set_option maxHeartbeats 4000000 in
theorem seach5_some (s : ByteArray) (hs : s.size ≤ 1048576) (x : Nd) (hp : progP s = some x) (w : World) : Calls Try.prog 56 #[.string s] w (EachPost5 w (some x)) := by
  obtain ⟨i0, hi, hz0, hz1, hz2⟩ := info_parts Try.infoI3
  obtain ⟨i1, hiS, hzS0, hzS1, hzS2⟩ := info_parts Try.infoS59
  obtain ⟨i2, hiB, hzB0, hzB1, hzB2⟩ := info_parts Try.infoB54
  have HI := Lib.hid (And.intro hi (And.intro hz0 (And.intro hz1 hz2)))
  have HIS := Lib.hid (And.intro hiS (And.intro hzS0 (And.intro hzS1 hzS2)))
  have HIB := Lib.hid (And.intro hiB (And.intro hzB0 (And.intro hzB1 hzB2)))
  have H := Lib.hid (sread_any s hs (((w.alloc (.cells #[] 3)).alloc (.cells #[] 9)).alloc (.cells #[] 4)))
  rw [hp] at H
  obtain ⟨_, h2, _, _, _, h6⟩ := progP_ok hp
  have hX := Nd.shC h6 x 0 h2 (progP_sp hp) (progP_fit hp)
  have hfin := h2.good.le
  have HL := Lib.hid (fun w1 ok hok a n m hrep => lfind_any x (progP_sp hp) (by omega) hX w1 ok hok a n m hrep)
  have HPT := Lib.hid (fun w ok hok x0 x1 x2 x3 x7 x4 x5 x6 hrep => spoints_any hp w ok hok x0 x1 x2 x3 x7 x4 x5 x6 hrep)
  have HF := Lib.hid (progP_few hp)
  have HFEW := Lib.hid (pts_few hp)
  obtain ⟨nP, hnP⟩ : ∃ n, n = (x.pts.map Prod.fst).length := ⟨_, rfl⟩
  have HNP : Hid (nP = x.pts.length ∧ 0 < nP ∧ nP ≤ 81) := by
    have h2 := hnP
    rw [List.length_map] at h2
    have h3 := pts_few hp
    have h1 : 0 < x.pts.length := by rw [Nd.pts_eq]; simp
    exact ⟨h2, by omega, by omega⟩
  have HNE := Lib.hid hnP
  clear hnP
  have HPP : Hid (∀ p ∈ x.pts, noteI (notesP x) (p.1 : Int) = some (knownJ x p.1) ∧ (∀ v ∈ p.2, ltr v) ∧ p.1 ≤ 80) := fun p hm => ⟨by rw [noteI_nat]; exact (pts_P hp hm).1, (progP_pts hp p hm).1, (progP_pts hp p hm).2.2⟩
  have HLK : Hid (∀ p ∈ x.pts, lastK (knownJ x p.1) p.1 x.pre.list = planK (knownJ x p.1) p.2) := fun p hm => lastK_pts (progP_sp hp) (progP_fit hp) _ hm
  have HM : Hid (∀ m ∈ x.pre.list, m.Fit ∧ (∀ v ∈ m.vars, ltr v) ∧ m.vars.length ≤ 100 ∧ (∀ v ∈ unsaidN m, ltr v) ∧ (unsaidN m).length ≤ 100 ∧ (m.kind = 123 → 1 ≤ m.fin ∧ m.fin ≤ 81)) := fun m hm => by
    obtain ⟨g1, g2⟩ := pre_fs x.pre.len x rfl (progP_sp hp) (progP_fit hp) m hm
    have hu := progP_pts hp (m.beg, unsaidN m) ((Nd.pts_own x _).2 ⟨m, hm, by simp [ownPts]⟩)
    refine ⟨g2, vars_ltr g1 g2, ?_, hu.1, by have := hu.2.1; simp only at this; omega, fun hk => ?_⟩
    · by_cases hk : m.kind = 123
      · have hv := progP_pts hp (m.fin - 1, m.vars) ((Nd.pts_own x _).2 ⟨m, hm, by simp [ownPts, hk]⟩)
        have := hv.2.1; simp only at this; omega
      · exact few_vars g2 hk
    · have hv := progP_pts hp (m.fin - 1, m.vars) ((Nd.pts_own x _).2 ⟨m, hm, by simp [ownPts, hk]⟩)
      have h3 := (Nd.pts_in m g1 g2 (m.beg, unsaidN m) (by rw [Nd.pts_eq]; simp)).2
      have h3 : m.beg < m.fin := h3
      have := hv.2.2; simp only at this; omega
  clear hi hz0 hz1 hz2 hiS hzS0 hzS1 hzS2 hiB hzB0 hzB1 hzB2 hX hfin h2 h6 hp
  go_enter Try.func56, Try.ntmps56
  go_wp2_with fail
  refine H.out.mono ?_
  rintro e w1 ⟨x0, x1, x2, x3, x4, x5, x6, x7, rfl, hx, q1⟩
  have hnv : nodeV x0 x1 x2 x3 x4 x5 x6 x7 = .agg #[.int .u8 x0, .int .i64 x1, .int .i64 x2, .string x3, .slice x4 x5 x6, .string x7] := rfl
  have o1 := World.ownsRow_made w #[] 0 (e := 3) (size := 1) (Nat.zero_le _) (by simp [maxLen]) rfl
  have o2 := World.ownsRow_made (w.alloc (.cells #[] 3)) #[] 0 (e := 9) (size := 1) (Nat.zero_le _) (by simp [maxLen]) rfl
  have o3 := World.ownsRow_made ((w.alloc (.cells #[] 3)).alloc (.cells #[] 9)) #[] 0 (e := 4) (size := 1) (Nat.zero_le _) (by simp [maxLen]) rfl
  rw [World.size_alloc] at o2
  rw [World.size_alloc, World.size_alloc] at o3
  have o1 := (o1.alloc (.cells #[] 9)).alloc (.cells #[] 4)
  have o2 := o2.alloc (.cells #[] 4)
  have q0 : Keeps noB w (((w.alloc (.cells #[] 3)).alloc (.cells #[] 9)).alloc (.cells #[] 4)) := (((Keeps.refl noB w).alloc _).alloc _).alloc _
  have hw0 : (((w.alloc (.cells #[] 3)).alloc (.cells #[] 9)).alloc (.cells #[] 4)).heap.size = w.heap.size + 3 := by simp
  have hw1 := q1.size
  rw [hw0] at hw1
  have hx1 : RepS w1 (fun g => w.heap.size + 3 ≤ g ∧ g < w1.heap.size) x _ := (Hands.of_keeps (ok := fromB (((w.alloc (.cells #[] 3)).alloc (.cells #[] 9)).alloc (.cells #[] 4)).heap.size) (Keeps.refl noB w1) (fun g _ _ e => e) (fun g hg hl => ⟨by simpa [fromB, hw0] using hg, hl⟩)).repS _ _ hx
  have HX := Lib.hid hx1
  have hcs : x0 = (x.kind.toNat : Int) ∧ x1 = (x.beg : Int) ∧ x2 = (x.fin : Int) ∧ x3 = ⟨x.vars.toArray⟩ ∧ x7 = ⟨x.scope.toArray⟩ := by
    obtain ⟨c, b, e', vs, ar, bs⟩ := x
    have hr2 := hx
    simp only [RepS] at hr2
    obtain ⟨vb, n', xs, hcs, _, _⟩ := hr2
    simp [six, u8, i64, str] at hcs
    obtain ⟨rfl, rfl, rfl, rfl, rfl, rfl⟩ := hcs
    exact ⟨rfl, rfl, rfl, rfl, rfl⟩
  have hL : Hid (∀ w2, Keeps noB w1 w2 → Calls Try.prog 57 #[.agg #[.int .u8 x0, .int .i64 x1, .int .i64 x2, .string x3, .slice x4 x5 x6, .string x7]] w2 (fun e w' => ∃ own h l va vs, e = .returned (.pointer (some ⟨h, 0, none⟩)) ∧ HoldAt w' own h l va vs ∧ lookL l = notesP x ∧ (∀ g, own g → w2.heap.size ≤ g) ∧ Keeps noB w2 w')) := fun w2 q2 => by
    have hh : Hands w1 w2 (fun g => w.heap.size + 3 ≤ g ∧ g < w1.heap.size) (fun i => i < w2.heap.size) := Hands.of_keeps q2 (fun _ _ _ e => e.elim) (fun i _ hl => Nat.lt_of_lt_of_le hl q2.size)
    have hr := hh.repS _ _ HX.out
    obtain ⟨rfl, rfl, rfl, rfl, rfl⟩ := hcs
    exact HL.out w2 (fun i => i < w2.heap.size) (fun _ h => h) x4 x5 x6 (by
      obtain ⟨c, b, e', vs, ar, bs⟩ := x
      exact hr)
  have hP : Hid (∀ W, Keeps noB w1 W → Calls Try.prog 85 #[.agg #[.int .u8 x0, .int .i64 x1, .int .i64 x2, .string x3, .slice x4 x5 x6, .string x7]] W (fun e w' => ∃ v, e = .returned v ∧ Row w' (fromB W.heap.size) 3 1 v nP ((x.pts.map Prod.fst).map fun k => i64 k) ∧ Keeps noB W w')) := fun W qW => by
    rw [HNE.out]
    exact HPT.out W (fun i => i < W.heap.size) (fun _ h => h) x0 x1 x2 x3 x7 x4 x5 x6 ((Hands.of_keeps (ok := (fun g => w.heap.size + 3 ≤ g ∧ g < w1.heap.size)) qW (fun _ _ _ e => e.elim) (fun i _ hl => Nat.lt_of_lt_of_le hl qW.size)).repS _ _ HX.out)
  have HE : Hid (∀ may W, Keeps may w1 W → (∀ g, w.heap.size + 3 ≤ g → ¬ may g) → Calls Try.prog 45 #[.agg #[.int .u8 x0, .int .i64 x1, .int .i64 x2, .string x3, .slice x4 x5 x6, .string x7]] W (EachPost W (fun g => w.heap.size + 3 ≤ g ∧ g < w1.heap.size) x)) := fun may W qW hmay =>
    each_all x.pre.len x _ W (fun g => w.heap.size + 3 ≤ g ∧ g < w1.heap.size) rfl (by have := HF.out; omega)
      ((Hands.of_keeps (ok := (fun g => w.heap.size + 3 ≤ g ∧ g < w1.heap.size)) qW (fun g hg _ e => hmay g hg.1 e) (fun g hg hl => hg)).repS x _ HX.out) (fun g hg => by have := hg.2; have := qW.size; omega)
  have HQ1 := Lib.hid (And.intro (q1.ownsRow o1 (fun _ _ _ e => e)) (And.intro (q1.ownsRow o2 (fun _ _ _ e => e)) (And.intro (q1.ownsRow o3 (fun _ _ _ e => e)) (And.intro (q0.trans q1) hw1))))
  clear hx hx1 hcs q0 q1 o1 o2 o3 hw0 hw1 HL HPT
  have HB : Hid (∀ W', Keeps noB (w1.alloc (.cells #[.int .u8 x0, .int .i64 x1, .int .i64 x2, .string x3, .slice x4 x5 x6, .string x7] 55)) W' → Blk W' w1.heap.size #[.int .u8 x0, .int .i64 x1, .int .i64 x2, .string x3, .slice x4 x5 x6, .string x7] 55) := fun W' h => h.blk (Blk.new _ _ _) id
  go_wp2_with (go_at_call 57; refine (hL.out _ ((Keeps.refl _ _).alloc _)).mono ?_; rintro e2 wF ⟨own, h, l, va, vs, rfl, hH, hM, hO, q2⟩; have n2 := HB.out _ q2; have r0 := n2.cell 0; have r1 := n2.cell 1; have r2 := n2.cell 2; have r3 := n2.cell 3; have r4 := n2.cell 4; have r5 := n2.cell 5; simp at r0 r1 r2 r3 r4 r5; have HHF := Lib.hid (And.intro hH (And.intro hM hO)); have QF := Lib.hid (((Keeps.refl noB w1).alloc _).trans q2); have QF2 := Lib.hid q2; clear q2 n2 hH hM hO)
  refine (hP.out _ QF.out).mono ?_
  rintro e3 w2 ⟨vP, rfl, hrP, q3⟩
  obtain ⟨gP, cP, rfl, hgP1, hgP, hcellP⟩ := row_get hrP HNP.out.2.1
  have hgP1 : wF.heap.size ≤ gP := hgP1
  have HW2 : Hid (Keeps noB w w2 ∧ Keeps noB w1 w2 ∧ Blk w2 w1.heap.size #[.int .u8 x0, .int .i64 x1, .int .i64 x2, .string x3, .slice x4 x5 x6, .string x7] 55 ∧ HoldAt w2 own h l va vs ∧ lookL l = notesP x ∧ (∀ g, own g → w.heap.size + 3 ≤ g) ∧ gP < w2.heap.size ∧ w.heap.size + 3 ≤ gP ∧ w.heap.size + 3 ≤ w1.heap.size ∧ w1.heap.size ≤ w2.heap.size ∧ ∀ j u, ((x.pts.map Prod.fst).map fun k => i64 k)[j]? = some u → w2.cell? ⟨gP, j, none⟩ = some u) := by
    have h1 := HQ1.out.2.2.2.2
    have h2 := QF.out.size
    have h3 := q3.size
    refine ⟨HQ1.out.2.2.2.1.trans (QF.out.trans q3), QF.out.trans q3, q3.blk (HB.out _ QF2.out) id, HHF.out.1.quiet q3, HHF.out.2.1, fun g hg => ?_, hgP, by omega, h1, by omega, hcellP⟩
    have := HHF.out.2.2 g hg
    rw [World.size_alloc] at this
    omega
  have HP0 : Hid (EachAt5 w w2 x (.slice (some ⟨w.heap.size, 0, none⟩) 0 0) (.slice (some ⟨w.heap.size + 1, 0, none⟩) 0 0) (.slice (some ⟨w.heap.size + 2, 0, none⟩) 0 0) (.int .i64 0) w2) := by
    refine ⟨[], x.pts, rfl, rfl, HW2.out.2.1.ownsRow HQ1.out.1 (fun _ _ _ e => e), HW2.out.2.1.ownsRow HQ1.out.2.1 (fun _ _ _ e => e), HW2.out.2.1.ownsRow HQ1.out.2.2.1 (fun _ _ _ e => e), ?_, ?_, ?_, HW2.out.1, Keeps.refl _ _⟩
    all_goals
      intro g hg
      simp [Value.ownBlock] at hg
      exact .inl (by unfold threeB; omega)
  clear hrP q3 hgP hgP1 hcellP r0 r1 r2 r3 r4 r5
  go_upto_region 7 with fail
  go_loopw [5, 6, 7, 36] (fun v5 v6 v7 vi wr => EachAt5 w w2 x v5 v6 v7 vi wr) (fun _ _ _ vi _ => nP - (intOf vi).toNat)
  case atStart => exact HP0.out
  case round =>
    clear HP0
    obtain ⟨wO, rfl⟩ : ∃ w', w' = wr := ⟨_, rfl⟩
    obtain ⟨done, todo, hpt, rfl, hr5, hr6, hr7, hf5, hf6, hf7, hq, hq2⟩ := hrel
    obtain ⟨a5, c5, rfl⟩ := row_slice (ok := fun _ => True) ⟨hr5, fun _ _ => trivial⟩
    obtain ⟨a6, c6, rfl⟩ := row_slice (ok := fun _ => True) ⟨hr6, fun _ _ => trivial⟩
    obtain ⟨a7, c7, rfl⟩ := row_slice (ok := fun _ => True) ⟨hr7, fun _ _ => trivial⟩
    have hpl := congrArg List.length hpt
    rw [List.length_append, ← HNP.out.1] at hpl
    cases todo with
    | nil =>
      have hd : ¬ done.length < nP := by simp at hpl; omega
      rw [List.append_nil] at hpt
      have HX2 : Hid (EachPost5 w (some x) (.returned (.tuple #[.slice a5 done.length c5, .slice a6 done.length c6, .slice a7 done.length c7])) wO) := by
        have hs := HW2.out.1.size
        have hfr : ∀ g, threeB w.heap.size g ∨ w2.heap.size ≤ g → w.heap.size ≤ g := fun g h => by unfold threeB at h; omega
        refine ⟨_, _, _, done.length, _, _, _, rfl, ⟨hr5, fun g hg => hfr g (hf5 g hg)⟩, ⟨hr6, fun g hg => hfr g (hf6 g hg)⟩, ⟨hr7, fun g hg => hfr g (hf7 g hg)⟩, hq, ?_⟩
        simp only
        rw [hpt]
        exact ⟨rfl, rfl, rfl, rfl⟩
      clear hpt hr5 hr6 hr7 hf5 hf6 hf7 hq hq2 hpl
      go_wp2_with fail
      exact bodyPost_ret (res5E _ _ _ _ _ rfl rfl rfl) rfl HX2.out
    | cons p todo =>
      have hd : done.length < nP := by simp at hpl; omega
      have hpm : p ∈ x.pts := by rw [hpt]; simp
      have hnp := HNP.out.2.2
      have h3B : ∀ g, w.heap.size + 3 ≤ g → ¬ threeB w.heap.size g := fun g hg e => by unfold threeB at e; omega
      have s0 : wO.cell? ⟨gP, done.length, none⟩ = some (.int .i64 (p.1 : Int)) :=
        (hq2.cell (p := ⟨gP, done.length, none⟩) HW2.out.2.2.2.2.2.2.1 (h3B gP HW2.out.2.2.2.2.2.2.2.1)).trans (HW2.out.2.2.2.2.2.2.2.2.2.2 _ _ (by rw [hpt]; simp [i64]))
      obtain ⟨kk, hkk⟩ : ∃ kk, kk = knownJ x p.1 := ⟨_, rfl⟩
      have HA : Hid (Calls Try.prog 58 #[.pointer (some ⟨h, 0, none⟩), .int .i64 (p.1 : Int)] wO (fun e w' => e = .returned (.tuple #[.agg #[.string (mayB kk), .string (mustB kk), .bool (liveK kk)], .bool true]) ∧ Keeps noB wO w')) := by
        have hh := hat_any (p.1 : Int) l wO own h va vs (HW2.out.2.2.2.1.keeps hq2 (fun g hg => h3B g (HW2.out.2.2.2.2.2.1 g hg)))
        rw [HW2.out.2.2.2.2.1, (HPP.out p hpm).1, ← hkk] at hh
        exact hh
      have HN4 : Hid (∀ W, Keeps noB wO W → Blk W w1.heap.size #[.int .u8 x0, .int .i64 x1, .int .i64 x2, .string x3, .slice x4 x5 x6, .string x7] 55) := fun W qW => qW.blk (hq2.blk HW2.out.2.2.1 (h3B _ HW2.out.2.2.2.2.2.2.2.2.1)) id
      have HLKp : Hid (lastK kk p.1 x.pre.list = planK kk p.2) := by rw [hkk]; exact HLK.out p hpm
      have HSP : Hid (∀ W vs, (∀ v ∈ vs, ltr v) → vs.length ≤ 100 → Calls Try.prog 86 #[.string ⟨vs.toArray⟩, .agg #[.string (mayB kk), .string (mustB kk), .bool (liveK kk)]] W (fun e w' => e = .returned (.string ⟨(planK kk vs).toArray⟩) ∧ Keeps noB W w')) := fun W vs hv hn => splan_any kk vs hv hn W
      have HKK := Lib.hid hkk
      have HK1 : Hid (Keeps (threeB w.heap.size) w1 wO) := (HW2.out.2.1.mono (fun _ e => e.elim)).trans hq2
      have hp80 := (HPP.out p hpm).2.2
      have HO := Lib.hid (And.intro hpt (And.intro hr5 (And.intro hr6 (And.intro hr7 (And.intro hf5 (And.intro hf6 (And.intro hf7 (And.intro hq hq2))))))))
      have H3B := Lib.hid h3B
      clear hpt hr5 hr6 hr7 hf5 hf6 hf7 hq hq2 hpl hkk hpm h3B
      obtain ⟨ma, hma⟩ : ∃ ma, mayB kk = ma := ⟨_, rfl⟩
      obtain ⟨mu, hmu⟩ : ∃ mu, mustB kk = mu := ⟨_, rfl⟩
      obtain ⟨lv, hlv⟩ : ∃ lv, liveK kk = lv := ⟨_, rfl⟩
      rw [hma, hmu, hlv] at HA HSP
      have HLV := Lib.hid hlv
      clear hma hmu hlv
      go_wp2_with (go_at_call 58; refine HA.out.mono ?_; rintro e4 w4 ⟨rfl, q4⟩; have n4 := HN4.out _ q4; have r0 := n4.cell 0; have r1 := n4.cell 1; have r2 := n4.cell 2; have r3 := n4.cell 3; have r4 := n4.cell 4; have r5 := n4.cell 5; simp at r0 r1 r2 r3 r4 r5; have hlt4 := n4.lt; have Q4 := Lib.hid q4; clear q4 n4)
      refine (HE.out (threeB w.heap.size) _ (HK1.out.trans ((Q4.out.alloc _).mono (fun _ e => e.elim))) H3B.out).mono ?_
      rintro e w6 ⟨v6, rfl, hout⟩
      obtain ⟨hp0, cs, hown, hrep, hfrom, q6⟩ := hout
      obtain ⟨gM, nM, hv, _, hgM, hcellM⟩ := row_at (ok := fun _ => True) ⟨hown, fun _ _ => trivial⟩ hp0
      subst hv
      have b13 : Blk w6 w4.heap.size #[.string ma, .string mu, .bool lv] 84 := q6.blk (Blk.new w4 #[.string ma, .string mu, .bool lv] 84) id
      have HST : Hid (∀ W, Keeps noB w6 W → W.cell? ⟨w4.heap.size, 0, none⟩ = some (.string ma) ∧ W.cell? ⟨w4.heap.size, 1, none⟩ = some (.string mu) ∧ W.cell? ⟨w4.heap.size, 2, none⟩ = some (.bool lv)) := fun W qW =>
        ⟨((qW.blk b13 id).cell 0).trans rfl, ((qW.blk b13 id).cell 1).trans rfl, ((qW.blk b13 id).cell 2).trans rfl⟩
      have HT0 : Hid (TellAt kk p.1 w6 (fun g => w.heap.size + 3 ≤ g ∧ g < w1.heap.size) x.pre.list cs (x.pre.len + 1) (.string ⟨#[]⟩) (.int .i64 0) w6) :=
        ⟨0, [], x.pre, rfl, rfl, by rw [Nds.list_len]; omega, rfl, by simpa using hrep, rfl, Keeps.refl _ _⟩
      have HQ6 := Lib.hid (And.intro ((Q4.out.alloc (.cells #[.string ma, .string mu, .bool lv] 84)).trans q6) (And.intro hgM (And.intro hcellM b13)))
      have hpl : x.pre.len ≤ 80 := by have := HF.out; omega
      have h46 : w4.heap.size + 1 ≤ w6.heap.size := by have := q6.size; simpa using this
      clear hown hrep hfrom q6 hgM hcellM b13 r0 r1 r2 r3 r4 r5 HN4 HA
      go_upto_region 12 with fail
      go_loopg [15, 49] (x.pre.len + 1) (fun g vp vi W => TellAt kk p.1 w6 (fun g => w.heap.size + 3 ≤ g ∧ g < w1.heap.size) x.pre.list cs g vp vi W)
      case atStart => exact HT0.out
      case round =>
        clear HT0
        obtain ⟨i, pre, y, rfl, hi, hgk, hpre, hy, rfl, hq7⟩ := hrel
        cases gk with
        | zero => rw [← hpre] at hgk; simp at hgk; omega
        | succ gk =>
        have hil := congrArg List.length hpre
        rw [List.length_append, Nds.list_len, Nds.list_len, ← hi] at hil
        cases y with
        | nil =>
          simp only [Nds.len] at hil
          have hdi : ¬ i < x.pre.len := by omega
          simp only [Nds.list, List.append_nil] at hpre
          have hlast : lastK kk p.1 pre = planK kk p.2 := by rw [hpre]; exact HLKp.out
          rw [hlast]
          obtain ⟨ps, hps⟩ : ∃ ps : ByteArray, ps = ⟨(planK kk p.2).toArray⟩ := ⟨_, rfl⟩
          rw [← hps]
          have HPS := Lib.hid hps
          have kI : Keeps noB wO wr := HQ6.out.1.trans hq7
          have HKI := Lib.hid kI
          have HS7 := Lib.hid (HST.out wr hq7)
          have HIN := Lib.hid (And.intro HI.out (And.intro HIS.out HIB.out))
          have h5lt : ∀ g, (Value.slice a5 done.length c5).ownBlock = some g → g < wO.heap.size := fun g hg => (HO.out.2.1.lt g hg).2
          have h6lt : ∀ g, (Value.slice a6 done.length c6).ownBlock = some g → g < wO.heap.size := fun g hg => (HO.out.2.2.1.lt g hg).2
          have h7lt : ∀ g, (Value.slice a7 done.length c7).ownBlock = some g → g < wO.heap.size := fun g hg => (HO.out.2.2.2.1.lt g hg).2
          have h56 : ∀ g, (Value.slice a5 done.length c5).ownBlock = some g → (Value.slice a6 done.length c6).ownBlock ≠ some g := fun g hg => rows_apart HO.out.2.1 HO.out.2.2.1 (by decide) hg
          have h57 : ∀ g, (Value.slice a5 done.length c5).ownBlock = some g → (Value.slice a7 done.length c7).ownBlock ≠ some g := fun g hg => rows_apart HO.out.2.1 HO.out.2.2.2.1 (by decide) hg
          have h67 : ∀ g, (Value.slice a6 done.length c6).ownBlock = some g → (Value.slice a7 done.length c7).ownBlock ≠ some g := fun g hg => rows_apart HO.out.2.2.1 HO.out.2.2.2.1 (by decide) hg
          have HLT := Lib.hid (And.intro h5lt (And.intro h6lt (And.intro h7lt (And.intro h56 (And.intro h57 h67)))))
          have hIs := kI.size
          have h4s := Q4.out.size
          have HSZ : Hid (wO.heap.size ≤ wr.heap.size ∧ wO.heap.size ≤ w4.heap.size ∧ w4.heap.size < wr.heap.size) := ⟨hIs, h4s, by have := hq7.size; omega⟩
          clear hlast hps hpre hil hi hgk hy kI hq7 h5lt h6lt h7lt h56 h57 h67 hIs h4s
          go_wp2_with (at_builtin; refine wpList_append_fresh _ rfl _ _ 24 rfl 3 i0 _ 1 8 Try.underlying24 HIN.out.1.1 HIN.out.1.2.1 HIN.out.1.2.2.1 HIN.out.1.2.2.2 rfl (by decide) (.slice a5 done.length c5) done.length (atC done) rfl ?own ⟨wr.heap.size, 0, none⟩ 1 1 [i64 p.1] rfl ?c1 ?c2 ?c3 ?c4 ?c5 ?_)
          case own => exact (HKI.out.ownsRow HO.out.2.1 (fun _ _ _ e => e)).alloc _
          case c1 => rfl
          case c2 => exact cells_one wr (i64 p.1) 3
          case c3 => intro u hu; simp at hu; subst hu; rfl
          case c4 => unfold maxLen; omega
          case c5 => omega
          intro v5' wA hownA hgrowA hfreshA
          have qA : Keeps (fun g => (Value.slice a5 done.length c5).ownBlock = some g) wr wA := ((Keeps.refl _ wr).alloc _).grown hgrowA (fun g hg => .inl hg)
          obtain ⟨a5', c5', rfl⟩ := row_slice (ok := fun _ => True) ⟨hownA, fun _ _ => trivial⟩
          have HA1 : Hid (wA.ownsRow 0 3 1 (.slice a5' (done.length + 1) c5') (done.length + 1) (atC done ++ [i64 p.1]) ∧ Keeps (fun g => (Value.slice a5 done.length c5).ownBlock = some g) wr wA ∧ ∀ g, (Value.slice a5' (done.length + 1) c5').ownBlock = some g → (Value.slice a5 done.length c5).ownBlock = some g ∨ wr.heap.size ≤ g) := ⟨hownA, qA, fun g hg => by
            rcases hfreshA with h | h
            · exact .inl (h ▸ hg)
            · exact .inr (by have := h g hg; simp at this; omega)⟩
          clear hownA qA hgrowA hfreshA
          go_wp2_with (at_builtin; refine wpList_append_fresh _ rfl _ _ 32 rfl 9 i1 _ 1 16 Try.underlying32 HIN.out.2.1.1 HIN.out.2.1.2.1 HIN.out.2.1.2.2.1 HIN.out.2.1.2.2.2 rfl (by decide) (.slice a6 done.length c6) done.length (plC x done) rfl ?own ⟨wA.heap.size, 0, none⟩ 1 1 [.string ps] rfl ?c1 ?c2 ?c3 ?c4 ?c5 ?_)
          case own => exact (HA1.out.2.1.ownsRow (HKI.out.ownsRow HO.out.2.2.1 (fun _ _ _ e => e)) (fun g hg _ e => HLT.out.2.2.2.1 g e hg)).alloc _
          case c1 => rfl
          case c2 => exact cells_one wA (.string ps) 9
          case c3 => intro u hu; simp at hu; subst hu; rfl
          case c4 => unfold maxLen; omega
          case c5 => omega
          intro v6' wB hownB hgrowB hfreshB
          have qB : Keeps (fun g => (Value.slice a6 done.length c6).ownBlock = some g) wA wB := ((Keeps.refl _ wA).alloc _).grown hgrowB (fun g hg => .inl hg)
          obtain ⟨a6', c6', rfl⟩ := row_slice (ok := fun _ => True) ⟨hownB, fun _ _ => trivial⟩
          have HB1 : Hid (wB.ownsRow 0 9 1 (.slice a6' (done.length + 1) c6') (done.length + 1) (plC x done ++ [.string ps]) ∧ Keeps (fun g => (Value.slice a6 done.length c6).ownBlock = some g) wA wB ∧ ∀ g, (Value.slice a6' (done.length + 1) c6').ownBlock = some g → (Value.slice a6 done.length c6).ownBlock = some g ∨ wA.heap.size ≤ g) := ⟨hownB, qB, fun g hg => by
            rcases hfreshB with h | h
            · exact .inl (h ▸ hg)
            · exact .inr (by have := h g hg; simp at this; omega)⟩
          have hlc : wB.cell? ⟨w4.heap.size, 2, none⟩ = some (.bool lv) := by
            have hA := HA1.out.2.1.size
            obtain ⟨z1, z2, z3⟩ := HSZ.out
            have n6 : ¬ (Value.slice a6 done.length c6).ownBlock = some w4.heap.size := fun e => by have := HLT.out.2.1 w4.heap.size e; omega
            have n5 : ¬ (Value.slice a5 done.length c5).ownBlock = some w4.heap.size := fun e => by have := HLT.out.1 w4.heap.size e; omega
            have z4 : w4.heap.size < wA.heap.size := by omega
            exact (qB.cell (p := ⟨w4.heap.size, 2, none⟩) z4 n6).trans ((HA1.out.2.1.cell (p := ⟨w4.heap.size, 2, none⟩) z3 n5).trans HS7.out.2.2)
          clear hownB qB hgrowB hfreshB
          go_wp2_with (at_builtin; refine wpList_append_fresh _ rfl _ _ 78 rfl 4 i2 _ 1 1 Try.underlying78 HIN.out.2.2.1 HIN.out.2.2.2.1 HIN.out.2.2.2.2.1 HIN.out.2.2.2.2.2 rfl (by decide) (.slice a7 done.length c7) done.length (lvC x done) rfl ?own ⟨wB.heap.size, 0, none⟩ 1 1 [.bool lv] rfl ?c1 ?c2 ?c3 ?c4 ?c5 ?_)
          case own => exact (HB1.out.2.1.ownsRow (HA1.out.2.1.ownsRow (HKI.out.ownsRow HO.out.2.2.2.1 (fun _ _ _ e => e)) (fun g hg _ e => HLT.out.2.2.2.2.1 g e hg)) (fun g hg _ e => HLT.out.2.2.2.2.2 g e hg)).alloc _
          case c1 => rfl
          case c2 => exact cells_one wB (.bool lv) 4
          case c3 => intro u hu; simp at hu; subst hu; rfl
          case c4 => unfold maxLen; omega
          case c5 => omega
          intro v7' wC hownC hgrowC hfreshC
          have qC : Keeps (fun g => (Value.slice a7 done.length c7).ownBlock = some g) wB wC := ((Keeps.refl _ wB).alloc _).grown hgrowC (fun g hg => .inl hg)
          obtain ⟨a7', c7', rfl⟩ := row_slice (ok := fun _ => True) ⟨hownC, fun _ _ => trivial⟩
          have hnew : EachAt5 w w2 x (.slice a5' (done.length + 1) c5') (.slice a6' (done.length + 1) c6') (.slice a7' (done.length + 1) c7') (.int .i64 ((done.length + 1 : Nat) : Int)) wC := by
            obtain ⟨hpt, hr5, hr6, hr7, hf5, hf6, hf7, hq, hq2⟩ := HO.out
            obtain ⟨hownA, qA, hdA⟩ := HA1.out
            obtain ⟨hownB, qB, hdB⟩ := HB1.out
            obtain ⟨h5lt, h6lt, h7lt, h56, h57, h67⟩ := HLT.out
            obtain ⟨hs1, hs2, hs3⟩ := HSZ.out
            have hsA := qA.size
            have hsB := qB.size
            have hq2s := hq2.size
            have hqs := HW2.out.1.size
            have e1 : (done ++ [p]).length = done.length + 1 := by simp
            have hdC : ∀ g, (Value.slice a7' (done.length + 1) c7').ownBlock = some g → (Value.slice a7 done.length c7).ownBlock = some g ∨ wB.heap.size ≤ g := fun g hg => by
              rcases hfreshC with h | h
              · exact .inl (h ▸ hg)
              · exact .inr (by have := h g hg; simp at this; omega)
            have hd56 : ∀ g, (Value.slice a5' (done.length + 1) c5').ownBlock = some g → (Value.slice a6 done.length c6).ownBlock ≠ some g := fun g hg e => by
              rcases hdA g hg with h | h
              · exact h56 g h e
              · have := h6lt g e; omega
            have hd57 : ∀ g, (Value.slice a5' (done.length + 1) c5').ownBlock = some g → (Value.slice a7 done.length c7).ownBlock ≠ some g := fun g hg e => by
              rcases hdA g hg with h | h
              · exact h57 g h e
              · have := h7lt g e; omega
            have hd67 : ∀ g, (Value.slice a6' (done.length + 1) c6').ownBlock = some g → (Value.slice a7 done.length c7).ownBlock ≠ some g := fun g hg e => by
              rcases hdB g hg with h | h
              · exact h67 g h e
              · have := h7lt g e; omega
            refine ⟨done ++ [p], todo, by rw [hpt]; simp, by rw [e1], ?_, ?_, ?_, ?_, ?_, ?_, ?_, ?_⟩
            · rw [e1, atC_snoc]
              exact qC.ownsRow (qB.ownsRow hownA (fun g hg _ e => hd56 g hg e)) (fun g hg _ e => hd57 g hg e)
            · rw [e1, plC_snoc, ← HKK.out, ← HPS.out]
              exact qC.ownsRow hownB (fun g hg _ e => hd67 g hg e)
            · rw [e1, lvC_snoc, ← HKK.out, HLV.out]
              exact hownC
            · intro g hg
              rcases hdA g hg with h | h
              · exact hf5 g h
              · exact .inr (by omega)
            · intro g hg
              rcases hdB g hg with h | h
              · exact hf6 g h
              · exact .inr (by omega)
            · intro g hg
              rcases hdC g hg with h | h
              · exact hf7 g h
              · exact .inr (by omega)
            · exact (((hq.trans HKI.out).transNew qA (fun i hi e => by have h := hf5 i e; unfold threeB at h; omega)).transNew qB (fun i hi e => by have h := hf6 i e; unfold threeB at h; omega)).transNew qC (fun i hi e => by have h := hf7 i e; unfold threeB at h; omega)
            · exact (((hq2.transNew HKI.out (fun i hi e => e.elim)).transNew qA (fun i hi e => (hf5 i e).elim id (fun h => by omega))).transNew qB (fun i hi e => (hf6 i e).elim id (fun h => by omega))).transNew qC (fun i hi e => (hf7 i e).elim id (fun h => by omega))
          have HNW := Lib.hid hnew
          clear hownC hgrowC hfreshC qC hnew hlc
          go_wp2_with fail
          go_roundw
          case rel => exact HNW.out
          case measure => simp [intOf]; omega
        | cons z y3 =>
          simp only [Nds.len] at hil
          have hdi : i < x.pre.len := by omega
          have hzm : z ∈ x.pre.list := by rw [← hpre]; simp [Nds.list]
          obtain ⟨hzf, hzl, hzn, hul, hun, hz123⟩ := HM.out z hzm
          have hcw : ∀ j u, cs[j]? = some u → wr.cell? ⟨gM, j, none⟩ = some u := fun j u hu => (hq7.cell (p := ⟨gM, j, none⟩) HQ6.out.2.1 id).trans (HQ6.out.2.2.1 j u hu)
          obtain ⟨⟨na, nn, nm, hn⟩, hy3⟩ := node_at hcw hy
          have s0 : wr.cell? ⟨gM, i * 6, none⟩ = some (.int .u8 _) := hn.s0
          have s1 : wr.cell? ⟨gM, i * 6 + 1, none⟩ = some (.int .i64 _) := hn.s1
          have s2 : wr.cell? ⟨gM, i * 6 + 2, none⟩ = some (.int .i64 _) := hn.s2
          obtain ⟨zv, hzv⟩ : ∃ zv : ByteArray, zv = ⟨z.vars.toArray⟩ := ⟨_, rfl⟩
          have s3 : wr.cell? ⟨gM, i * 6 + 3, none⟩ = some (.string zv) := by rw [hzv]; exact hn.s3
          have s4 := hn.s4
          have s5 : wr.cell? ⟨gM, i * 6 + 5, none⟩ = some (.string _) := hn.s5
          have HV : Hid (∀ W, Calls Try.prog 87 #[.agg #[.int .u8 z.kind.toNat, .int .i64 z.beg, .int .i64 z.fin, .string ⟨z.vars.toArray⟩, .slice na nn nm, .string ⟨z.scope.toArray⟩]] W (fun e w' => e = .returned (.string ⟨(unsaidN z).toArray⟩) ∧ Keeps noB W w')) := fun W => svars_any hzf na nn nm W
          have HSU := Lib.hid (fun W => HSP.out W _ hul hun)
          have HSV := Lib.hid (fun W => HSP.out W _ hzl hzn)
          rw [← hzv] at HSV
          rw [← hzv] at HV
          clear hzv
          have HST7 : Hid (∀ W, Keeps noB wr W → W.cell? ⟨w4.heap.size, 0, none⟩ = some (.string ma) ∧ W.cell? ⟨w4.heap.size, 1, none⟩ = some (.string mu) ∧ W.cell? ⟨w4.heap.size, 2, none⟩ = some (.bool lv)) := fun W q => HST.out W (hq7.trans q)
          obtain ⟨t0, t1, t2⟩ := HST7.out wr (Keeps.refl _ _)
          have hlw : w4.heap.size < wr.heap.size := by have := hq7.size; omega
          have hnw : ¬ w4.heap.size = wr.heap.size := by omega
          have hls := lastK_snoc kk p.1 pre z
          have HNX : Hid (∀ r W, lastK kk p.1 (pre ++ [z]) = r → Keeps noB wr W → TellAt kk p.1 w6 (fun g => w.heap.size + 3 ≤ g ∧ g < w1.heap.size) x.pre.list cs gk (.string ⟨r.toArray⟩) (.int .i64 ((i + 1 : Nat) : Int)) W) := fun r W hr q => by
            refine ⟨i + 1, pre ++ [z], y3, rfl, by simp [hi], by omega, by rw [← hpre]; simp [Nds.list], hy3, by rw [hr], hq7.trans q⟩
          clear hpre hy hq7 hcw hn hy3 hi hgk hzf hzl hzn hul hun
          by_cases hbe : z.beg = p.1
          · have hb1 : ((z.beg : Int) == (p.1 : Int)) = true := by simp [hbe]
            have HR : Hid (lastK kk p.1 (pre ++ [z]) = planK kk (unsaidN z)) := by
              refine Lib.hid ?_
              rw [hls]; unfold tellK; rw [if_pos hbe]
            clear hls hbe
            obtain ⟨us, hus⟩ : ∃ us : ByteArray, us = ⟨(unsaidN z).toArray⟩ := ⟨_, rfl⟩
            rw [← hus] at HV HSU
            have HNX2 := Lib.hid (fun W q => HNX.out _ W HR.out q)
            clear hus HNX
            generalize (⟨(planK kk (unsaidN z)).toArray⟩ : ByteArray) = pu at *
            go_wp2_with fail
            go_region_with (first
              | (go_at_call 87; refine (HV.out _).mono ?_; rintro e7 w7 ⟨rfl, q7⟩
                 have k7 : Keeps noB wr w7 := ((Keeps.refl noB wr).alloc (.cells #[.int .u8 z.kind.toNat, .int .i64 z.beg, .int .i64 z.fin, .string zv, .slice na nn nm, .string ⟨z.scope.toArray⟩] 55)).drew.trans q7
                 have ⟨y0, y1, y2⟩ := HST7.out w7 k7
                 have K7 := Lib.hid k7
                 clear q7 k7)
              | (go_at_call 86; refine (HSU.out _).mono ?_; rintro e8 w8 ⟨rfl, q8⟩
                 have HE8 := Lib.hid (HNX2.out w8 (K7.out.trans q8))
                 clear q8))
            all_goals
              go_wp2_with fail
              go_roundg gk
              case measure => omega
              case rel => exact HE8.out
          · have hb1 : ((z.beg : Int) == (p.1 : Int)) = false := by simp; omega
            by_cases hk : z.kind = 123
            · obtain ⟨hf1, hf2⟩ := hz123 hk
              have hk1 : ((z.kind.toNat : Int) == 123) = true := by rw [hk]; rfl
              by_cases hat : z.fin - 1 = p.1
              · have hb2 : ((z.fin : Int) - 1 == (p.1 : Int)) = true := by simp; omega
                have HR : Hid (lastK kk p.1 (pre ++ [z]) = planK kk z.vars) := by
                  refine Lib.hid ?_
                  rw [hls]; unfold tellK; rw [if_neg hbe, if_pos ⟨hk, hat⟩]
                have HNX2 := Lib.hid (fun W q => HNX.out _ W HR.out q)
                clear hls hbe hat hk HNX
                generalize (⟨(planK kk z.vars).toArray⟩ : ByteArray) = pu at *
                go_wp2_with (go_at_call 86; refine (HSV.out _).mono ?_; rintro e8 w8 ⟨rfl, q8⟩; have HE8 := Lib.hid (HNX2.out w8 (((Keeps.refl noB wr).alloc _).trans q8)); clear q8)
                go_roundg gk
                case measure => omega
                case rel => exact HE8.out
              · have hb2 : ((z.fin : Int) - 1 == (p.1 : Int)) = false := by simp; omega
                have HR : Hid (lastK kk p.1 (pre ++ [z]) = lastK kk p.1 pre) := by
                  refine Lib.hid ?_
                  rw [hls]; unfold tellK; rw [if_neg hbe, if_neg (fun e => hat e.2)]
                have HE8 := Lib.hid (HNX.out _ _ HR.out ((Keeps.refl noB wr).alloc (.cells #[.int .u8 z.kind.toNat, .int .i64 z.beg, .int .i64 z.fin, .string zv, .slice na nn nm, .string ⟨z.scope.toArray⟩] 55)))
                clear hls hbe hat hk HNX
                go_wp2_with fail
                go_roundg gk
                case measure => omega
                case rel => exact HE8.out
            · have hk1 : ((z.kind.toNat : Int) == 123) = false := by
                rw [beq_eq_false_iff_ne]
                exact fun e => hk (UInt8.toNat_inj.1 (by have : (123 : UInt8).toNat = 123 := rfl; omega))
              have HR : Hid (lastK kk p.1 (pre ++ [z]) = lastK kk p.1 pre) := by
                refine Lib.hid ?_
                rw [hls]; unfold tellK; rw [if_neg hbe, if_neg (fun e => hk e.1)]
              have HE8 := Lib.hid (HNX.out _ _ HR.out ((Keeps.refl noB wr).alloc (.cells #[.int .u8 z.kind.toNat, .int .i64 z.beg, .int .i64 z.fin, .string zv, .slice na nn nm, .string ⟨z.scope.toArray⟩] 55)))
              clear hls hbe hk HNX
              go_wp2_with fail
              go_roundg gk
              case measure => omega
              case rel => exact HE8.out

end Go.Proofs.Ytcpbkohpgchckaa

namespace Go.Proofs.Ytcpbkohpgchckaa
set_option linter.unusedVariables false
set_option linter.unusedSimpArgs false
open Go.RowKit

theorem seach5_any (s : ByteArray) (hs : s.size ≤ 1048576) (w : World) : Calls Try.prog 56 #[.string s] w (EachPost5 w (progP s)) := by
  cases hp : progP s with
  | none => exact seach5_none s hs hp w
  | some x => exact seach5_some s hs x hp w

end Go.Proofs.Ytcpbkohpgchckaa

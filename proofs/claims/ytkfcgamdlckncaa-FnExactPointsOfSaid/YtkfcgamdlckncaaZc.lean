/-
  Walks of the model: l3Points, the points of a program in ascending order.
-/
import Derived.Test.YtkfcgamdlckncaaPyW
import Derived.Test.YtkfcgamdlckncaaWqV
import Derived.Deep.QuietTactic
import Derived.BigQuiet
import Derived.Test.YtkfcgamdlckncaaEbW
import Derived.Test.YtkfcgamdlckncaaSqW
namespace Go.Proofs.Ytkfcgamdlckncaa
set_option linter.unusedVariables false
set_option linter.unusedSimpArgs false
open Go.RowKit

def twoP (a b : Nat) : Nat → Prop := fun k => k = a ∨ k = b

/-! ### the points as they are put in one by one -/
/-- What is gathered when some ends have been put in. -/
def insL (x : Nd) (ed : List Nat) : List Nat := ed.foldl (fun l e => insN e l) (begsL x.pre.list)
theorem insL_snoc (x : Nd) (ed : List Nat) (e : Nat) : insL x (ed ++ [e]) = insN e (insL x ed) := by unfold insL; rw [List.foldl_append]; rfl

theorem insN_pos (e : Nat) (l : List Nat) : 0 < (insN e l).length := by unfold insN; rw [List.length_append, List.length_cons]; omega
theorem fold_pos : ∀ (ed l : List Nat), 0 < l.length → 0 < (ed.foldl (fun l e => insN e l) l).length
  | [], l, h => h
  | e :: ed, l, _ => fold_pos ed (insN e l) (insN_pos e l)
theorem insL_pos (x : Nd) (ed : List Nat) : 0 < (insL x ed).length := by
  refine fold_pos ed _ ?_
  obtain ⟨c, b, e, vs, ar, bs⟩ := x
  show 0 < (begsL (Nd.mk c b e vs ar bs :: bs.pre.list)).length
  unfold begsL
  simp

theorem ends_in {s : ByteArray} {x : Nd} (hp : progP s = some x) {a : Nat} (h : a ∈ begsL x.pre.list ∨ a ∈ endsL x.pre.list) : a ≤ 80 := by
  have hm : a ∈ x.pts.map Prod.fst := (Nd.pts_perm x).mem_iff.2 (List.mem_append.2 h)
  obtain ⟨p, hpm, rfl⟩ := List.mem_map.1 hm
  exact (progP_pts hp p hpm).2.2

theorem insL_ok {s : ByteArray} {x : Nd} (hp : progP s = some x) {ed er : List Nat} (h : endsL x.pre.list = ed ++ er) : Asc (insL x ed) ∧ (insL x ed).length ≤ 81 ∧ ∀ a ∈ insL x ed, a ≤ 80 := by
  have hA := pts_ascN (progP_sp hp) (progP_fit hp)
  have hP := Nd.pts_perm x
  have hN : (begsL x.pre.list ++ endsL x.pre.list).Nodup := hP.nodup_iff.1 (hA.imp (fun hlt => by omega))
  have hB : Asc (begsL x.pre.list) := hA.sublist (Nd.begs_sub x)
  have hN2 : (begsL x.pre.list ++ ed).Nodup := by
    rw [h, ← List.append_assoc] at hN
    exact (List.nodup_append.1 hN).1
  obtain ⟨f1, f2⟩ := fold_asc ed (begsL x.pre.list) hB hN2
  have hb : ∀ a ∈ insL x ed, a ≤ 80 := fun a ha => by
    rcases (f2 a).1 ha with h1 | h1
    · exact ends_in hp (.inl h1)
    · exact ends_in hp (.inr (by rw [h]; exact List.mem_append_left _ h1))
  refine ⟨f1, ?_, hb⟩
  have := asc_len (insL x ed) 0 81 f1 (fun a ha => by have := hb a ha; omega)
  omega

theorem endsL_snoc (l : List Nd) (z : Nd) : endsL (l ++ [z]) = endsL l ++ (if z.kind = 123 then [z.fin - 1] else []) := by
  rw [endsL_app]
  congr 1
  unfold endsL
  by_cases h : z.kind = 123
  · rw [if_pos h, List.filter_cons, if_pos (by simp [h])]; rfl
  · rw [if_neg h, List.filter_cons, if_neg (by simp [h])]; rfl
theorem begsL_snoc (l : List Nd) (z : Nd) : begsL (l ++ [z]) = begsL l ++ [z.beg] := by rw [begsL_app]; rfl
theorem endsL_len (l : List Nd) : (endsL l).length ≤ l.length := by unfold endsL; rw [List.length_map]; exact List.length_filter_le _ _

theorem addr_at (g k j : Nat) : (⟨g, k, none⟩ : Addr).add j = ⟨g, k + j, none⟩ := by
  unfold Addr.add
  split <;> simp_all

/-- What the first loop holds: the begins, the ends. -/
def PtsAt (w w1 : World) (ok : Nat → Prop) (all : List Nd) (cs : List Value) (g : Nat) (vo ve vi : Value) (wr : World) : Prop :=
  ∃ (i : Nat) (pre : List Nd) (y : Nds), vi = .int .i64 i ∧ i = pre.length ∧ all.length < i + g ∧ pre ++ y.list = all ∧ RepSL w1 ok y (cs.drop (i * 6)) ∧
    wr.ownsRow 0 3 1 vo (begsL pre).length ((begsL pre).map fun k => i64 k) ∧ wr.ownsRow 0 3 1 ve (endsL pre).length ((endsL pre).map fun k => i64 k) ∧
    (∀ g, vo.ownBlock = some g → g = w.heap.size + 1 ∨ w1.heap.size ≤ g) ∧ (∀ g, ve.ownBlock = some g → g = w.heap.size + 2 ∨ w1.heap.size ≤ g) ∧ (∀ g, vo.ownBlock = some g → ve.ownBlock ≠ some g) ∧
    w.heap.size + 2 < w1.heap.size ∧ Keeps noB w wr ∧ Keeps (twoP (w.heap.size + 1) (w.heap.size + 2)) w1 wr

/-- What the second loop holds: some ends have been put in. -/
def InsAt (w : World) (x : Nd) (vE : Value) (nE : Nat) (vo vi : Value) (wr : World) : Prop :=
  ∃ (ed er : List Nat), endsL x.pre.list = ed ++ er ∧ vi = .int .i64 ed.length ∧ wr.ownsRow 0 3 1 vo (insL x ed).length ((insL x ed).map fun k => i64 k) ∧ (∀ g, vo.ownBlock = some g → w.heap.size ≤ g) ∧
    wr.ownsRow 0 3 1 vE nE ((endsL x.pre.list).map fun k => i64 k) ∧ Keeps noB w wr

set_option maxRecDepth 100000 in
set_option maxHeartbeats 8000000 in
theorem spoints_any {s : ByteArray} {x : Nd} (hp : progP s = some x) (w : World) (ok : Nat → Prop) (hok : ∀ g, ok g → g < w.heap.size) (x0 x1 x2 : Int) (x3 x7 : ByteArray) (x4 : Option Addr) (x5 x6 : Nat)
    (hrep : RepS w ok x [.int .u8 x0, .int .i64 x1, .int .i64 x2, .string x3, .slice x4 x5 x6, .string x7]) :
    Calls Try.prog 58 #[.agg #[.int .u8 x0, .int .i64 x1, .int .i64 x2, .string x3, .slice x4 x5 x6, .string x7]] w (fun e w' => ∃ v, e = .returned v ∧ Row w' (fromB w.heap.size) 3 1 v (x.pts.map Prod.fst).length ((x.pts.map Prod.fst).map fun k => i64 k) ∧ Keeps noB w w') := by
  obtain ⟨i0, hi, hz0, hz1, hz2⟩ := info_parts Try.infoI3
  have HI := Lib.hid (And.intro hi (And.intro hz0 (And.intro hz1 hz2)))
  have HF := Lib.hid (progP_few hp)
  have HIN := Lib.hid (fun ed er h => insL_ok (ed := ed) (er := er) hp h)
  have HPE := Lib.hid (points_eq hp)
  have hlt0 := (Nd.pts_in x (progP_sp hp) (progP_fit hp) (x.beg, unsaidN x) (by rw [Nd.pts_eq]; simp)).2
  have HB80 := Lib.hid (fun a h => ends_in hp (a := a) h)
  have HZ : Hid (∀ z ∈ x.pre.list, z.kind = 123 → 1 ≤ z.fin ∧ z.fin ≤ 81) := fun z hz hk => by
    obtain ⟨h1, h2⟩ := pre_fs x.pre.len x rfl (progP_sp hp) (progP_fit hp) z hz
    have h3 := (Nd.pts_in z h1 h2 (z.beg, unsaidN z) (by rw [Nd.pts_eq]; simp)).2
    have h3 : z.beg < z.fin := h3
    refine ⟨by omega, ?_⟩
    have h5 : z.fin - 1 ≤ 80 := ends_in hp (.inr (by unfold endsL; exact List.mem_map.2 ⟨z, List.mem_filter.2 ⟨hz, by simp [hk]⟩, rfl⟩))
    omega
  clear hi hz0 hz1 hz2
  obtain ⟨w1, hw1⟩ : ∃ w1, w1 = ((w.alloc (.cells #[.int .u8 x0, .int .i64 x1, .int .i64 x2, .string x3, .slice x4 x5 x6, .string x7] 57)).alloc (.cells #[] 3)).alloc (.cells #[] 3) := ⟨_, rfl⟩
  have q1 : Keeps noB w w1 := by rw [hw1]; exact (((Keeps.refl _ _).alloc _).alloc _).alloc _
  have hs1 : w1.heap.size = w.heap.size + 3 := by rw [hw1]; simp
  have o1 : w1.ownsRow 0 3 1 (.slice (some ⟨w.heap.size + 1, 0, none⟩) 0 0) 0 [] := by
    rw [hw1]
    have := World.ownsRow_made (w.alloc (.cells #[.int .u8 x0, .int .i64 x1, .int .i64 x2, .string x3, .slice x4 x5 x6, .string x7] 57)) #[] 0 (e := 3) (size := 1) (Nat.zero_le _) (by simp [maxLen]) rfl
    rw [World.size_alloc] at this
    exact this.alloc _
  have o2 : w1.ownsRow 0 3 1 (.slice (some ⟨w.heap.size + 2, 0, none⟩) 0 0) 0 [] := by
    rw [hw1]
    have := World.ownsRow_made ((w.alloc (.cells #[.int .u8 x0, .int .i64 x1, .int .i64 x2, .string x3, .slice x4 x5 x6, .string x7] 57)).alloc (.cells #[] 3)) #[] 0 (e := 3) (size := 1) (Nat.zero_le _) (by simp [maxLen]) rfl
    rw [World.size_alloc, World.size_alloc] at this
    exact this
  have HE := Lib.hid (each_all x.pre.len x _ w1 (fun g => g < w.heap.size ∧ ok g) rfl (by have := HF.out; omega)
    ((Hands.of_keeps (ok := ok) q1 (fun g _ _ e => e) (fun g hg hl => ⟨by omega, hg⟩)).repS x _ hrep) (fun g hg => by have := hg.1; omega))
  have HQ1 := Lib.hid (And.intro q1 (And.intro o1 (And.intro o2 hs1)))
  have HW1 := Lib.hid hw1
  clear q1 o1 o2 hrep hw1 hs1 hlt0
  go_enter Try.func58, Try.ntmps58
  go_wp2_with fail
  rw [← HW1.out]
  refine HE.out.mono ?_
  rintro e w2 ⟨v, rfl, hout⟩
  obtain ⟨hp0, cs, hown, hrep, hfrom, q2⟩ := hout
  obtain ⟨g, n, hv, _, hg, hcell⟩ := row_at (ok := fun _ => True) ⟨hown, fun _ _ => trivial⟩ hp0
  subst hv
  have hgf : w1.heap.size ≤ g := hfrom g rfl
  have hs2 := q2.size
  have hs1 := HQ1.out.2.2.2
  have HP : Hid (PtsAt w w2 (fun g => g < w.heap.size ∧ ok g) x.pre.list cs (x.pre.len + 1) (.slice (some ⟨w.heap.size + 1, 0, none⟩) 0 0) (.slice (some ⟨w.heap.size + 2, 0, none⟩) 0 0) (.int .i64 0) w2) := by
    refine ⟨0, [], x.pre, rfl, rfl, by rw [Nds.list_len]; omega, rfl, by simpa using hrep, ?_, ?_, ?_, ?_, ?_, by omega, HQ1.out.1.trans q2, Keeps.refl _ _⟩
    · exact q2.ownsRow HQ1.out.2.1 (fun _ _ _ e => e)
    · exact q2.ownsRow HQ1.out.2.2.1 (fun _ _ _ e => e)
    · intro g hg; exact .inl (by simpa [Value.ownBlock] using hg.symm)
    · intro g hg; exact .inl (by simpa [Value.ownBlock] using hg.symm)
    · intro g hg e; simp [Value.ownBlock] at hg e; omega
  have hpl : x.pre.len ≤ 80 := by have := HF.out; omega
  have HR := Lib.hid (And.intro hcell (And.intro hg (And.intro hgf (And.intro hs2 (And.intro hs1 (HQ1.out.1.trans q2))))))
  clear hown hrep hfrom q2 hcell hg hgf hs2 hs1
  go_upto_region 4 with fail
  go_loopg [3, 4, 15] (x.pre.len + 1) (fun g vo ve vi wr => PtsAt w w2 (fun g => g < w.heap.size ∧ ok g) x.pre.list cs g vo ve vi wr)
  case atStart => exact HP.out
  case round =>
    clear HP
    obtain ⟨i, pre, y, rfl, hi, hgk, hpre, hy, hrow1, hrow2, hfr1, hfr2, hdj, hww, hq, hq2⟩ := hrel
    cases gk with
    | zero => rw [← hpre] at hgk; simp at hgk; omega
    | succ gk =>
    have hil := congrArg List.length hpre
    rw [List.length_append, Nds.list_len, Nds.list_len, ← hi] at hil
    obtain ⟨L1, hL1⟩ : ∃ L, L = begsL pre := ⟨_, rfl⟩
    obtain ⟨L2, hL2⟩ : ∃ L, L = endsL pre := ⟨_, rfl⟩
    have hn1 : L1.length = pre.length := by rw [hL1]; unfold begsL; rw [List.length_map]
    have hn2 : L2.length ≤ pre.length := by rw [hL2]; exact endsL_len pre
    rw [← hL1] at hrow1
    rw [← hL2] at hrow2
    obtain ⟨n1, hN1⟩ : ∃ n, n = L1.length := ⟨_, rfl⟩
    obtain ⟨n2, hN2⟩ : ∃ n, n = L2.length := ⟨_, rfl⟩
    rw [← hN1] at hrow1 hn1
    rw [← hN2] at hrow2 hn2
    obtain ⟨a, c, rfl⟩ := row_slice (ok := fun _ => True) ⟨hrow1, fun _ _ => trivial⟩
    obtain ⟨b, c2, rfl⟩ := row_slice (ok := fun _ => True) ⟨hrow2, fun _ _ => trivial⟩
    cases y with
    | nil =>
      simp only [Nds.len] at hil
      have hd : ¬ i < x.pre.len := by omega
      simp only [Nds.list, List.append_nil] at hpre
      have HI2 : Hid (InsAt w x (.slice b n2 c2) n2 (.slice a n1 c) (.int .i64 0) wr) := by
        refine ⟨[], endsL x.pre.list, rfl, rfl, ?_, ?_, ?_, hq⟩
        · show wr.ownsRow 0 _ 1 _ (begsL x.pre.list).length ((begsL x.pre.list).map fun k => i64 k)
          rw [← hpre, ← hL1, ← hN1]; exact hrow1
        · intro g hg; have := hfr1 g hg; omega
        · rw [← hpre, ← hL2]; exact hrow2
      have hn80 : n2 ≤ 80 := by omega
      have HNE : Hid (n2 = (endsL x.pre.list).length) := by rw [← hpre, ← hL2]; exact hN2
      clear hpre hrow1 hrow2 hfr1 hfr2 hdj hq hq2 hy hL1 hL2 hN1 hN2 hn1 hn2 hgk hil hi
      go_upto_region 11 with fail
      go_loopw [3, 36] (fun vo vi wr => InsAt w x (.slice b n2 c2) n2 vo vi wr) (fun _ vi _ => n2 - (intOf vi).toNat)
      case atStart => exact HI2.out
      case round =>
        clear HI2
        obtain ⟨ed, er, hE, rfl, hrow, hfr, hrE, hq⟩ := hrel
        obtain ⟨hA, hlen, hb⟩ := HIN.out ed er hE
        have hpos := insL_pos x ed
        obtain ⟨L, hL⟩ : ∃ L, L = insL x ed := ⟨_, rfl⟩
        rw [← hL] at hrow hA hlen hb hpos
        obtain ⟨nL, hnL⟩ : ∃ n, n = L.length := ⟨_, rfl⟩
        rw [← hnL] at hrow hpos hlen
        obtain ⟨gO, cO, rfl, _, hgO, hcellO⟩ := row_get (ok := fun _ => True) ⟨hrow, fun _ _ => trivial⟩ hpos
        have hel := congrArg List.length hE
        rw [List.length_append, ← HNE.out] at hel
        cases er with
        | nil =>
          have hd : ¬ ed.length < n2 := by simp at hel; omega
          have HX : Hid (Row wr (fromB w.heap.size) 3 1 (.slice (some ⟨gO, 0, none⟩) nL cO) (x.pts.map Prod.fst).length ((x.pts.map Prod.fst).map fun k => i64 k) ∧ Keeps noB w wr) := by
            have e1 : x.pts.map Prod.fst = L := by rw [hL, ← HPE.out]; unfold insL; rw [hE, List.append_nil]
            rw [e1, ← hnL]
            exact ⟨⟨hrow, fun g hg => hfr g hg⟩, hq⟩
          clear hrow hfr hrE hq hA hlen hb hpos hL hnL hE hel hcellO hgO
          go_wp2_with fail
          go_ret
          exact ⟨_, rfl, HX.out.1, HX.out.2⟩
        | cons e er =>
          have hd : ed.length < n2 := by simp at hel; omega
          obtain ⟨gE, cE, hvE, _, hgE, hcellE⟩ := row_get (ok := fun _ => True) ⟨hrE, fun _ _ => trivial⟩ (by omega)
          obtain ⟨rfl, rfl⟩ : b = some ⟨gE, 0, none⟩ ∧ c2 = cE := by simpa using hvE
          have s0 : wr.cell? ⟨gE, ed.length, none⟩ = some (.int .i64 (e : Int)) := hcellE ed.length _ (by rw [hE]; simp [i64])
          have he80 : e ≤ 80 := HB80.out e (.inr (by rw [hE]; simp))
          have hnl81 : nL ≤ 81 := hlen
          have HC : Hid (∀ W, Keeps noB wr W → ∀ (j v : Nat), L[j]? = some v → W.cell? ⟨gO, j, none⟩ = some (.int .i64 (v : Int))) := fun W q j v hj =>
            (q.cell (p := ⟨gO, j, none⟩) hgO id).trans (hcellO j _ (by rw [List.getElem?_map, hj]; rfl))
          have HNX : Hid (∀ v' W, W.ownsRow 0 3 1 v' (nL + 1) ((insN e L).map fun k => i64 k) → (∀ g, v'.ownBlock = some g → wr.heap.size ≤ g) → Keeps noB wr W → (insN e L).length = nL + 1 → InsAt w x (.slice (some ⟨gE, 0, none⟩) n2 c2) n2 v' (.int .i64 ((ed.length + 1 : Nat) : Int)) W) := fun v' W ho hfr2 q hln => by
            have e2 : insL x (ed ++ [e]) = insN e L := by rw [insL_snoc, ← hL]
            refine ⟨ed ++ [e], er, by rw [hE]; simp, by simp, ?_, fun g hg => by have := hfr2 g hg; have := hq.size; omega, q.ownsRow hrE (fun _ _ _ e => e), hq.trans q⟩
            rw [e2, hln]; exact ho
          have HA := Lib.hid (And.intro hA hnL)
          have hcap : nL ≤ cO := by
            rcases hrow.2 with ⟨h, _⟩ | ⟨g2, cap, cur, h, _, _, hnc, _⟩
            · cases h
            · obtain ⟨_, rfl⟩ : _ ∧ cO = cap := by simpa using h
              exact hnc
          have hln : L.length = nL := hnL.symm
          have HDN := Lib.hid hd
          clear hrow hfr hrE hq hA hb hL hE hel hcellO hcellE hvE hnL
          go_upto_region 14 with fail
          go_loopw [9] (fun vk W => ∃ k : Nat, vk = .int .i64 (k : Int) ∧ k ≤ nL ∧ (∀ j (hj : j < L.length), k ≤ j → e < L[j]) ∧ W = wr) (fun vk _ => (intOf vk).toNat)
          case atStart => exact ⟨nL, rfl, Nat.le_refl _, fun j hj hk => by omega, rfl⟩
          case round =>
            obtain ⟨k, rfl, hk, hgt, rfl⟩ := hrel
            have HG := Lib.hid hgt
            have hkc : k ≤ cO := by omega
            clear hgt
            rcases Nat.eq_zero_or_pos k with h0 | h0
            · have hk0 : ¬ 0 < k := by omega
              have HCUT : Hid (L.take k ++ e :: L.drop k = insN e L) := insN_cut HA.out.1 (by omega) HG.out (.inl h0)
              have H0 := Lib.hid h0
              clear h0 hd
              go_wp2_with fail
              by_cases hck : cO = k
              · have hck2 : k = cO := hck.symm
                subst hck2
                clear hck
                have HTc : Hid (∀ W, Keeps noB wr W → ∀ j u, ((L.take k).map fun k => i64 k)[j]? = some u → W.cell? ((⟨gO, 0, none⟩ : Addr).add j) = some u) := fun W q j u hu => by
                  rw [addr_at, Nat.zero_add]
                  rw [List.getElem?_map] at hu
                  cases hj : (L.take k)[j]? with
                  | none => rw [hj] at hu; cases hu
                  | some v =>
                    rw [hj] at hu
                    injection hu with hu
                    rw [← hu]
                    exact HC.out W q j v (by rw [List.getElem?_take] at hj; split at hj <;> first | exact hj | cases hj)
                have HDc : Hid (∀ W, Keeps noB wr W → ∀ j u, ((L.drop k).map fun k => i64 k)[j]? = some u → W.cell? ((⟨gO, 0, none⟩ : Addr).add j) = some u) := fun W q j u hu => by
                  rw [List.getElem?_map, List.getElem?_drop] at hu
                  cases hj : L[k + j]? with
                  | none => rw [hj] at hu; cases hu
                  | some v =>
                    have hlt : k + j < L.length := (List.getElem?_eq_some_iff.1 hj).1
                    rw [hj] at hu
                    injection hu with hu
                    rw [← hu]
                    first
                      | (rw [addr_at]; exact HC.out W q (k + j) v hj)
                      | (exfalso; omega)
                have HTl : Hid (((L.take k).map fun k => i64 k).length = k * 1) := Lib.hid (by rw [List.length_map, List.length_take]; omega)
                have HDl : Hid (((L.drop k).map fun k => i64 k).length = 0 * 1) := Lib.hid (by rw [List.length_map, List.length_drop]; omega)
                have H1T : Hid (∀ u ∈ (L.take k).map fun k => i64 k, u.oneCell' = true) := fun u hu => by obtain ⟨a, _, rfl⟩ := List.mem_map.1 hu; rfl
                have H1D : Hid (∀ u ∈ (L.drop k).map fun k => i64 k, u.oneCell' = true) := fun u hu => by obtain ⟨a, _, rfl⟩ := List.mem_map.1 hu; rfl
                have HFIN : Hid (∀ v' W, W.ownsRow 0 3 1 v' (k + 1 + 0) (((L.take k).map fun k => i64 k) ++ [i64 e] ++ ((L.drop k).map fun k => i64 k)) → (∀ g, v'.ownBlock = some g → wr.heap.size ≤ g) → Keeps noB wr W → InsAt w x (.slice (some ⟨gE, 0, none⟩) n2 c2) n2 v' (.int .i64 ((ed.length + 1 : Nat) : Int)) W ∧ ∃ a c, v' = .slice a (k + 1 + 0) c) := fun v' W ho hf q => by
                  refine ⟨HNX.out v' W ?_ hf q ?_, row_shape (ok := fun _ => True) ⟨ho, fun _ _ => trivial⟩⟩
                  · rw [← HCUT.out, List.map_append, List.map_cons]
                    rw [List.append_assoc] at ho
                    have e1 : k + 1 + 0 = nL + 1 := by omega
                    rw [e1] at ho
                    exact ho
                  · rw [← HCUT.out, List.length_append, List.length_cons, List.length_take, List.length_drop]; omega
                have HMADE : Hid (∀ W, Keeps noB wr W → (W.alloc (.cells #[] 3)).ownsRow 0 3 1 (.slice (some ⟨W.heap.size, 0, none⟩) 0 0) 0 []) := fun W _ => World.ownsRow_made W #[] 0 (e := 3) (size := 1) (Nat.zero_le _) (by simp [maxLen]) rfl
                have HMADE2 : Hid (((wr.alloc (.cells #[.int .i64 (e : Int)] 3)).alloc (.cells #[] 3)).ownsRow 0 3 1 (.slice (some ⟨wr.heap.size + 1, 0, none⟩) 0 0) 0 []) := by
                  have := HMADE.out (wr.alloc (.cells #[.int .i64 (e : Int)] 3)) ((Keeps.refl _ _).alloc _)
                  rw [World.size_alloc] at this
                  exact this
                obtain ⟨hi1, hz0, hz1, hz2⟩ := HI.out
                go_region_law (first
                  | (refine step_append_fresh rfl (.tmp 55) (.tmp 58) 24 rfl 3 i0 (.int .i64 0) 1 8 Try.underlying24 hi1 hz0 hz1 hz2 rfl (by decide) (.slice (some ⟨wr.heap.size, 0, none⟩) 0 0) 0 [] (by rfl) (HMADE.out wr (Keeps.refl _ _)) ⟨gO, 0, none⟩ k k ((L.take k).map fun k => i64 k) (by rfl) HTl.out (HTc.out _ (((Keeps.refl noB wr).alloc (.cells #[] 3)).drew)) H1T.out (by unfold maxLen; omega) (by omega) ?_
                     intro v59 w59 ho59 hg59 hf59
                     have q59 : Keeps noB wr w59 := (((Keeps.refl noB wr).alloc (.cells #[] 3)).drew).grown hg59 (fun g hg' => .inr (by simp [Value.ownBlock] at hg'; omega))
                     rw [Nat.zero_add, List.nil_append] at ho59
                     have hb59 : ∀ g, v59.ownBlock = some g → wr.heap.size ≤ g := fun g hg' => by
                       rcases hf59 with h | h
                       · rw [h] at hg'; simp [Value.ownBlock] at hg'; omega
                       · have := h g hg'; simp at this; omega
                     obtain ⟨a59, c59, rfl⟩ := row_shape (ok := fun _ => True) ⟨ho59, fun _ _ => trivial⟩
                     have H59 := Lib.hid (And.intro q59 (And.intro ho59 hb59))
                     clear q59 ho59 hb59 hg59 hf59)
                  | (refine step_append_fresh rfl (.tmp 55) (.tmp 58) 24 rfl 3 i0 (.int .i64 0) 1 8 Try.underlying24 hi1 hz0 hz1 hz2 rfl (by decide) (.slice (some ⟨wr.heap.size, 0, none⟩) 0 0) 0 [] (by rfl) ((HMADE.out wr (Keeps.refl _ _)).alloc (.cells #[.int .i64 (e : Int)] 3)) ⟨gO, 0, none⟩ k k ((L.take k).map fun k => i64 k) (by rfl) HTl.out (HTc.out _ ((((Keeps.refl noB wr).alloc (.cells #[] 3)).alloc (.cells #[.int .i64 (e : Int)] 3)).drew)) H1T.out (by unfold maxLen; omega) (by omega) ?_
                     intro v59 w59 ho59 hg59 hf59
                     have q59 : Keeps noB wr w59 := ((((Keeps.refl noB wr).alloc (.cells #[] 3)).alloc (.cells #[.int .i64 (e : Int)] 3)).drew).grown hg59 (fun g hg' => .inr (by simp [Value.ownBlock] at hg'; omega))
                     rw [Nat.zero_add, List.nil_append] at ho59
                     have hb59 : ∀ g, v59.ownBlock = some g → wr.heap.size ≤ g := fun g hg' => by
                       rcases hf59 with h | h
                       · rw [h] at hg'; simp [Value.ownBlock] at hg'; omega
                       · have := h g hg'; simp at this; omega
                     have hB59 := Blk.new (wr.alloc (.cells #[] 3)) #[.int .i64 (e : Int)] 3
                     rw [World.size_alloc] at hB59
                     have h59 : Hid (Blk w59 (wr.heap.size + 1) #[i64 e] 3) := Lib.hid ((hg59.block (wr.heap.size + 1) (by simp) (fun e => by simp [Value.ownBlock] at e)).trans hB59)
                     clear hB59
                     obtain ⟨a59, c59, rfl⟩ := row_shape (ok := fun _ => True) ⟨ho59, fun _ _ => trivial⟩
                     have H59 := Lib.hid (And.intro q59 (And.intro ho59 hb59))
                     clear q59 ho59 hb59 hg59 hf59)
                  | (refine step_append_fresh rfl (.tmp 55) (.tmp 58) 24 rfl 3 i0 (.int .i64 0) 1 8 Try.underlying24 hi1 hz0 hz1 hz2 rfl (by decide) (.slice (some ⟨wr.heap.size + 1, 0, none⟩) 0 0) 0 [] (by rfl) (HMADE2.out) ⟨gO, 0, none⟩ k k ((L.take k).map fun k => i64 k) (by rfl) HTl.out (HTc.out _ ((((Keeps.refl noB wr).alloc (.cells #[.int .i64 (e : Int)] 3)).alloc (.cells #[] 3)).drew)) H1T.out (by unfold maxLen; omega) (by omega) ?_
                     intro v59 w59 ho59 hg59 hf59
                     have q59 : Keeps noB wr w59 := ((((Keeps.refl noB wr).alloc (.cells #[.int .i64 (e : Int)] 3)).alloc (.cells #[] 3)).drew).grown hg59 (fun g hg' => .inr (by simp [Value.ownBlock] at hg'; omega))
                     rw [Nat.zero_add, List.nil_append] at ho59
                     have hb59 : ∀ g, v59.ownBlock = some g → wr.heap.size ≤ g := fun g hg' => by
                       rcases hf59 with h | h
                       · rw [h] at hg'; simp [Value.ownBlock] at hg'; omega
                       · have := h g hg'; simp at this; omega
                     have h59 : Hid (Blk w59 wr.heap.size #[i64 e] 3) := Lib.hid ((hg59.block wr.heap.size (by simp; omega) (fun e => by simp [Value.ownBlock] at e)).trans ((Blk.new wr #[.int .i64 (e : Int)] 3).alloc (.cells #[] 3)))
                     obtain ⟨a59, c59, rfl⟩ := row_shape (ok := fun _ => True) ⟨ho59, fun _ _ => trivial⟩
                     have H59 := Lib.hid (And.intro q59 (And.intro ho59 hb59))
                     clear q59 ho59 hb59 hg59 hf59)
                  | (refine step_append_fresh rfl (.tmp 59) (.tmp 61) 24 rfl 3 i0 (.int .i64 0) 1 8 Try.underlying24 hi1 hz0 hz1 hz2 rfl (by decide) (.slice a59 k c59) k ((L.take k).map fun k => i64 k) (by rfl) (H59.out.2.1.alloc (.cells #[.int .i64 (e : Int)] 3)) ⟨w59.heap.size, 0, none⟩ 1 1 [i64 e] (by rfl) rfl (cells_one w59 (i64 e) 3) (fun u hu => by simp at hu; subst hu; rfl) (by unfold maxLen; omega) (by omega) ?_
                     intro v62 w62 ho62 hg62 hf62
                     have q62 : Keeps noB wr w62 := (H59.out.1.alloc (.cells #[.int .i64 (e : Int)] 3)).grown hg62 (fun g hg' => .inr (H59.out.2.2 g hg'))
                     have hb62 : ∀ g, v62.ownBlock = some g → wr.heap.size ≤ g := fun g hg' => by
                       rcases hf62 with h | h
                       · rw [h] at hg'; exact H59.out.2.2 g hg'
                       · have h1 := h g hg'; have h2 := H59.out.1.size; (try simp at h1); omega
                     obtain ⟨a62, c62, rfl⟩ := row_shape (ok := fun _ => True) ⟨ho62, fun _ _ => trivial⟩
                     have H62 := Lib.hid (And.intro q62 (And.intro ho62 hb62))
                     clear q62 ho62 hb62 hg62 hf62)
                  | (refine step_append_fresh rfl (.tmp 59) (.tmp 61) 24 rfl 3 i0 (.int .i64 0) 1 8 Try.underlying24 hi1 hz0 hz1 hz2 rfl (by decide) (.slice a59 k c59) k ((L.take k).map fun k => i64 k) (by rfl) (H59.out.2.1) ⟨wr.heap.size + 1, 0, none⟩ 1 1 [i64 e] (by rfl) rfl (fun j u hu => by cases j with | zero => (simp at hu; subst hu; exact h59.out.cell 0) | succ j => simp at hu) (fun u hu => by simp at hu; subst hu; rfl) (by unfold maxLen; omega) (by omega) ?_
                     intro v62 w62 ho62 hg62 hf62
                     have q62 : Keeps noB wr w62 := (H59.out.1).grown hg62 (fun g hg' => .inr (H59.out.2.2 g hg'))
                     have hb62 : ∀ g, v62.ownBlock = some g → wr.heap.size ≤ g := fun g hg' => by
                       rcases hf62 with h | h
                       · rw [h] at hg'; exact H59.out.2.2 g hg'
                       · have h1 := h g hg'; have h2 := H59.out.1.size; (try simp at h1); omega
                     obtain ⟨a62, c62, rfl⟩ := row_shape (ok := fun _ => True) ⟨ho62, fun _ _ => trivial⟩
                     have H62 := Lib.hid (And.intro q62 (And.intro ho62 hb62))
                     clear q62 ho62 hb62 hg62 hf62)
                  | (refine step_append_fresh rfl (.tmp 59) (.tmp 61) 24 rfl 3 i0 (.int .i64 0) 1 8 Try.underlying24 hi1 hz0 hz1 hz2 rfl (by decide) (.slice a59 k c59) k ((L.take k).map fun k => i64 k) (by rfl) (H59.out.2.1) ⟨wr.heap.size, 0, none⟩ 1 1 [i64 e] (by rfl) rfl (fun j u hu => by cases j with | zero => (simp at hu; subst hu; exact h59.out.cell 0) | succ j => simp at hu) (fun u hu => by simp at hu; subst hu; rfl) (by unfold maxLen; omega) (by omega) ?_
                     intro v62 w62 ho62 hg62 hf62
                     have q62 : Keeps noB wr w62 := (H59.out.1).grown hg62 (fun g hg' => .inr (H59.out.2.2 g hg'))
                     have hb62 : ∀ g, v62.ownBlock = some g → wr.heap.size ≤ g := fun g hg' => by
                       rcases hf62 with h | h
                       · rw [h] at hg'; exact H59.out.2.2 g hg'
                       · have h1 := h g hg'; have h2 := H59.out.1.size; (try simp at h1); omega
                     obtain ⟨a62, c62, rfl⟩ := row_shape (ok := fun _ => True) ⟨ho62, fun _ _ => trivial⟩
                     have H62 := Lib.hid (And.intro q62 (And.intro ho62 hb62))
                     clear q62 ho62 hb62 hg62 hf62)
                  | (refine step_append_fresh rfl (.tmp 62) (.tmp 65) 24 rfl 3 i0 (.int .i64 0) 1 8 Try.underlying24 hi1 hz0 hz1 hz2 rfl (by decide) (.slice a62 (k + 1) c62) (k + 1) (((L.take k).map fun k => i64 k) ++ [i64 e]) (by rfl) H62.out.2.1 ⟨gO, 0, none⟩ 0 0 ((L.drop k).map fun k => i64 k) (by rfl) HDl.out (HDc.out _ H62.out.1) H1D.out (by unfold maxLen; omega) (by omega) ?_
                     intro v66 w66 ho66 hg66 hf66
                     have q66 : Keeps noB wr w66 := H62.out.1.grown hg66 (fun g hg' => .inr (H62.out.2.2 g hg'))
                     have hb66 : ∀ g, v66.ownBlock = some g → wr.heap.size ≤ g := fun g hg' => by
                       rcases hf66 with h | h
                       · rw [h] at hg'; exact H62.out.2.2 g hg'
                       · have h1 := h g hg'; have h2 := H62.out.1.size; (try simp at h1); omega
                     obtain ⟨hins, a66, c66, rfl⟩ := HFIN.out v66 w66 ho66 hb66 q66
                     have HE := Lib.hid hins
                     clear hins q66 ho66 hb66 hg66 hf66))
                all_goals
                  have hd := HDN.out
                  go_wp2_with fail
                  go_roundw
                  case rel => exact HE.out
                  case measure => simp [intOf]; omega
              · skip
                have HTc : Hid (∀ W, Keeps noB wr W → ∀ j u, ((L.take k).map fun k => i64 k)[j]? = some u → W.cell? ((⟨gO, 0, none⟩ : Addr).add j) = some u) := fun W q j u hu => by
                  rw [addr_at, Nat.zero_add]
                  rw [List.getElem?_map] at hu
                  cases hj : (L.take k)[j]? with
                  | none => rw [hj] at hu; cases hu
                  | some v =>
                    rw [hj] at hu
                    injection hu with hu
                    rw [← hu]
                    exact HC.out W q j v (by rw [List.getElem?_take] at hj; split at hj <;> first | exact hj | cases hj)
                have HDc : Hid (∀ W, Keeps noB wr W → ∀ j u, ((L.drop k).map fun k => i64 k)[j]? = some u → W.cell? ((⟨gO, k, none⟩ : Addr).add j) = some u) := fun W q j u hu => by
                  rw [List.getElem?_map, List.getElem?_drop] at hu
                  cases hj : L[k + j]? with
                  | none => rw [hj] at hu; cases hu
                  | some v =>
                    have hlt : k + j < L.length := (List.getElem?_eq_some_iff.1 hj).1
                    rw [hj] at hu
                    injection hu with hu
                    rw [← hu]
                    first
                      | (rw [addr_at]; exact HC.out W q (k + j) v hj)
                      | (exfalso; omega)
                have HTl : Hid (((L.take k).map fun k => i64 k).length = k * 1) := Lib.hid (by rw [List.length_map, List.length_take]; omega)
                have HDl : Hid (((L.drop k).map fun k => i64 k).length = (nL - k) * 1) := Lib.hid (by rw [List.length_map, List.length_drop]; omega)
                have H1T : Hid (∀ u ∈ (L.take k).map fun k => i64 k, u.oneCell' = true) := fun u hu => by obtain ⟨a, _, rfl⟩ := List.mem_map.1 hu; rfl
                have H1D : Hid (∀ u ∈ (L.drop k).map fun k => i64 k, u.oneCell' = true) := fun u hu => by obtain ⟨a, _, rfl⟩ := List.mem_map.1 hu; rfl
                have HFIN : Hid (∀ v' W, W.ownsRow 0 3 1 v' (k + 1 + (nL - k)) (((L.take k).map fun k => i64 k) ++ [i64 e] ++ ((L.drop k).map fun k => i64 k)) → (∀ g, v'.ownBlock = some g → wr.heap.size ≤ g) → Keeps noB wr W → InsAt w x (.slice (some ⟨gE, 0, none⟩) n2 c2) n2 v' (.int .i64 ((ed.length + 1 : Nat) : Int)) W ∧ ∃ a c, v' = .slice a (k + 1 + (nL - k)) c) := fun v' W ho hf q => by
                  refine ⟨HNX.out v' W ?_ hf q ?_, row_shape (ok := fun _ => True) ⟨ho, fun _ _ => trivial⟩⟩
                  · rw [← HCUT.out, List.map_append, List.map_cons]
                    rw [List.append_assoc] at ho
                    have e1 : k + 1 + (nL - k) = nL + 1 := by omega
                    rw [e1] at ho
                    exact ho
                  · rw [← HCUT.out, List.length_append, List.length_cons, List.length_take, List.length_drop]; omega
                have HMADE : Hid (∀ W, Keeps noB wr W → (W.alloc (.cells #[] 3)).ownsRow 0 3 1 (.slice (some ⟨W.heap.size, 0, none⟩) 0 0) 0 []) := fun W _ => World.ownsRow_made W #[] 0 (e := 3) (size := 1) (Nat.zero_le _) (by simp [maxLen]) rfl
                have HMADE2 : Hid (((wr.alloc (.cells #[.int .i64 (e : Int)] 3)).alloc (.cells #[] 3)).ownsRow 0 3 1 (.slice (some ⟨wr.heap.size + 1, 0, none⟩) 0 0) 0 []) := by
                  have := HMADE.out (wr.alloc (.cells #[.int .i64 (e : Int)] 3)) ((Keeps.refl _ _).alloc _)
                  rw [World.size_alloc] at this
                  exact this
                obtain ⟨hi1, hz0, hz1, hz2⟩ := HI.out
                go_region_law (first
                  | (refine step_append_fresh rfl (.tmp 55) (.tmp 58) 24 rfl 3 i0 (.int .i64 0) 1 8 Try.underlying24 hi1 hz0 hz1 hz2 rfl (by decide) (.slice (some ⟨wr.heap.size, 0, none⟩) 0 0) 0 [] (by rfl) (HMADE.out wr (Keeps.refl _ _)) ⟨gO, 0, none⟩ k cO ((L.take k).map fun k => i64 k) (by rfl) HTl.out (HTc.out _ (((Keeps.refl noB wr).alloc (.cells #[] 3)).drew)) H1T.out (by unfold maxLen; omega) (by omega) ?_
                     intro v59 w59 ho59 hg59 hf59
                     have q59 : Keeps noB wr w59 := (((Keeps.refl noB wr).alloc (.cells #[] 3)).drew).grown hg59 (fun g hg' => .inr (by simp [Value.ownBlock] at hg'; omega))
                     rw [Nat.zero_add, List.nil_append] at ho59
                     have hb59 : ∀ g, v59.ownBlock = some g → wr.heap.size ≤ g := fun g hg' => by
                       rcases hf59 with h | h
                       · rw [h] at hg'; simp [Value.ownBlock] at hg'; omega
                       · have := h g hg'; simp at this; omega
                     obtain ⟨a59, c59, rfl⟩ := row_shape (ok := fun _ => True) ⟨ho59, fun _ _ => trivial⟩
                     have H59 := Lib.hid (And.intro q59 (And.intro ho59 hb59))
                     clear q59 ho59 hb59 hg59 hf59)
                  | (refine step_append_fresh rfl (.tmp 55) (.tmp 58) 24 rfl 3 i0 (.int .i64 0) 1 8 Try.underlying24 hi1 hz0 hz1 hz2 rfl (by decide) (.slice (some ⟨wr.heap.size, 0, none⟩) 0 0) 0 [] (by rfl) ((HMADE.out wr (Keeps.refl _ _)).alloc (.cells #[.int .i64 (e : Int)] 3)) ⟨gO, 0, none⟩ k cO ((L.take k).map fun k => i64 k) (by rfl) HTl.out (HTc.out _ ((((Keeps.refl noB wr).alloc (.cells #[] 3)).alloc (.cells #[.int .i64 (e : Int)] 3)).drew)) H1T.out (by unfold maxLen; omega) (by omega) ?_
                     intro v59 w59 ho59 hg59 hf59
                     have q59 : Keeps noB wr w59 := ((((Keeps.refl noB wr).alloc (.cells #[] 3)).alloc (.cells #[.int .i64 (e : Int)] 3)).drew).grown hg59 (fun g hg' => .inr (by simp [Value.ownBlock] at hg'; omega))
                     rw [Nat.zero_add, List.nil_append] at ho59
                     have hb59 : ∀ g, v59.ownBlock = some g → wr.heap.size ≤ g := fun g hg' => by
                       rcases hf59 with h | h
                       · rw [h] at hg'; simp [Value.ownBlock] at hg'; omega
                       · have := h g hg'; simp at this; omega
                     have hB59 := Blk.new (wr.alloc (.cells #[] 3)) #[.int .i64 (e : Int)] 3
                     rw [World.size_alloc] at hB59
                     have h59 : Hid (Blk w59 (wr.heap.size + 1) #[i64 e] 3) := Lib.hid ((hg59.block (wr.heap.size + 1) (by simp) (fun e => by simp [Value.ownBlock] at e)).trans hB59)
                     clear hB59
                     obtain ⟨a59, c59, rfl⟩ := row_shape (ok := fun _ => True) ⟨ho59, fun _ _ => trivial⟩
                     have H59 := Lib.hid (And.intro q59 (And.intro ho59 hb59))
                     clear q59 ho59 hb59 hg59 hf59)
                  | (refine step_append_fresh rfl (.tmp 55) (.tmp 58) 24 rfl 3 i0 (.int .i64 0) 1 8 Try.underlying24 hi1 hz0 hz1 hz2 rfl (by decide) (.slice (some ⟨wr.heap.size + 1, 0, none⟩) 0 0) 0 [] (by rfl) (HMADE2.out) ⟨gO, 0, none⟩ k cO ((L.take k).map fun k => i64 k) (by rfl) HTl.out (HTc.out _ ((((Keeps.refl noB wr).alloc (.cells #[.int .i64 (e : Int)] 3)).alloc (.cells #[] 3)).drew)) H1T.out (by unfold maxLen; omega) (by omega) ?_
                     intro v59 w59 ho59 hg59 hf59
                     have q59 : Keeps noB wr w59 := ((((Keeps.refl noB wr).alloc (.cells #[.int .i64 (e : Int)] 3)).alloc (.cells #[] 3)).drew).grown hg59 (fun g hg' => .inr (by simp [Value.ownBlock] at hg'; omega))
                     rw [Nat.zero_add, List.nil_append] at ho59
                     have hb59 : ∀ g, v59.ownBlock = some g → wr.heap.size ≤ g := fun g hg' => by
                       rcases hf59 with h | h
                       · rw [h] at hg'; simp [Value.ownBlock] at hg'; omega
                       · have := h g hg'; simp at this; omega
                     have h59 : Hid (Blk w59 wr.heap.size #[i64 e] 3) := Lib.hid ((hg59.block wr.heap.size (by simp; omega) (fun e => by simp [Value.ownBlock] at e)).trans ((Blk.new wr #[.int .i64 (e : Int)] 3).alloc (.cells #[] 3)))
                     obtain ⟨a59, c59, rfl⟩ := row_shape (ok := fun _ => True) ⟨ho59, fun _ _ => trivial⟩
                     have H59 := Lib.hid (And.intro q59 (And.intro ho59 hb59))
                     clear q59 ho59 hb59 hg59 hf59)
                  | (refine step_append_fresh rfl (.tmp 59) (.tmp 61) 24 rfl 3 i0 (.int .i64 0) 1 8 Try.underlying24 hi1 hz0 hz1 hz2 rfl (by decide) (.slice a59 k c59) k ((L.take k).map fun k => i64 k) (by rfl) (H59.out.2.1.alloc (.cells #[.int .i64 (e : Int)] 3)) ⟨w59.heap.size, 0, none⟩ 1 1 [i64 e] (by rfl) rfl (cells_one w59 (i64 e) 3) (fun u hu => by simp at hu; subst hu; rfl) (by unfold maxLen; omega) (by omega) ?_
                     intro v62 w62 ho62 hg62 hf62
                     have q62 : Keeps noB wr w62 := (H59.out.1.alloc (.cells #[.int .i64 (e : Int)] 3)).grown hg62 (fun g hg' => .inr (H59.out.2.2 g hg'))
                     have hb62 : ∀ g, v62.ownBlock = some g → wr.heap.size ≤ g := fun g hg' => by
                       rcases hf62 with h | h
                       · rw [h] at hg'; exact H59.out.2.2 g hg'
                       · have h1 := h g hg'; have h2 := H59.out.1.size; (try simp at h1); omega
                     obtain ⟨a62, c62, rfl⟩ := row_shape (ok := fun _ => True) ⟨ho62, fun _ _ => trivial⟩
                     have H62 := Lib.hid (And.intro q62 (And.intro ho62 hb62))
                     clear q62 ho62 hb62 hg62 hf62)
                  | (refine step_append_fresh rfl (.tmp 59) (.tmp 61) 24 rfl 3 i0 (.int .i64 0) 1 8 Try.underlying24 hi1 hz0 hz1 hz2 rfl (by decide) (.slice a59 k c59) k ((L.take k).map fun k => i64 k) (by rfl) (H59.out.2.1) ⟨wr.heap.size + 1, 0, none⟩ 1 1 [i64 e] (by rfl) rfl (fun j u hu => by cases j with | zero => (simp at hu; subst hu; exact h59.out.cell 0) | succ j => simp at hu) (fun u hu => by simp at hu; subst hu; rfl) (by unfold maxLen; omega) (by omega) ?_
                     intro v62 w62 ho62 hg62 hf62
                     have q62 : Keeps noB wr w62 := (H59.out.1).grown hg62 (fun g hg' => .inr (H59.out.2.2 g hg'))
                     have hb62 : ∀ g, v62.ownBlock = some g → wr.heap.size ≤ g := fun g hg' => by
                       rcases hf62 with h | h
                       · rw [h] at hg'; exact H59.out.2.2 g hg'
                       · have h1 := h g hg'; have h2 := H59.out.1.size; (try simp at h1); omega
                     obtain ⟨a62, c62, rfl⟩ := row_shape (ok := fun _ => True) ⟨ho62, fun _ _ => trivial⟩
                     have H62 := Lib.hid (And.intro q62 (And.intro ho62 hb62))
                     clear q62 ho62 hb62 hg62 hf62)
                  | (refine step_append_fresh rfl (.tmp 59) (.tmp 61) 24 rfl 3 i0 (.int .i64 0) 1 8 Try.underlying24 hi1 hz0 hz1 hz2 rfl (by decide) (.slice a59 k c59) k ((L.take k).map fun k => i64 k) (by rfl) (H59.out.2.1) ⟨wr.heap.size, 0, none⟩ 1 1 [i64 e] (by rfl) rfl (fun j u hu => by cases j with | zero => (simp at hu; subst hu; exact h59.out.cell 0) | succ j => simp at hu) (fun u hu => by simp at hu; subst hu; rfl) (by unfold maxLen; omega) (by omega) ?_
                     intro v62 w62 ho62 hg62 hf62
                     have q62 : Keeps noB wr w62 := (H59.out.1).grown hg62 (fun g hg' => .inr (H59.out.2.2 g hg'))
                     have hb62 : ∀ g, v62.ownBlock = some g → wr.heap.size ≤ g := fun g hg' => by
                       rcases hf62 with h | h
                       · rw [h] at hg'; exact H59.out.2.2 g hg'
                       · have h1 := h g hg'; have h2 := H59.out.1.size; (try simp at h1); omega
                     obtain ⟨a62, c62, rfl⟩ := row_shape (ok := fun _ => True) ⟨ho62, fun _ _ => trivial⟩
                     have H62 := Lib.hid (And.intro q62 (And.intro ho62 hb62))
                     clear q62 ho62 hb62 hg62 hf62)
                  | (refine step_append_fresh rfl (.tmp 62) (.tmp 65) 24 rfl 3 i0 (.int .i64 0) 1 8 Try.underlying24 hi1 hz0 hz1 hz2 rfl (by decide) (.slice a62 (k + 1) c62) (k + 1) (((L.take k).map fun k => i64 k) ++ [i64 e]) (by rfl) H62.out.2.1 ⟨gO, k, none⟩ (nL - k) (cO - k) ((L.drop k).map fun k => i64 k) (by rfl) HDl.out (HDc.out _ H62.out.1) H1D.out (by unfold maxLen; omega) (by omega) ?_
                     intro v66 w66 ho66 hg66 hf66
                     have q66 : Keeps noB wr w66 := H62.out.1.grown hg66 (fun g hg' => .inr (H62.out.2.2 g hg'))
                     have hb66 : ∀ g, v66.ownBlock = some g → wr.heap.size ≤ g := fun g hg' => by
                       rcases hf66 with h | h
                       · rw [h] at hg'; exact H62.out.2.2 g hg'
                       · have h1 := h g hg'; have h2 := H62.out.1.size; (try simp at h1); omega
                     obtain ⟨hins, a66, c66, rfl⟩ := HFIN.out v66 w66 ho66 hb66 q66
                     have HE := Lib.hid hins
                     clear hins q66 ho66 hb66 hg66 hf66))
                all_goals
                  have hd := HDN.out
                  go_wp2_with fail
                  go_roundw
                  case rel => exact HE.out
                  case measure => simp [intOf]; omega
            · obtain ⟨v, hv⟩ : ∃ v, L[k - 1]? = some v := ⟨_, List.getElem?_eq_getElem (by omega)⟩
              have s1 := HC.out wr (Keeps.refl _ _) (k - 1) v hv
              have h1 : ((k : Int) - 1).toNat = k - 1 := by omega
              have h2 : (0 : Int) ≤ (k : Int) - 1 := by omega
              have h3 : (k : Int) - 1 < (nL : Int) := by omega
              have h4 : (k : Int) - 1 = ((k - 1 : Nat) : Int) := by omega
              by_cases hc : e < v
              · have hdc : decide ((e : Int) < (v : Int)) = true := by simp; omega
                have HN : Hid (∀ j (hj : j < L.length), k - 1 ≤ j → e < L[j]) := fun j hj hkj => by
                  rcases Nat.lt_or_ge j k with h5 | h5
                  · have h6 : j = k - 1 := by omega
                    have h7 : L[j]? = some v := by rw [h6]; exact hv
                    rw [List.getElem?_eq_getElem hj] at h7
                    injection h7 with h7
                    omega
                  · exact HG.out j hj h5
                clear hv hd
                go_wp2_with fail
                exact ⟨⟨k - 1, rfl, by omega, HN.out, trivial⟩, by simp [intOf]; omega⟩
              · have hdc : decide ((e : Int) < (v : Int)) = false := by simp; omega
                have HCUT : Hid (L.take k ++ e :: L.drop k = insN e L) := insN_cut HA.out.1 (by omega) HG.out (.inr ⟨v, hv, by omega⟩)
                clear hv hd
                go_wp2_with fail
                by_cases hck : cO = k
                · have hck2 : k = cO := hck.symm
                  subst hck2
                  clear hck
                  have HTc : Hid (∀ W, Keeps noB wr W → ∀ j u, ((L.take k).map fun k => i64 k)[j]? = some u → W.cell? ((⟨gO, 0, none⟩ : Addr).add j) = some u) := fun W q j u hu => by
                    rw [addr_at, Nat.zero_add]
                    rw [List.getElem?_map] at hu
                    cases hj : (L.take k)[j]? with
                    | none => rw [hj] at hu; cases hu
                    | some v =>
                      rw [hj] at hu
                      injection hu with hu
                      rw [← hu]
                      exact HC.out W q j v (by rw [List.getElem?_take] at hj; split at hj <;> first | exact hj | cases hj)
                  have HDc : Hid (∀ W, Keeps noB wr W → ∀ j u, ((L.drop k).map fun k => i64 k)[j]? = some u → W.cell? ((⟨gO, 0, none⟩ : Addr).add j) = some u) := fun W q j u hu => by
                    rw [List.getElem?_map, List.getElem?_drop] at hu
                    cases hj : L[k + j]? with
                    | none => rw [hj] at hu; cases hu
                    | some v =>
                      have hlt : k + j < L.length := (List.getElem?_eq_some_iff.1 hj).1
                      rw [hj] at hu
                      injection hu with hu
                      rw [← hu]
                      first
                        | (rw [addr_at]; exact HC.out W q (k + j) v hj)
                        | (exfalso; omega)
                  have HTl : Hid (((L.take k).map fun k => i64 k).length = k * 1) := Lib.hid (by rw [List.length_map, List.length_take]; omega)
                  have HDl : Hid (((L.drop k).map fun k => i64 k).length = 0 * 1) := Lib.hid (by rw [List.length_map, List.length_drop]; omega)
                  have H1T : Hid (∀ u ∈ (L.take k).map fun k => i64 k, u.oneCell' = true) := fun u hu => by obtain ⟨a, _, rfl⟩ := List.mem_map.1 hu; rfl
                  have H1D : Hid (∀ u ∈ (L.drop k).map fun k => i64 k, u.oneCell' = true) := fun u hu => by obtain ⟨a, _, rfl⟩ := List.mem_map.1 hu; rfl
                  have HFIN : Hid (∀ v' W, W.ownsRow 0 3 1 v' (k + 1 + 0) (((L.take k).map fun k => i64 k) ++ [i64 e] ++ ((L.drop k).map fun k => i64 k)) → (∀ g, v'.ownBlock = some g → wr.heap.size ≤ g) → Keeps noB wr W → InsAt w x (.slice (some ⟨gE, 0, none⟩) n2 c2) n2 v' (.int .i64 ((ed.length + 1 : Nat) : Int)) W ∧ ∃ a c, v' = .slice a (k + 1 + 0) c) := fun v' W ho hf q => by
                    refine ⟨HNX.out v' W ?_ hf q ?_, row_shape (ok := fun _ => True) ⟨ho, fun _ _ => trivial⟩⟩
                    · rw [← HCUT.out, List.map_append, List.map_cons]
                      rw [List.append_assoc] at ho
                      have e1 : k + 1 + 0 = nL + 1 := by omega
                      rw [e1] at ho
                      exact ho
                    · rw [← HCUT.out, List.length_append, List.length_cons, List.length_take, List.length_drop]; omega
                  have HMADE : Hid (∀ W, Keeps noB wr W → (W.alloc (.cells #[] 3)).ownsRow 0 3 1 (.slice (some ⟨W.heap.size, 0, none⟩) 0 0) 0 []) := fun W _ => World.ownsRow_made W #[] 0 (e := 3) (size := 1) (Nat.zero_le _) (by simp [maxLen]) rfl
                  have HMADE2 : Hid (((wr.alloc (.cells #[.int .i64 (e : Int)] 3)).alloc (.cells #[] 3)).ownsRow 0 3 1 (.slice (some ⟨wr.heap.size + 1, 0, none⟩) 0 0) 0 []) := by
                    have := HMADE.out (wr.alloc (.cells #[.int .i64 (e : Int)] 3)) ((Keeps.refl _ _).alloc _)
                    rw [World.size_alloc] at this
                    exact this
                  obtain ⟨hi1, hz0, hz1, hz2⟩ := HI.out
                  go_region_law (first
                    | (refine step_append_fresh rfl (.tmp 55) (.tmp 58) 24 rfl 3 i0 (.int .i64 0) 1 8 Try.underlying24 hi1 hz0 hz1 hz2 rfl (by decide) (.slice (some ⟨wr.heap.size, 0, none⟩) 0 0) 0 [] (by rfl) (HMADE.out wr (Keeps.refl _ _)) ⟨gO, 0, none⟩ k k ((L.take k).map fun k => i64 k) (by rfl) HTl.out (HTc.out _ (((Keeps.refl noB wr).alloc (.cells #[] 3)).drew)) H1T.out (by unfold maxLen; omega) (by omega) ?_
                       intro v59 w59 ho59 hg59 hf59
                       have q59 : Keeps noB wr w59 := (((Keeps.refl noB wr).alloc (.cells #[] 3)).drew).grown hg59 (fun g hg' => .inr (by simp [Value.ownBlock] at hg'; omega))
                       rw [Nat.zero_add, List.nil_append] at ho59
                       have hb59 : ∀ g, v59.ownBlock = some g → wr.heap.size ≤ g := fun g hg' => by
                         rcases hf59 with h | h
                         · rw [h] at hg'; simp [Value.ownBlock] at hg'; omega
                         · have := h g hg'; simp at this; omega
                       obtain ⟨a59, c59, rfl⟩ := row_shape (ok := fun _ => True) ⟨ho59, fun _ _ => trivial⟩
                       have H59 := Lib.hid (And.intro q59 (And.intro ho59 hb59))
                       clear q59 ho59 hb59 hg59 hf59)
                    | (refine step_append_fresh rfl (.tmp 55) (.tmp 58) 24 rfl 3 i0 (.int .i64 0) 1 8 Try.underlying24 hi1 hz0 hz1 hz2 rfl (by decide) (.slice (some ⟨wr.heap.size, 0, none⟩) 0 0) 0 [] (by rfl) ((HMADE.out wr (Keeps.refl _ _)).alloc (.cells #[.int .i64 (e : Int)] 3)) ⟨gO, 0, none⟩ k k ((L.take k).map fun k => i64 k) (by rfl) HTl.out (HTc.out _ ((((Keeps.refl noB wr).alloc (.cells #[] 3)).alloc (.cells #[.int .i64 (e : Int)] 3)).drew)) H1T.out (by unfold maxLen; omega) (by omega) ?_
                       intro v59 w59 ho59 hg59 hf59
                       have q59 : Keeps noB wr w59 := ((((Keeps.refl noB wr).alloc (.cells #[] 3)).alloc (.cells #[.int .i64 (e : Int)] 3)).drew).grown hg59 (fun g hg' => .inr (by simp [Value.ownBlock] at hg'; omega))
                       rw [Nat.zero_add, List.nil_append] at ho59
                       have hb59 : ∀ g, v59.ownBlock = some g → wr.heap.size ≤ g := fun g hg' => by
                         rcases hf59 with h | h
                         · rw [h] at hg'; simp [Value.ownBlock] at hg'; omega
                         · have := h g hg'; simp at this; omega
                       have hB59 := Blk.new (wr.alloc (.cells #[] 3)) #[.int .i64 (e : Int)] 3
                       rw [World.size_alloc] at hB59
                       have h59 : Hid (Blk w59 (wr.heap.size + 1) #[i64 e] 3) := Lib.hid ((hg59.block (wr.heap.size + 1) (by simp) (fun e => by simp [Value.ownBlock] at e)).trans hB59)
                       clear hB59
                       obtain ⟨a59, c59, rfl⟩ := row_shape (ok := fun _ => True) ⟨ho59, fun _ _ => trivial⟩
                       have H59 := Lib.hid (And.intro q59 (And.intro ho59 hb59))
                       clear q59 ho59 hb59 hg59 hf59)
                    | (refine step_append_fresh rfl (.tmp 55) (.tmp 58) 24 rfl 3 i0 (.int .i64 0) 1 8 Try.underlying24 hi1 hz0 hz1 hz2 rfl (by decide) (.slice (some ⟨wr.heap.size + 1, 0, none⟩) 0 0) 0 [] (by rfl) (HMADE2.out) ⟨gO, 0, none⟩ k k ((L.take k).map fun k => i64 k) (by rfl) HTl.out (HTc.out _ ((((Keeps.refl noB wr).alloc (.cells #[.int .i64 (e : Int)] 3)).alloc (.cells #[] 3)).drew)) H1T.out (by unfold maxLen; omega) (by omega) ?_
                       intro v59 w59 ho59 hg59 hf59
                       have q59 : Keeps noB wr w59 := ((((Keeps.refl noB wr).alloc (.cells #[.int .i64 (e : Int)] 3)).alloc (.cells #[] 3)).drew).grown hg59 (fun g hg' => .inr (by simp [Value.ownBlock] at hg'; omega))
                       rw [Nat.zero_add, List.nil_append] at ho59
                       have hb59 : ∀ g, v59.ownBlock = some g → wr.heap.size ≤ g := fun g hg' => by
                         rcases hf59 with h | h
                         · rw [h] at hg'; simp [Value.ownBlock] at hg'; omega
                         · have := h g hg'; simp at this; omega
                       have h59 : Hid (Blk w59 wr.heap.size #[i64 e] 3) := Lib.hid ((hg59.block wr.heap.size (by simp; omega) (fun e => by simp [Value.ownBlock] at e)).trans ((Blk.new wr #[.int .i64 (e : Int)] 3).alloc (.cells #[] 3)))
                       obtain ⟨a59, c59, rfl⟩ := row_shape (ok := fun _ => True) ⟨ho59, fun _ _ => trivial⟩
                       have H59 := Lib.hid (And.intro q59 (And.intro ho59 hb59))
                       clear q59 ho59 hb59 hg59 hf59)
                    | (refine step_append_fresh rfl (.tmp 59) (.tmp 61) 24 rfl 3 i0 (.int .i64 0) 1 8 Try.underlying24 hi1 hz0 hz1 hz2 rfl (by decide) (.slice a59 k c59) k ((L.take k).map fun k => i64 k) (by rfl) (H59.out.2.1.alloc (.cells #[.int .i64 (e : Int)] 3)) ⟨w59.heap.size, 0, none⟩ 1 1 [i64 e] (by rfl) rfl (cells_one w59 (i64 e) 3) (fun u hu => by simp at hu; subst hu; rfl) (by unfold maxLen; omega) (by omega) ?_
                       intro v62 w62 ho62 hg62 hf62
                       have q62 : Keeps noB wr w62 := (H59.out.1.alloc (.cells #[.int .i64 (e : Int)] 3)).grown hg62 (fun g hg' => .inr (H59.out.2.2 g hg'))
                       have hb62 : ∀ g, v62.ownBlock = some g → wr.heap.size ≤ g := fun g hg' => by
                         rcases hf62 with h | h
                         · rw [h] at hg'; exact H59.out.2.2 g hg'
                         · have h1 := h g hg'; have h2 := H59.out.1.size; (try simp at h1); omega
                       obtain ⟨a62, c62, rfl⟩ := row_shape (ok := fun _ => True) ⟨ho62, fun _ _ => trivial⟩
                       have H62 := Lib.hid (And.intro q62 (And.intro ho62 hb62))
                       clear q62 ho62 hb62 hg62 hf62)
                    | (refine step_append_fresh rfl (.tmp 59) (.tmp 61) 24 rfl 3 i0 (.int .i64 0) 1 8 Try.underlying24 hi1 hz0 hz1 hz2 rfl (by decide) (.slice a59 k c59) k ((L.take k).map fun k => i64 k) (by rfl) (H59.out.2.1) ⟨wr.heap.size + 1, 0, none⟩ 1 1 [i64 e] (by rfl) rfl (fun j u hu => by cases j with | zero => (simp at hu; subst hu; exact h59.out.cell 0) | succ j => simp at hu) (fun u hu => by simp at hu; subst hu; rfl) (by unfold maxLen; omega) (by omega) ?_
                       intro v62 w62 ho62 hg62 hf62
                       have q62 : Keeps noB wr w62 := (H59.out.1).grown hg62 (fun g hg' => .inr (H59.out.2.2 g hg'))
                       have hb62 : ∀ g, v62.ownBlock = some g → wr.heap.size ≤ g := fun g hg' => by
                         rcases hf62 with h | h
                         · rw [h] at hg'; exact H59.out.2.2 g hg'
                         · have h1 := h g hg'; have h2 := H59.out.1.size; (try simp at h1); omega
                       obtain ⟨a62, c62, rfl⟩ := row_shape (ok := fun _ => True) ⟨ho62, fun _ _ => trivial⟩
                       have H62 := Lib.hid (And.intro q62 (And.intro ho62 hb62))
                       clear q62 ho62 hb62 hg62 hf62)
                    | (refine step_append_fresh rfl (.tmp 59) (.tmp 61) 24 rfl 3 i0 (.int .i64 0) 1 8 Try.underlying24 hi1 hz0 hz1 hz2 rfl (by decide) (.slice a59 k c59) k ((L.take k).map fun k => i64 k) (by rfl) (H59.out.2.1) ⟨wr.heap.size, 0, none⟩ 1 1 [i64 e] (by rfl) rfl (fun j u hu => by cases j with | zero => (simp at hu; subst hu; exact h59.out.cell 0) | succ j => simp at hu) (fun u hu => by simp at hu; subst hu; rfl) (by unfold maxLen; omega) (by omega) ?_
                       intro v62 w62 ho62 hg62 hf62
                       have q62 : Keeps noB wr w62 := (H59.out.1).grown hg62 (fun g hg' => .inr (H59.out.2.2 g hg'))
                       have hb62 : ∀ g, v62.ownBlock = some g → wr.heap.size ≤ g := fun g hg' => by
                         rcases hf62 with h | h
                         · rw [h] at hg'; exact H59.out.2.2 g hg'
                         · have h1 := h g hg'; have h2 := H59.out.1.size; (try simp at h1); omega
                       obtain ⟨a62, c62, rfl⟩ := row_shape (ok := fun _ => True) ⟨ho62, fun _ _ => trivial⟩
                       have H62 := Lib.hid (And.intro q62 (And.intro ho62 hb62))
                       clear q62 ho62 hb62 hg62 hf62)
                    | (refine step_append_fresh rfl (.tmp 62) (.tmp 65) 24 rfl 3 i0 (.int .i64 0) 1 8 Try.underlying24 hi1 hz0 hz1 hz2 rfl (by decide) (.slice a62 (k + 1) c62) (k + 1) (((L.take k).map fun k => i64 k) ++ [i64 e]) (by rfl) H62.out.2.1 ⟨gO, 0, none⟩ 0 0 ((L.drop k).map fun k => i64 k) (by rfl) HDl.out (HDc.out _ H62.out.1) H1D.out (by unfold maxLen; omega) (by omega) ?_
                       intro v66 w66 ho66 hg66 hf66
                       have q66 : Keeps noB wr w66 := H62.out.1.grown hg66 (fun g hg' => .inr (H62.out.2.2 g hg'))
                       have hb66 : ∀ g, v66.ownBlock = some g → wr.heap.size ≤ g := fun g hg' => by
                         rcases hf66 with h | h
                         · rw [h] at hg'; exact H62.out.2.2 g hg'
                         · have h1 := h g hg'; have h2 := H62.out.1.size; (try simp at h1); omega
                       obtain ⟨hins, a66, c66, rfl⟩ := HFIN.out v66 w66 ho66 hb66 q66
                       have HE := Lib.hid hins
                       clear hins q66 ho66 hb66 hg66 hf66))
                  all_goals
                    have hd := HDN.out
                    go_wp2_with fail
                    go_roundw
                    case rel => exact HE.out
                    case measure => simp [intOf]; omega
                · skip
                  have HTc : Hid (∀ W, Keeps noB wr W → ∀ j u, ((L.take k).map fun k => i64 k)[j]? = some u → W.cell? ((⟨gO, 0, none⟩ : Addr).add j) = some u) := fun W q j u hu => by
                    rw [addr_at, Nat.zero_add]
                    rw [List.getElem?_map] at hu
                    cases hj : (L.take k)[j]? with
                    | none => rw [hj] at hu; cases hu
                    | some v =>
                      rw [hj] at hu
                      injection hu with hu
                      rw [← hu]
                      exact HC.out W q j v (by rw [List.getElem?_take] at hj; split at hj <;> first | exact hj | cases hj)
                  have HDc : Hid (∀ W, Keeps noB wr W → ∀ j u, ((L.drop k).map fun k => i64 k)[j]? = some u → W.cell? ((⟨gO, k, none⟩ : Addr).add j) = some u) := fun W q j u hu => by
                    rw [List.getElem?_map, List.getElem?_drop] at hu
                    cases hj : L[k + j]? with
                    | none => rw [hj] at hu; cases hu
                    | some v =>
                      have hlt : k + j < L.length := (List.getElem?_eq_some_iff.1 hj).1
                      rw [hj] at hu
                      injection hu with hu
                      rw [← hu]
                      first
                        | (rw [addr_at]; exact HC.out W q (k + j) v hj)
                        | (exfalso; omega)
                  have HTl : Hid (((L.take k).map fun k => i64 k).length = k * 1) := Lib.hid (by rw [List.length_map, List.length_take]; omega)
                  have HDl : Hid (((L.drop k).map fun k => i64 k).length = (nL - k) * 1) := Lib.hid (by rw [List.length_map, List.length_drop]; omega)
                  have H1T : Hid (∀ u ∈ (L.take k).map fun k => i64 k, u.oneCell' = true) := fun u hu => by obtain ⟨a, _, rfl⟩ := List.mem_map.1 hu; rfl
                  have H1D : Hid (∀ u ∈ (L.drop k).map fun k => i64 k, u.oneCell' = true) := fun u hu => by obtain ⟨a, _, rfl⟩ := List.mem_map.1 hu; rfl
                  have HFIN : Hid (∀ v' W, W.ownsRow 0 3 1 v' (k + 1 + (nL - k)) (((L.take k).map fun k => i64 k) ++ [i64 e] ++ ((L.drop k).map fun k => i64 k)) → (∀ g, v'.ownBlock = some g → wr.heap.size ≤ g) → Keeps noB wr W → InsAt w x (.slice (some ⟨gE, 0, none⟩) n2 c2) n2 v' (.int .i64 ((ed.length + 1 : Nat) : Int)) W ∧ ∃ a c, v' = .slice a (k + 1 + (nL - k)) c) := fun v' W ho hf q => by
                    refine ⟨HNX.out v' W ?_ hf q ?_, row_shape (ok := fun _ => True) ⟨ho, fun _ _ => trivial⟩⟩
                    · rw [← HCUT.out, List.map_append, List.map_cons]
                      rw [List.append_assoc] at ho
                      have e1 : k + 1 + (nL - k) = nL + 1 := by omega
                      rw [e1] at ho
                      exact ho
                    · rw [← HCUT.out, List.length_append, List.length_cons, List.length_take, List.length_drop]; omega
                  have HMADE : Hid (∀ W, Keeps noB wr W → (W.alloc (.cells #[] 3)).ownsRow 0 3 1 (.slice (some ⟨W.heap.size, 0, none⟩) 0 0) 0 []) := fun W _ => World.ownsRow_made W #[] 0 (e := 3) (size := 1) (Nat.zero_le _) (by simp [maxLen]) rfl
                  have HMADE2 : Hid (((wr.alloc (.cells #[.int .i64 (e : Int)] 3)).alloc (.cells #[] 3)).ownsRow 0 3 1 (.slice (some ⟨wr.heap.size + 1, 0, none⟩) 0 0) 0 []) := by
                    have := HMADE.out (wr.alloc (.cells #[.int .i64 (e : Int)] 3)) ((Keeps.refl _ _).alloc _)
                    rw [World.size_alloc] at this
                    exact this
                  obtain ⟨hi1, hz0, hz1, hz2⟩ := HI.out
                  go_region_law (first
                    | (refine step_append_fresh rfl (.tmp 55) (.tmp 58) 24 rfl 3 i0 (.int .i64 0) 1 8 Try.underlying24 hi1 hz0 hz1 hz2 rfl (by decide) (.slice (some ⟨wr.heap.size, 0, none⟩) 0 0) 0 [] (by rfl) (HMADE.out wr (Keeps.refl _ _)) ⟨gO, 0, none⟩ k cO ((L.take k).map fun k => i64 k) (by rfl) HTl.out (HTc.out _ (((Keeps.refl noB wr).alloc (.cells #[] 3)).drew)) H1T.out (by unfold maxLen; omega) (by omega) ?_
                       intro v59 w59 ho59 hg59 hf59
                       have q59 : Keeps noB wr w59 := (((Keeps.refl noB wr).alloc (.cells #[] 3)).drew).grown hg59 (fun g hg' => .inr (by simp [Value.ownBlock] at hg'; omega))
                       rw [Nat.zero_add, List.nil_append] at ho59
                       have hb59 : ∀ g, v59.ownBlock = some g → wr.heap.size ≤ g := fun g hg' => by
                         rcases hf59 with h | h
                         · rw [h] at hg'; simp [Value.ownBlock] at hg'; omega
                         · have := h g hg'; simp at this; omega
                       obtain ⟨a59, c59, rfl⟩ := row_shape (ok := fun _ => True) ⟨ho59, fun _ _ => trivial⟩
                       have H59 := Lib.hid (And.intro q59 (And.intro ho59 hb59))
                       clear q59 ho59 hb59 hg59 hf59)
                    | (refine step_append_fresh rfl (.tmp 55) (.tmp 58) 24 rfl 3 i0 (.int .i64 0) 1 8 Try.underlying24 hi1 hz0 hz1 hz2 rfl (by decide) (.slice (some ⟨wr.heap.size, 0, none⟩) 0 0) 0 [] (by rfl) ((HMADE.out wr (Keeps.refl _ _)).alloc (.cells #[.int .i64 (e : Int)] 3)) ⟨gO, 0, none⟩ k cO ((L.take k).map fun k => i64 k) (by rfl) HTl.out (HTc.out _ ((((Keeps.refl noB wr).alloc (.cells #[] 3)).alloc (.cells #[.int .i64 (e : Int)] 3)).drew)) H1T.out (by unfold maxLen; omega) (by omega) ?_
                       intro v59 w59 ho59 hg59 hf59
                       have q59 : Keeps noB wr w59 := ((((Keeps.refl noB wr).alloc (.cells #[] 3)).alloc (.cells #[.int .i64 (e : Int)] 3)).drew).grown hg59 (fun g hg' => .inr (by simp [Value.ownBlock] at hg'; omega))
                       rw [Nat.zero_add, List.nil_append] at ho59
                       have hb59 : ∀ g, v59.ownBlock = some g → wr.heap.size ≤ g := fun g hg' => by
                         rcases hf59 with h | h
                         · rw [h] at hg'; simp [Value.ownBlock] at hg'; omega
                         · have := h g hg'; simp at this; omega
                       have hB59 := Blk.new (wr.alloc (.cells #[] 3)) #[.int .i64 (e : Int)] 3
                       rw [World.size_alloc] at hB59
                       have h59 : Hid (Blk w59 (wr.heap.size + 1) #[i64 e] 3) := Lib.hid ((hg59.block (wr.heap.size + 1) (by simp) (fun e => by simp [Value.ownBlock] at e)).trans hB59)
                       clear hB59
                       obtain ⟨a59, c59, rfl⟩ := row_shape (ok := fun _ => True) ⟨ho59, fun _ _ => trivial⟩
                       have H59 := Lib.hid (And.intro q59 (And.intro ho59 hb59))
                       clear q59 ho59 hb59 hg59 hf59)
                    | (refine step_append_fresh rfl (.tmp 55) (.tmp 58) 24 rfl 3 i0 (.int .i64 0) 1 8 Try.underlying24 hi1 hz0 hz1 hz2 rfl (by decide) (.slice (some ⟨wr.heap.size + 1, 0, none⟩) 0 0) 0 [] (by rfl) (HMADE2.out) ⟨gO, 0, none⟩ k cO ((L.take k).map fun k => i64 k) (by rfl) HTl.out (HTc.out _ ((((Keeps.refl noB wr).alloc (.cells #[.int .i64 (e : Int)] 3)).alloc (.cells #[] 3)).drew)) H1T.out (by unfold maxLen; omega) (by omega) ?_
                       intro v59 w59 ho59 hg59 hf59
                       have q59 : Keeps noB wr w59 := ((((Keeps.refl noB wr).alloc (.cells #[.int .i64 (e : Int)] 3)).alloc (.cells #[] 3)).drew).grown hg59 (fun g hg' => .inr (by simp [Value.ownBlock] at hg'; omega))
                       rw [Nat.zero_add, List.nil_append] at ho59
                       have hb59 : ∀ g, v59.ownBlock = some g → wr.heap.size ≤ g := fun g hg' => by
                         rcases hf59 with h | h
                         · rw [h] at hg'; simp [Value.ownBlock] at hg'; omega
                         · have := h g hg'; simp at this; omega
                       have h59 : Hid (Blk w59 wr.heap.size #[i64 e] 3) := Lib.hid ((hg59.block wr.heap.size (by simp; omega) (fun e => by simp [Value.ownBlock] at e)).trans ((Blk.new wr #[.int .i64 (e : Int)] 3).alloc (.cells #[] 3)))
                       obtain ⟨a59, c59, rfl⟩ := row_shape (ok := fun _ => True) ⟨ho59, fun _ _ => trivial⟩
                       have H59 := Lib.hid (And.intro q59 (And.intro ho59 hb59))
                       clear q59 ho59 hb59 hg59 hf59)
                    | (refine step_append_fresh rfl (.tmp 59) (.tmp 61) 24 rfl 3 i0 (.int .i64 0) 1 8 Try.underlying24 hi1 hz0 hz1 hz2 rfl (by decide) (.slice a59 k c59) k ((L.take k).map fun k => i64 k) (by rfl) (H59.out.2.1.alloc (.cells #[.int .i64 (e : Int)] 3)) ⟨w59.heap.size, 0, none⟩ 1 1 [i64 e] (by rfl) rfl (cells_one w59 (i64 e) 3) (fun u hu => by simp at hu; subst hu; rfl) (by unfold maxLen; omega) (by omega) ?_
                       intro v62 w62 ho62 hg62 hf62
                       have q62 : Keeps noB wr w62 := (H59.out.1.alloc (.cells #[.int .i64 (e : Int)] 3)).grown hg62 (fun g hg' => .inr (H59.out.2.2 g hg'))
                       have hb62 : ∀ g, v62.ownBlock = some g → wr.heap.size ≤ g := fun g hg' => by
                         rcases hf62 with h | h
                         · rw [h] at hg'; exact H59.out.2.2 g hg'
                         · have h1 := h g hg'; have h2 := H59.out.1.size; (try simp at h1); omega
                       obtain ⟨a62, c62, rfl⟩ := row_shape (ok := fun _ => True) ⟨ho62, fun _ _ => trivial⟩
                       have H62 := Lib.hid (And.intro q62 (And.intro ho62 hb62))
                       clear q62 ho62 hb62 hg62 hf62)
                    | (refine step_append_fresh rfl (.tmp 59) (.tmp 61) 24 rfl 3 i0 (.int .i64 0) 1 8 Try.underlying24 hi1 hz0 hz1 hz2 rfl (by decide) (.slice a59 k c59) k ((L.take k).map fun k => i64 k) (by rfl) (H59.out.2.1) ⟨wr.heap.size + 1, 0, none⟩ 1 1 [i64 e] (by rfl) rfl (fun j u hu => by cases j with | zero => (simp at hu; subst hu; exact h59.out.cell 0) | succ j => simp at hu) (fun u hu => by simp at hu; subst hu; rfl) (by unfold maxLen; omega) (by omega) ?_
                       intro v62 w62 ho62 hg62 hf62
                       have q62 : Keeps noB wr w62 := (H59.out.1).grown hg62 (fun g hg' => .inr (H59.out.2.2 g hg'))
                       have hb62 : ∀ g, v62.ownBlock = some g → wr.heap.size ≤ g := fun g hg' => by
                         rcases hf62 with h | h
                         · rw [h] at hg'; exact H59.out.2.2 g hg'
                         · have h1 := h g hg'; have h2 := H59.out.1.size; (try simp at h1); omega
                       obtain ⟨a62, c62, rfl⟩ := row_shape (ok := fun _ => True) ⟨ho62, fun _ _ => trivial⟩
                       have H62 := Lib.hid (And.intro q62 (And.intro ho62 hb62))
                       clear q62 ho62 hb62 hg62 hf62)
                    | (refine step_append_fresh rfl (.tmp 59) (.tmp 61) 24 rfl 3 i0 (.int .i64 0) 1 8 Try.underlying24 hi1 hz0 hz1 hz2 rfl (by decide) (.slice a59 k c59) k ((L.take k).map fun k => i64 k) (by rfl) (H59.out.2.1) ⟨wr.heap.size, 0, none⟩ 1 1 [i64 e] (by rfl) rfl (fun j u hu => by cases j with | zero => (simp at hu; subst hu; exact h59.out.cell 0) | succ j => simp at hu) (fun u hu => by simp at hu; subst hu; rfl) (by unfold maxLen; omega) (by omega) ?_
                       intro v62 w62 ho62 hg62 hf62
                       have q62 : Keeps noB wr w62 := (H59.out.1).grown hg62 (fun g hg' => .inr (H59.out.2.2 g hg'))
                       have hb62 : ∀ g, v62.ownBlock = some g → wr.heap.size ≤ g := fun g hg' => by
                         rcases hf62 with h | h
                         · rw [h] at hg'; exact H59.out.2.2 g hg'
                         · have h1 := h g hg'; have h2 := H59.out.1.size; (try simp at h1); omega
                       obtain ⟨a62, c62, rfl⟩ := row_shape (ok := fun _ => True) ⟨ho62, fun _ _ => trivial⟩
                       have H62 := Lib.hid (And.intro q62 (And.intro ho62 hb62))
                       clear q62 ho62 hb62 hg62 hf62)
                    | (refine step_append_fresh rfl (.tmp 62) (.tmp 65) 24 rfl 3 i0 (.int .i64 0) 1 8 Try.underlying24 hi1 hz0 hz1 hz2 rfl (by decide) (.slice a62 (k + 1) c62) (k + 1) (((L.take k).map fun k => i64 k) ++ [i64 e]) (by rfl) H62.out.2.1 ⟨gO, k, none⟩ (nL - k) (cO - k) ((L.drop k).map fun k => i64 k) (by rfl) HDl.out (HDc.out _ H62.out.1) H1D.out (by unfold maxLen; omega) (by omega) ?_
                       intro v66 w66 ho66 hg66 hf66
                       have q66 : Keeps noB wr w66 := H62.out.1.grown hg66 (fun g hg' => .inr (H62.out.2.2 g hg'))
                       have hb66 : ∀ g, v66.ownBlock = some g → wr.heap.size ≤ g := fun g hg' => by
                         rcases hf66 with h | h
                         · rw [h] at hg'; exact H62.out.2.2 g hg'
                         · have h1 := h g hg'; have h2 := H62.out.1.size; (try simp at h1); omega
                       obtain ⟨hins, a66, c66, rfl⟩ := HFIN.out v66 w66 ho66 hb66 q66
                       have HE := Lib.hid hins
                       clear hins q66 ho66 hb66 hg66 hf66))
                  all_goals
                    have hd := HDN.out
                    go_wp2_with fail
                    go_roundw
                    case rel => exact HE.out
                    case measure => simp [intOf]; omega
    | cons z y3 =>
      simp only [Nds.len] at hil
      have hd : i < x.pre.len := by omega
      have hzm : z ∈ x.pre.list := by rw [← hpre]; simp [Nds.list]
      have hcw : ∀ j u, cs[j]? = some u → wr.cell? ⟨g, j, none⟩ = some u := fun j u hu =>
        (hq2.cell (p := ⟨g, j, none⟩) HR.out.2.1 (fun e => by have h1 := HR.out.2.2.1; have h2 := HR.out.2.2.2.2.1; have e : g = w.heap.size + 1 ∨ g = w.heap.size + 2 := e; rcases e with e | e <;> omega)).trans (HR.out.1 j u hu)
      obtain ⟨⟨na, nn, nm, hn⟩, hy3⟩ := node_at hcw hy
      have s0 : wr.cell? ⟨g, i * 6, none⟩ = some (.int .u8 _) := hn.s0
      have s1 : wr.cell? ⟨g, i * 6 + 1, none⟩ = some (.int .i64 _) := hn.s1
      have s2 : wr.cell? ⟨g, i * 6 + 2, none⟩ = some (.int .i64 _) := hn.s2
      have s3 : wr.cell? ⟨g, i * 6 + 3, none⟩ = some (.string _) := hn.s3
      have s4 := hn.s4
      have s5 : wr.cell? ⟨g, i * 6 + 5, none⟩ = some (.string _) := hn.s5
      have hb80 := HB80.out z.beg (.inl (List.mem_map.2 ⟨z, hzm, rfl⟩))
      have hn80 : n1 ≤ 80 := by omega
      have hn80' : n2 ≤ 80 := by omega
      have hsn1 : begsL (pre ++ [z]) = L1 ++ [z.beg] := by rw [begsL_snoc, ← hL1]
      have hsn2 := endsL_snoc pre z
      rw [← hL2] at hsn2
      have hl1 : ∀ g, (Value.slice a n1 c).ownBlock = some g → g < wr.heap.size := fun g hg => (hrow1.lt g hg).2
      have hl2 : ∀ g, (Value.slice b n2 c2).ownBlock = some g → g < wr.heap.size := fun g hg => (hrow2.lt g hg).2
      have HO := Lib.hid (And.intro hpre (And.intro hrow1 (And.intro hrow2 (And.intro hfr1 (And.intro hfr2 (And.intro hdj (And.intro hq (And.intro hq2 (And.intro hy3 (And.intro hi (And.intro hil (And.intro hN1 (And.intro hN2 (And.intro hsn1 (And.intro hsn2 (And.intro hl1 hl2))))))))))))))))
      have HGK := Lib.hid hgk
      clear hpre hrow1 hrow2 hfr1 hfr2 hdj hq hq2 hy hcw hn hy3 hil hi hL1 hL2 hN1 hN2 hsn1 hsn2 hl1 hl2 hn1 hn2 hgk
      obtain ⟨hi1, hz0, hz1, hz2⟩ := HI.out
      go_wp2_with (at_builtin; refine wpList_append_fresh _ rfl _ _ 24 rfl 3 i0 _ 1 8 Try.underlying24 hi1 hz0 hz1 hz2 rfl (by decide) (.slice a n1 c) n1 (L1.map fun k => i64 k) rfl ?own ⟨wr.heap.size + 1, 0, none⟩ 1 1 [i64 z.beg] rfl ?c1 ?c2 ?c3 ?c4 ?c5 ?_)
      case own => exact (HO.out.2.1.alloc _).alloc _
      case c1 => rfl
      case c2 =>
        intro j u hu
        have h := cells_one (wr.alloc (.cells #[.int .u8 z.kind.toNat, .int .i64 z.beg, .int .i64 z.fin, .string ⟨z.vars.toArray⟩, .slice na nn nm, .string ⟨z.scope.toArray⟩] 57)) (i64 z.beg) 3 j u hu
        rw [World.size_alloc] at h
        exact h
      case c3 => intro u hu; simp at hu; subst hu; rfl
      case c4 => unfold maxLen; omega
      case c5 => omega
      intro v' w3 hown' hgrow hfresh
      have qa : Keeps (fun g => (Value.slice a n1 c).ownBlock = some g) wr w3 := ((((Keeps.refl _ wr).alloc _).alloc _)).grown hgrow (fun g hg => .inl hg)
      have bz : Blk w3 wr.heap.size #[.int .u8 z.kind.toNat, .int .i64 z.beg, .int .i64 z.fin, .string ⟨z.vars.toArray⟩, .slice na nn nm, .string ⟨z.scope.toArray⟩] 57 := by
        have h0 := (Blk.new wr #[.int .u8 z.kind.toNat, .int .i64 z.beg, .int .i64 z.fin, .string ⟨z.vars.toArray⟩, .slice na nn nm, .string ⟨z.scope.toArray⟩] 57).alloc (.cells #[.int .i64 z.beg] 3)
        exact (hgrow.block wr.heap.size (by simp; omega) (fun e => by have := HO.out.2.2.2.2.2.2.2.2.2.2.2.2.2.2.2.1 _ e.symm; omega)).trans h0
      obtain ⟨a', c', rfl⟩ := row_slice (ok := fun _ => True) ⟨hown', fun _ _ => trivial⟩
      have hs3 : wr.heap.size + 2 ≤ w3.heap.size := by have := hgrow.size; simpa using this
      have t0 := bz.cell 0
      have t2 := bz.cell 2
      simp at t0 t2
      have HB := Lib.hid (And.intro hown' (And.intro qa (And.intro hfresh (And.intro bz hs3))))
      have HD1 : Hid (∀ g, (Value.slice a' (n1 + 1) c').ownBlock = some g → ((Value.slice a n1 c).ownBlock = some g ∨ wr.heap.size + 2 ≤ g)) := fun g hg => by
        rcases hfresh with h | h
        · exact .inl (h ▸ hg)
        · exact .inr (by have := h g hg; simpa using this)
      clear hown' hgrow hfresh qa bz hs3
      by_cases hk : z.kind = 123
      · obtain ⟨hf1, hf2⟩ := HZ.out z hzm hk
        have hkk : ((z.kind.toNat : Int) == 123) = true := by rw [hk]; rfl
        have hfc : (z.fin : Int) - 1 = ((z.fin - 1 : Nat) : Int) := by omega
        have HK := Lib.hid hk
        clear hk
        go_wp2_with (at_builtin; refine wpList_append_fresh _ rfl _ _ 24 rfl 3 i0 _ 1 8 Try.underlying24 hi1 hz0 hz1 hz2 rfl (by decide) (.slice b n2 c2) n2 (L2.map fun k => i64 k) rfl ?own ⟨w3.heap.size, 0, none⟩ 1 1 [i64 (z.fin - 1)] rfl ?c1 ?c2 ?c3 ?c4 ?c5 ?_)
        case own => exact (HB.out.2.1.ownsRow HO.out.2.2.1 (fun g hg hl e => HO.out.2.2.2.2.2.1 g e hg)).alloc _
        case c1 => rfl
        case c2 =>
          intro j u hu
          exact cells_one w3 (i64 (z.fin - 1)) 3 j u hu
        case c3 => intro u hu; simp at hu; subst hu; rfl
        case c4 => unfold maxLen; omega
        case c5 => omega
        intro v2 w4 hown2 hgrow2 hfresh2
        have hnew : PtsAt w w2 (fun g => g < w.heap.size ∧ ok g) x.pre.list cs gk (.slice a' (n1 + 1) c') v2 (.int .i64 ((i + 1 : Nat) : Int)) w4 := by
          obtain ⟨hpre, hrow1, hrow2, hfr1, hfr2, hdj, hq, hq2, hy3, hi, hil, hN1, hN2, hsn1, hsn2, hl1, hl2⟩ := HO.out
          obtain ⟨hown', qa, hfresh, bz, hs3⟩ := HB.out
          have qb : Keeps (fun g => (Value.slice b n2 c2).ownBlock = some g) w3 w4 := ((Keeps.refl _ w3).alloc _).grown hgrow2 (fun g hg => .inl hg)
          have hd2 : ∀ g, v2.ownBlock = some g → (Value.slice b n2 c2).ownBlock = some g ∨ w3.heap.size ≤ g := fun g hg => by
            rcases hfresh2 with h | h
            · exact .inl (h ▸ hg)
            · exact .inr (by have := h g hg; simp at this; omega)
          have hd12 : ∀ g, (Value.slice a' (n1 + 1) c').ownBlock = some g → (Value.slice b n2 c2).ownBlock ≠ some g := fun g hg e => by
            rcases HD1.out g hg with h | h
            · exact hdj g h e
            · have := hl2 g e; omega
          have hq2s := hq2.size
          have hqs := hq.size
          refine ⟨i + 1, pre ++ [z], y3, rfl, by simp [hi], by have := HGK.out; omega, by rw [← hpre]; simp [Nds.list], hy3, ?_, ?_, ?_, ?_, ?_, hww, ?_, ?_⟩
          · rw [hsn1, List.length_append, List.map_append, ← hN1]
            exact qb.ownsRow hown' (fun g hg hl e => hd12 g hg e)
          · rw [hsn2, if_pos HK.out, List.length_append, List.map_append, ← hN2]; exact hown2
          · intro g hg
            rcases HD1.out g hg with h | h
            · exact hfr1 g h
            · omega
          · intro g hg
            rcases hd2 g hg with h | h
            · exact hfr2 g h
            · omega
          · intro g hg e
            rcases hd2 g e with h | h
            · exact hd12 g hg h
            · have := (hown'.lt g hg).2; omega
          · exact (hq.transNew qa (fun i hi e => by have := hfr1 i e; omega)).transNew qb (fun i hi e => by have := hfr2 i e; omega)
          · exact (hq2.transNew qa (fun i hi e => by have := hfr1 i e; simp only [twoP]; omega)).transNew qb (fun i hi e => by have := hfr2 i e; simp only [twoP]; omega)
        obtain ⟨b', c2', rfl⟩ := row_slice (ok := fun _ => True) ⟨hown2, fun _ _ => trivial⟩
        have HN := Lib.hid hnew
        clear hown2 hgrow2 hfresh2 hnew
        go_wp2_with fail
        go_roundg gk
        case measure => omega
        case rel => exact HN.out
      · have hkk : ((z.kind.toNat : Int) == 123) = false := by
          rw [beq_eq_false_iff_ne]
          exact fun e => hk (UInt8.toNat_inj.1 (by have : (123 : UInt8).toNat = 123 := rfl; omega))
        have hnew : PtsAt w w2 (fun g => g < w.heap.size ∧ ok g) x.pre.list cs gk (.slice a' (n1 + 1) c') (.slice b n2 c2) (.int .i64 ((i + 1 : Nat) : Int)) w3 := by
          obtain ⟨hpre, hrow1, hrow2, hfr1, hfr2, hdj, hq, hq2, hy3, hi, hil, hN1, hN2, hsn1, hsn2, hl1, hl2⟩ := HO.out
          obtain ⟨hown', qa, hfresh, bz, hs3⟩ := HB.out
          have hq2s := hq2.size
          have hqs := hq.size
          refine ⟨i + 1, pre ++ [z], y3, rfl, by simp [hi], by have := HGK.out; omega, by rw [← hpre]; simp [Nds.list], hy3, ?_, ?_, ?_, hfr2, ?_, hww, ?_, ?_⟩
          · rw [hsn1, List.length_append, List.map_append, ← hN1]; exact hown'
          · rw [hsn2, if_neg hk, List.append_nil, ← hN2]
            exact qa.ownsRow hrow2 (fun g hg hl e => hdj g e hg)
          · intro g hg
            rcases HD1.out g hg with h | h
            · exact hfr1 g h
            · omega
          · intro g hg e
            rcases HD1.out g hg with h | h
            · exact hdj g h e
            · have := hl2 g e; omega
          · exact hq.transNew qa (fun i hi e => by have := hfr1 i e; omega)
          · exact hq2.transNew qa (fun i hi e => by have := hfr1 i e; simp only [twoP]; omega)
        have HN := Lib.hid hnew
        clear hnew hk
        go_wp2_with fail
        go_roundg gk
        case measure => omega
        case rel => exact HN.out

end Go.Proofs.Ytkfcgamdlckncaa

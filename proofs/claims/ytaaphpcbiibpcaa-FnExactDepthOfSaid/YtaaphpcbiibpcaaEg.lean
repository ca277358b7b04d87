/-
  Walks of the model: l1Depth, DepthOf.
-/
import Derived.Test.YtaaphpcbiibpcaaEe
namespace Go.Proofs.Ytaaphpcbiibpcaa
set_option linter.unusedVariables false
set_option linter.unusedSimpArgs false
open Go.RowKit

mutual
/-- How many scopes lie within each other. -/
def Nd.depth : Nd → Nat
  | .mk c _ _ _ _ bs => bs.depth + if c = 123 then 1 else 0
def Nds.depth : Nds → Nat
  | .nil => 0
  | .cons x r => max x.depth r.depth
def Bds.depth : Bds → Nat
  | .nil => 0
  | .cons x r => max x.depth r.depth
end

mutual
theorem Nd.depth_le : ∀ x : Nd, x.depth ≤ x.pre.len
  | .mk c _ _ _ _ bs => by
    have := Bds.depth_le bs
    simp only [Nd.depth, Nd.pre, Nds.len]
    split <;> omega
theorem Nds.depth_le : ∀ x : Nds, x.depth ≤ x.pre.len
  | .nil => Nat.le_refl _
  | .cons x r => by
    have := Nd.depth_le x
    have := Nds.depth_le r
    simp only [Nds.depth, Nds.pre, Nds.len_app]
    omega
theorem Bds.depth_le : ∀ x : Bds, x.depth ≤ x.pre.len
  | .nil => Nat.le_refl _
  | .cons x r => by
    have := Nds.depth_le x
    have := Bds.depth_le r
    simp only [Bds.depth, Bds.pre, Nds.len_app]
    omega
end

def DepthOk (n : Nat) : Prop := ∀ (x : Nd) (cs : List Value) (w : World) (ok : Nat → Prop), x.pre.len = n → n ≤ 200 → RepS w ok x cs →
  Calls Try.prog 54 #[.agg cs.toArray] w (fun e w' => e = .returned (.int .i64 x.depth) ∧ Keeps noB w w')

/-- What the outer loop of l1Depth holds. -/
def DOuterAt (w w0 : World) (ok : Nat → Prop) (all : Bds) (N nb : Nat) (xs : List Value) (g : Nat) (v vi : Value) (wr : World) : Prop :=
  ∃ (i d : Nat) (bs : Bds), v = .int .i64 d ∧ vi = .int .i64 i ∧ i + (xs.drop i).length = nb ∧ nb < i + g ∧ max d bs.depth = all.depth ∧ d ≤ 200 ∧ bs.pre.len < N ∧ RepSB w ok bs (xs.drop i) ∧ Keeps noB w0 wr

def DInnerAt (w w0 : World) (ok : Nat → Prop) (all rest : Bds) (N m : Nat) (cs : List Value) (g : Nat) (v vi : Value) (wr : World) : Prop :=
  ∃ (i d : Nat) (y : Nds), v = .int .i64 d ∧ vi = .int .i64 i ∧ i + y.len = m ∧ m < i + g ∧ max (max d y.depth) rest.depth = all.depth ∧ d ≤ 200 ∧ y.pre.len < N ∧ RepSL w ok y (cs.drop (i * 6)) ∧ Keeps noB w0 wr

set_option maxRecDepth 100000 in
set_option maxHeartbeats 4000000 in
theorem depth_ok (N : Nat) (ih : ∀ m, m < N → DepthOk m) : DepthOk N := by
  rintro ⟨c, k, e, vs, ar, bs⟩ cs w ok hlen hN h
  simp only [RepS] at h
  obtain ⟨vb, nb, xs, rfl, hrow, hbs⟩ := h
  obtain ⟨ab, cb, rfl⟩ := row_slice hrow
  have hbl : bs.pre.len < N := by rw [← hlen]; simp only [Nd.pre, Nds.len]; omega
  have hbd := Bds.depth_le bs
  obtain ⟨cv, hcv⟩ : ∃ cv : Int, (c.toNat : Int) = cv := ⟨_, rfl⟩
  have hu8 : u8 c = .int .u8 cv := by rw [← hcv]; rfl
  rw [hu8]
  obtain ⟨w0, hw0⟩ : ∃ w0, w.alloc (.cells #[.int .u8 cv, i64 k, i64 e, str vs, .slice ab nb cb, str ar] 61) = w0 := ⟨_, rfl⟩
  have q0 : Keeps noB w w0 := by rw [← hw0]; exact (Keeps.refl _ w).alloc _
  have hb0 : Blk w0 w.heap.size #[.int .u8 cv, i64 k, i64 e, str vs, .slice ab nb cb, str ar] 61 := by rw [← hw0]; exact Blk.new _ _ _
  have hk0 : w0.cell? ⟨w.heap.size, 0, none⟩ = some (.int .u8 cv) := hb0.cell 0
  have hlt0 := hb0.lt
  have HP : Hid (DOuterAt w w0 ok bs N nb xs (nb + 1) (.int .i64 0) (.int .i64 0) w0) :=
    ⟨0, 0, bs, rfl, rfl, by have := hrow.1.1; simp at this ⊢; omega, by omega, by simp, by omega, hbl, by simpa using hbs, Keeps.refl _ _⟩
  have hdl : bs.depth ≤ 200 := by omega
  have HB := Lib.hid (And.intro hrow hbs)
  have IH := Lib.hid ih
  have hnb := row_small hrow
  clear hrow hbs ih hlen hbd hbl
  have HCV := Lib.hid hcv
  have HQ0 := Lib.hid q0
  have HW0 := Lib.hid hw0
  clear hcv hu8 q0 hb0 hw0
  go_enter Try.func54, Try.ntmps54
  go_upto_region 3 with fail
  rw [HW0.out]
  go_loopg [3, 11] (nb + 1) (fun g v vi wr => DOuterAt w w0 ok bs N nb xs g v vi wr)
  case atStart => exact HP.out
  case round =>
    clear HP
    obtain ⟨i, d, bs2, rfl, rfl, hi, hg, hmax, hd200, hlN, hbs2, hq⟩ := hrel
    cases gk with
    | zero => omega
    | succ go =>
    rcases repSB_len _ _ hbs2 with ⟨rfl, hnil⟩ | ⟨y, r, v, vr, m, cs, rfl, hcons, hrow, hy, hr⟩
    · rw [hnil] at hi
      simp only [List.length_nil, Nat.add_zero] at hi
      have hge : ¬ i < nb := by omega
      have hde : d = bs.depth := by rw [← hmax]; simp [Bds.depth]
      subst hde
      clear hi hmax hnil hg hbs2
      have hk1 := (hq.cell (p := ⟨w.heap.size, 0, none⟩) hlt0 id).trans hk0
      have HQ := Lib.hid (HQ0.out.trans hq)
      clear hk0 hq
      have hcv := HCV.out
      by_cases h123 : c = 123
      · have hb : (cv == 123) = true := by rw [← hcv, h123]; rfl
        have hfin : (Nd.mk c k e vs ar bs).depth = bs.depth + 1 := by simp [Nd.depth, h123]
        have hfin' : (.int .i64 ((bs.depth : Int) + 1) : Value) = .int .i64 ((Nd.mk c k e vs ar bs).depth : Int) := by rw [hfin]; rfl
        have HF := Lib.hid hfin'
        clear hcv h123 hfin hfin'
        go_wp2_with fail
        go_ret
        exact ⟨by rw [HF.out]; rfl, HQ.out⟩
      · have hb : (cv == 123) = false := by
          rw [← hcv, beq_eq_false_iff_ne]
          intro e
          apply h123
          have : c.toNat = (123 : UInt8).toNat := by have h2 : ((123 : UInt8).toNat : Int) = 123 := rfl; omega
          exact UInt8.toNat_inj.1 this
        have hfin : (Nd.mk c k e vs ar bs).depth = bs.depth := by simp [Nd.depth, h123]
        have HF := Lib.hid hfin
        clear hcv h123 hfin
        go_wp2_with fail
        go_ret
        exact ⟨by rw [HF.out]; rfl, HQ.out⟩
    · rw [hcons] at hi
      simp only [List.length_cons] at hi
      obtain ⟨av, cv2, rfl⟩ := row_slice hrow
      obtain ⟨gb, cb', hab, hokb, hgb, hcell⟩ := row_at HB.out.1 (by omega)
      injection hab with hab hab1 hab2
      subst hab
      have hci : w.cell? ⟨gb, i, none⟩ = some (.slice av m cv2) := hcell i _ (by
        have h0 : (xs.drop i)[0]? = some (.slice av m cv2) := by rw [hcons]; rfl
        simpa using h0)
      have hci1 : wr.cell? ⟨gb, i, none⟩ = some (.slice av m cv2) := ((HQ0.out.trans hq).cell (p := ⟨gb, i, none⟩) hgb id).trans hci
      have hvr : xs.drop (i + 1) = vr := by
        have := congrArg List.tail hcons
        simpa using this
      have hyl := repSL_len _ _ hy
      have hml : m = y.len := by have := hrow.1.1; omega
      have hlN2 : y.pre.len < N ∧ r.pre.len < N := by simp only [Bds.pre, Nds.len_app] at hlN; omega
      have HC := Lib.hid (And.intro hrow (And.intro hr (And.intro hvr (And.intro hml (And.intro hi hlN2.2)))))
      have HPi : Hid (DInnerAt w w0 ok bs r N m cs (m + 1) (.int .i64 d) (.int .i64 0) wr) := by
        refine ⟨0, d, y, rfl, rfl, by omega, by omega, ?_, hd200, hlN2.1, by simpa using hy, hq⟩
        simp only [Bds.depth] at hmax
        omega
      have hlt : i < nb := by omega
      clear hab1 hab2 hcell hbs2 hcons hmax hvr hml hyl hrow hr hy hq hi hci hlN2 hlN
      go_upto_region 6 with fail
      go_loopg [3, 17] (m + 1) (fun g v vi wr => DInnerAt w w0 ok bs r N m cs g v vi wr)
      case atStart => exact HPi.out
      case round =>
        clear HPi
        obtain ⟨j, d2, y2, rfl, rfl, hj, hg2, hmax2, hd2, hlN2, hy2, hq2⟩ := hrel
        cases gk with
        | zero => omega
        | succ gk =>
        cases y2 with
        | nil =>
          simp only [Nds.len] at hj
          have hd : ¬ j < m := by omega
          obtain ⟨c2, c3, c4, c5, c6⟩ := HC.out.2
          have HN : Hid (DOuterAt w w0 ok bs N nb xs go (.int .i64 d2) (.int .i64 ((i + 1 : Nat) : Int)) wr) :=
            ⟨i + 1, d2, r, rfl, rfl, by rw [c3]; omega, by omega, by rw [← hmax2]; simp [Nds.depth], hd2, c6, by rw [c3]; exact c2, hq2⟩
          have HW := Lib.hid (wrap_next hlt hnb)
          clear c2 c3 c4 c5 c6 hmax2 hy2 hq2
          go_wp2_with fail
          go_roundg go
          case measure => omega
          case rel => rw [HW.out]; exact HN.out
        | cons z y3 =>
          simp only [Nds.len] at hj
          have hd : j < m := by omega
          obtain ⟨c1, c2, c3, c4, c5, c6⟩ := HC.out
          obtain ⟨gv, cv', hav, hokv, hgv, hcell⟩ := row_at c1 (by omega)
          injection hav with hav hav1 hav2
          subst hav
          have hqw := HQ0.out.trans hq2
          obtain ⟨⟨na, nn, nm, hn⟩, hy3⟩ := node_at (wr := wr) (fun j u hu => (hqw.cell (p := ⟨gv, j, none⟩) hgv id).trans (hcell j u hu)) hy2
          simp only [RepSL] at hy2
          obtain ⟨d1, e2, hd12, hz, _⟩ := hy2
          have hd1 := repS_six hz
          obtain ⟨x0, x1, x2, x3, x4, x5, x6, x7, rfl⟩ := hd1
          have hzz : z.pre.len < N ∧ y3.pre.len < N := by simp only [Nds.pre, Nds.len_app] at hlN2; omega
          have hcs : ∀ i u, (six x0 x1 x2 x3 (.slice x4 x5 x6) x7).toList[i]? = some u → wr.cell? ⟨gv, j * 6 + i, none⟩ = some u := by
            intro i u hu
            refine (hqw.cell (p := ⟨gv, j * 6 + i, none⟩) hgv id).trans (hcell _ _ ?_)
            have h0 : (cs.drop (j * 6))[i]? = some u := by
              rw [hd12, List.getElem?_append_left (by
                have := (List.getElem?_eq_some_iff.1 hu).1
                exact this)]
              exact hu
            simpa using h0
          have s0 : wr.cell? ⟨gv, j * 6, none⟩ = some (.int .u8 x0) := hcs 0 _ rfl
          have s1 : wr.cell? ⟨gv, j * 6 + 1, none⟩ = some (.int .i64 x1) := hcs 1 _ rfl
          have s2 : wr.cell? ⟨gv, j * 6 + 2, none⟩ = some (.int .i64 x2) := hcs 2 _ rfl
          have s3 : wr.cell? ⟨gv, j * 6 + 3, none⟩ = some (.string x3) := hcs 3 _ rfl
          have s4 : wr.cell? ⟨gv, j * 6 + 4, none⟩ = some (.slice x4 x5 x6) := hcs 4 _ rfl
          have s5 : wr.cell? ⟨gv, j * 6 + 5, none⟩ = some (.string x7) := hcs 5 _ rfl
          have hzd : z.depth ≤ 200 := by have := Nd.depth_le z; omega
          have HE := Lib.hid (IH.out _ hzz.1 z _ (wr.alloc (.cells (six x0 x1 x2 x3 (.slice x4 x5 x6) x7) 61)) ok rfl (by omega)
            ((Hands.of_keeps (ok' := ok) (hqw.alloc _) (fun g _ _ e => e) (fun g hg _ => hg)).repS z _ hz))
          have hnew : ∀ w3, Keeps noB (wr.alloc (.cells (six x0 x1 x2 x3 (.slice x4 x5 x6) x7) 61)) w3 → DInnerAt w w0 ok bs r N m cs gk (.int .i64 (max (d2 : Int) (z.depth : Int))) (.int .i64 ((j + 1 : Nat) : Int)) w3 := by
            intro w3 q3
            refine ⟨j + 1, max d2 z.depth, y3, ?_, rfl, by omega, by omega, ?_, by omega, hzz.2, hy3, (hq2.alloc _).trans q3⟩
            · congr 1; omega
            · rw [← hmax2]; simp only [Nds.depth]; omega
          have HN := Lib.hid hnew
          have hmm : m ≤ maxLen := row_small c1
          clear hnew hmax2 hq2 hqw hn hy3 hd12 hz hzz hcs c1 c2 c3 c4 c5 c6 hcell hav1 hav2 hlN2 hci1
          go_wp2_with fail
          refine (HE.out).mono ?_
          rintro e w2 ⟨rfl, q2⟩
          go_wp2_with fail
          go_roundg gk
          case measure => omega
          case rel =>
            rw [wrap_next hd hmm]
            exact HN.out _ q2

theorem depth_all (N : Nat) : DepthOk N := Nat.strongRecOn N (fun n ih => depth_ok n ih)

def depthP (s : ByteArray) : Int := match progP s with | none => -1 | some x => x.depth

set_option maxHeartbeats 2000000 in
theorem sdepth_any (s : ByteArray) (hs : s.size ≤ 1048576) (w : World) : Calls Try.prog 21 #[.string s] w (fun e w' => e = .returned (.int .i64 (depthP s)) ∧ Keeps noB w w') := by
  have H := Lib.hid (sread_any s hs w)
  have HF := Lib.hid (fun x => progP_few (s := s) (x := x))
  unfold depthP
  generalize progP s = res at *
  cases res with
  | none =>
    go_enter Try.func21, Try.ntmps21
    go_wp2_with fail
    refine H.out.mono ?_
    rintro e w1 ⟨⟨x0, x1, x2, x3, x4, x5, x6, x7, rfl⟩, q1⟩
    have hnv : nodeV x0 x1 x2 x3 x4 x5 x6 x7 = .agg #[.int .u8 x0, .int .i64 x1, .int .i64 x2, .string x3, .slice x4 x5 x6, .string x7] := rfl
    go_wp2_with fail
    go_ret
    exact ⟨rfl, q1.alloc _⟩
  | some x =>
    go_enter Try.func21, Try.ntmps21
    go_wp2_with fail
    refine H.out.mono ?_
    rintro e w1 ⟨x0, x1, x2, x3, x4, x5, x6, x7, rfl, hx, q1⟩
    have hnv : nodeV x0 x1 x2 x3 x4 x5 x6 x7 = .agg #[.int .u8 x0, .int .i64 x1, .int .i64 x2, .string x3, .slice x4 x5 x6, .string x7] := rfl
    have HE := Lib.hid (depth_all x.pre.len x _ (w1.alloc (.cells #[.int .u8 x0, .int .i64 x1, .int .i64 x2, .string x3, .slice x4 x5 x6, .string x7] 61)) _ rfl (by have := HF.out x rfl; omega)
      ((Hands.of_keeps (ok := fromB w.heap.size) (ok' := fromB w.heap.size) ((Keeps.refl noB w1).alloc _) (fun g _ _ e => e) (fun g hg _ => hg)).repS x _ hx))
    clear hx
    go_wp2_with fail
    refine HE.out.mono ?_
    rintro e w2 ⟨rfl, q2⟩
    go_wp2_with fail
    go_ret
    exact ⟨rfl, (q1.alloc _).trans q2⟩

end Go.Proofs.Ytaaphpcbiibpcaa

/-
  Walks of the model's reader: body.
  Walks of the model's reader: step, loops.
-/
import Derived.Test.YtkfcgamdlckncaaGreatScW
namespace Go.Proofs.YtkfcgamdlckncaaGreat
set_option linter.unusedVariables false
set_option linter.unusedSimpArgs false
open Go.RowKit

theorem Tryz.info52 : (Tryz.prog.info? 52).map (fun i => (i.zero, i.size, i.bytes)) = some (some (.agg #[.int .u8 0, .int .i64 0, .int .i64 0, .string ⟨#[]⟩, .slice none 0 0, .string ⟨#[]⟩]), 6, 80) := by kernel_rfl

theorem Sd.noB {w w' : World} {b : Nat} {s : ByteArray} {k d : Nat} {bad : Bool} (h : Sd w b s k bad d) (hk : Keeps noB w w') : Sd w' b s k bad d := h.keeps hk id

/-- What the loop of 'body' holds at the head of a round. -/
def BodyAt (b : Nat) (s : ByteArray) (d : Nat) (ar : ByteArray) (c : UInt8) (w : World) (res : Option (Nds × Nat)) (n : Nat) (v : Value) (wr : World) : Prop :=
  (∃ k pre m cs, joinP pre (stepsP s n ar.data.toList d c k) = res ∧ 4 * (s.size - k) + 4 ≤ n ∧ k ≤ s.size ∧ ar.size ≤ k ∧ m ≤ k ∧
    wr.ownsRow 0 52 6 v m cs ∧ (∀ g, v.ownBlock = some g → w.heap.size ≤ g) ∧ RepSL wr (fun g => w.heap.size ≤ g ∧ v.ownBlock ≠ some g) pre cs ∧ Sd wr b s k false d ∧ Keeps (oneB b) w wr) ∨
  (res = none ∧ ∃ k a m q, v = .slice a m q ∧ k ≤ s.size ∧ Sd wr b s k true d ∧ Keeps (oneB b) w wr)

set_option maxRecDepth 100000 in
set_option maxHeartbeats 2000000 in
theorem sbody_bad : SBodyBad := by
  intro b s k d ar c w h hs hk
  have hb := h.lt
  have hb2 : ¬ b = w.heap.size := by omega
  have hb3 : b ≤ w.heap.size := by omega
  have H1 := Lib.hid (fun w1 r => is_yes b s k true d c w1 r hs)
  have H2 := Lib.hid (fun w1 r => is_no b s k true d c w1 r hs hk)
  have HR := Lib.hid (fun n => ((h.alloc (.cells #[] 52)).drewN n))
  have c2 := h.c2
  by_cases hc : at? s k = some c
  · have hk1 : k + 1 ≤ s.size := at?_lt hc
    have HC := Lib.hid hc
    clear hc
    go_enter Tryz.func58, Tryz.ntmps58
    go_wp2_with fail
    go_loopg [7] 1 (fun g v wr => v = .slice (some ⟨w.heap.size, 0, none⟩) 0 0 ∧ Sd wr b s k true d ∧ Keeps (oneB b) w wr)
    case atStart => exact ⟨rfl, HR.out 0, (Keeps.refl _ w).alloc _⟩
    case round =>
      obtain ⟨rfl, r, q⟩ := hrel
      clear c2
      have c2 := r.c2
      go_wp2_with fail
      go_quiet (fail)
      go_wp2_with fail
      refine (H1.out _ (r.drewN _) HC.out).mono ?_
      rintro e w2 ⟨rfl, r2, q2⟩
      go_wp2_with fail
      go_ret
      exact ⟨k + 1, _, _, _, ⟨rfl, r2, (q.drewN _).trans q2⟩, hk1⟩
  · have HC := Lib.hid hc
    clear hc
    go_enter Tryz.func58, Tryz.ntmps58
    go_wp2_with fail
    go_loopg [7] 1 (fun g v wr => v = .slice (some ⟨w.heap.size, 0, none⟩) 0 0 ∧ Sd wr b s k true d ∧ Keeps (oneB b) w wr)
    case atStart => exact ⟨rfl, HR.out 0, (Keeps.refl _ w).alloc _⟩
    case round =>
      obtain ⟨rfl, r, q⟩ := hrel
      clear c2
      have c2 := r.c2
      go_wp2_with fail
      go_quiet (fail)
      go_wp2_with fail
      refine (H2.out _ (r.drewN _) HC.out).mono ?_
      rintro e w2 ⟨rfl, r2, q2⟩
      go_wp2_with fail
      go_ret
      exact ⟨k, _, _, _, ⟨rfl, r2, (q.drewN _).trans q2⟩, hk⟩

theorem repSL_snoc {w : World} {ok : Nat → Prop} {x : Nd} {c1 : List Value} (hv : RepS w ok x c1) : ∀ (pre : Nds) (cs : List Value), RepSL w ok pre cs → RepSL w ok (pre.app (.cons x .nil)) (cs ++ c1)
  | .nil, cs, h => by
    simp only [RepSL] at h; subst h
    simp only [Nds.app, RepSL, List.nil_append]
    exact ⟨c1, [], by simp, hv, rfl⟩
  | .cons y r, cs, h => by
    simp only [RepSL] at h
    obtain ⟨u, ur, rfl, h1, h2⟩ := h
    simp only [Nds.app, RepSL, List.append_assoc]
    exact ⟨u, _, rfl, h1, repSL_snoc hv r ur h2⟩

/-- One round's step and append, outside the walk. -/
theorem bodyAt_next {b : Nat} {s : ByteArray} {d : Nat} {ar : ByteArray} {c : UInt8} {w : World} {res : Option (Nds × Nat)} {n : Nat} {v v' : Value} {cells : Array Value} {wr w1 w3 : World} {k k1 m : Nat} {pre : Nds} {cs : List Value} {x : Nd}
    (hj : joinP (pre.app (.cons x .nil)) (stepsP s n ar.data.toList d c k1) = res) (hn : 4 * (s.size - k1) + 4 ≤ n) (hk : k < k1) (hk1 : k1 ≤ s.size) (har : ar.size ≤ k) (hlen : m ≤ k)
    (hfrom : ∀ g, v.ownBlock = some g → w.heap.size ≤ g) (hown : wr.ownsRow 0 52 6 v m cs) (hrep : RepSL wr (fun g => w.heap.size ≤ g ∧ v.ownBlock ≠ some g) pre cs) (hb : b < w.heap.size)
    (q : Keeps (oneB b) w wr) (q1 : Keeps (oneB b) wr w1) (hu : RepS w1 (fromB wr.heap.size) x cells.toList) (r1 : Sd w1 b s k1 false d)
    (hown' : w3.ownsRow 0 52 6 v' (m + 1) (cs ++ cells.toList)) (hg : (w1.alloc (.cells cells 52)).grownBy w3 v.ownBlock) (hf : Fresh (w1.alloc (.cells cells 52)) v v') :
    BodyAt b s d ar c w res n v' w3 := by
  have hvlt : ∀ g, v.ownBlock = some g → g < wr.heap.size := fun g hg => (hown.lt g hg).2
  have qa : Keeps (fun g => v.ownBlock = some g) w1 w3 := ((Keeps.refl _ w1).alloc _).grown hg (fun g hg => .inl hg)
  have hszw : w1.heap.size ≤ w3.heap.size := qa.size
  refine .inl ⟨k1, pre.app (.cons x .nil), m + 1, cs ++ cells.toList, hj, hn, hk1, by omega, by omega, hown', ?_, ?_, ?_, ?_⟩
  · intro g hg'
    rcases hf with h | h
    · exact hfrom g (h ▸ hg')
    · have := h g hg'; have := q.size; have := q1.size; simp at *; omega
  · refine repSL_snoc ?_ pre _ ?_
    · refine (Hands.of_keeps (ok := fromB wr.heap.size) qa ?_ ?_).repS x _ hu
      · intro g hg1 _ hg2; have := hvlt g hg2; exact absurd hg1 (by simp [fromB]; omega)
      · intro g hg1 hg3
        refine ⟨Nat.le_trans q.size hg1, fun hg2 => ?_⟩
        rcases hf with h | h
        · have := hvlt g (h ▸ hg2); exact absurd hg1 (by simp [fromB]; omega)
        · have := h g hg2; simp at this; omega
    · have hh : Hands wr w1 (fun g => w.heap.size ≤ g ∧ v.ownBlock ≠ some g) (fun g => w.heap.size ≤ g ∧ v.ownBlock ≠ some g ∧ g < w1.heap.size) :=
        Hands.of_keeps q1 (fun g hg _ e => by simp [oneB] at e; omega) (fun g hg hl => ⟨hg.1, hg.2, Nat.lt_of_lt_of_le hl q1.size⟩)
      refine (Hands.of_keeps qa ?_ ?_).repSL pre cs (hh.repSL pre cs hrep)
      · intro g hg1 _ hg2; exact hg1.2.1 hg2
      · intro g hg1 hg3
        refine ⟨hg1.1, fun hg2 => ?_⟩
        rcases hf with h | h
        · exact hg1.2.1 (h ▸ hg2)
        · have := h g hg2; have := hg1.2.2; simp at *; omega
  · refine r1.keeps qa (fun e => ?_)
    have := hfrom b e; omega
  · refine (q.trans q1).transNew qa (fun i hi e => ?_)
    have := hfrom i e; omega

theorem cells_all (w : World) (cs : Array Value) (t : TypeId) : ∀ j u, cs.toList[j]? = some u → (w.alloc (.cells cs t)).cell? ((⟨w.heap.size, 0, none⟩ : Addr).add j) = some u := by
  intro j u hu
  have hadd : (⟨w.heap.size, 0, none⟩ : Addr).add j = ⟨w.heap.size, j, none⟩ := by unfold Addr.add; split <;> simp_all
  rw [hadd, (Blk.new w cs t).cell j]
  simpa using hu

theorem six_oneCell (c k e : Int) (vs : ByteArray) (a : Option Addr) (n m : Nat) (ar : ByteArray) : ∀ u ∈ (six c k e vs (.slice a n m) ar).toList, u.oneCell' = true := by
  intro u hu
  simp [six] at hu
  rcases hu with rfl | rfl | rfl | rfl | rfl | rfl <;> rfl

set_option maxRecDepth 100000 in
set_option maxHeartbeats 4000000 in
theorem sbody_ok (n : Nat) (ih : ∀ m, m < n → SStepOk m) : SBodyOk n := by
  intro b s k d ar c w h hs hk har hd hn
  generalize hres : stepsP s n ar.data.toList d c k = res
  have hb := h.lt
  obtain ⟨i0, hi, hz0, hz1, hz2⟩ := info_parts Tryz.info52
  have HP : Hid (BodyAt b s d ar c w res n (.slice (some ⟨w.heap.size, 0, none⟩) 0 0) (w.alloc (.cells #[] 52))) :=
    .inl ⟨k, .nil, 0, [], by rw [hres]; cases res with | none => rfl | some p => rfl, hn, hk, har, Nat.zero_le _, World.ownsRow_made w #[] 0 (Nat.zero_le _) (by simp [maxLen]) rfl, fun g hg => by simp [Value.ownBlock] at hg; omega, rfl, h.alloc _, (Keeps.refl _ w).alloc _⟩
  have HI := Lib.hid (And.intro hi (And.intro hz0 (And.intro hz1 hz2)))
  have IH := Lib.hid ih
  have HH := Lib.hid h
  obtain ⟨cv, hcv⟩ : ∃ cv : Int, (c.toNat : Int) = cv := ⟨_, rfl⟩
  have HCV := Lib.hid hcv
  rw [hcv]
  clear hres h hi hz0 hz1 hz2 ih hk har hn hcv
  go_enter Tryz.func58, Tryz.ntmps58
  go_wp2_with fail
  go_loopg [7] n (fun g v wr => g ≤ n ∧ BodyAt b s d ar c w res g v wr)
  case atStart => exact ⟨Nat.le_refl _, HP.out⟩
  case round =>
    clear HP
    obtain ⟨v, rfl⟩ : ∃ v, v = u7 := ⟨_, rfl⟩
    obtain ⟨hgn, hat⟩ := hrel
    rcases hat with ⟨k', pre, m, cs, hj, hg, hk', hark, hlen, hown, hfrom, hrep, r, q⟩ | ⟨rfl, k', a, m, cc, rfl, hk', r, q⟩
    · -- the reader is good
      cases gk with
      | zero => omega
      | succ gk =>
      have c0 := r.c0
      have c1 := r.c1
      have c2 := r.c2
      rcases joinP_step s gk ar.data.toList d c k' pre with ⟨hc, hd1⟩ | ⟨hc, hx, hd1⟩ | ⟨x, k1, hc, hx, hd1⟩
      · -- the closing byte
        rw [hd1] at hj
        subst hj
        have hlt := at?_lt hc
        have hget := at?_get hc hlt
        have HA : Hid (RepSL wr (fun g => w.heap.size ≤ g ∧ v.ownBlock ≠ some g) pre cs ∧ (∀ g, v.ownBlock = some g → w.heap.size ≤ g) ∧ wr.ownsRow 0 52 6 v m cs) := ⟨hrep, hfrom, hown⟩
        have H := Lib.hid (fun w1 r => is_yes b s k' false d c w1 r hs hc)
        obtain ⟨a, cc, rfl⟩ := row_slice (ok := fun _ => True) ⟨hown, fun _ _ => trivial⟩
        have hdl : decide (k' < s.size) = true := by simpa using hlt
        have hcv := HCV.out
        have hcc : ((s[k'].toNat : Int) == cv) = true := by rw [hget, ← hcv]; simp
        have hcc' : ((s[k'].toNat : Int) != cv) = false := by rw [hget, ← hcv]; simp
        clear hrep hfrom hown hd1 hc HI IH HH hark hget
        rw [hcv] at H
        clear hcv
        go_wp2_with fail
        go_quiet (fail)
        go_wp2_with fail
        refine (H.out _ (r.drewN _)).mono ?_
        rintro e w1 ⟨rfl, r1, q1⟩
        go_wp2_with fail
        go_ret
        obtain ⟨a1, a2, a3⟩ := HA.out
        have q2 := (Keeps.refl (oneB b) wr).drewN nq
        have q3 := q2.trans q1
        have hh : Hands wr w1 (fun g => w.heap.size ≤ g ∧ (Value.slice a m cc).ownBlock ≠ some g) (fromB w.heap.size) :=
          Hands.of_keeps q3 (fun g hg _ e => by simp [oneB] at e; omega) (fun g hg hl => hg.1)
        exact ⟨a, m, cc, cs, ⟨rfl, r1, q.trans q3⟩, ⟨q3.ownsRow a3 (fun g hg _ e => by have := a2 g hg; simp [oneB] at e; omega), a2⟩, hh.repSL pre cs a1⟩
      · -- no step
        rw [hd1] at hj
        subst hj
        obtain ⟨a, cc, rfl⟩ := row_slice (ok := fun _ => True) ⟨hown, fun _ _ => trivial⟩
        by_cases hlt : k' < s.size
        · -- a step that falls
          have hget : s[k'] ≠ c := fun e => hc (by rw [at?_some hlt, e])
          have H2 := Lib.hid (fun w1 r => IH.out gk (by omega) b s k' d ar w1 r hs hlt hark hd (by omega))
          have HX := Lib.hid hx
          have HA : Hid ((∀ g, (Value.slice a m cc).ownBlock = some g → w.heap.size ≤ g) ∧ wr.ownsRow 0 52 6 (.slice a m cc) m cs) := ⟨hfrom, hown⟩
          have hdl : decide (k' < s.size) = true := by simpa using hlt
          have hcv := HCV.out
          have hcc : ((s[k'].toNat : Int) == cv) = false := by
            rw [← hcv, beq_eq_false_iff_ne]; exact fun e => hget (UInt8.toNat_inj.1 (Int.ofNat.inj e))
          have hcc' : ((s[k'].toNat : Int) != cv) = true := by rw [bne, hcc]; rfl
          clear hrep hfrom hown hd1 hc IH hark hget hx
          clear hcv
          go_wp2_with fail
          go_quiet (fail)
          go_wp2_with fail
          refine (H2.out _ (r.drewN _)).mono ?_
          intro e w1 hp
          rw [HX.out] at hp
          obtain ⟨k2, x0, x1, x2, x3, x4, x5, x6, x7, ⟨rfl, r1, q1⟩, hk2⟩ := hp
          have hnv : nodeV x0 x1 x2 x3 x4 x5 x6 x7 = .agg #[.int .u8 x0, .int .i64 x1, .int .i64 x2, .string x3, .slice x4 x5 x6, .string x7] := rfl
          obtain ⟨hi, hz0, hz1, hz2⟩ := HI.out
          go_wp2_with (at_builtin; refine wpList_append_fresh _ rfl _ _ 57 rfl 52 i0 _ 6 80 Tryz.underlying57 hi hz0 hz1 hz2 rfl (by decide) (.slice a m cc) m cs rfl ?own ⟨w1.heap.size, 0, none⟩ 1 1 (six x0 x1 x2 x3 (.slice x4 x5 x6) x7).toList rfl ?c1 ?c2 ?c3 ?c4 ?c5 ?_)
          case own =>
            obtain ⟨o1, o2⟩ := HA.out
            exact ((((Keeps.refl (oneB b) wr).drewN _).trans q1).ownsRow o2 (fun g hg _ e => by have := o1 g hg; simp [oneB] at e; omega)).alloc _
          case c1 => rfl
          case c2 => exact cells_all w1 _ _
          case c3 => exact six_oneCell _ _ _ _ _ _ _ _
          case c4 => unfold maxLen; omega
          case c5 => omega
          intro v' w3 hown' hgrow hfresh
          obtain ⟨a', cc', rfl⟩ := row_slice (ok := fun _ => True) ⟨hown', fun _ _ => trivial⟩
          have HE : Hid (BodyAt b s d ar c w none gk (.slice a' (m + 1) cc') w3) := by
            obtain ⟨o1, o2⟩ := HA.out
            have qd := ((Keeps.refl (oneB b) wr).drewN _).trans q1
            have qa : Keeps (fun g => (Value.slice a m cc).ownBlock = some g) w1 w3 := ((Keeps.refl _ w1).alloc _).grown hgrow (fun g hg => .inl hg)
            exact .inr ⟨rfl, k2, _, _, _, rfl, hk2, r1.keeps qa (fun e => by have := o1 b e; omega), (q.trans qd).transNew qa (fun i hi e => by have := o1 i e; omega)⟩
          clear hown' hgrow hfresh
          go_wp2_with fail
          go_roundg gk
          case measure => omega
          case rel => exact ⟨by omega, HE.out⟩
        · -- the text's end
          have H := Lib.hid (fun w1 r => is_no b s k' false d c w1 r hs hk' hc)
          rw [HCV.out] at H
          have hdl : decide (k' < s.size) = false := by simpa using hlt
          clear hrep hfrom hown hd1 hc HI IH HH hark hx
          go_wp2_with fail
          go_quiet (fail)
          go_wp2_with fail
          refine (H.out _ (r.drewN _)).mono ?_
          rintro e w1 ⟨rfl, r1, q1⟩
          go_wp2_with fail
          go_ret
          exact ⟨k', _, _, _, ⟨rfl, r1, (q.drewN _).trans q1⟩, hk'⟩
      · -- a step
        rw [hd1] at hj
        have hgo := (goes s gk).step _ _ _ _ _ hx
        have hlt : k' < s.size := by omega
        have hget : s[k'] ≠ c := fun e => hc (by rw [at?_some hlt, e])
        obtain ⟨a, cc, rfl⟩ := row_slice (ok := fun _ => True) ⟨hown, fun _ _ => trivial⟩
        have H2 := Lib.hid (fun w1 r => IH.out gk (by omega) b s k' d ar w1 r hs hlt hark hd (by omega))
        have HX := Lib.hid hx
        have HN := Lib.hid (fun v' cells w1 w3 => @bodyAt_next b s d ar c w res gk (.slice a m cc) v' cells wr w1 w3 k' k1 m pre cs x hj (by omega) hgo.1 hgo.2 hark hlen hfrom hown hrep hb q)
        have HA : Hid ((∀ g, (Value.slice a m cc).ownBlock = some g → w.heap.size ≤ g) ∧ wr.ownsRow 0 52 6 (.slice a m cc) m cs) := ⟨hfrom, hown⟩
        have hdl : decide (k' < s.size) = true := by simpa using hlt
        have hcv := HCV.out
        have hcc : ((s[k'].toNat : Int) == cv) = false := by
          rw [← hcv, beq_eq_false_iff_ne]; exact fun e => hget (UInt8.toNat_inj.1 (Int.ofNat.inj e))
        have hcc' : ((s[k'].toNat : Int) != cv) = true := by rw [bne, hcc]; rfl
        clear hrep hfrom hown hd1 hc IH hark hget hx hj hgo
        clear hcv
        go_wp2_with fail
        go_quiet (fail)
        go_wp2_with fail
        refine (H2.out _ (r.drewN _)).mono ?_
        intro e w1 hp
        rw [HX.out] at hp
        obtain ⟨x0, x1, x2, x3, x4, x5, x6, x7, ⟨rfl, r1, q1⟩, hu⟩ := hp
        have HU := Lib.hid hu
        clear hu
        have hnv : nodeV x0 x1 x2 x3 x4 x5 x6 x7 = .agg #[.int .u8 x0, .int .i64 x1, .int .i64 x2, .string x3, .slice x4 x5 x6, .string x7] := rfl
        obtain ⟨hi, hz0, hz1, hz2⟩ := HI.out
        go_wp2_with (at_builtin; refine wpList_append_fresh _ rfl _ _ 57 rfl 52 i0 _ 6 80 Tryz.underlying57 hi hz0 hz1 hz2 rfl (by decide) (.slice a m cc) m cs rfl ?own ⟨w1.heap.size, 0, none⟩ 1 1 (six x0 x1 x2 x3 (.slice x4 x5 x6) x7).toList rfl ?c1 ?c2 ?c3 ?c4 ?c5 ?_)
        case own =>
          obtain ⟨o1, o2⟩ := HA.out
          exact ((((Keeps.refl (oneB b) wr).drewN _).trans q1).ownsRow o2 (fun g hg _ e => by have := o1 g hg; simp [oneB] at e; omega)).alloc _
        case c1 => rfl
        case c2 => exact cells_all w1 _ _
        case c3 => exact six_oneCell _ _ _ _ _ _ _ _
        case c4 => unfold maxLen; omega
        case c5 => omega
        intro v' w3 hown' hgrow hfresh
        obtain ⟨a', cc', rfl⟩ := row_slice (ok := fun _ => True) ⟨hown', fun _ _ => trivial⟩
        have HE := Lib.hid (HN.out (.slice a' (m + 1) cc') (six x0 x1 x2 x3 (.slice x4 x5 x6) x7) w1 w3 (((Keeps.refl (oneB b) wr).drewN _).trans q1) HU.out r1 hown' hgrow hfresh)
        clear hown' hgrow hfresh
        go_wp2_with fail
        go_roundg gk
        case measure => omega
        case rel => exact ⟨by omega, HE.out⟩
    · -- it is bad
      have c2 := r.c2
      by_cases hc : at? s k' = some c
      · have H := Lib.hid (fun w1 r => is_yes b s k' true d c w1 r hs hc)
        rw [HCV.out] at H
        have hk1 : k' + 1 ≤ s.size := at?_lt hc
        clear HI IH HH hc
        go_wp2_with fail
        go_quiet (fail)
        go_wp2_with fail
        refine (H.out _ (r.drewN _)).mono ?_
        rintro e w2 ⟨rfl, r2, q2⟩
        go_wp2_with fail
        go_ret
        exact ⟨k' + 1, _, _, _, ⟨rfl, r2, (q.drewN _).trans q2⟩, hk1⟩
      · have H := Lib.hid (fun w1 r => is_no b s k' true d c w1 r hs hk' hc)
        rw [HCV.out] at H
        clear HI IH HH hc
        go_wp2_with fail
        go_quiet (fail)
        go_wp2_with fail
        refine (H.out _ (r.drewN _)).mono ?_
        rintro e w2 ⟨rfl, r2, q2⟩
        go_wp2_with fail
        go_ret
        exact ⟨k', _, _, _, ⟨rfl, r2, (q.drewN _).trans q2⟩, hk'⟩

end Go.Proofs.YtkfcgamdlckncaaGreat

namespace Go.Proofs.YtkfcgamdlckncaaGreat
set_option linter.unusedVariables false
set_option linter.unusedSimpArgs false
open Go.RowKit

/-- A step of the model's with bodies, as its result's block holds it. -/
theorem rep_of {N g : Nat} {w wx w' : World} {bs : Bds} {a : Option Addr} {n m : Nat} {c : UInt8} {k e : Nat} {vs : List UInt8} {sv ar : ByteArray} (h : BS N g w bs (.slice a n m) n wx) (hv : str vs = .string sv) (q : Keeps (oneB N) wx w') (hN : w.heap.size ≤ N) :
    RepS w' (fromB w.heap.size) (.mk c k e vs ar.data.toList bs) (six (c.toNat : Int) k e sv (.slice a n m) ar).toList := by
  obtain ⟨xs, h1, h2⟩ := h
  have hh : Hands wx w' (okB N g w (.slice a n m)) (fromB w.heap.size) := Hands.of_keeps q (fun i hi _ e => hi.2.2.1 e) (fun i hi _ => hi.1)
  simp only [RepS]
  refine ⟨.slice a n m, n, xs, ?_, ⟨q.ownsRow h1.own (fun i hi _ e => (h1.at' i hi).2.2 e), fun i hi => (h1.at' i hi).1⟩, hh.repSB bs xs h2⟩
  rw [hv]
  rfl

theorem cutG_of {b N g : Nat} {w : World} {s : ByteArray} {k1 k2 d : Nat} {c k0 : Int} {vs : ByteArray} {ar : ByteArray} {bs : Bds} {n : Nat} {va : Option Addr} {vc : Nat} {w2 w3 w4 : World} {ba : Option Addr} {bn bm : Nat} {cs : List Value} {x : Nds} {bad1 : Bool} {d1 : Nat} {a4 : Option Addr} {m4 : Nat} {xs : List Value}
    (n2 : NS b N g w s k1 bad1 d1 c k0 0 vs (.slice va n vc) ar w2) (hB : BS N g w bs (.slice va n vc) n w2)
    (q3 : Keeps (oneB b) w2.drew w3) (n3 : NS b N g w s k2 false d c k0 0 vs (.slice va n vc) ar w3) (hB3 : BW N g w (.slice va n vc) n xs w3)
    (hr : Row w3 (fromB w2.drew.heap.size) 52 6 (.slice ba bn bm) bn cs) (hx : RepSL w3 (fromB w2.drew.heap.size) x cs)
    (h4 : w4.ownsRow 0 57 1 (.slice a4 (n + 1) m4) (n + 1) (xs ++ [.slice ba bn bm])) (hg4 : (w3.alloc (.cells #[.slice ba bn bm] 57)).grownBy w4 (Value.slice va n vc).ownBlock) (hf4 : Fresh (w3.alloc (.cells #[.slice ba bn bm] 57)) (.slice va n vc) (.slice a4 (n + 1) m4)) :
    NS b N g w s k2 false d c k0 0 vs (.slice a4 (n + 1) m4) ar (w4.setCell ⟨g, 4, none⟩ (.slice a4 (n + 1) m4)) ∧ BS N g w (bs.snoc x) (.slice a4 (n + 1) m4) (n + 1) (w4.setCell ⟨g, 4, none⟩ (.slice a4 (n + 1) m4)) := by
  have n4 := n3.grow hB3 hg4
  have hb := n3.hb
  have hsz : w.heap.size ≤ w2.heap.size := n2.keeps.size
  have hB4 := BS.grow (b := b) (w2 := w2) hB hb hsz n2.nod.lt n2.res.lt ((Keeps.refl (oneB b) w2).drewN 1 |>.trans q3) hr hx hB3 (fun ys hy => ownsRow_unique hy.own hB3.own) h4 hg4 hf4
  exact ⟨n4.bodies _, hB4.keep (b := b) ((Keeps.refl (may3 b g N) w4).atG) hb⟩

theorem cutB_of {b N g : Nat} {w : World} {s : ByteArray} {k2 d : Nat} {c k0 : Int} {vs : ByteArray} {ar : ByteArray} {n : Nat} {va : Option Addr} {vc : Nat} {w3 w4 : World} {ba : Option Addr} {bn bm : Nat} {a4 : Option Addr} {m4 : Nat} {xs : List Value}
    (n3 : NS b N g w s k2 true d c k0 0 vs (.slice va n vc) ar w3) (hB3 : BW N g w (.slice va n vc) n xs w3)
    (h4 : w4.ownsRow 0 57 1 (.slice a4 (n + 1) m4) (n + 1) (xs ++ [.slice ba bn bm])) (hg4 : (w3.alloc (.cells #[.slice ba bn bm] 57)).grownBy w4 (Value.slice va n vc).ownBlock) (hf4 : Fresh (w3.alloc (.cells #[.slice ba bn bm] 57)) (.slice va n vc) (.slice a4 (n + 1) m4)) :
    NS b N g w s k2 true d c k0 0 vs (.slice a4 (n + 1) m4) ar (w4.setCell ⟨g, 4, none⟩ (.slice a4 (n + 1) m4)) ∧ BW N g w (.slice a4 (n + 1) m4) (n + 1) (xs ++ [.slice ba bn bm]) (w4.setCell ⟨g, 4, none⟩ (.slice a4 (n + 1) m4)) := by
  have n4 := n3.grow hB3 hg4
  have hb := n3.hb
  have hB4 := hB3.grow h4 hf4 n3.keeps.size n3.nod.lt n3.res.lt
  exact ⟨n4.bodies _, hB4.keep (b := b) ((Keeps.refl (may3 b g N) w4).atG) hb⟩

set_option maxRecDepth 100000 in
set_option maxHeartbeats 8000000 in
theorem sstep_loop (n : Nat) (ih : SBodyOk n) (b : Nat) (s : ByteArray) (k d : Nat) (ar : ByteArray) (w : World) (h : Sd w b s k false d) (hs : s.size ≤ 80) (hc : at? s k = some 42) (har : ar.size ≤ k) (hd : d ≤ 4) (hn : 4 * (s.size - k) + 3 ≤ n + 2)
    (hc1 : at? s (k + 1) = some 91) (x : Nds) (k2 : Nat) (hx : stepsP s n ar.data.toList d 93 (k + 2) = some (x, k2)) :
    Calls Tryz.prog 38 #[.pointer (some ⟨b, 0, none⟩), .string ar] w (GoodStep b s d w (.mk 42 k k2 [] ar.data.toList (.cons x .nil)) k2) := by
  obtain ⟨i0, hi, hz0, hz1, hz2⟩ := info_parts Tryz.info57
  have HI := Lib.hid (And.intro hi (And.intro hz0 (And.intro hz1 hz2)))
  have hlt1 := at?_lt hc1
  have HC1 := Lib.hid hc1
  have IH := Lib.hid (fun w1 r => ih b s (k + 2) d ar 93 w1 r hs (by omega) (by omega) hd (by omega))
  have HX := Lib.hid hx
  clear hi hz0 hz1 hz2 ih hn hx hc1
  have c0 := h.c0
  have c1 := h.c1
  have f1 := Blk.free h 1
  have hb := h.lt
  have hb2 : ¬ b = w.heap.size := by omega
  have hb3 : ¬ b = w.heap.size + 1 := by omega
  have hb4 : ¬ b = w.heap.size + 1 + 1 := by omega
  have hb5 : ¬ b = w.heap.size + 2 := by omega
  have hl0 : b ≤ w.heap.size := by omega
  have hl1 : b ≤ w.heap.size + 1 := by omega
  have hl2 : b ≤ w.heap.size + 2 := by omega
  have hl3 : b < w.heap.size + 1 := by omega
  have hl4 : b < w.heap.size + 2 := by omega
  have hl5 : b < w.heap.size + 1 + 1 := by omega
  have hl6 : b < w.heap.size + 3 := by omega
  have hl7 : b < w.heap.size + 1 + 1 + 1 := by omega
  have hlt := at?_lt hc
  have hget := at?_get hc hlt
  have hkz : (k : Int) < 80 := by omega
  go_enter Tryz.func38, Tryz.ntmps38
  go_upto_region 1 with fail
  go_cut [5] (fun v5 wc => Cut1 b w s k d 42 ar v5 wc)
  case first =>
    go_region
    all_goals (go_wp2_with fail; go_meet)
    · exact cut1_a b s k d 42 ar w h
    · exact cut1_b b s k d 42 ar w h
  case rest =>
    clear hl0 hl1 hl2 hl3 hl4 hl5 hl6 hl7 hb2 hb3 hb4 hb5 c0 c1 f1 hget hc
    obtain ⟨g, vb, rfl, hns, hown, hfr⟩ := hcut
    obtain ⟨va, vc, rfl⟩ := row_slice (ok := fun _ => True) ⟨hown, fun _ _ => trivial⟩
    have HF := Lib.hid (And.intro hown hfr)
    clear hown hfr
    have e1 : ¬ b = g := by have := hns.hg; omega
    have e2 : ¬ g = b := by omega
    have e3 : ¬ w.heap.size = g := hns.hne
    have e4 : ¬ g = w.heap.size := by omega
    have e5 : ¬ b = w.heap.size := by omega
    have e6 : ¬ w.heap.size = b := by omega
    have n1 := hns.tick
    have d1 := hns.rd.c1
    have x1 := Blk.free hns.rd 1
    have g0 := n1.nod.cell 0
    simp [six] at g0
    go_wp2_with fail
    refine (is_yes b s (k + 1) false d 91 _ n1.rd hs HC1.out).mono ?_
    rintro e w2 ⟨rfl, r, q⟩
    have n2 := n1.moved r q
    have hb0 : BS w.heap.size g w .nil (.slice va 0 vc) 0 wc := ⟨[], ⟨HF.out.1, HF.out.2⟩, rfl⟩
    have hB := hb0.keep (b := b) (((Keeps.refl (may3 b g w.heap.size) wc).atB).trans q.ofOne) hb
    have HBS := Lib.hid hB
    obtain ⟨xs, hBW, _⟩ := hB
    have HBW := Lib.hid hBW
    have HB := Lib.hid (IH.out w2.drew n2.rd)
    rw [HX.out] at HB
    clear hb0 hBW
    have x4 := n2.nod.cell 4
    simp [six] at x4
    have f4 := Blk.free n2.nod 4
    go_wp2_with fail
    obtain ⟨hi, hz0, hz1, hz2⟩ := HI.out
    go_region_law (first
      | (refine step_append_fresh rfl (.tmp 101) (.tmp 105) 50 rfl 57 i0 (.slice none 0 0) 1 24 Tryz.underlying50 hi hz0 hz1 hz2 rfl (by decide) (.slice va 0 vc) 0 xs (by simp [Act.eval, Act.put]) (HB3.out.own.alloc _) ⟨w3.heap.size, 0, none⟩ 1 1 [.slice ba bn bm] (by simp [Act.eval, Act.put]) rfl (cells_one _ _ _) (slice_oneCell _ _ _) (by unfold maxLen; omega) (by omega) ?_
         intro v4 w4 h4 hg4 hf4
         obtain ⟨a4, m4, rfl⟩ := row_slice (ok := fun _ => True) ⟨h4, fun _ _ => trivial⟩
         have n4 := HN3.out.grow HB3.out hg4
         have y4 : w4.cell? ⟨g, 4, none⟩ = some (.slice va 0 vc) := n4.nod.cell 4
         have z4 := Blk.free n4.nod 4
         have HF4 := Lib.hid (And.intro h4 (And.intro hg4 hf4))
         clear h4 hg4 hf4 n4)
      | (go_simp
         refine (HB.out).mono ?_
         rintro e w3 ⟨ba, bn, bm, cs, ⟨rfl, r3, q3⟩, hr, hx⟩
         have HN3 := Lib.hid ((n2.drewN 1).moved r3 q3)
         have HB3 := Lib.hid (HBW.out.keep (b := b) (((Keeps.refl (may3 b g w.heap.size) w2).drewN 1).trans q3.ofOne) hb)
         have hgl : g < w3.heap.size := HN3.out.nod.lt
         have x4' : w3.cell? ⟨g, 4, none⟩ = some (.slice va 0 vc) := HN3.out.nod.cell 4))
    all_goals
      obtain ⟨h4, hg4, hf4⟩ := HF4.out
      obtain ⟨n5, hS⟩ := cutG_of n2 HBS.out q3 HN3.out HB3.out hr hx h4 hg4 hf4
      have HS := Lib.hid hS
      have pz := n5.rd.c1
      have pw := (HN3.out.grow HB3.out hg4).rd.c1
      clear h4 hg4 hf4 hS hr hx
      have m1 := n5.fin (k2 : Int)
      have m2 := Blk.free n5.nod 2
      have m3 := n5.nod.cell 2
      have y0 := m1.nod.cell 0
      have y1 := m1.nod.cell 1
      have y2 := m1.nod.cell 2
      have y3 := m1.nod.cell 3
      have y4 := m1.nod.cell 4
      have y5 := m1.nod.cell 5
      have r0 := m1.res.cell 0
      have r1 := m1.res.cell 1
      have r2 := m1.res.cell 2
      have r3 := m1.res.cell 3
      have r4 := m1.res.cell 4
      have r5 := m1.res.cell 5
      have z := fun i => Blk.free m1.res i
      have p1 := n5.rd.c1
      simp [six] at m3 y0 y1 y2 y3 y4 y5 r0 r1 r2 r3 r4 r5
      go_wp2_with fail
      obtain ⟨d1, d2, d3, d4⟩ := m1.done
      refine bodyPost_ret (v := nodeV 42 k k2 ⟨#[]⟩ a4 1 m4 ar) (res57 _ _ _ _ _ _ _ _ _ _ _ rfl d1) rfl ?_
      refine ⟨_, _, _, _, _, _, _, _, ⟨rfl, d2, d3⟩, ?_⟩
      exact rep_of (vs := []) (c := 42) (HS.out.keep (b := b) ((Keeps.refl (may3 b g w.heap.size) _).atG) hb) rfl d4 (Nat.le_refl _)

end Go.Proofs.YtkfcgamdlckncaaGreat

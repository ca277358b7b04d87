/-
  Walks of the model's reader: body.
-/
import Derived.Test.YtaaphpcbiibpcaaSf
namespace Go.Proofs.Ytaaphpcbiibpcaa
set_option linter.unusedVariables false
set_option linter.unusedSimpArgs false
open Go.RowKit

theorem Try.info61 : (Try.prog.info? 61).map (fun i => (i.zero, i.size, i.bytes)) = some (some (.agg #[.int .u8 0, .int .i64 0, .int .i64 0, .string ⟨#[]⟩, .slice none 0 0, .string ⟨#[]⟩]), 6, 80) := by kernel_rfl

theorem Sd.noB {w w' : World} {b : Nat} {s : ByteArray} {k d : Nat} {bad : Bool} (h : Sd w b s k bad d) (hk : Keeps noB w w') : Sd w' b s k bad d := h.keeps hk id

/-- What the loop of 'body' holds at the head of a round. -/
def BodyAt (b : Nat) (s : ByteArray) (d : Nat) (ar : ByteArray) (c : UInt8) (w : World) (res : Option (Nds × Nat)) (n : Nat) (v : Value) (wr : World) : Prop :=
  (∃ k pre m cs, joinP pre (stepsP s n ar.data.toList d c k) = res ∧ 4 * (s.size - k) + 4 ≤ n ∧ k ≤ s.size ∧ ar.size ≤ k ∧ m ≤ k ∧
    wr.ownsRow 0 61 6 v m cs ∧ (∀ g, v.ownBlock = some g → w.heap.size ≤ g) ∧ RepSL wr (fun g => w.heap.size ≤ g ∧ v.ownBlock ≠ some g) pre cs ∧ Sd wr b s k false d ∧ Keeps (oneB b) w wr) ∨
  (res = none ∧ ∃ k a m q, v = .slice a m q ∧ k ≤ s.size ∧ Sd wr b s k true d ∧ Keeps (oneB b) w wr)

set_option maxRecDepth 100000 in
set_option maxHeartbeats 2000000 in
theorem sbody_bad : SBodyBad := by
  intro b s k d ar c w h hs hk
  have hb := h.lt
  have hb2 : ¬ b = w.heap.size := by omega
  have hb3 : b ≤ w.heap.size := by omega
  have H1 := Lib.hid (fun w1 r => is_yes b s k true d c w1 r hs)
  have H2 := Lib.hid (fun w1 r => is_no b s k true d c w1 r hs hk)
  have HR := Lib.hid (fun n => ((h.alloc (.cells #[] 61)).drewN n))
  have c2 := h.c2
  by_cases hc : at? s k = some c
  · have hk1 : k + 1 ≤ s.size := at?_lt hc
    have HC := Lib.hid hc
    clear hc
    go_enter Try.func89, Try.ntmps89
    go_wp2_with fail
    go_loopg [7] 1 (fun g v wr => v = .slice (some ⟨w.heap.size, 0, none⟩) 0 0 ∧ Sd wr b s k true d ∧ Keeps (oneB b) w wr)
    case atStart => exact ⟨rfl, HR.out 0, (Keeps.refl _ w).alloc _⟩
    case round =>
      obtain ⟨rfl, r, q⟩ := hrel
      clear c2
      have c2 := r.c2
      go_wp2_with fail
      go_quiet (fail)
      go_wp2_with fail
      refine (H1.out _ (r.drewN _) HC.out).mono ?_
      rintro e w2 ⟨rfl, r2, q2⟩
      go_wp2_with fail
      go_ret
      exact ⟨k + 1, _, _, _, ⟨rfl, r2, (q.drewN _).trans q2⟩, hk1⟩
  · have HC := Lib.hid hc
    clear hc
    go_enter Try.func89, Try.ntmps89
    go_wp2_with fail
    go_loopg [7] 1 (fun g v wr => v = .slice (some ⟨w.heap.size, 0, none⟩) 0 0 ∧ Sd wr b s k true d ∧ Keeps (oneB b) w wr)
    case atStart => exact ⟨rfl, HR.out 0, (Keeps.refl _ w).alloc _⟩
    case round =>
      obtain ⟨rfl, r, q⟩ := hrel
      clear c2
      have c2 := r.c2
      go_wp2_with fail
      go_quiet (fail)
      go_wp2_with fail
      refine (H2.out _ (r.drewN _) HC.out).mono ?_
      rintro e w2 ⟨rfl, r2, q2⟩
      go_wp2_with fail
      go_ret
      exact ⟨k, _, _, _, ⟨rfl, r2, (q.drewN _).trans q2⟩, hk⟩

theorem repSL_snoc {w : World} {ok : Nat → Prop} {x : Nd} {c1 : List Value} (hv : RepS w ok x c1) : ∀ (pre : Nds) (cs : List Value), RepSL w ok pre cs → RepSL w ok (pre.app (.cons x .nil)) (cs ++ c1)
  | .nil, cs, h => by
    simp only [RepSL] at h; subst h
    simp only [Nds.app, RepSL, List.nil_append]
    exact ⟨c1, [], by simp, hv, rfl⟩
  | .cons y r, cs, h => by
    simp only [RepSL] at h
    obtain ⟨u, ur, rfl, h1, h2⟩ := h
    simp only [Nds.app, RepSL, List.append_assoc]
    exact ⟨u, _, rfl, h1, repSL_snoc hv r ur h2⟩

/-- One round's step and append, outside the walk. -/
theorem bodyAt_next {b : Nat} {s : ByteArray} {d : Nat} {ar : ByteArray} {c : UInt8} {w : World} {res : Option (Nds × Nat)} {n : Nat} {v v' : Value} {cells : Array Value} {wr w1 w3 : World} {k k1 m : Nat} {pre : Nds} {cs : List Value} {x : Nd}
    (hj : joinP (pre.app (.cons x .nil)) (stepsP s n ar.data.toList d c k1) = res) (hn : 4 * (s.size - k1) + 4 ≤ n) (hk : k < k1) (hk1 : k1 ≤ s.size) (har : ar.size ≤ k) (hlen : m ≤ k)
    (hfrom : ∀ g, v.ownBlock = some g → w.heap.size ≤ g) (hown : wr.ownsRow 0 61 6 v m cs) (hrep : RepSL wr (fun g => w.heap.size ≤ g ∧ v.ownBlock ≠ some g) pre cs) (hb : b < w.heap.size)
    (q : Keeps (oneB b) w wr) (q1 : Keeps (oneB b) wr w1) (hu : RepS w1 (fromB wr.heap.size) x cells.toList) (r1 : Sd w1 b s k1 false d)
    (hown' : w3.ownsRow 0 61 6 v' (m + 1) (cs ++ cells.toList)) (hg : (w1.alloc (.cells cells 61)).grownBy w3 v.ownBlock) (hf : Fresh (w1.alloc (.cells cells 61)) v v') :
    BodyAt b s d ar c w res n v' w3 := by
  have hvlt : ∀ g, v.ownBlock = some g → g < wr.heap.size := fun g hg => (hown.lt g hg).2
  have qa : Keeps (fun g => v.ownBlock = some g) w1 w3 := ((Keeps.refl _ w1).alloc _).grown hg (fun g hg => .inl hg)
  have hszw : w1.heap.size ≤ w3.heap.size := qa.size
  refine .inl ⟨k1, pre.app (.cons x .nil), m + 1, cs ++ cells.toList, hj, hn, hk1, by omega, by omega, hown', ?_, ?_, ?_, ?_⟩
  · intro g hg'
    rcases hf with h | h
    · exact hfrom g (h ▸ hg')
    · have := h g hg'; have := q.size; have := q1.size; simp at *; omega
  · refine repSL_snoc ?_ pre _ ?_
    · refine (Hands.of_keeps (ok := fromB wr.heap.size) qa ?_ ?_).repS x _ hu
      · intro g hg1 _ hg2; have := hvlt g hg2; exact absurd hg1 (by simp [fromB]; omega)
      · intro g hg1 hg3
        refine ⟨Nat.le_trans q.size hg1, fun hg2 => ?_⟩
        rcases hf with h | h
        · have := hvlt g (h ▸ hg2); exact absurd hg1 (by simp [fromB]; omega)
        · have := h g hg2; simp at this; omega
    · have hh : Hands wr w1 (fun g => w.heap.size ≤ g ∧ v.ownBlock ≠ some g) (fun g => w.heap.size ≤ g ∧ v.ownBlock ≠ some g ∧ g < w1.heap.size) :=
        Hands.of_keeps q1 (fun g hg _ e => by simp [oneB] at e; omega) (fun g hg hl => ⟨hg.1, hg.2, Nat.lt_of_lt_of_le hl q1.size⟩)
      refine (Hands.of_keeps qa ?_ ?_).repSL pre cs (hh.repSL pre cs hrep)
      · intro g hg1 _ hg2; exact hg1.2.1 hg2
      · intro g hg1 hg3
        refine ⟨hg1.1, fun hg2 => ?_⟩
        rcases hf with h | h
        · exact hg1.2.1 (h ▸ hg2)
        · have := h g hg2; have := hg1.2.2; simp at *; omega
  · refine r1.keeps qa (fun e => ?_)
    have := hfrom b e; omega
  · refine (q.trans q1).transNew qa (fun i hi e => ?_)
    have := hfrom i e; omega

theorem cells_all (w : World) (cs : Array Value) (t : TypeId) : ∀ j u, cs.toList[j]? = some u → (w.alloc (.cells cs t)).cell? ((⟨w.heap.size, 0, none⟩ : Addr).add j) = some u := by
  intro j u hu
  have hadd : (⟨w.heap.size, 0, none⟩ : Addr).add j = ⟨w.heap.size, j, none⟩ := by unfold Addr.add; split <;> simp_all
  rw [hadd, (Blk.new w cs t).cell j]
  simpa using hu

theorem six_oneCell (c k e : Int) (vs : ByteArray) (a : Option Addr) (n m : Nat) (ar : ByteArray) : ∀ u ∈ (six c k e vs (.slice a n m) ar).toList, u.oneCell' = true := by
  intro u hu
  simp [six] at hu
  rcases hu with rfl | rfl | rfl | rfl | rfl | rfl <;> rfl

set_option maxRecDepth 100000 in
set_option maxHeartbeats 4000000 in
theorem sbody_ok (n : Nat) (ih : ∀ m, m < n → SStepOk m) : SBodyOk n := by
  intro b s k d ar c w h hs hk har hd hn
  generalize hres : stepsP s n ar.data.toList d c k = res
  have hb := h.lt
  obtain ⟨i0, hi, hz0, hz1, hz2⟩ := info_parts Try.info61
  have HP : Hid (BodyAt b s d ar c w res n (.slice (some ⟨w.heap.size, 0, none⟩) 0 0) (w.alloc (.cells #[] 61))) :=
    .inl ⟨k, .nil, 0, [], by rw [hres]; cases res with | none => rfl | some p => rfl, hn, hk, har, Nat.zero_le _, World.ownsRow_made w #[] 0 (Nat.zero_le _) (by simp [maxLen]) rfl, fun g hg => by simp [Value.ownBlock] at hg; omega, rfl, h.alloc _, (Keeps.refl _ w).alloc _⟩
  have HI := Lib.hid (And.intro hi (And.intro hz0 (And.intro hz1 hz2)))
  have IH := Lib.hid ih
  have HH := Lib.hid h
  obtain ⟨cv, hcv⟩ : ∃ cv : Int, (c.toNat : Int) = cv := ⟨_, rfl⟩
  have HCV := Lib.hid hcv
  rw [hcv]
  clear hres h hi hz0 hz1 hz2 ih hk har hn hcv
  go_enter Try.func89, Try.ntmps89
  go_wp2_with fail
  go_loopg [7] n (fun g v wr => g ≤ n ∧ BodyAt b s d ar c w res g v wr)
  case atStart => exact ⟨Nat.le_refl _, HP.out⟩
  case round =>
    clear HP
    obtain ⟨v, rfl⟩ : ∃ v, v = u7 := ⟨_, rfl⟩
    obtain ⟨hgn, hat⟩ := hrel
    rcases hat with ⟨k', pre, m, cs, hj, hg, hk', hark, hlen, hown, hfrom, hrep, r, q⟩ | ⟨rfl, k', a, m, cc, rfl, hk', r, q⟩
    · -- the reader is good
      cases gk with
      | zero => omega
      | succ gk =>
      have c0 := r.c0
      have c1 := r.c1
      have c2 := r.c2
      rcases joinP_step s gk ar.data.toList d c k' pre with ⟨hc, hd1⟩ | ⟨hc, hx, hd1⟩ | ⟨x, k1, hc, hx, hd1⟩
      · -- the closing byte
        rw [hd1] at hj
        subst hj
        have hlt := at?_lt hc
        have hget := at?_get hc hlt
        have HA : Hid (RepSL wr (fun g => w.heap.size ≤ g ∧ v.ownBlock ≠ some g) pre cs ∧ (∀ g, v.ownBlock = some g → w.heap.size ≤ g) ∧ wr.ownsRow 0 61 6 v m cs) := ⟨hrep, hfrom, hown⟩
        have H := Lib.hid (fun w1 r => is_yes b s k' false d c w1 r hs hc)
        obtain ⟨a, cc, rfl⟩ := row_slice (ok := fun _ => True) ⟨hown, fun _ _ => trivial⟩
        have hdl : decide (k' < s.size) = true := by simpa using hlt
        have hcv := HCV.out
        have hcc : ((s[k'].toNat : Int) == cv) = true := by rw [hget, ← hcv]; simp
        have hcc' : ((s[k'].toNat : Int) != cv) = false := by rw [hget, ← hcv]; simp
        clear hrep hfrom hown hd1 hc HI IH HH hark hget
        rw [hcv] at H
        clear hcv
        go_wp2_with fail
        go_quiet (fail)
        go_wp2_with fail
        refine (H.out _ (r.drewN _)).mono ?_
        rintro e w1 ⟨rfl, r1, q1⟩
        go_wp2_with fail
        go_ret
        obtain ⟨a1, a2, a3⟩ := HA.out
        have q2 := (Keeps.refl (oneB b) wr).drewN nq
        have q3 := q2.trans q1
        have hh : Hands wr w1 (fun g => w.heap.size ≤ g ∧ (Value.slice a m cc).ownBlock ≠ some g) (fromB w.heap.size) :=
          Hands.of_keeps q3 (fun g hg _ e => by simp [oneB] at e; omega) (fun g hg hl => hg.1)
        exact ⟨a, m, cc, cs, ⟨rfl, r1, q.trans q3⟩, ⟨q3.ownsRow a3 (fun g hg _ e => by have := a2 g hg; simp [oneB] at e; omega), a2⟩, hh.repSL pre cs a1⟩
      · -- no step
        rw [hd1] at hj
        subst hj
        obtain ⟨a, cc, rfl⟩ := row_slice (ok := fun _ => True) ⟨hown, fun _ _ => trivial⟩
        by_cases hlt : k' < s.size
        · -- a step that falls
          have hget : s[k'] ≠ c := fun e => hc (by rw [at?_some hlt, e])
          have H2 := Lib.hid (fun w1 r => IH.out gk (by omega) b s k' d ar w1 r hs hlt hark hd (by omega))
          have HX := Lib.hid hx
          have HA : Hid ((∀ g, (Value.slice a m cc).ownBlock = some g → w.heap.size ≤ g) ∧ wr.ownsRow 0 61 6 (.slice a m cc) m cs) := ⟨hfrom, hown⟩
          have hdl : decide (k' < s.size) = true := by simpa using hlt
          have hcv := HCV.out
          have hcc : ((s[k'].toNat : Int) == cv) = false := by
            rw [← hcv, beq_eq_false_iff_ne]; exact fun e => hget (UInt8.toNat_inj.1 (Int.ofNat.inj e))
          have hcc' : ((s[k'].toNat : Int) != cv) = true := by rw [bne, hcc]; rfl
          clear hrep hfrom hown hd1 hc IH hark hget hx
          clear hcv
          go_wp2_with fail
          go_quiet (fail)
          go_wp2_with fail
          refine (H2.out _ (r.drewN _)).mono ?_
          intro e w1 hp
          rw [HX.out] at hp
          obtain ⟨k2, x0, x1, x2, x3, x4, x5, x6, x7, ⟨rfl, r1, q1⟩, hk2⟩ := hp
          have hnv : nodeV x0 x1 x2 x3 x4 x5 x6 x7 = .agg #[.int .u8 x0, .int .i64 x1, .int .i64 x2, .string x3, .slice x4 x5 x6, .string x7] := rfl
          obtain ⟨hi, hz0, hz1, hz2⟩ := HI.out
          go_wp2_with (at_builtin; refine wpList_append_fresh _ rfl _ _ 64 rfl 61 i0 _ 6 80 Try.underlying64 hi hz0 hz1 hz2 rfl (by decide) (.slice a m cc) m cs rfl ?own ⟨w1.heap.size, 0, none⟩ 1 1 (six x0 x1 x2 x3 (.slice x4 x5 x6) x7).toList rfl ?c1 ?c2 ?c3 ?c4 ?c5 ?_)
          case own =>
            obtain ⟨o1, o2⟩ := HA.out
            exact ((((Keeps.refl (oneB b) wr).drewN _).trans q1).ownsRow o2 (fun g hg _ e => by have := o1 g hg; simp [oneB] at e; omega)).alloc _
          case c1 => rfl
          case c2 => exact cells_all w1 _ _
          case c3 => exact six_oneCell _ _ _ _ _ _ _ _
          case c4 => unfold maxLen; omega
          case c5 => omega
          intro v' w3 hown' hgrow hfresh
          obtain ⟨a', cc', rfl⟩ := row_slice (ok := fun _ => True) ⟨hown', fun _ _ => trivial⟩
          have HE : Hid (BodyAt b s d ar c w none gk (.slice a' (m + 1) cc') w3) := by
            obtain ⟨o1, o2⟩ := HA.out
            have qd := ((Keeps.refl (oneB b) wr).drewN _).trans q1
            have qa : Keeps (fun g => (Value.slice a m cc).ownBlock = some g) w1 w3 := ((Keeps.refl _ w1).alloc _).grown hgrow (fun g hg => .inl hg)
            exact .inr ⟨rfl, k2, _, _, _, rfl, hk2, r1.keeps qa (fun e => by have := o1 b e; omega), (q.trans qd).transNew qa (fun i hi e => by have := o1 i e; omega)⟩
          clear hown' hgrow hfresh
          go_wp2_with fail
          go_roundg gk
          case measure => omega
          case rel => exact ⟨by omega, HE.out⟩
        · -- the text's end
          have H := Lib.hid (fun w1 r => is_no b s k' false d c w1 r hs hk' hc)
          rw [HCV.out] at H
          have hdl : decide (k' < s.size) = false := by simpa using hlt
          clear hrep hfrom hown hd1 hc HI IH HH hark hx
          go_wp2_with fail
          go_quiet (fail)
          go_wp2_with fail
          refine (H.out _ (r.drewN _)).mono ?_
          rintro e w1 ⟨rfl, r1, q1⟩
          go_wp2_with fail
          go_ret
          exact ⟨k', _, _, _, ⟨rfl, r1, (q.drewN _).trans q1⟩, hk'⟩
      · -- a step
        rw [hd1] at hj
        have hgo := (goes s gk).step _ _ _ _ _ hx
        have hlt : k' < s.size := by omega
        have hget : s[k'] ≠ c := fun e => hc (by rw [at?_some hlt, e])
        obtain ⟨a, cc, rfl⟩ := row_slice (ok := fun _ => True) ⟨hown, fun _ _ => trivial⟩
        have H2 := Lib.hid (fun w1 r => IH.out gk (by omega) b s k' d ar w1 r hs hlt hark hd (by omega))
        have HX := Lib.hid hx
        have HN := Lib.hid (fun v' cells w1 w3 => @bodyAt_next b s d ar c w res gk (.slice a m cc) v' cells wr w1 w3 k' k1 m pre cs x hj (by omega) hgo.1 hgo.2 hark hlen hfrom hown hrep hb q)
        have HA : Hid ((∀ g, (Value.slice a m cc).ownBlock = some g → w.heap.size ≤ g) ∧ wr.ownsRow 0 61 6 (.slice a m cc) m cs) := ⟨hfrom, hown⟩
        have hdl : decide (k' < s.size) = true := by simpa using hlt
        have hcv := HCV.out
        have hcc : ((s[k'].toNat : Int) == cv) = false := by
          rw [← hcv, beq_eq_false_iff_ne]; exact fun e => hget (UInt8.toNat_inj.1 (Int.ofNat.inj e))
        have hcc' : ((s[k'].toNat : Int) != cv) = true := by rw [bne, hcc]; rfl
        clear hrep hfrom hown hd1 hc IH hark hget hx hj hgo
        clear hcv
        go_wp2_with fail
        go_quiet (fail)
        go_wp2_with fail
        refine (H2.out _ (r.drewN _)).mono ?_
        intro e w1 hp
        rw [HX.out] at hp
        obtain ⟨x0, x1, x2, x3, x4, x5, x6, x7, ⟨rfl, r1, q1⟩, hu⟩ := hp
        have HU := Lib.hid hu
        clear hu
        have hnv : nodeV x0 x1 x2 x3 x4 x5 x6 x7 = .agg #[.int .u8 x0, .int .i64 x1, .int .i64 x2, .string x3, .slice x4 x5 x6, .string x7] := rfl
        obtain ⟨hi, hz0, hz1, hz2⟩ := HI.out
        go_wp2_with (at_builtin; refine wpList_append_fresh _ rfl _ _ 64 rfl 61 i0 _ 6 80 Try.underlying64 hi hz0 hz1 hz2 rfl (by decide) (.slice a m cc) m cs rfl ?own ⟨w1.heap.size, 0, none⟩ 1 1 (six x0 x1 x2 x3 (.slice x4 x5 x6) x7).toList rfl ?c1 ?c2 ?c3 ?c4 ?c5 ?_)
        case own =>
          obtain ⟨o1, o2⟩ := HA.out
          exact ((((Keeps.refl (oneB b) wr).drewN _).trans q1).ownsRow o2 (fun g hg _ e => by have := o1 g hg; simp [oneB] at e; omega)).alloc _
        case c1 => rfl
        case c2 => exact cells_all w1 _ _
        case c3 => exact six_oneCell _ _ _ _ _ _ _ _
        case c4 => unfold maxLen; omega
        case c5 => omega
        intro v' w3 hown' hgrow hfresh
        obtain ⟨a', cc', rfl⟩ := row_slice (ok := fun _ => True) ⟨hown', fun _ _ => trivial⟩
        have HE := Lib.hid (HN.out (.slice a' (m + 1) cc') (six x0 x1 x2 x3 (.slice x4 x5 x6) x7) w1 w3 (((Keeps.refl (oneB b) wr).drewN _).trans q1) HU.out r1 hown' hgrow hfresh)
        clear hown' hgrow hfresh
        go_wp2_with fail
        go_roundg gk
        case measure => omega
        case rel => exact ⟨by omega, HE.out⟩
    · -- it is bad
      have c2 := r.c2
      by_cases hc : at? s k' = some c
      · have H := Lib.hid (fun w1 r => is_yes b s k' true d c w1 r hs hc)
        rw [HCV.out] at H
        have hk1 : k' + 1 ≤ s.size := at?_lt hc
        clear HI IH HH hc
        go_wp2_with fail
        go_quiet (fail)
        go_wp2_with fail
        refine (H.out _ (r.drewN _)).mono ?_
        rintro e w2 ⟨rfl, r2, q2⟩
        go_wp2_with fail
        go_ret
        exact ⟨k' + 1, _, _, _, ⟨rfl, r2, (q.drewN _).trans q2⟩, hk1⟩
      · have H := Lib.hid (fun w1 r => is_no b s k' true d c w1 r hs hk' hc)
        rw [HCV.out] at H
        clear HI IH HH hc
        go_wp2_with fail
        go_quiet (fail)
        go_wp2_with fail
        refine (H.out _ (r.drewN _)).mono ?_
        rintro e w2 ⟨rfl, r2, q2⟩
        go_wp2_with fail
        go_ret
        exact ⟨k', _, _, _, ⟨rfl, r2, (q.drewN _).trans q2⟩, hk'⟩

end Go.Proofs.Ytaaphpcbiibpcaa

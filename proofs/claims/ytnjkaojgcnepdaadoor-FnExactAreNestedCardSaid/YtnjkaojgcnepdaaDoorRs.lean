/-
  The program's aliveBehind: the iterator over what is alive behind each event.
-/
import Derived.Test.YtnjkaojgcnepdaaDoorRr
import Derived.Test.YtnjkaojgcnepdaaDoorChecked
import Derived.WalkKit
import Derived.Outline
import Derived.Lib.Hide
import Derived.RangeFuncSeq
import Derived.RangeFuncLeaves
import Derived.TacticsInMore
import Derived.LoopIn
import Derived.OwnWalkIn
import Derived.RangeFuncBox
import Derived.RangeFuncCalls
import Derived.Deep.RegionWith
import Derived.Deep.RegionLaw
import Derived.StillTailTactics
namespace Go.Proofs.YtnjkaojgcnepdaaDoor
set_option linter.unusedVariables false
set_option linter.unusedSimpArgs false
open Go.RowKit

attribute [local go_sem] Oper.semAt_some

/-- What is yielded: an index, and a row of numbers. -/
def encB (x : Nat × List Nat) (args : Array Value) (W : World) : Prop := ∃ v, args = #[.int .i64 (x.1 : Int), v] ∧ NRow W v x.2
theorem encB_size {x : Nat × List Nat} {args : Array Value} {W : World} (h : encB x args W) : args.size = 2 := by obtain ⟨v, rfl, _⟩ := h; rfl

theorem aliveBehind_any (H : Nat) (w : World) : Calls Tryd.prog 39 #[.pointer (some ⟨H, 0, none⟩)] w
    fun e w' => e = .returned (.func (.func 55) #[] #[ptr w.heap.size]) ∧ w' = w.alloc (.cells #[.pointer (some ⟨H, 0, none⟩)] 41) := by
  go_enter Tryd.func39, Tryd.ntmps39
  go_wp2
  go_ret
  exact ⟨rfl, rfl⟩

def protB (B : Nat) (oA : Nat → Prop) : Nat → Prop := fun k => k = B ∨ oA k

/-- What the loop of the iterator holds. -/
def BhAt (J : List (Nat × List Nat) → (Nat → Prop) → World → Prop) (l : List Ev) (own : Nat → Prop) (W : World) (vo vi : Value) (wr : World) : Prop :=
  ∃ (i : Nat) (own' : Nat → Prop), i ≤ l.length ∧ vi = .int .i64 (i : Int) ∧ NRow wr vo (aliveL (l.take i)) ∧ (∀ g, vo.ownBlock = some g → W.heap.size ≤ g ∧ ¬ own' g) ∧ J ((behindL l).take i) own' wr ∧ Owns own own' W wr

theorem alive_few {l : List Ev} (hg : Good l) (hl : l.length ≤ 600) (i : Nat) : (aliveL (l.take i)).length ≤ 600 := by
  have hsay := (hg.take i).says
  have hlen : (l.take i).length ≤ 600 := by rw [List.length_take]; omega
  have hle := hsay.le
  refine asc_len7 (aliveL (l.take i)) 1 601 hsay.asc (fun n hn => ⟨((hsay.alive n).1 hn).1, ?_⟩)
  obtain ⟨h1, f, h2, _⟩ := (hsay.alive n).1 hn
  have := (List.getElem?_eq_some_iff.1 h2).1
  rw [hsay.made] at this; omega

set_option maxRecDepth 100000 in
set_option maxHeartbeats 8000000 in
theorem behind_iter (W : World) (B H : Nat) (oA : Nat → Prop) (l : List Ev) (ve vl : Value) (hg : Good l) (hl : l.length ≤ 600) (hh : HistAt W H oA l ve vl) (hB : Blk W B #[.pointer (some ⟨H, 0, none⟩)] 41) :
    IterAtW Tryd.prog 55 #[ptr B] (behindL l) encB (protB B oA) W := by
  intro lb J Jx own hJ hJx hown hprot hR h0 n0
  obtain ⟨i0, hi, hz0, hz1, hz2⟩ := info_parts Tryd.infoI3
  have HI := Lib.hid (And.intro hi (And.intro hz0 (And.intro hz1 hz2)))
  refine callsIn_wide.2 ?_
  have b1 := hB.cell 0
  have b2 := hh.blk.cell 0
  simp at b1 b2
  have hrl := hh.evs
  have hoE := hh.ownE
  obtain ⟨a, c, rfl⟩ := hh.shape.1
  obtain ⟨N, hN⟩ : ∃ N, N = l.length := ⟨_, rfl⟩
  have HR : Hid (∀ i own' wr, Owns own own' W wr → i < N → ∃ g e, a = some ⟨g, 0, none⟩ ∧ N ≤ c ∧ l[i]? = some e ∧ wr.cell? ⟨g, i * 2, none⟩ = some (.int .u8 (e.k.toNat : Int)) ∧ wr.cell? ⟨g, i * 2 + 1, none⟩ = some (.int .i64 (e.n : Int))) := fun i own' wr q hi => by
    obtain ⟨g, d, e, hc, hgl, hx⟩ := row_capM (ok := fun _ => True) hrl (by omega)
    simp only [Value.slice.injEq, true_and] at e
    obtain ⟨rfl, rfl⟩ := e
    have hm := List.getElem?_eq_getElem (l := l) (i := i) (by omega)
    obtain ⟨g0, g1⟩ := evC_get l i _ hm
    rw [show 2 * i = i * 2 by omega] at g0 g1
    have hn : ¬ own g := hprot g (.inr (hoE g rfl).1)
    exact ⟨g, _, rfl, by omega, hm, (q.keeps.cell (p := ⟨g, i * 2, none⟩) hgl hn).trans (hx _ _ g0).1, (q.keeps.cell (p := ⟨g, i * 2 + 1, none⟩) hgl hn).trans (hx _ _ g1).1⟩
  have HJ := Lib.hid (And.intro hJ hJx)
  have HY := Lib.hid hR
  have HN := Lib.hid hN
  have HG := Lib.hid (And.intro hg hl)
  have HP : Hid (BhAt J l own W (.slice none 0 0) (.int .i64 0) W) :=
    ⟨0, own, Nat.zero_le _, rfl, ⟨rfl, .inl ⟨rfl, rfl⟩⟩, fun g hg => by simp [Value.ownBlock] at hg, h0, Owns.refl hown⟩
  have hN6 : N ≤ 600 := by omega
  rw [← hN] at b2
  clear hrl hoE hh hB hJ hJx hR h0 hN hg hl hi hz0 hz1 hz2 hown hprot
  unfold ptr
  show Calls Tryd.prog 55 #[.func (.yield lb) #[] #[], .pointer (some ⟨B, 0, none⟩)] W _
  go_enter Tryd.func55, Tryd.ntmps55
  go_wp2_with fail
  go_loopw [3, 12] (fun vo vi wr => BhAt J l own W vo vi wr) (fun _ vi _ => N - (intOf vi).toNat)
  case atStart => exact HP.out
  case round =>
    clear HP
    obtain ⟨i, own', hin, rfl, hrow, hfr, hj, ho⟩ := hrel
    rw [← HN.out] at hin
    have hfew := alive_few HG.out.1 HG.out.2 i
    obtain ⟨A, hA⟩ : ∃ A, A = aliveL (l.take i) := ⟨_, rfl⟩
    rw [← hA] at hrow hfew
    obtain ⟨a', c', rfl⟩ := hrow.shape
    obtain ⟨nL, hnL⟩ : ∃ nL, nL = A.length := ⟨_, rfl⟩
    by_cases hlt : i < N
    · obtain ⟨ge, e, rfl, hc, hm, r1, r2⟩ := HR.out i own' wr ho hlt
      have hi1 : (i : Int) < (N : Int) := by omega
      have hi2 : (N : Int) ≤ (c : Int) := by omega
      have hfit := (HG.out.1.at i e hm).2
      have hstep := alive_take hm
      rw [← hA] at hstep
      have hasc := (HG.out.1.take i).says.asc
      rw [← hA] at hasc
      obtain ⟨kv, hkv⟩ : ∃ kv : Int, kv = (e.k.toNat : Int) := ⟨_, rfl⟩
      have hk43 : (kv == 43) = decide (e.k = 43) := by rw [hkv]; exact byte_is e.k 43
      have hk45 : (kv == 45) = decide (e.k = 45) := by rw [hkv]; exact byte_is e.k 45
      rw [← hkv] at r1
      have HROW := Lib.hid (And.intro hrow (And.intro hfr (And.intro hj ho)))
      -- what is left of the round, from the yield on
      have HREST : Hid (∀ (own1 : Nat → Prop) (v : Value) (W4 : World), NRow W4 v (aliveL (l.take (i + 1))) → (∀ g, v.ownBlock = some g → W.heap.size ≤ g ∧ ¬ own1 g) → J ((behindL l).take i) own1 W4 → Owns own own1 W W4 →
          YieldAt Fence.wide 8 Tryd.prog lb #[.int .i64 (i : Int), v] W4 (fun e W5 => (e = .returned (.bool true) ∧ BhAt J l own W v (.int .i64 ((i : Int) + 1)) W5) ∨ (e = .returned (.bool false) ∧ IterEnds J Jx (behindL l) own W (.returned (.tuple #[])) W5))) := fun own1 v W4 h1 h2 h3 h4 => by
        have hiL : i < l.length := by have := HN.out; omega
        obtain ⟨fn2, tmps2, assign2, body2, hy2, hR2⟩ := HY.out 8 _ _ _ #[.int .i64 (i : Int), v] own1 W4 (behindL_cut hiL) ⟨v, rfl, h1⟩ h3 h4.lt
        refine ⟨fn2, tmps2, assign2, body2, hy2, hR2.mono ?_⟩
        rintro e W5 ⟨own5, ho5, hres⟩
        rw [behindL_next hiL] at hres
        rcases hres with ⟨rfl, hj5⟩ | ⟨rfl, hj5⟩
        · refine .inl ⟨rfl, i + 1, own5, by omega, by go_num, ?_, fun g hg => ⟨(h2 g hg).1, fun e => ?_⟩, hj5, h4.trans ho5⟩
          · exact h1.keeps ho5.keeps (fun g hg => (h2 g hg).2)
          · rcases ho5.more g e with h | h
            · exact (h2 g hg).2 h
            · have := (h1.lt g hg).2; omega
        · exact .inr ⟨rfl, _, own5, rfl, h4.trans ho5, .inr ⟨_, _, (List.take_append_drop (i + 1) (behindL l)).symm, hj5⟩⟩
      have hn6 : nL ≤ 600 := by omega
      have hnn : (0 : Int) ≤ (nL : Int) := by omega
      clear hrow hfr hj ho
      rcases hfit with ⟨h43, hn0⟩ | ⟨hk, hn⟩
      · have x1 : (kv == 43) = true := by rw [hk43]; simp [h43]
        have hst : aliveL (l.take (i + 1)) = A ++ [e.n] := by rw [hstep]; unfold aliveStep; rw [if_pos h43]
        have HST := Lib.hid hst
        obtain ⟨LV, hLV⟩ : ∃ LV, LV = A.map i64 := ⟨_, rfl⟩
        have HO : Hid (wr.ownsRow 0 3 1 (.slice a' nL c') nL LV) := by have h := HROW.out.1; unfold NRow at h; rw [← hnL, ← hLV] at h; exact h
        have HLV := Lib.hid hLV
        have HNL := Lib.hid hnL
        rw [← hnL]
        clear hstep hst hm h43 hn0 hasc hk43 hk45 hkv hLV hnL hfew hA
        obtain ⟨hi1', hz0, hz1, hz2⟩ := HI.out
        go_wp2_with (at_builtin; refine wpList_append_fresh _ rfl _ _ 28 rfl 3 i0 _ 1 8 Tryd.underlying28 hi1' hz0 hz1 hz2 rfl (by decide) (.slice a' nL c') nL LV rfl ((((Keeps.refl noB wr).alloc _).alloc _).ownsRow HO.out (fun _ _ _ e => e)) ⟨wr.heap.size + 1, 0, none⟩ 1 1 [.int .i64 (e.n : Int)] rfl rfl (by have h := cells_one (wr.alloc (.cells #[.int .u8 kv, .int .i64 (e.n : Int)] 62)) (.int .i64 (e.n : Int)) 3; rw [World.size_alloc] at h; exact h) (by intro u hu; simp at hu; subst hu; rfl) (by unfold maxLen; omega) (by omega) ?_)
        intro v' w3 hown' hgrow hfresh
        have hnew : YieldAt Fence.wide 8 Tryd.prog lb #[.int .i64 (i : Int), v'] w3 (fun e W5 => (e = .returned (.bool true) ∧ BhAt J l own W v' (.int .i64 ((i : Int) + 1)) W5) ∨ (e = .returned (.bool false) ∧ IterEnds J Jx (behindL l) own W (.returned (.tuple #[])) W5)) := by
          obtain ⟨h1, h2, h3, h4⟩ := HROW.out
          have qa : Keeps (fun g => (Value.slice a' nL c').ownBlock = some g) wr w3 := (((Keeps.refl _ wr).alloc _).alloc _).grown hgrow (fun g hg => .inl hg)
          have h2 : ∀ g, (Value.slice a' nL c').ownBlock = some g → W.heap.size ≤ g ∧ ¬ own' g := by rw [HNL.out]; exact h2
          refine HREST.out own' v' w3 ?_ (fun g hg => ?_) (HJ.out.1 _ _ _ _ h3 (qa.mono (fun k hk => h2 k hk))) (h4.ahead qa (fun k hk => (h2 k hk).1))
          · rw [HST.out]
            unfold NRow
            rw [List.length_append, List.map_append, ← HNL.out, ← HLV.out]
            exact hown'
          · rcases hfresh with h | h
            · exact h2 g (h ▸ hg)
            · have hge := h g hg
              simp only [World.size_alloc] at hge
              exact ⟨by have := h4.keeps.size; omega, fun e => by have := h4.lt g e; omega⟩
        obtain ⟨a2, c2, rfl⟩ := row_shape (ok := fun _ => True) ⟨hown', fun _ _ => trivial⟩
        have HE := Lib.hid hnew
        clear hown' hgrow hfresh hnew
        go_upto_region 11 with fail
        obtain ⟨fn2, tmps2, assign2, body2, hy2, hR2⟩ := HE.out
        refine (wpIn_wide (n := 9)).1 ?_
        obtain ⟨F, hF⟩ : ∃ F, F = Fence.wide := ⟨_, rfl⟩
        have hFf : ∀ f, F.fn f := by subst hF; exact fun _ => trivial
        have hdd : ∀ k : Nat, (F.depth.isSome = true → 1 ≤ k) := by subst hF; intro k h; simp [Fence.wide] at h
        have hro : F.round = none := by subst hF; rfl
        have hds : F.depth.isSome = false := by subst hF; rfl
        rw [← hF] at hR2 ⊢
        have HF := Lib.hid hF
        clear hF
        gi_wp2
        refine (show RoundIn F _ _ _ _ _ _ _ _ _ from hR2).mono ?_
        clear hR2 hy2
        rintro e W5 (⟨rfl, hres⟩ | ⟨rfl, hres⟩)
        · have HB := Lib.hid hres
          clear hres
          gi_wp2
          go_wp2_with fail
          go_roundw
          case rel => exact HB.out
          case measure => simp [intOf]; omega
        · have HB := Lib.hid hres
          clear hres
          gi_wp2
          go_wp2_with fail
          first | go_end0 | go_ret2 | refine bodyPost_ret (results_none rfl _ _ _) rfl ?_
          exact HB.out
      · have h43 : ¬ e.k = 43 := by rcases hk with h | h <;> (rw [h]; decide)
        have x1 : (kv == 43) = false := by rw [hk43]; simp [h43]
        rcases hk with hk | hk
        · have x2 : (kv == 45) = false := by rw [hk45, hk]; decide
          have hst : aliveL (l.take (i + 1)) = A := by rw [hstep]; unfold aliveStep; rw [if_neg h43, if_neg (by rw [hk]; decide)]
          have hnew : YieldAt Fence.wide 8 Tryd.prog lb #[.int .i64 (i : Int), .slice a' nL c'] (wr.alloc (.cells #[.int .u8 kv, .int .i64 (e.n : Int)] 62)) (fun e W5 => (e = .returned (.bool true) ∧ BhAt J l own W (.slice a' nL c') (.int .i64 ((i : Int) + 1)) W5) ∨ (e = .returned (.bool false) ∧ IterEnds J Jx (behindL l) own W (.returned (.tuple #[])) W5)) := by
            obtain ⟨h1, h2, h3, h4⟩ := HROW.out
            have qa : Keeps noB wr (wr.alloc (.cells #[.int .u8 kv, .int .i64 (e.n : Int)] 62)) := (Keeps.refl _ wr).alloc _
            rw [hnL]
            refine HREST.out own' _ _ ?_ h2 (HJ.out.1 _ _ _ _ h3 (qa.mono (fun k hk => hk.elim))) (h4.ahead qa (fun k hk => hk.elim))
            rw [hst]
            exact h1.keeps qa (fun _ _ e => e)
          have HE := Lib.hid hnew
          rw [← hnL]
          clear hstep hst hm h43 hasc hk43 hk45 hkv hk hnew hnL hfew hA hn
          go_upto_region 11 with fail
          generalize wr.alloc (.cells #[.int .u8 kv, .int .i64 (e.n : Int)] 62) = w3 at *
          obtain ⟨fn2, tmps2, assign2, body2, hy2, hR2⟩ := HE.out
          refine (wpIn_wide (n := 9)).1 ?_
          obtain ⟨F, hF⟩ : ∃ F, F = Fence.wide := ⟨_, rfl⟩
          have hFf : ∀ f, F.fn f := by subst hF; exact fun _ => trivial
          have hdd : ∀ k : Nat, (F.depth.isSome = true → 1 ≤ k) := by subst hF; intro k h; simp [Fence.wide] at h
          have hro : F.round = none := by subst hF; rfl
          have hds : F.depth.isSome = false := by subst hF; rfl
          rw [← hF] at hR2 ⊢
          have HF := Lib.hid hF
          clear hF
          gi_wp2
          refine (show RoundIn F _ _ _ _ _ _ _ _ _ from hR2).mono ?_
          clear hR2 hy2
          rintro e W5 (⟨rfl, hres⟩ | ⟨rfl, hres⟩)
          · have HB := Lib.hid hres
            clear hres
            gi_wp2
            go_wp2_with fail
            go_roundw
            case rel => exact HB.out
            case measure => simp [intOf]; omega
          · have HB := Lib.hid hres
            clear hres
            gi_wp2
            go_wp2_with fail
            first | go_end0 | go_ret2 | refine bodyPost_ret (results_none rfl _ _ _) rfl ?_
            exact HB.out
        · have x2 : (kv == 45) = true := by rw [hk45]; simp [hk]
          have hst : aliveL (l.take (i + 1)) = A.filter (fun m => decide (m ≠ e.n)) := by rw [hstep]; unfold aliveStep; rw [if_neg h43, if_pos hk]
          have hnA : e.n ∈ A := by rw [hA]; exact hn
          obtain ⟨k, hkx⟩ := List.getElem?_of_mem hnA
          have hkl := (List.getElem?_eq_some_iff.1 hkx).1
          have hout := out_at A k e.n hasc hkx
          rw [← hst] at hout
          have hfirst : ∀ j, j < k → ∀ m, A[j]? = some m → m < e.n := fun j hj m hm2 => by
            obtain ⟨j1, rfl⟩ := List.getElem?_eq_some_iff.1 hm2
            obtain ⟨k1, hk1⟩ := List.getElem?_eq_some_iff.1 hkx
            rw [← hk1]
            exact List.pairwise_iff_getElem.1 hasc j k j1 k1 hj
          obtain ⟨mL, hmL⟩ : ∃ mL, A.length = mL + 1 := ⟨A.length - 1, by omega⟩
          rw [hmL] at hnL HROW ⊢
          subst hnL
          obtain ⟨g1, ⟨hr1, hr2⟩, hrn⟩ : ∃ gA, (wr.ownsRow 0 3 1 (.slice a' (mL + 1) c') (mL + 1) (A.map i64)) ∧ a' = some ⟨gA, 0, none⟩ := by
            have h := HROW.out.1
            unfold NRow at h
            rw [hmL] at h
            obtain ⟨g, d, e, _⟩ := row_capM (ok := fun _ => True) h (by omega)
            simp only [Value.slice.injEq, true_and] at e
            exact ⟨g, h, e.1⟩
          subst hrn
          obtain ⟨cur, hblk, hnc, hcm, hcs, htk⟩ : ∃ cur : Array Value, Blk wr g1 cur 3 ∧ mL + 1 ≤ c' ∧ c' ≤ maxLen ∧ cur.size = c' ∧ cur.toList.take (mL + 1) = A.map i64 := by
            rcases hr2 with ⟨e, _⟩ | ⟨g', d, cur, e, _, hh, hnc, hcm, hcs, htk⟩
            · cases e
            · simp only [Value.slice.injEq, Option.some.injEq, Addr.mk.injEq, and_true, true_and] at e
              obtain ⟨rfl, rfl⟩ := e
              exact ⟨cur, hh, hnc, hcm, by simpa using hcs, by simpa using htk⟩
          obtain ⟨CUR, hCUR⟩ : ∃ CUR, CUR = cur.toList := ⟨_, rfl⟩
          have hblk : Blk wr g1 CUR.toArray 3 := by rw [hCUR]; simpa using hblk
          rw [← hCUR] at htk
          have hCl : CUR.length = c' := by rw [hCUR]; simpa using hcs
          obtain ⟨CS, hCS⟩ : ∃ CS, CS = (A.drop (k + 1)).map i64 := ⟨_, rfl⟩
          have hSl : CS.length = mL - k := by rw [hCS, List.length_map, List.length_drop, hmL]; omega
          have hS1 : ∀ v ∈ CS, v.oneCell' = true := fun v hv => by rw [hCS] at hv; obtain ⟨m, _, rfl⟩ := List.mem_map.1 hv; rfl
          have hg1lt := hblk.lt
          have hcell : ∀ j v, CS[j]? = some v → CUR[k + 1 + j]? = some v := fun j v hv => by
            have hjl := (List.getElem?_eq_some_iff.1 hv).1
            have e : (CUR.take (mL + 1))[k + 1 + j]? = some v := by
              rw [htk, List.getElem?_map]
              rw [hCS, List.getElem?_map, List.getElem?_drop] at hv
              exact hv
            rw [List.getElem?_take_of_lt (by omega)] at e
            exact e
          have HSRC : Hid (∀ j v, CS[j]? = some v → (wr.alloc (.cells #[.int .u8 kv, .int .i64 (e.n : Int)] 62)).drew.cell? ((⟨g1, k + 1, none⟩ : Addr).add j) = some v) := fun j v hv => by
            have hadd : (⟨g1, k + 1, none⟩ : Addr).add j = ⟨g1, k + 1 + j, none⟩ := by unfold Addr.add; split <;> simp_all
            rw [hadd, (((hblk.alloc (.cells #[.int .u8 kv, .int .i64 (e.n : Int)] 62)).drew).cell (k + 1 + j))]
            simpa using hcell j v hv
          have HBLK : Hid (Blk (wr.alloc (.cells #[.int .u8 kv, .int .i64 (e.n : Int)] 62)).drew g1 CUR.toArray 3) := (hblk.alloc _).drew
          have HIX : Hid (∀ W2, Keeps noB wr W2 → Calls Tryd.prog 56 #[.slice (some ⟨g1, 0, none⟩) (mL + 1) c', .int .i64 (e.n : Int)] W2 fun e w' => e = .returned (.int .i64 (k : Int)) ∧ w' = W2) := fun W2 q => by
            have hzl : (A.map (fun m : Nat => (m : Int))).length = mL + 1 := by rw [List.length_map, hmL]
            have hgd : ∀ j, j < mL + 1 → ∃ m, A[j]? = some m ∧ (A.map (fun m : Nat => (m : Int))).getD j 0 = (m : Int) := fun j hj => by
              have hm2 := List.getElem?_eq_getElem (l := A) (i := j) (by omega)
              exact ⟨_, hm2, by rw [List.getD_eq_getElem?_getD, List.getElem?_map, hm2]; rfl⟩
            have h := Tryd.slices_Index_int g1 0 (mL + 1) c' (A.map (fun m : Nat => (m : Int))) (e.n : Int) W2 (by omega) (by omega) (fun j hj => by
              obtain ⟨m, hm2, hm3⟩ := hgd j (by omega)
              rw [hm3, Nat.zero_add, q.cell (p := ⟨g1, j, none⟩) hg1lt id, hblk.cell j]
              have e : (CUR.take (mL + 1))[j]? = some (i64 m) := by rw [htk, List.getElem?_map, hm2]; rfl
              rw [List.getElem?_take_of_lt (by omega)] at e
              unfold i64 at e
              simpa using e)
            rw [Lib.idxOf_hit _ (mL + 1) k _ (by omega) (by omega) (by obtain ⟨m, hm2, hm3⟩ := hgd k (by omega); rw [hm3]; rw [hkx] at hm2; rw [Option.some.inj hm2]) (fun j hj => by
              obtain ⟨m, hm2, hm3⟩ := hgd j (by omega)
              have := hfirst j hj m hm2
              rw [hm3]; omega)] at h
            exact h
          have HFIN : Hid (∀ w', Blk w' g1 (splice CUR k CS).toArray 3 → Keeps (oneB g1) (wr.alloc (.cells #[.int .u8 kv, .int .i64 (e.n : Int)] 62)).drew w' →
              YieldAt Fence.wide 8 Tryd.prog lb #[.int .i64 (i : Int), .slice (some ⟨g1, 0, none⟩) mL c'] w' (fun e W5 => (e = .returned (.bool true) ∧ BhAt J l own W (.slice (some ⟨g1, 0, none⟩) mL c') (.int .i64 ((i : Int) + 1)) W5) ∨ (e = .returned (.bool false) ∧ IterEnds J Jx (behindL l) own W (.returned (.tuple #[])) W5))) := fun w' hb' hk' => by
            obtain ⟨h1, h2, h3, h4⟩ := HROW.out
            have qa : Keeps (oneB g1) wr w' := (((Keeps.refl (oneB g1) wr).alloc _).drew).trans hk'
            have h2 := h2 g1 rfl
            refine HREST.out own' _ w' ?_ (fun g hg => by have : g1 = g := by simpa [Value.ownBlock] using hg
                                                          exact this ▸ h2) (HJ.out.1 _ _ _ _ h3 (qa.mono (fun k hk => by rw [show k = g1 from hk]; exact h2))) (h4.ahead qa (fun k hk => by rw [show k = g1 from hk]; exact h2.1))
            have hLl : (A.take k ++ A.drop (k + 1)).length = mL := by rw [List.length_append, List.length_take, List.length_drop, hmL]; omega
            rw [hout]
            unfold NRow
            rw [hLl]
            refine ⟨by rw [List.length_map, hLl]; omega, .inr ⟨g1, c', (splice CUR k CS).toArray, rfl, Nat.zero_le _, hb', by omega, hcm, ?_, ?_⟩⟩
            · simp only [List.size_toArray]
              rw [length_splice _ _ _ (by omega), hCl]; omega
            · show (splice CUR k CS).take (mL * 1) = _
              unfold splice
              rw [← List.append_assoc, List.take_append_of_le_length (by rw [List.length_append, List.length_take]; omega), List.take_of_length_le (by rw [List.length_append, List.length_take]; omega), List.map_append, hCS]
              congr 1
              have e : CUR.take k = (CUR.take (mL + 1)).take k := by rw [List.take_take, Nat.min_eq_left (by omega)]
              rw [e, htk, List.map_take]
          have q0 := Lib.hid ((Keeps.refl noB wr).alloc (.cells #[.int .u8 kv, .int .i64 (e.n : Int)] 62))
          have hSI : Tryd.prog.info? 3 = some i0 := HI.out.1
          have hS2 : i0.size = 1 := HI.out.2.2.1
          have hsz1 : (Tryd.prog.info? 3).map (·.size) = some 1 := by rw [hSI]; exact congrArg some hS2
          have hk6 : (k : Int) ≤ 600 := by omega
          have hm6 : (mL : Int) ≤ 600 := by omega
          have hkm : (k : Int) ≤ (mL : Int) := by omega
          have hmc : (mL : Int) + 1 ≤ (c' : Int) := by omega
          have hk0 : (0 : Int) ≤ (k : Int) := by omega
          have hkmn : k ≤ mL := by omega
          have hks : (k : Int) ≤ (mL : Int) + 1 := by omega
          have hks2 : (k : Int) + 1 ≤ (mL : Int) + 1 := by omega
          have hks0 : (0 : Int) ≤ (k : Int) + 1 := by omega
          have hkw : IntKind.i64.wrap ((k : Int) + 1) = (k : Int) + 1 := by rw [IntKind.wrap_i64]; omega
          clear hstep hst hm h43 hasc hk43 hk45 hkv hk hfew hA hn hnA hkx hout hfirst hr1 hr2 hblk hcs htk hCUR hCS hcell hcm HROW hmL hkl
          go_wp2_with (go_at_call 56; refine (HIX.out _ q0.out).mono ?_; rintro e5 w5 ⟨rfl, rfl⟩)
          refine wp_region_still_tail 7 (by kernel_rfl) (by kernel_rfl) ?_
          simp only [List.take_succ_cons, List.take_zero, List.drop_succ_cons, List.drop_zero]
          change wpStill _ _ (World.drew _) (fun a' => wpList _ _ _ _ a' (World.drew _)) _ _
          clear r1 r2 HR HIX
          generalize (wr.alloc (.cells #[.int .u8 kv, .int .i64 (e.n : Int)] 62)).drew = w3 at *
          still_step
          still_step
          still_step
          still_step
          still_step
          still_step
          still_step
          refine wpStill_nil ?_
          refine wpList_copy_keeps rfl (.tmp 34) (.tmp 38) 28 28 rfl 3 Tryd.underlying28 hsz1 _ _ _ _ _ _ rfl rfl g1 k CUR 3 HBLK.out CS (by show CS.length = min _ _; omega) (fun hp => ⟨by first | rfl | exact if_neg (by omega), _, by first | rfl | exact if_neg (by omega), HSRC.out⟩) (by omega) hS1 ?_
          intro w4 hb4 hk4 hs4
          have HE := Lib.hid (HFIN.out w4 hb4 hk4)
          clear hb4 hk4
          go_upto_region 11 with fail
          all_goals
            obtain ⟨fn2, tmps2, assign2, body2, hy2, hR2⟩ := HE.out
            refine (wpIn_wide (n := 9)).1 ?_
            obtain ⟨F, hF⟩ : ∃ F, F = Fence.wide := ⟨_, rfl⟩
            have hFf : ∀ f, F.fn f := by subst hF; exact fun _ => trivial
            have hdd : ∀ k : Nat, (F.depth.isSome = true → 1 ≤ k) := by subst hF; intro k h; simp [Fence.wide] at h
            have hro : F.round = none := by subst hF; rfl
            have hds : F.depth.isSome = false := by subst hF; rfl
            rw [← hF] at hR2 ⊢
            have HF := Lib.hid hF
            clear hF
            gi_wp2
            all_goals
              refine (show RoundIn F _ _ _ _ _ _ _ _ _ from hR2).mono ?_
              clear hR2 hy2
              rintro e W5 (⟨rfl, hres⟩ | ⟨rfl, hres⟩)
              · have HB := Lib.hid hres
                clear hres
                gi_wp2
                go_wp2_with fail
                go_roundw
                case rel =>
                  first
                    | exact HB.out
                    | (have hcc : c' = k + 1 := (by assumption); rw [hcc] at HB; exact HB.out)
                case measure => simp [intOf]; omega
              · have HB := Lib.hid hres
                clear hres
                gi_wp2
                go_wp2_with fail
                first | go_end0 | go_ret2 | refine bodyPost_ret (results_none rfl _ _ _) rfl ?_
                exact HB.out
    · have HE : Hid (IterEnds J Jx (behindL l) own W (.returned (.tuple #[])) wr) := by
        rw [List.take_of_length_le (by rw [behindL_len]; have := HN.out; omega)] at hj
        exact ⟨_, own', rfl, ho, .inl hj⟩
      have hi1 : ¬ (i : Int) < (N : Int) := by omega
      rw [← hnL]
      clear hA hrow hfr hj ho hfew hnL
      go_wp2_with fail
      first | go_end0 | go_ret2 | refine bodyPost_ret (results_none rfl _ _ _) rfl ?_
      exact HE.out

end Go.Proofs.YtnjkaojgcnepdaaDoor

/-
  MostAlive, on both sides.
-/
import Derived.Test.YtnjkaojgcnepdaaDoorQh
import Derived.Test.YtnjkaojgcnepdaaDoorRc
import Derived.Test.YtnjkaojgcnepdaaDoorRs
import Derived.Test.YtnjkaojgcnepdaaDoorRt
namespace Go.Proofs.YtnjkaojgcnepdaaDoor
set_option linter.unusedVariables false
set_option linter.unusedSimpArgs false
open Go.RowKit

attribute [local go_sem] Oper.semAt_some

/-! ### the plain account -/
def mostB : List (Nat × List Nat) → Nat := fun L => L.foldl (fun m x => max m x.2.length) 0
theorem mostB_snoc (L : List (Nat × List Nat)) (x : Nat × List Nat) : mostB (L ++ [x]) = max (mostB L) x.2.length := by unfold mostB; simp
theorem mostB_le : ∀ (L : List (Nat × List Nat)) (m b : Nat), m ≤ b → (∀ x ∈ L, x.2.length ≤ b) → L.foldl (fun m x => max m x.2.length) m ≤ b
  | [], _, _, h, _ => h
  | x :: r, m, b, h, hx => mostB_le r _ b (Nat.max_le.2 ⟨h, hx x (by simp)⟩) (fun y hy => hx y (by simp [hy]))
theorem behind_few {l : List Ev} (hg : Good l) (hl : l.length ≤ 600) : ∀ x ∈ behindL l, x.2.length ≤ 600 := fun x hx => by
  unfold behindL at hx
  obtain ⟨i, _, rfl⟩ := List.mem_map.1 hx
  have hsay := (hg.take (i + 1)).says
  have hlen : (l.take (i + 1)).length ≤ 600 := by rw [List.length_take]; omega
  have hle := hsay.le
  refine asc_len7 (aliveL (l.take (i + 1))) 1 601 hsay.asc (fun n hn => ⟨((hsay.alive n).1 hn).1, ?_⟩)
  obtain ⟨h1, f, h2, _⟩ := (hsay.alive n).1 hn
  have := (List.getElem?_eq_some_iff.1 h2).1
  rw [hsay.made] at this; omega
theorem mostB_few {l : List Ev} (hg : Good l) (hl : l.length ≤ 600) (i : Nat) : mostB ((behindL l).take i) ≤ 600 :=
  mostB_le _ 0 600 (by omega) (fun x hx => behind_few hg hl x (List.mem_of_mem_take hx))

def mostV : Option (List Ev) → Int
  | none => -1
  | some l => (mostB (behindL l) : Int)

/-- What the model's loop holds. -/
def MoAt (w1 : World) (l : List Ev) (vo vi : Value) (wr : World) : Prop :=
  ∃ i : Nat, i ≤ l.length ∧ vi = .int .i64 (i : Int) ∧ vo = .int .i64 (mostB ((behindL l).take i) : Int) ∧ Keeps noB w1 wr

set_option maxRecDepth 100000 in
set_option maxHeartbeats 8000000 in
theorem smost_any (s : ByteArray) (hs : s.size ≤ 1048576) (w : World) : Calls Tryd.prog 23 #[.string s] w (IntP w (mostV (readP s))) := by
  have H := Lib.hid (read_any s hs w)
  cases hr : readP s with
  | none =>
    rw [hr] at H
    go_enter Tryd.func23, Tryd.ntmps23
    go_wp2_with fail
    refine H.out.mono ?_
    rintro e w1 ⟨v, rfl, _, _, q1⟩
    have HQ := Lib.hid q1
    clear q1
    go_wp2_with fail
    go_ret
    exact ⟨rfl, HQ.out⟩
  | some l =>
    obtain ⟨hg, hl⟩ := readP_good hr
    rw [hr] at H
    have hle : (livesL l).length ≤ 600 := by have := hg.says.made; have := hg.says.le; omega
    have HL := Lib.hid (fun v w h => lives_any v l hg hl w h)
    have HA : Hid (∀ v (i : Nat) w, LRow w v (livesL l) → i < l.length → Calls Tryd.prog 38 #[v, .int .i64 (i : Int)] w (WithoutPost w (aliveL (l.take (i + 1))))) := fun v i w h hi => by
      have := alive_any v (livesL l) (i : Int) w h hle
      rw [alive_sel hg hi] at this
      exact this
    have HMX := Lib.hid (fun i => mostB_few hg hl i)
    have HFW : Hid (∀ i : Nat, i < l.length → (aliveL (l.take (i + 1))).length ≤ 600) := Lib.hid (fun i hi => behind_few hg hl (i, aliveL (l.take (i + 1))) (List.mem_of_getElem? (behindL_get hi)))
    show Calls _ _ _ _ (IntP w (mostB (behindL l) : Int))
    obtain ⟨N, hN⟩ : ∃ N, N = l.length := ⟨_, rfl⟩
    have hN6 : N ≤ 600 := by omega
    have HN := Lib.hid hN
    clear hg hl hr hle
    go_enter Tryd.func23, Tryd.ntmps23
    go_wp2_with fail
    refine H.out.mono ?_
    rintro e w1 ⟨v, rfl, hrow, _, q1⟩
    have hrow : ERow w1 v l := hrow
    obtain ⟨a, c, rfl⟩ := row_shape (ok := fun _ => True) ⟨hrow, fun _ _ => trivial⟩
    have HQ := Lib.hid q1
    have HRW := Lib.hid hrow
    rw [← hN] at HRW ⊢
    clear q1 hrow hN
    have HP : Hid (MoAt w1 l (.int .i64 0) (.int .i64 0) w1) := ⟨0, Nat.zero_le _, rfl, rfl, Keeps.refl _ _⟩
    go_wp2_with fail
    go_loopw [5, 16] (fun vo vi wr => MoAt w1 l vo vi wr) (fun _ vi _ => N - (intOf vi).toNat)
    case atStart => exact HP.out
    case round =>
      clear HP
      obtain ⟨i, hin, rfl, rfl, hq⟩ := hrel
      rw [← HN.out] at hin
      have hm := HMX.out i
      obtain ⟨S, hS⟩ : ∃ S, S = mostB ((behindL l).take i) := ⟨_, rfl⟩
      rw [← hS] at hm ⊢
      by_cases hlt : i < N
      · have hi1 : (i : Int) < (N : Int) := by omega
        have hiL : i < l.length := by have := HN.out; omega
        have hf := HFW.out i hiL
        have HLC : Hid (∀ W, Keeps noB wr W → Calls Tryd.prog 35 #[.slice a N c] W (fun e w' => ∃ v, e = .returned v ∧ LRow w' v (livesL l) ∧ Keeps noB wr w')) := fun W q =>
          (HL.out _ W (HRW.out.keepsE (hq.trans q) (fun _ _ e => e))).mono (fun e w' ⟨v, h1, h2, _, h4⟩ => ⟨v, h1, h2, q.trans h4⟩)
        have HAC : Hid (∀ v W, LRow W v (livesL l) → Keeps noB wr W → Calls Tryd.prog 38 #[v, .int .i64 (i : Int)] W (fun e w' => ∃ a2 c2, e = .returned (.slice a2 (aliveL (l.take (i + 1))).length c2) ∧ Keeps noB wr w')) := fun v W h q =>
          (HA.out v i W h hiL).mono (fun e w' ⟨v, h1, h2, _, h4⟩ => by
            obtain ⟨a2, c2, rfl⟩ := h2.shape
            exact ⟨a2, c2, h1, q.trans h4⟩)
        have HE : Hid (∀ W', Keeps noB wr W' → MoAt w1 l (.int .i64 ((max S (aliveL (l.take (i + 1))).length : Nat) : Int)) (.int .i64 ((i : Int) + 1)) W') := fun W' q =>
          ⟨i + 1, hiL, by go_num, by rw [← behindL_next hiL, mostB_snoc, ← hS], hq.trans q⟩
        generalize (aliveL (l.take (i + 1))).length = M at *
        have hmx : ((max S M : Nat) : Int) = max (S : Int) (M : Int) := by omega
        rw [hmx] at HE
        clear hS hq hmx
        go_wp2_with (first | (go_at_call 35; refine (HLC.out _ (Keeps.refl _ _)).mono ?_; rintro e5 w5 ⟨v5, rfl, hr5, q5⟩; have Q5 := Lib.hid (And.intro hr5 q5); clear hr5 q5) | (go_at_call 38; refine (HAC.out _ _ Q5.out.1 Q5.out.2).mono ?_; rintro e6 w6 ⟨a6, c6, rfl, q6⟩; have Q6 := Lib.hid q6; clear q6))
        go_roundw
        case rel => exact HE.out _ Q6.out
        case measure => simp [intOf]; omega
      · have HE : Hid (IntP w (mostB (behindL l) : Int) (.returned (.int .i64 (S : Int))) wr) := by
          rw [List.take_of_length_le (by rw [behindL_len]; have := HN.out; omega)] at hS
          rw [hS]; exact ⟨rfl, HQ.out.trans hq⟩
        have hi1 : ¬ (i : Int) < (N : Int) := by omega
        clear hS hq hm
        go_wp2_with fail
        go_ret
        exact HE.out

/-- The blocks of a history. -/
def histO (H : Nat) (ve vl : Value) : Nat → Prop := fun k => k = H ∨ ve.ownBlock = some k ∨ vl.ownBlock = some k
theorem HistAt.narrow {W : World} {H : Nat} {own : Nat → Prop} {l : List Ev} {ve vl : Value} (h : HistAt W H own l ve vl) : HistAt W H (histO H ve vl) l ve vl ∧ ∀ k, histO H ve vl k → k < W.heap.size :=
  ⟨⟨h.blk, h.evs, h.lfs, .inl rfl, fun g hg => ⟨.inr (.inl hg), (h.ownE g hg).2⟩, fun g hg => ⟨.inr (.inr hg), (h.ownL g hg).2⟩, h.apart⟩, fun k hk => by
    rcases hk with rfl | hk | hk
    · exact h.blk.lt
    · exact (h.evs.lt k hk).2
    · exact (h.lfs.lt k hk).2⟩

theorem resMost (W : World) (v : Value) (tmps : Array Value) (h2 : tmps.getD 2 undef = v) : (results Tryd.f24 tmps).run Tryd.prog W = .ok v W := by
  have h2' : tmps[2]?.getD undef = v := by simpa using h2
  simp [results, Tryd.results24, go_sem, h2']

/-- What the program's rounds hold: block N is the greatest number's box. -/
def MoI (N : Nat) (w5 : World) (pre : List (Nat × List Nat)) (own : Nat → Prop) (W : World) : Prop :=
  (∀ k, own k → k = N) ∧ own N ∧ Blk W N #[.int .i64 (mostB pre : Int)] 3 ∧ Owns (oneB N) own w5 W

set_option maxRecDepth 100000 in
set_option maxHeartbeats 8000000 in
theorem mostAlive_any (s : ByteArray) (hs : s.size ≤ 1048576) (w : World) (hE : Env w) : Calls Tryd.prog 24 #[.string s] w (IntP w (mostV (readP s))) := by
  refine (callsIn_wide (n := 9)).1 ?_
  obtain ⟨F, hF⟩ : ∃ F, F = Fence.wide := ⟨_, rfl⟩
  have hFf : ∀ f, F.fn f := by subst hF; exact fun _ => trivial
  have hdd : ∀ k : Nat, (F.depth.isSome = true → 1 ≤ k) := by subst hF; intro k h; simp [Fence.wide] at h
  have hro : F.round = none := by subst hF; rfl
  have hds : F.depth.isSome = false := by subst hF; rfl
  have HHI : Hid (∀ m, CallsIn F m Tryd.prog 34 #[.string s] w (HistPost w (readP s))) := fun m => by
    rw [hF]; exact callsIn_wide.2 (historyOf_any s hs w hE)
  have HAB : Hid (∀ m H w, CallsIn F m Tryd.prog 39 #[.pointer (some ⟨H, 0, none⟩)] w fun e w' => e = .returned (.func (.func 55) #[] #[ptr w.heap.size]) ∧ w' = w.alloc (.cells #[.pointer (some ⟨H, 0, none⟩)] 41)) := fun m H w => by
    rw [hF]; exact callsIn_wide.2 (aliveBehind_any H w)
  rw [← hF]
  have HF := Lib.hid hF
  clear hF hE
  refine callsIn_of_wp_marks Tryd.func24 rfl (hFf _) ?_ hro
  simp only [Tryd.ntmps24, List.size_toArray, List.length_cons, List.length_nil, Nat.reduceAdd, Nat.reduceSub, Array.replicate_succ, Array.replicate_zero, List.push_toArray, List.append_toArray, List.nil_append, List.cons_append]
  cases hr : readP s with
  | none =>
    rw [hr] at HHI
    gi_wp2
    refine (HHI.out _).mono ?_
    rintro e w1 ⟨⟨tp, q, rfl⟩, q1⟩
    have HQ := Lib.hid q1
    clear q1
    gi_wp2
    refine leaves_marks [] _ List.nodup_nil (fun _ h => by cases h) (fun W' q _ => ?_)
    exact ⟨_, resMost W' (.int .i64 (-1)) _ rfl, rfl, HQ.out.trans (q.mono (fun _ e => by cases e))⟩
  | some l =>
    obtain ⟨hg, hl⟩ := readP_good hr
    have HMX := Lib.hid (fun i => mostB_few hg hl i)
    have HFW := Lib.hid (behind_few hg hl)
    rw [hr] at HHI
    show Code.wpIn _ _ _ _ _ _ _
    gi_wp2
    refine (HHI.out _).mono ?_
    rintro e w1 ⟨⟨H1, oA, ve, vl, rfl, hh, hoA⟩, q1⟩
    have HH := Lib.hid (And.intro hh (And.intro hoA q1))
    clear hh hoA q1
    gi_wp2
    refine (HAB.out _ _ _).mono ?_
    rintro e w5 ⟨rfl, hw5⟩
    obtain ⟨N, hN⟩ : ∃ N, N = w1.heap.size := ⟨_, rfl⟩
    have q15 : Keeps noB w1 w5 := by rw [hw5]; exact ((Keeps.refl _ _).alloc _).alloc _
    have bN : Blk w5 N #[.int .i64 0] 3 := by rw [hw5, hN]; exact (Blk.new w1 _ _).alloc _
    have bB : Blk w5 (N + 1) #[.pointer (some ⟨H1, 0, none⟩)] 41 := by
      have h := Blk.new (w1.alloc (.cells #[.int .i64 0] 3)) #[.pointer (some ⟨H1, 0, none⟩)] 41
      simp only [World.size_alloc] at h
      rw [hw5, hN]; exact h
    have hs5 : w5.heap.size = N + 2 := by rw [hw5, hN]; simp
    simp only [World.size_alloc]
    rw [← hN]
    have hq1 := HH.out.2.2.size
    have HS := Lib.hid (And.intro hs5 (And.intro hN hq1))
    have hnr := HH.out.1.narrow
    have hh5 := hnr.1.keeps q15 (fun _ _ e => e)
    have hoN : ∀ k, histO H1 ve vl k → k < N := fun k hk => by rw [hN]; exact hnr.2 k hk
    have HQ := Lib.hid (And.intro (HH.out.2.2.trans q15) (And.intro bB (And.intro hh5 hoN)))
    have HI0 : Hid (MoI N w5 [] (oneB N) w5) := ⟨fun k e => e, rfl, bN, Owns.refl (fun k hk => by have : k = N := hk; omega)⟩
    clear hw5 hN q15 bN bB hs5 hh5 hnr hoN hq1
    gi_wp2
    refine wp_rangeW HF.out (gf := 55) (lb := #[ptr (N + 1)]) (all := behindL l) (enc := encB) (prot := protB (N + 1) (histO H1 ve vl)) (own := oneB N)
      rfl (enters_of Tryd.func55 (by kernel_rfl) rfl)
      (fun W' q' => behind_iter W' (N + 1) H1 _ l ve vl hg hl (HQ.out.2.2.1.keeps q' (fun _ _ e => e)) (q'.blk HQ.out.2.1 id))
      (MoI N w5) (fun _ _ _ _ => False) ?hI ?hIx ?hown ?hprot ?hps ?h0 ?hround ?hdone ?hstop
    case hI =>
      rintro pre own Wa Wb ⟨h1, h2, h3, h4⟩ q
      exact ⟨h1, h2, q.blk h3 (fun e => e.2 h2), h4.ahead q (fun _ e => e.1)⟩
    case hIx => rintro c pre own W W' h q; exact h
    case hown => rintro k hk; have : k = N := hk; have := HS.out; omega
    case hprot =>
      intro k hk
      have := HS.out
      rcases hk with rfl | hk
      · exact ⟨fun e => by have e : N + 1 = N := e; omega, by omega⟩
      · have := HQ.out.2.2.2 k hk
        exact ⟨fun e => by have e : k = N := e; omega, by omega⟩
    case hps => intro x args W h; rw [encB_size h]; rfl
    case h0 => exact HI0.out
    case hround =>
      rintro lq n pre x post args own1 W1 hall ⟨v, rfl, hv⟩ hI1 hlt hl hnl hll hnc
      obtain ⟨h1, h2, h3, h4⟩ := hI1
      have hfew := HFW.out x (by rw [hall]; simp)
      obtain ⟨a, c, rfl⟩ := hv.shape
      obtain ⟨xi, xl⟩ := x
      have hmx := mostB_snoc pre (xi, xl)
      have hmp : mostB pre ≤ 600 := mostB_le pre 0 600 (by omega) (fun y hy => HFW.out y (by rw [hall]; simp [hy]))
      clear hv hall
      simp only at hfew hmx ⊢
      generalize xl.length = M at *
      obtain ⟨S, hS⟩ : ∃ S, S = mostB pre := ⟨_, rfl⟩
      rw [← hS] at h3 hmx hmp
      have hNl : ¬ N = lq := fun e => hnl (e ▸ h2)
      have HE : Hid (∀ W3, Keeps (oneB lq) W1 W3 → W3.cell? ⟨N, 0, none⟩ = some (.int .i64 (S : Int)) ∧ W3.frozen? ⟨N, 0, none⟩ = false ∧
          ∃ own', Owns own1 own' W3 (W3.setCell ⟨N, 0, none⟩ (.int .i64 (max (S : Int) (M : Int)))) ∧ MoI N w5 (pre ++ [(xi, xl)]) own' (W3.setCell ⟨N, 0, none⟩ (.int .i64 (max (S : Int) (M : Int))))) := fun W3 q3 => by
        have b3 := q3.blk h3 (fun e => hNl e)
        have qs : Keeps own1 W3 (W3.setCell ⟨N, 0, none⟩ (.int .i64 (max (S : Int) (M : Int)))) := (Keeps.refl own1 W3).setCell (p := ⟨N, 0, none⟩) (.inl h2) _
        have o3 := h4.ahead q3 (fun k e => by have : k = lq := e; have hl : w5.heap.size ≤ lq := hl; omega)
        have o4 : Owns own1 own1 W3 (W3.setCell ⟨N, 0, none⟩ (.int .i64 (max (S : Int) (M : Int)))) := ⟨fun _ h => .inl h, fun k hk => Nat.lt_of_lt_of_le (o3.lt k hk) qs.size, qs⟩
        refine ⟨(b3.cell 0).trans rfl, b3.free 0, own1, o4, h1, h2, ?_, o3.trans o4⟩
        rw [hmx, show ((max S M : Nat) : Int) = max (S : Int) (M : Int) by omega]
        exact b3.set 0 _
      clear h1 h2 h3 h4 hS hmx hlt
      gi_wp2
      refine ⟨Keeps.refl _ _, fun W3 q3 hs3 => ?_⟩
      clear hs3
      obtain ⟨y0, y1, hpost⟩ := HE.out W3 q3
      have HE2 := Lib.hid hpost
      clear hpost q3
      gi_wp2
      exact HE2.out
    case hdone =>
      rintro D own' W' hb ⟨h1, h2, h3, h4⟩
      have HD := Lib.hid hb.none
      have y4 := (h3.cell 0).trans rfl
      have HE : Hid (∀ W2, Keeps (fun k => k ∈ [D]) W' W2 → IntP w (mostV (some l)) (.returned (.int .i64 (mostB (behindL l) : Int))) W2) := fun W2 q => by
        have hS := HS.out
        have hn := hb.new
        refine ⟨rfl, ((HQ.out.1.transNew hb.owns.keeps (fun k hk e => ?_)).transNew q (fun k hk e => ?_))⟩
        · have e : k = N := e
          omega
        · have e : k = D := by simpa using e
          omega
      clear h1 h2 h3 h4 hb
      dsimp only
      gi_wp2
      refine leaves_marks [D] _ (by simp) (fun D' hD' => by simp at hD'; subst hD'; exact HD.out) (fun W2 q _ => ?_)
      exact ⟨_, resMost W2 _ _ rfl, HE.out W2 q⟩
    case hstop => intro D c pre post own' W' _ _ h; exact h.elim

end Go.Proofs.YtnjkaojgcnepdaaDoor

/-
  AliveAt, on both sides.
-/
import Derived.Test.YtnjkaojgcnepdaaDoorRq
import Derived.Test.YtnjkaojgcnepdaaDoorRu
namespace Go.Proofs.YtnjkaojgcnepdaaDoor
set_option linter.unusedVariables false
set_option linter.unusedSimpArgs false
open Go.RowKit

attribute [local go_sem] Oper.semAt_some

/-- The values alive behind event k. -/
def atV (r : Option (List Ev)) (k : Int) : Option (List Nat) :=
  match r with
  | none => none
  | some l => if 0 ≤ k ∧ k < (l.length : Int) then some (aliveL (l.take (k.toNat + 1))) else none
def atK' (o : Option (List Nat)) : List Int := (o.getD []).map (fun k : Nat => (k : Int))
theorem atK_len (s : ByteArray) (k : Int) : (atK' (atV (readP s) k)).length ≤ 600 := by
  unfold atK'
  rw [List.length_map]
  cases hr : readP s with
  | none => simp [atV]
  | some l =>
    obtain ⟨hg, hl⟩ := readP_good hr
    unfold atV
    by_cases h : 0 ≤ k ∧ k < (l.length : Int)
    · simp only [h, and_self, if_true, Option.getD_some]
      exact behind_few hg hl (k.toNat, aliveL (l.take (k.toNat + 1))) (List.mem_of_getElem? (behindL_get (by omega)))
    · simp only [h, if_false, Option.getD_none, List.length_nil]; omega

theorem at_open {w w' : World} {r : Option (List Nat)} {e : Ending} (h : NumsOfP w (r.getD []) r.isSome e w') :
    ∃ a c, e = .returned (.tuple #[.slice a (atK' r).length c, .bool r.isSome]) ∧ IntRow w' (.slice a (atK' r).length c) (atK' r).length (atK' r) ∧ (∀ g, (Value.slice a (atK' r).length c).ownBlock = some g → w.heap.size ≤ g) ∧ Keeps noB w w' := numsOf_open h

theorem in1_any (n lo hi : Int) (w : World) : Calls Tryd.prog 37 #[.int .i64 n, .int .i64 lo, .int .i64 hi] w fun e w' => e = .returned (.bool (decide (lo ≤ n ∧ n ≤ hi))) ∧ w' = w := by
  by_cases h1 : lo ≤ n
  · by_cases h2 : n ≤ hi
    all_goals
      have hh := h2
      go_enter Tryd.func37, Tryd.ntmps37
      go_wp2_with fail
      go_ret
      exact ⟨by simp [h1, h2], rfl⟩
  · have hh := h1
    go_enter Tryd.func37, Tryd.ntmps37
    go_wp2_with fail
    go_ret
    exact ⟨by simp [show ¬ lo ≤ n by omega], rfl⟩

theorem resSAt (W : World) (v b : Value) (tmps : Array Value) (h2 : tmps.getD 4 undef = v) (h3 : tmps.getD 5 undef = b) : (results Tryd.f18 tmps).run Tryd.prog W = .ok (.tuple #[v, b]) W := by
  have h2' : tmps[4]?.getD undef = v := by simpa using h2
  have h3' : tmps[5]?.getD undef = b := by simpa using h3
  simp [results, Tryd.results18, go_sem, h2', h3']
theorem resAt (W : World) (A B : Nat) (a b : Value) (tmps : Array Value) (h2 : tmps.getD 4 undef = .pointer (some ⟨A, 0, none⟩)) (h3 : tmps.getD 5 undef = .pointer (some ⟨B, 0, none⟩)) (ha : W.cell? ⟨A, 0, none⟩ = some a) (hb : W.cell? ⟨B, 0, none⟩ = some b) :
    (results Tryd.f19 tmps).run Tryd.prog W = .ok (.tuple #[a, b]) W := by
  have h2' : tmps[4]?.getD undef = .pointer (some ⟨A, 0, none⟩) := by simpa using h2
  have h3' : tmps[5]?.getD undef = .pointer (some ⟨B, 0, none⟩) := by simpa using h3
  simp [results, Tryd.results19, go_sem, h2', h3', ha, hb]

set_option maxRecDepth 100000 in
set_option maxHeartbeats 8000000 in
theorem saliveAt_any (s : ByteArray) (hs : s.size ≤ 1048576) (k : Int) (w : World) : Calls Tryd.prog 18 #[.string s, .int .i64 k] w (NumsOfP w ((atV (readP s) k).getD []) (atV (readP s) k).isSome) := by
  have H := Lib.hid (read_any s hs w)
  have HNO : Hid (∀ w1, Keeps noB w w1 → NumsOfP w [] false (.returned (.tuple #[.slice (some ⟨w1.heap.size, 0, none⟩) 0 0, .bool false])) (w1.alloc (.cells #[] 3))) := fun w1 q => by
    have o1 := World.ownsRow_made w1 #[] 0 (e := 3) (size := 1) (Nat.zero_le _) (by simp [maxLen]) rfl
    exact ⟨_, rfl, o1, fun g hg => by simp [Value.ownBlock] at hg; have := q.size; omega, q.alloc _⟩
  cases hr : readP s with
  | none =>
    rw [hr] at H
    show Calls _ _ _ _ (NumsOfP w [] false)
    go_enter Tryd.func18, Tryd.ntmps18
    go_wp2_with fail
    refine H.out.mono ?_
    rintro e w1 ⟨v, rfl, _, _, q1⟩
    have HQ := Lib.hid q1
    clear q1
    go_wp2_with fail
    refine bodyPost_ret (resSAt _ _ _ _ rfl rfl) rfl ?_
    exact HNO.out _ HQ.out
  | some l =>
    obtain ⟨hg, hl⟩ := readP_good hr
    rw [hr] at H
    have hle : (livesL l).length ≤ 600 := by have := hg.says.made; have := hg.says.le; omega
    have HL := Lib.hid (fun v w h => lives_any v l hg hl w h)
    have HI := Lib.hid (fun n lo hi w => in1_any n lo hi w)
    obtain ⟨N, hN⟩ : ∃ N, N = l.length := ⟨_, rfl⟩
    have hN6 : (N : Int) ≤ 600 := by omega
    have hN0 : (0 : Int) ≤ (N : Int) := by omega
    by_cases hk : 0 ≤ k ∧ k ≤ (N : Int) - 1
    · have hkd : decide ((0 : Int) ≤ k ∧ k ≤ (N : Int) - 1) = true := decide_eq_true hk
      have hv : atV (some l) k = some (aliveL (l.take (k.toNat + 1))) := if_pos ⟨hk.1, by omega⟩
      rw [hv]
      have HA : Hid (∀ v w, LRow w v (livesL l) → Calls Tryd.prog 38 #[v, .int .i64 k] w (WithoutPost w (aliveL (l.take (k.toNat + 1))))) := fun v w h => by
        have h2 := alive_any v (livesL l) (k.toNat : Int) w h hle
        rw [alive_sel hg (show k.toNat < l.length by omega), show ((k.toNat : Nat) : Int) = k by omega] at h2
        exact h2
      show Calls _ _ _ _ (NumsOfP w (aliveL (l.take (k.toNat + 1))) true)
      generalize aliveL (l.take (k.toNat + 1)) = R at *
      clear hg hl hr hle hv hk
      go_enter Tryd.func18, Tryd.ntmps18
      go_wp2_with fail
      refine H.out.mono ?_
      rintro e w1 ⟨v, rfl, hrow, _, q1⟩
      have hrow : ERow w1 v l := hrow
      obtain ⟨a, c, rfl⟩ := row_shape (ok := fun _ => True) ⟨hrow, fun _ _ => trivial⟩
      have HQ := Lib.hid q1
      have HRW := Lib.hid hrow
      rw [← hN] at HRW ⊢
      clear q1 hrow hN
      go_wp2_with (first | (go_at_call 37; refine (HI.out _ _ _ _).mono ?_; rintro e2 w2 ⟨rfl, rfl⟩; rw [hkd]) | (go_at_call 35; refine (HL.out _ _ HRW.out).mono ?_; rintro e5 w5 ⟨v5, rfl, hr5, _, q5⟩; have Q5 := Lib.hid (And.intro hr5 q5); clear hr5 q5) | (go_at_call 38; refine (HA.out _ _ Q5.out.1).mono ?_; rintro e6 w6 ⟨v6, rfl, h6, f6, q6⟩; have Q6 := Lib.hid (And.intro h6 (And.intro f6 q6)); clear h6 f6 q6))
      refine bodyPost_ret (resSAt _ _ _ _ rfl rfl) rfl ?_
      have k5 := HQ.out.trans Q5.out.2
      exact ⟨_, rfl, Q6.out.1, fun g hg => Nat.le_trans k5.size (Q6.out.2.1 g hg), k5.trans Q6.out.2.2⟩
    · have hkd : decide ((0 : Int) ≤ k ∧ k ≤ (N : Int) - 1) = false := decide_eq_false hk
      have hv : atV (some l) k = none := if_neg (fun e => hk ⟨e.1, by omega⟩)
      rw [hv]
      show Calls _ _ _ _ (NumsOfP w [] false)
      clear hg hl hr hle hv hk
      go_enter Tryd.func18, Tryd.ntmps18
      go_wp2_with fail
      refine H.out.mono ?_
      rintro e w1 ⟨v, rfl, hrow, _, q1⟩
      have hrow : ERow w1 v l := hrow
      obtain ⟨a, c, rfl⟩ := row_shape (ok := fun _ => True) ⟨hrow, fun _ _ => trivial⟩
      have HQ := Lib.hid q1
      rw [← hN]
      clear q1 hrow hN
      go_wp2_with (go_at_call 37; refine (HI.out _ _ _ _).mono ?_; rintro e2 w2 ⟨rfl, rfl⟩; rw [hkd])
      refine bodyPost_ret (resSAt _ _ _ _ rfl rfl) rfl ?_
      exact HNO.out _ HQ.out

/-- slices.Clone of a row of numbers. -/
theorem clone_any (v : Value) (L : List Nat) (hL : L.length ≤ 600) (w : World) (h : NRow w v L) : Calls Tryd.prog 40 #[v] w (WithoutPost w L) := by
  rcases h.2 with ⟨rfl, hl⟩ | ⟨g, c, cur, rfl, hb, hh, hnc, hcm, hcs, htk⟩
  · have : L = [] := List.eq_nil_of_length_eq_zero hl
    subst this
    refine (Tryd.slices_Clone_int_nil 0 0 w).mono ?_
    rintro e w' ⟨rfl, rfl⟩
    exact ⟨_, rfl, ⟨rfl, .inl ⟨rfl, rfl⟩⟩, fun g hg => by simp [Value.ownBlock] at hg, Keeps.refl _ _⟩
  · have hgd : ∀ j, j < L.length → ∃ m, L[j]? = some m ∧ (L.map (fun m : Nat => (m : Int))).getD j 0 = (m : Int) := fun j hj => by
      have hm2 := List.getElem?_eq_getElem (l := L) (i := j) hj
      exact ⟨_, hm2, by rw [List.getD_eq_getElem?_getD, List.getElem?_map, hm2]; rfl⟩
    refine (Tryd.slices_Clone_int g 0 L.length c (L.map (fun m : Nat => (m : Int))) w (by simp) (by omega) (fun j hj => ?_)).mono ?_
    · obtain ⟨m, hm2, hm3⟩ := hgd j (by simpa using hj)
      rw [hm3, Nat.zero_add, (show Blk w g cur 3 from hh).cell j]
      have e : (cur.toList.take (L.length * 1))[j]? = some (i64 m) := by rw [htk, List.getElem?_map, hm2]; rfl
      rw [List.getElem?_take_of_lt (by have := (List.getElem?_eq_some_iff.1 hm2).1; omega)] at e
      unfold i64 at e
      simpa using e
    · rintro e w' ⟨v', rfl, ho, _, ⟨b1, b2, b3, b4, b5⟩⟩
      have el : ((L.map (fun m : Nat => (m : Int))).take L.length).map (Value.int .i64) = L.map i64 := by
        rw [List.take_of_length_le (by simp), List.map_map]; rfl
      rw [el] at ho
      refine ⟨v', rfl, ⟨ho.1, ho.2.imp id (fun ⟨g, cap, cur, e, hb, r⟩ => ⟨g, cap, cur, e, Nat.zero_le _, r⟩)⟩, fun g hg => (ho.lt g hg).1, ⟨b1, b2, b3, b4, fun k hk _ => b5 k hk⟩⟩

/-- What the rounds hold: the results' boxes are R + 1 and R + 2, R is k's. -/
def AtI (R : Nat) (k : Int) (own0 : Nat → Prop) (w5 : World) (pre : List (Nat × List Nat)) (own : Nat → Prop) (W : World) : Prop :=
  (∀ i, own i ↔ i = R + 1 ∨ i = R + 2) ∧ Blk W R #[.int .i64 k] 3 ∧ Blk W (R + 1) #[.slice none 0 0] 28 ∧ Blk W (R + 2) #[.bool false] 4 ∧ (∀ x ∈ pre, ¬ (x.1 : Int) = k) ∧ Owns own0 own w5 W
def AtX (R : Nat) (k : Int) (l : List Ev) (own0 : Nat → Prop) (w w5 : World) (c : Code) (pre : List (Nat × List Nat)) (own : Nat → Prop) (W : World) : Prop :=
  c = .ret ∧ ∃ x v, x ∈ behindL l ∧ (x.1 : Int) = k ∧ Blk W (R + 1) #[v] 28 ∧ NRow W v x.2 ∧ (∀ g, v.ownBlock = some g → w5.heap.size ≤ g ∧ own g) ∧ Blk W (R + 2) #[.bool true] 4 ∧ own (R + 1) ∧ own (R + 2) ∧ Owns own0 own w5 W
def own2 (R : Nat) : Nat → Prop := fun i => i = R + 1 ∨ i = R + 2

set_option maxRecDepth 100000 in
set_option maxHeartbeats 8000000 in
theorem aliveAt_any (s : ByteArray) (hs : s.size ≤ 1048576) (k : Int) (w : World) (hE : Env w) : Calls Tryd.prog 19 #[.string s, .int .i64 k] w (NumsOfP w ((atV (readP s) k).getD []) (atV (readP s) k).isSome) := by
  refine (callsIn_wide (n := 9)).1 ?_
  obtain ⟨F, hF⟩ : ∃ F, F = Fence.wide := ⟨_, rfl⟩
  have hFf : ∀ f, F.fn f := by subst hF; exact fun _ => trivial
  have hdd : ∀ k : Nat, (F.depth.isSome = true → 1 ≤ k) := by subst hF; intro k h; simp [Fence.wide] at h
  have hro : F.round = none := by subst hF; rfl
  have hds : F.depth.isSome = false := by subst hF; rfl
  have HHI : Hid (∀ m w', Keeps noB w w' → CallsIn F m Tryd.prog 34 #[.string s] w' (HistPost w' (readP s))) := fun m w' q => by
    rw [hF]; exact callsIn_wide.2 (historyOf_any s hs w' (hE.keeps q (fun _ _ e => e)))
  have HAB : Hid (∀ m H w, CallsIn F m Tryd.prog 39 #[.pointer (some ⟨H, 0, none⟩)] w fun e w' => e = .returned (.func (.func 55) #[] #[ptr w.heap.size]) ∧ w' = w.alloc (.cells #[.pointer (some ⟨H, 0, none⟩)] 41)) := fun m H w => by
    rw [hF]; exact callsIn_wide.2 (aliveBehind_any H w)
  have HCL : Hid (∀ m v L W, NRow W v L → L.length ≤ 600 → CallsIn F m Tryd.prog 40 #[v] W (WithoutPost W L)) := fun m v L W h hL => by
    rw [hF]; exact callsIn_wide.2 (clone_any v L hL W h)
  rw [← hF]
  have HF := Lib.hid hF
  clear hF hE
  refine callsIn_of_wp_marks Tryd.func19 rfl (hFf _) ?_ hro
  simp only [Tryd.ntmps19, List.size_toArray, List.length_cons, List.length_nil, Nat.reduceAdd, Nat.reduceSub, Array.replicate_succ, Array.replicate_zero, List.push_toArray, List.append_toArray, List.nil_append, List.cons_append]
  obtain ⟨w3, hw3⟩ : ∃ w3, w3 = ((w.alloc (.cells #[.int .i64 k] 3)).alloc (.cells #[.slice none 0 0] 28)).alloc (.cells #[.bool false] 4) := ⟨_, rfl⟩
  obtain ⟨R, hR⟩ : ∃ R, R = w.heap.size := ⟨_, rfl⟩
  have q03 : Keeps noB w w3 := by rw [hw3]; exact (((Keeps.refl _ _).alloc _).alloc _).alloc _
  have hs3 : w3.heap.size = R + 3 := by rw [hw3, hR]; simp
  have bR : Blk w3 R #[.int .i64 k] 3 := by rw [hw3, hR]; exact ((Blk.new w _ _).alloc _).alloc _
  have bR1 : Blk w3 (R + 1) #[.slice none 0 0] 28 := by
    have h := (Blk.new (w.alloc (.cells #[.int .i64 k] 3)) #[.slice none 0 0] 28).alloc (.cells #[.bool false] 4)
    simp only [World.size_alloc] at h
    rw [hw3, hR]; exact h
  have bR2 : Blk w3 (R + 2) #[.bool false] 4 := by
    have h := Blk.new ((w.alloc (.cells #[.int .i64 k] 3)).alloc (.cells #[.slice none 0 0] 28)) #[.bool false] 4
    simp only [World.size_alloc] at h
    rw [hw3, hR]; exact h
  have H3 := Lib.hid (And.intro q03 (And.intro hs3 (And.intro bR (And.intro bR1 bR2))))
  have hRR : ¬ R + 2 = R + 1 := by omega
  have hRR' : ¬ R + 1 = R + 2 := by omega
  -- the end where there is none
  have HNO : Hid (∀ W, Keeps noB w W → Blk W (R + 1) #[.slice none 0 0] 28 → Blk W (R + 2) #[.bool false] 4 → W.cell? ⟨R + 1, 0, none⟩ = some (.slice none 0 0) ∧ W.frozen? ⟨R + 1, 0, none⟩ = false ∧ W.cell? ⟨R + 2, 0, none⟩ = some (.bool false) ∧ W.frozen? ⟨R + 2, 0, none⟩ = false ∧
      ∀ (Ds : List Nat) W2, (∀ D ∈ Ds, w3.heap.size ≤ D) → Keeps (fun k => k ∈ Ds) ((W.setCell ⟨R + 1, 0, none⟩ (.slice none 0 0)).setCell ⟨R + 2, 0, none⟩ (.bool false)) W2 → W2.cell? ⟨R + 1, 0, none⟩ = some (.slice none 0 0) ∧ W2.cell? ⟨R + 2, 0, none⟩ = some (.bool false) ∧ NumsOfP w [] false (.returned (.tuple #[.slice none 0 0, .bool false])) W2) := fun W q b1 b2 => by
    refine ⟨(b1.cell 0).trans rfl, b1.free 0, (b2.cell 0).trans rfl, b2.free 0, fun Ds W2 hD q2 => ?_⟩
    have e1 : Blk ((W.setCell ⟨R + 1, 0, none⟩ (.slice none 0 0)).setCell ⟨R + 2, 0, none⟩ (.bool false)) (R + 1) #[.slice none 0 0] 28 := (b1.set 0 _).setOther hRR _
    have e2 : Blk ((W.setCell ⟨R + 1, 0, none⟩ (.slice none 0 0)).setCell ⟨R + 2, 0, none⟩ (.bool false)) (R + 2) #[.bool false] 4 := (b2.setOther hRR' _).set 0 _
    refine ⟨((q2.blk e1 (fun e => by have := hD _ e; omega)).cell 0).trans rfl, ((q2.blk e2 (fun e => by have := hD _ e; omega)).cell 0).trans rfl, _, rfl, ⟨rfl, .inl ⟨rfl, rfl⟩⟩, fun g hg => by simp [Value.ownBlock] at hg, ?_⟩
    exact ((q.setCell (p := ⟨R + 1, 0, none⟩) (.inr (by show w.heap.size ≤ R + 1; omega)) _).setCell (p := ⟨R + 2, 0, none⟩) (.inr (by show w.heap.size ≤ R + 2; omega)) _).transNew q2 (fun i hi e => by have := hD i e; omega)
  clear q03 bR bR1 bR2
  gi_wp2
  rw [← hw3]
  try simp only [World.size_alloc]
  rw [← hR]
  have HRW := Lib.hid hR
  clear hw3 hR
  cases hr : readP s with
  | none =>
    rw [hr] at HHI
    show CallsIn _ _ _ _ _ _ _
    refine (HHI.out _ _ H3.out.1).mono ?_
    rintro e w1 ⟨⟨tp, q, rfl⟩, q1⟩
    obtain ⟨y0, y1, y2, y3, hfin⟩ := HNO.out w1 (H3.out.1.trans q1) (q1.blk H3.out.2.2.2.1 id) (q1.blk H3.out.2.2.2.2 id)
    have HE := Lib.hid hfin
    clear hfin q1
    gi_wp2
    refine leaves_marks [] _ List.nodup_nil (fun _ h => by cases h) (fun W' q _ => ?_)
    obtain ⟨z0, z1, z2⟩ := HE.out [] W' (fun D h => by cases h) q
    exact ⟨_, resAt W' (R + 1) (R + 2) _ _ _ rfl rfl z0 z1, by rw [hr]; exact z2⟩
  | some l =>
    obtain ⟨hg, hl⟩ := readP_good hr
    have HFW := Lib.hid (behind_few hg hl)
    rw [hr] at HHI
    show CallsIn _ _ _ _ _ _ _
    refine (HHI.out _ _ H3.out.1).mono ?_
    rintro e w1 ⟨⟨H1, oA, ve, vl, rfl, hh, hoA⟩, q1⟩
    have hnr := hh.narrow
    have hlow : ∀ i, histO H1 ve vl i → w3.heap.size ≤ i := fun i hi => by
      rcases hi with rfl | hi | hi
      · exact hoA _ hh.ownH
      · exact hoA _ (hh.ownE i hi).1
      · exact hoA _ (hh.ownL i hi).1
    have HH := Lib.hid (And.intro hnr.1 (And.intro hnr.2 (And.intro hlow q1)))
    clear hh hoA hnr hlow q1
    gi_wp2
    refine (HAB.out _ _ _).mono ?_
    rintro e w5 ⟨rfl, hw5⟩
    obtain ⟨N, hN⟩ : ∃ N, N = w1.heap.size := ⟨_, rfl⟩
    have q15 : Keeps noB w1 w5 := by rw [hw5]; exact (Keeps.refl _ _).alloc _
    have bB : Blk w5 N #[.pointer (some ⟨H1, 0, none⟩)] 41 := by rw [hw5, hN]; exact Blk.new w1 _ _
    have hs5 : w5.heap.size = N + 1 := by rw [hw5, hN]; simp
    try simp only [World.size_alloc]
    rw [← hN]
    have hN3 : R + 3 ≤ N := by have := HH.out.2.2.2.size; have := H3.out.2.1; omega
    have q35 := HH.out.2.2.2.trans q15
    have q05 := H3.out.1.trans q35
    have hoN : ∀ i, histO H1 ve vl i → i < N ∧ R + 3 ≤ i := fun i hi => ⟨by rw [hN]; exact HH.out.2.1 i hi, by have := HH.out.2.2.1 i hi; have := H3.out.2.1; omega⟩
    have HS := Lib.hid (And.intro hs5 (And.intro hN3 HRW.out))
    have HQ := Lib.hid (And.intro q05 (And.intro bB (And.intro (HH.out.1.keeps q15 (fun _ _ e => e)) hoN)))
    have HI0 : Hid (AtI R k (own2 R) w5 [] (own2 R) w5) := ⟨fun i => Iff.rfl, q35.blk H3.out.2.2.1 id, q35.blk H3.out.2.2.2.1 id, q35.blk H3.out.2.2.2.2 id, fun x hx => by simp at hx, Owns.refl (fun i hi => by have hi : i = R + 1 ∨ i = R + 2 := hi; omega)⟩
    clear hw5 hN q15 bB hs5 q35 q05 hoN HH
    gi_wp2
    refine wp_rangeW HF.out (gf := 55) (lb := #[ptr N]) (all := behindL l) (enc := encB) (prot := protB N (histO H1 ve vl)) (own := own2 R)
      rfl (enters_of Tryd.func55 (by kernel_rfl) rfl)
      (fun W' q' => behind_iter W' N H1 _ l ve vl hg hl (HQ.out.2.2.1.keeps q' (fun _ _ e => e)) (q'.blk HQ.out.2.1 id))
      (AtI R k (own2 R) w5) (AtX R k l (own2 R) w w5) ?hI ?hIx ?hown ?hprot ?hps ?h0 ?hround ?hdone ?hstop
    case hI =>
      rintro pre own Wa Wb ⟨h1, h2, h3, h4, h5, h6⟩ q
      have hS := HS.out
      exact ⟨h1, q.blk h2 (fun e => by have := e.1; omega), q.blk h3 (fun e => by have := e.1; omega), q.blk h4 (fun e => by have := e.1; omega), h5, h6.ahead q (fun _ e => e.1)⟩
    case hIx =>
      rintro c pre own Wa Wb ⟨h1, x, v, h2, h3, h4, h5, h6, h7, h8, h9, h10⟩ q
      have hS := HS.out
      exact ⟨h1, x, v, h2, h3, q.blk h4 (fun e => e.2 h8), h5.keeps q (fun g hg e => e.2 (h6 g hg).2), h6, q.blk h7 (fun e => e.2 h9), h8, h9, h10.ahead q (fun _ e => e.1)⟩
    case hown => intro i hi; have hi : i = R + 1 ∨ i = R + 2 := hi; have := HS.out; omega
    case hprot =>
      intro i hi
      have hS := HS.out
      rcases hi with rfl | hi
      · exact ⟨fun e => by have e : i = R + 1 ∨ i = R + 2 := e; omega, by omega⟩
      · have := HQ.out.2.2.2 i hi
        exact ⟨fun e => by have e : i = R + 1 ∨ i = R + 2 := e; omega, by omega⟩
    case hps => intro x args W h; rw [encB_size h]; rfl
    case h0 => exact HI0.out
    case hround =>
      rintro lq n pre x post args own1 W1 hall ⟨v, rfl, hv⟩ hI1 hlt hl2 hnl hll hnc
      obtain ⟨h1, h2, h3, h4, h5, h6⟩ := hI1
      have hfew := HFW.out x (by rw [hall]; simp)
      have hxm : x ∈ behindL l := by rw [hall]; simp
      obtain ⟨a, c, rfl⟩ := hv.shape
      have hlR : ¬ R = lq := by have := HS.out; have hl2 : w5.heap.size ≤ lq := hl2; omega
      have hl2' : w5.heap.size ≤ lq := hl2
      have H1' : Hid (∀ W3, Keeps (oneB lq) W1 W3 → W3.cell? ⟨R, 0, none⟩ = some (.int .i64 k) ∧ NRow W3 (.slice a x.2.length c) x.2 ∧ Blk W3 (R + 1) #[.slice none 0 0] 28 ∧ Blk W3 (R + 2) #[.bool false] 4 ∧ Owns (own2 R) own1 w5 W3 ∧ Blk W3 R #[.int .i64 k] 3) := fun W3 q3 => by
        have hn1 : ¬ R + 1 = lq := fun e => hnl (by rw [← e]; exact (h1 _).2 (.inl rfl))
        have hn2 : ¬ R + 2 = lq := fun e => hnl (by rw [← e]; exact (h1 _).2 (.inr rfl))
        have b0 := q3.blk h2 (fun e => hlR e)
        refine ⟨(b0.cell 0).trans rfl, hv.keeps q3 (fun g hg e => ?_), q3.blk h3 (fun e => hn1 e), q3.blk h4 (fun e => hn2 e), h6.ahead q3 (fun i e => by have e : i = lq := e; omega), b0⟩
        have e : g = lq := e
        rcases hv.2 with ⟨e2, _⟩ | ⟨g', cap, cur, e2, _, hh, _⟩
        · rw [e2] at hg; simp [Value.ownBlock] at hg
        · rw [e2] at hg
          have : g' = g := by simpa [Value.ownBlock] using hg
          exact hnc _ _ _ (by rw [← e, ← this]; exact hh)
      have HO := Lib.hid (And.intro h1 (And.intro h5 hxm))
      obtain ⟨xi, xl⟩ := x
      have hRR3 : ¬ R + 1 + 1 = R + 1 := by omega
      clear h1 h2 h3 h4 h5 h6 hv hnc hall hxm hlt
      simp only at H1' hfew ⊢
      by_cases hxk : (xi : Int) = k
      · have x1 : ((xi : Int) == k) = true := by simp [hxk]
        have HXK := Lib.hid hxk
        clear hxk
        gi_wp2
        refine ⟨Keeps.refl _ _, fun W3 q3 hs3 => ?_⟩
        clear hs3
        obtain ⟨y0, y1, y2, y3, y4, y5⟩ := H1'.out W3 q3
        have HY := Lib.hid (And.intro y1 (And.intro y2 (And.intro y3 y4)))
        clear y1 y2 y3 y4 y5 q3
        gi_wp2
        refine CallsIn.mono (CallsIn.inRound lq (HCL.out _ _ xl W3 HY.out.1 hfew)) ?_
        rintro e w6 ⟨v6, rfl, h6, f6, q6⟩
        obtain ⟨a6, c6, rfl⟩ := h6.shape
        have b1 := q6.blk HY.out.2.1 id
        have b2 := q6.blk HY.out.2.2.1 id
        have d0 := (b1.cell 0).trans rfl
        have d1 := b1.free 0
        have d2 := (b2.cell 0).trans rfl
        have d3 := b2.free 0
        have HE : Hid (∃ own', Owns own1 own' W3 ((w6.setCell ⟨R + 1, 0, none⟩ (.slice a6 xl.length c6)).setCell ⟨R + 2, 0, none⟩ (.bool true)) ∧ AtX R k l (own2 R) w w5 .ret (pre ++ [(xi, xl)]) own' ((w6.setCell ⟨R + 1, 0, none⟩ (.slice a6 xl.length c6)).setCell ⟨R + 2, 0, none⟩ (.bool true))) := by
          obtain ⟨g1, g2, g3⟩ := HO.out
          have o1 : own1 (R + 1) := (g1 _).2 (.inl rfl)
          have o2 : own1 (R + 2) := (g1 _).2 (.inr rfl)
          have q7 : Keeps own1 W3 ((w6.setCell ⟨R + 1, 0, none⟩ (.slice a6 xl.length c6)).setCell ⟨R + 2, 0, none⟩ (.bool true)) := ((q6.mono (fun _ e => e.elim)).setCell (p := ⟨R + 1, 0, none⟩) (.inl o1) _).setCell (p := ⟨R + 2, 0, none⟩) (.inl o2) _
          have hb1lt := HY.out.2.1.lt
          have hb2lt := HY.out.2.2.1.lt
          have qr : Keeps (fun i => i = R + 1 ∨ i = R + 2) w6 ((w6.setCell ⟨R + 1, 0, none⟩ (.slice a6 xl.length c6)).setCell ⟨R + 2, 0, none⟩ (.bool true)) := ((Keeps.refl _ w6).setCell (p := ⟨R + 1, 0, none⟩) (.inl (.inl rfl)) _).setCell (p := ⟨R + 2, 0, none⟩) (.inl (.inr rfl)) _
          have hO : Owns own1 (fun i => own1 i ∨ (Value.slice a6 xl.length c6).ownBlock = some i) W3 ((w6.setCell ⟨R + 1, 0, none⟩ (.slice a6 xl.length c6)).setCell ⟨R + 2, 0, none⟩ (.bool true)) := by
            refine ⟨fun i hi => hi.elim .inl (fun e => .inr (f6 i e)), fun i hi => ?_, q7⟩
            rcases hi with hi | hi
            · exact Nat.lt_of_lt_of_le (HY.out.2.2.2.lt i hi) q7.size
            · exact Nat.lt_of_lt_of_le (h6.lt i hi).2 qr.size
          refine ⟨_, hO, rfl, (xi, xl), .slice a6 xl.length c6, g3, HXK.out, ?_, ?_, fun g hg => ⟨?_, .inr hg⟩, ?_, .inl o1, .inl o2, HY.out.2.2.2.trans hO⟩
          · exact (b1.set 0 _).setOther hRR _
          · exact h6.keeps qr (fun g hg e => by have := f6 g hg; omega)
          · exact Nat.le_trans HY.out.2.2.2.keeps.size (f6 g hg)
          · exact (b2.setOther hRR' _).set 0 _
        clear h6 f6 q6 b1 b2
        gi_wp2
        exact HE.out
      · have x1 : ((xi : Int) == k) = false := by rw [beq_eq_false_iff_ne]; exact hxk
        have HXK := Lib.hid hxk
        clear hxk
        gi_wp2
        refine ⟨Keeps.refl _ _, fun W3 q3 hs3 => ?_⟩
        clear hs3
        obtain ⟨y0, y1, y2, y3, y4, y5⟩ := H1'.out W3 q3
        have HE : Hid (∃ own', Owns own1 own' W3 W3 ∧ AtI R k (own2 R) w5 (pre ++ [(xi, xl)]) own' W3) :=
          ⟨own1, Owns.refl y4.lt, HO.out.1, y5, y2, y3, fun x hx => by
            rcases List.mem_append.1 hx with h | h
            · exact HO.out.2.1 x h
            · have : x = (xi, xl) := by simpa using h
              subst this; exact HXK.out, y4⟩
        clear y1 y2 y3 y4 y5 q3
        gi_wp2
        exact HE.out
    case hdone =>
      rintro D own' W' hb ⟨h1, h2, h3, h4, h5, h6⟩
      have hS := HS.out
      have hnew := hb.new
      have HD := Lib.hid hb.none
      have hv : atV (some l) k = none := if_neg (fun e => h5 (k.toNat, aliveL (l.take (k.toNat + 1))) (List.mem_of_getElem? (behindL_get (by omega))) (by show ((k.toNat : Nat) : Int) = k; omega))
      have HV := Lib.hid hv
      obtain ⟨y0, y1, y2, y3, hfin⟩ := HNO.out W' (HQ.out.1.transNew h6.keeps (fun i hi e => by have e : i = R + 1 ∨ i = R + 2 := e; omega)) h3 h4
      have HE := Lib.hid hfin
      have hDR : D ≠ R + 1 ∧ D ≠ R + 2 := by omega
      have hD3 : w3.heap.size ≤ D := by have := H3.out.2.1; omega
      clear h1 h2 h3 h4 h5 h6 hb hfin hv hS
      dsimp only
      gi_wp2
      refine leaves_marks [D] _ (by simp) (fun D' hD' => ?_) (fun W2 q2 _ => ?_)
      · simp at hD'; subst hD'
        rw [Below.heap_setCell _ _ _ _ (by show D' ≠ R + 2; exact hDR.2), Below.heap_setCell _ _ _ _ (by show D' ≠ R + 1; exact hDR.1)]
        exact HD.out
      · obtain ⟨z0, z1, z2⟩ := HE.out [D] W2 (fun D' h => by simp at h; omega) q2
        exact ⟨_, resAt W2 (R + 1) (R + 2) _ _ _ rfl rfl z0 z1, by rw [hr, HV.out]; exact z2⟩
    case hstop =>
      rintro D c pre post own' W' hb hall ⟨rfl, x, v, h2, h3, h4, h5, h6, h7, h8, h9, h10⟩
      have hS := HS.out
      have hnew := hb.new
      have HD := Lib.hid hb.none
      have hv : atV (some l) k = some x.2 := by
        unfold behindL at h2
        obtain ⟨j, hj, rfl⟩ := List.mem_map.1 h2
        have hj := List.mem_range.1 hj
        have h3 : (j : Int) = k := h3
        show (if 0 ≤ k ∧ k < (l.length : Int) then some (aliveL (l.take (k.toNat + 1))) else none) = _
        rw [if_pos ⟨by omega, by omega⟩, show k.toNat = j by omega]
      have HE : Hid (∀ W2, Keeps (fun k => k ∈ [D]) W' W2 → W2.cell? ⟨R + 1, 0, none⟩ = some v ∧ W2.cell? ⟨R + 2, 0, none⟩ = some (.bool true) ∧ NumsOfP w ((atV (readP s) k).getD []) (atV (readP s) k).isSome (.returned (.tuple #[v, .bool true])) W2) := fun W2 q2 => by
        have hD2 : ∀ i, i ≠ D → ¬ (i ∈ [D]) := fun i hi e => hi (by simpa using e)
        refine ⟨((q2.blk h4 (hD2 _ (by omega))).cell 0).trans rfl, ((q2.blk h7 (hD2 _ (by omega))).cell 0).trans rfl, ?_⟩
        rw [hr, hv]
        refine ⟨v, rfl, h5.keeps q2 (fun g hg => hD2 g (fun e => hb.free (e ▸ (h6 g hg).2))), fun g hg => by have := (h6 g hg).1; have := HQ.out.1.size; omega, ?_⟩
        exact (HQ.out.1.transNew h10.keeps (fun i hi e => by have e : i = R + 1 ∨ i = R + 2 := e; omega)).transNew q2 (fun i hi e => by simp at e; omega)
      clear hb hall h2 h3 h4 h5 h6 h7 h8 h9 h10 hv hS
      dsimp only
      gi_wp2
      refine leaves_marks [D] _ (by simp) (fun D' hD' => by simp at hD'; subst hD'; exact HD.out) (fun W2 q2 _ => ?_)
      obtain ⟨z0, z1, z2⟩ := HE.out W2 q2
      exact ⟨_, resAt W2 (R + 1) (R + 2) _ _ _ rfl rfl z0 z1, z2⟩

end Go.Proofs.YtnjkaojgcnepdaaDoor

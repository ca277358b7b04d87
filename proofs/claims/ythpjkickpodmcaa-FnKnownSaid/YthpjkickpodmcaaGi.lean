/-
  The model's PointsOf; its drawer of a text and a point in it.
-/
import Derived.Test.YthpjkickpodmcaaGeW
import Derived.Test.YthpjkickpodmcaaZc
import Derived.Test.YthpjkickpodmcaaEbW
import Derived.Test.YthpjkickpodmcaaIjW
import Derived.WalkArith
namespace Go.Proofs.Ythpjkickpodmcaa
set_option linter.unusedVariables false
set_option linter.unusedSimpArgs false
open Go.RowKit

theorem resPts3 (W : World) (v u : Value) (tmps : Array Value) (h : tmps.getD 2 undef = v) (h2 : tmps.getD 3 undef = u) : (results Try.f66 tmps).run Try.prog W = .ok (.tuple #[v, u]) W := by
  have h' : tmps[2]?.getD undef = v := by simpa using h
  have h2' : tmps[3]?.getD undef = u := by simpa using h2
  simp [results, Try.results66, go_sem, h', h2']

theorem resDrPlace3 (W : World) (v u : Value) (tmps : Array Value) (h : tmps.getD 2 undef = v) (h2 : tmps.getD 3 undef = u) : (results Try.f48 tmps).run Try.prog W = .ok (.tuple #[v, u]) W := by
  have h' : tmps[2]?.getD undef = v := by simpa using h
  have h2' : tmps[3]?.getD undef = u := by simpa using h2
  simp [results, Try.results48, go_sem, h', h2']

theorem resDrMay (W : World) (v u : Value) (tmps : Array Value) (h : tmps.getD 2 undef = v) (h2 : tmps.getD 3 undef = u) : (results Try.f24 tmps).run Try.prog W = .ok (.tuple #[v, u]) W := by
  have h' : tmps[2]?.getD undef = v := by simpa using h
  have h2' : tmps[3]?.getD undef = u := by simpa using h2
  simp [results, Try.results24, go_sem, h', h2']

theorem d3cap_ok {w : World} {ok : Nat → Prop} {e : TypeId} {size : Nat} {g n c : Nat} {xs : List Value} (h : Row w ok e size (.slice (some ⟨g, 0, none⟩) n c) n xs) : n ≤ c := by
  rcases h.1.2 with ⟨e1, _⟩ | ⟨g', c', cur, e1, _, hh, hnc, _⟩
  · cases e1
  · simp only [Value.slice.injEq, Option.some.injEq, Addr.mk.injEq, and_true, true_and] at e1
    obtain ⟨rfl, rfl⟩ := e1
    exact hnc

def PtsPost (w : World) (res : Option Nd) (e : Ending) (w' : World) : Prop :=
  ∃ v b xs, e = .returned (.tuple #[v, .bool b]) ∧ Row w' (fromB w.heap.size) 3 1 v xs.length xs ∧ Keeps noB w w' ∧ b = res.isSome ∧
    xs = match res with | none => [] | some x => (x.pts.map Prod.fst).map fun k => i64 k

set_option maxRecDepth 100000 in
set_option maxHeartbeats 4000000 in
theorem sptsOf_any (s : ByteArray) (hs : s.size ≤ 1048576) (w : World) : Calls Try.prog 66 #[.string s] w (PtsPost w (progP s)) := by
  have H := Lib.hid (sread_any s hs w)
  cases hp : progP s with
  | none =>
    rw [hp] at H
    clear hp
    go_enter Try.func66, Try.ntmps66
    go_wp2_with fail
    refine H.out.mono ?_
    rintro e w1 ⟨⟨x0, x1, x2, x3, x4, x5, x6, x7, rfl⟩, q1⟩
    have hnv : nodeV x0 x1 x2 x3 x4 x5 x6 x7 = .agg #[.int .u8 x0, .int .i64 x1, .int .i64 x2, .string x3, .slice x4 x5 x6, .string x7] := rfl
    go_wp2_with fail
    refine bodyPost_ret (resPts3 _ _ _ _ rfl rfl) rfl ?_
    refine ⟨_, _, [], rfl, ⟨?_, ?_⟩, (q1.alloc _).alloc _, rfl, rfl⟩
    · have hs1 : (w1.alloc (.cells #[.int .u8 x0, .int .i64 x1, .int .i64 x2, .string x3, .slice x4 x5 x6, .string x7] 54)).heap.size = w1.heap.size + 1 := by simp
      show World.ownsRow _ 0 3 1 (.slice (some ⟨w1.heap.size + 1, 0, none⟩) 0 0) 0 []
      rw [← hs1]
      exact World.ownsRow_made _ #[] 0 (Nat.zero_le _) (by simp [maxLen]) rfl
    · intro g hg
      have := q1.size
      simp [Value.ownBlock] at hg
      simp [fromB]
      omega
  | some x =>
    rw [hp] at H
    have HPT := Lib.hid (fun w ok hok x0 x1 x2 x3 x7 x4 x5 x6 hrep => spoints_any hp w ok hok x0 x1 x2 x3 x7 x4 x5 x6 hrep)
    clear hp
    go_enter Try.func66, Try.ntmps66
    go_wp2_with fail
    refine H.out.mono ?_
    rintro e w1 ⟨x0, x1, x2, x3, x4, x5, x6, x7, rfl, hx, q1⟩
    have hnv : nodeV x0 x1 x2 x3 x4 x5 x6 x7 = .agg #[.int .u8 x0, .int .i64 x1, .int .i64 x2, .string x3, .slice x4 x5 x6, .string x7] := rfl
    have hh := Lib.hid (HPT.out (w1.alloc (.cells #[.int .u8 x0, .int .i64 x1, .int .i64 x2, .string x3, .slice x4 x5 x6, .string x7] 54)) (fun i => i < (w1.alloc (.cells #[.int .u8 x0, .int .i64 x1, .int .i64 x2, .string x3, .slice x4 x5 x6, .string x7] 54)).heap.size) (fun _ h => h) x0 x1 x2 x3 x7 x4 x5 x6
      ((Hands.of_keeps (ok := fromB w.heap.size) ((Keeps.refl noB w1).alloc _) (fun _ _ _ e => e.elim) (fun i _ hl => Nat.lt_of_lt_of_le hl ((Keeps.refl noB w1).alloc _).size)).repS x _ hx))
    have HQ := Lib.hid q1
    clear hx q1 HPT
    go_wp2_with fail
    refine hh.out.mono ?_
    rintro e w2 ⟨v, rfl, hrow, q2⟩
    have HE : Hid (PtsPost w (some x) (.returned (.tuple #[v, .bool true])) w2) := Lib.hid ⟨v, true, _, rfl, ⟨by rw [List.length_map]; exact hrow.1, fun g hg => by
      have h1 := hrow.2 g hg
      have h2 := (HQ.out.alloc (.cells #[.int .u8 x0, .int .i64 x1, .int .i64 x2, .string x3, .slice x4 x5 x6, .string x7] 54)).size
      exact Nat.le_trans h2 h1⟩, (HQ.out.alloc _).trans q2, rfl, rfl⟩
    clear hrow q2 hh
    go_wp2_with fail
    exact bodyPost_ret (resPts3 _ v (.bool true) _ rfl rfl) rfl HE.out

def PlaceDrawn3 (w : World) (g : Nat) (e : Ending) (w' : World) : Prop :=
  ∃ (s : ByteArray) (z : Int), e = .returned (.tuple #[.string s, .int .i64 z]) ∧ s.size ≤ 3000 ∧ (Lit.int .i64 z).wf = true ∧ Keeps (oneB g) w w'

set_option maxRecDepth 100000 in
set_option maxHeartbeats 8000000 in
theorem place3_any (g t : Nat) (w : World) (h : DrAt w g t) (ht : t ≤ 30000) : Calls Try.prog 48 #[.pointer (some ⟨g, 0, none⟩)] w (PlaceDrawn3 w g) := by
  have HG := Lib.hid (any_any g t w h (by omega))
  clear h
  refine (callsIn_wide (n := 9)).1 ?_
  obtain ⟨F, hF⟩ : ∃ F, F = Fence.wide := ⟨_, rfl⟩
  have hFf : ∀ f, F.fn f := by subst hF; exact fun _ => trivial
  have hdd : ∀ k : Nat, (F.depth.isSome = true → 1 ≤ k) := by subst hF; intro k h; simp [Fence.wide] at h
  have hro : F.round = none := by subst hF; rfl
  have hds : F.depth.isSome = false := by subst hF; rfl
  rw [← hF]
  have HF := Lib.hid hF
  clear hF
  have HGc : Hid (∀ n', CallsIn F n' Try.prog 33 #[.pointer (some ⟨g, 0, none⟩)] w (AnyPost w g t)) := Lib.hid (fun n' => by rw [HF.out]; exact callsIn_wide.2 HG.out)
  have HPc : Hid (∀ n' W t1 k, DrAt W g t1 → t1 ≤ 100000 → k ≤ 100000 → CallsIn F n' Try.prog 55 #[.pointer (some ⟨g, 0, none⟩), .int .i64 ((k : Nat) : Int)] W (PickPost W g t1 k)) := Lib.hid (fun n' W t1 k a b c => by rw [HF.out]; exact callsIn_wide.2 (pick_any g t1 k W a b c))
  have HSc : Hid (∀ n' W (s : ByteArray), s.size ≤ 3000 → CallsIn F n' Try.prog 66 #[.string s] W (PtsPost W (progP s))) := Lib.hid (fun n' W s a => by rw [HF.out]; exact callsIn_wide.2 (sptsOf_any s (by omega) W))
  have HNc : Hid (∀ n' W t1 T, DrAt W g t1 → t1 ≤ 100000 → CallsIn F n' Try.prog 67 #[.pointer (some ⟨g, 0, none⟩), .slice (some ⟨W.heap.size, 0, none⟩) 6 6] (W.alloc (.cells #[.int .i64 0, .int .i64 1, .int .i64 3, .int .i64 (-1), .int .i64 80, .int .i64 9223372036854775807] T)) (NumPickPost (W.alloc (.cells #[.int .i64 0, .int .i64 1, .int .i64 3, .int .i64 (-1), .int .i64 80, .int .i64 9223372036854775807] T)) g t1 (fun z => (Lit.int .i64 z).wf = true))) := Lib.hid (fun n' W t1 T a b => by
    rw [HF.out]
    refine callsIn_wide.2 (numOf_any g t1 W.heap.size 6 _ T _ _ (a.keeps ((Keeps.refl noB W).alloc _)) b (Blk.new W _ _) (by have := a.lt; omega) (by omega) (by omega) ?_)
    intro i hi
    have h : i = 0 ∨ i = 1 ∨ i = 2 ∨ i = 3 ∨ i = 4 ∨ i = 5 := by omega
    rcases h with rfl | rfl | rfl | rfl | rfl | rfl <;> exact ⟨_, rfl, WalkArith.wf_i64 (by omega)⟩)
  clear HG
  refine callsIn_of_wp_marks Try.func48 rfl (hFf _) ?_ hro
  simp only [Try.ntmps48, List.size_toArray, List.length_cons, List.length_nil, Nat.reduceAdd, Nat.reduceSub, Array.replicate_succ, Array.replicate_zero, List.push_toArray, List.append_toArray, List.nil_append, List.cons_append]
  gi_wp2
  refine CallsIn.mono (HGc.out _) ?_
  rintro e w1 ⟨s, t1, rfl, hs1, ht1, hr, q⟩
  have J1 := Lib.hid (And.intro hr q)
  clear hr q HGc
  gi_wp2
  refine CallsIn.mono (HSc.out _ w1 s hs1) ?_
  rintro e w2 ⟨v, b, xs, rfl, hrow, q, hb, hxs⟩
  have hg1 := J1.out.1.lt
  have J2 := Lib.hid (And.intro (J1.out.1.keeps q) (J1.out.2.trans (q.mono (fun _ e => e.elim))))
  obtain ⟨a, c, rfl⟩ := row_shape hrow
  have hnx : b = true → 0 < xs.length := fun hbt => by
    rw [hb] at hbt
    rw [hxs]
    cases hp : progP s with
    | none => rw [hp] at hbt; cases hbt
    | some x => simp only [List.length_map]; rw [Nd.pts_eq]; simp
  have hxi : ∀ j, j < xs.length → ∃ z : Int, xs[j]? = some (.int .i64 z) ∧ (Lit.int .i64 z).wf = true := fun j hj => by
    obtain ⟨u, hj'⟩ : ∃ u, xs[j]? = some u := ⟨_, List.getElem?_eq_getElem hj⟩
    have hm : u ∈ xs := List.mem_of_getElem? hj'
    rw [hxs] at hm
    cases hp : progP s with
    | none => rw [hp] at hm; cases hm
    | some x =>
      rw [hp] at hm
      simp only [List.map_map, List.mem_map] at hm
      obtain ⟨y, hym, hy⟩ := hm
      have h80 := (progP_pts hp y hym).2.2
      exact ⟨(y.1 : Int), by rw [hj', ← hy]; rfl, WalkArith.wf_i64 (by omega)⟩
  have hlx : xs.length ≤ 81 := by
    rw [hxs]
    cases hp : progP s with
    | none => simp
    | some x =>
      simp only [List.length_map]
      have := asc_len (x.pts.map Prod.fst) 0 81 (pts_ascN (progP_sp hp) (progP_fit hp)) (fun a ha => by
        obtain ⟨p, hpm, rfl⟩ := List.mem_map.1 ha
        have := (progP_pts hp p hpm).2.2
        omega)
      simp only [List.length_map] at this
      omega
  have HROW : Hid (∀ j, j < xs.length → ∃ b' z, a = some ⟨b', 0, none⟩ ∧ (Lit.int .i64 z).wf = true ∧ xs.length ≤ c ∧ ∀ W', Keeps (oneB g) w2 W' → W'.cell? ⟨b', j, none⟩ = some (.int .i64 z)) := Lib.hid (fun j hj => by
    obtain ⟨b', c', e, hok, hlt, hcell⟩ := row_get hrow (by omega)
    obtain ⟨z, hz, hzw⟩ := hxi j hj
    simp only [Value.slice.injEq, true_and] at e
    obtain ⟨rfl, rfl⟩ := e
    refine ⟨b', z, rfl, hzw, d3cap_ok hrow, fun W' q' => (q'.cell (p := ⟨b', j, none⟩) hlt (fun e => ?_)).trans (hcell j _ hz)⟩
    have e1 : b' = g := e
    have e2 : w1.heap.size ≤ b' := hok
    omega)
  generalize hN : xs.length = n at *
  have HN := Lib.hid hnx
  clear hrow q hb hxs hxi hN hnx J1
  cases b with
  | false =>
    gi_wp2
    refine CallsIn.mono (HNc.out _ _ t1 _ J2.out.1 (by omega)) ?_
    rintro e w3 ⟨z, rfl, hzw, hr, q⟩
    have J3 := Lib.hid ((J2.out.2.alloc _).trans q)
    have HZW := Lib.hid hzw
    clear hr q J2 hzw
    gi_wp2
    refine leaves_marks [] _ List.nodup_nil (fun _ h => by cases h) (fun W' q _ => ?_)
    exact ⟨_, resDrPlace3 W' (.string s) (.int .i64 z) _ rfl rfl, s, z, rfl, hs1, HZW.out, J3.out.trans (q.mono (fun _ e => by cases e))⟩
  | true =>
    gi_wp2
    refine CallsIn.mono (HPc.out _ _ t1 8 J2.out.1 (by omega) (by omega)) ?_
    rintro e w3 ⟨j, rfl, hj, hr, q⟩
    have J3 := Lib.hid (And.intro hr (And.intro (J2.out.2.trans q) q))
    clear hr q J2
    by_cases hj0 : j = 0
    · subst hj0
      gi_wp2
      refine CallsIn.mono (HNc.out _ _ (t1 + 1) _ J3.out.1 (by omega)) ?_
      rintro e w4 ⟨z, rfl, hzw, hr, q⟩
      have J4 := Lib.hid ((J3.out.2.1.alloc _).trans q)
      have HZW := Lib.hid hzw
      clear hr q J3 hzw
      gi_wp2
      refine leaves_marks [] _ List.nodup_nil (fun _ h => by cases h) (fun W' q _ => ?_)
      exact ⟨_, resDrPlace3 W' (.string s) (.int .i64 z) _ rfl rfl, s, z, rfl, hs1, HZW.out, J4.out.trans (q.mono (fun _ e => by cases e))⟩
    · have hj1 : (0 : Int) < (j : Int) := by omega
      gi_wp2
      refine wpIn_region_seqP (fun W => Keeps (oneB g) w2 W) [(0, true), (1, true), (2, true), (3, true), (4, true), (5, false), (6, true), (7, true), (8, true), (9, true)] hro hFf (by kernel_rfl) (by kernel_rfl) (by kernel_rfl) rfl (by kernel_rfl) (J3.out.2.2.drew) ?_
      refine seqH_take (.string s) rfl rfl (fun W4 _ => by go_simp) (fun K hK => ?_)
      go_simp
      refine hK _ ?_
      clear hK K
      refine seqH_take (.slice a n c) rfl rfl (fun W4 _ => by go_simp) (fun K hK => ?_)
      go_simp
      refine hK _ ?_
      clear hK K
      refine seqH_take (.pointer (some ⟨g, 0, none⟩)) rfl rfl (fun W4 _ => by go_simp) (fun K hK => ?_)
      go_simp
      refine hK _ ?_
      clear hK K
      refine seqH_take (.slice a n c) rfl rfl (fun W4 _ => by go_simp) (fun K hK => ?_)
      go_simp
      refine hK _ ?_
      clear hK K
      refine seqH_take (.int .i64 (n : Int)) rfl rfl (fun W4 _ => by go_simp) (fun K hK => ?_)
      go_simp
      refine hK _ ?_
      clear hK K
      refine seqH_loud rfl (fun K hK => ?_)
      gi_wp2
      refine CallsIn.mono (HPc.out _ _ (t1 + 1) n (J3.out.1.keeps ((Keeps.refl noB w3).drew)) (by omega) (by omega)) ?_
      rintro e w4 ⟨k, rfl, hk, hr, q⟩
      have J4 := Lib.hid (And.intro (J3.out.2.1.drew.trans q) (J3.out.2.2.drew.trans q))
      have hk' : k < n := by have := HN.out (by first | trivial | rfl); omega
      clear hr q J3
      obtain ⟨b', z, rfl, hzw, hnc, hcell⟩ := HROW.out k hk'
      have HZW := Lib.hid hzw
      clear hzw
      have HCELL := Lib.hid hcell
      have hki : (k : Int) < (n : Int) := by omega
      have hnci : (n : Int) ≤ (c : Int) := by omega
      clear hcell
      gi_wp2
      refine hK _ _ J4.out.2 ?_
      clear hK K
      refine seqH_take (.pointer (some ⟨b', k, none⟩)) rfl rfl (fun W4 _ => by go_simp) (fun K hK => ?_)
      go_simp
      refine hK _ ?_
      clear hK K
      refine seqH_take (.int .i64 z) rfl rfl (fun W4 q4 => by have f0 := HCELL.out W4 q4; go_simp) (fun K hK => ?_)
      go_simp
      refine hK _ ?_
      clear hK K
      refine seqH_take (.string s) rfl rfl (fun W4 _ => by go_simp) (fun K hK => ?_)
      go_simp
      refine hK _ ?_
      clear hK K
      refine seqH_take (.int .i64 z) rfl rfl (fun W4 _ => by go_simp) (fun K hK => ?_)
      go_simp
      refine hK _ ?_
      clear hK K
      simp only [wpSeqH, noPanic]
      gi_wp2
      refine leaves_marks [] _ List.nodup_nil (fun _ h => by cases h) (fun W' q _ => ?_)
      exact ⟨_, resDrPlace3 W' (.string s) (.int .i64 z) _ rfl rfl, s, z, rfl, hs1, HZW.out, J4.out.1.trans (q.mono (fun _ e => by cases e))⟩

set_option maxRecDepth 100000 in
/-- DrawMayHold: a text of bounded size, and a number. -/
theorem drawMay_any (v : Value) (n : Nat) (w : World) (h : ArgB w.heap.size w v n) (hn : n ≤ 1048576) : Calls Try.prog 24 #[v] w (fun e w' => ∃ (s : ByteArray) (z : Int), e = .returned (.tuple #[.string s, .int .i64 z]) ∧ s.size ≤ 3000 ∧ (Lit.int .i64 z).wf = true ∧ Keeps noB w w') := by
  have HO := Lib.hid (open_any v n w h hn)
  clear h
  go_enter Try.func24, Try.ntmps24
  go_wp2_with fail
  refine HO.out.mono ?_
  rintro e w1 ⟨g, rfl, hg, hr, q⟩
  have HP := Lib.hid (place3_any g 0 w1 hr (by omega))
  have HQ := Lib.hid q
  clear hr q HO
  go_wp2_with fail
  refine HP.out.mono ?_
  rintro e w2 ⟨s, z, rfl, hs, hzw, q⟩
  have HE := Lib.hid (And.intro hzw (HQ.out.transNew q (fun i hi e => by have e1 : i = g := e; omega)))
  clear q HP hzw
  go_wp2_with fail
  refine bodyPost_ret (resDrMay _ (.string s) (.int .i64 z) _ rfl rfl) rfl ?_
  exact ⟨s, z, rfl, hs, HE.out.1, HE.out.2⟩

end Go.Proofs.Ythpjkickpodmcaa

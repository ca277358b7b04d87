/-
  The model's drawers: a text and a place in it; a text and a kind.
-/
import Derived.Test.YtjpmeecdndnknaaGf
import Derived.Test.YtjpmeecdndnknaaEbW
import Derived.Test.YtjpmeecdndnknaaIjW
namespace Go.Proofs.Ytjpmeecdndnknaa
set_option linter.unusedVariables false
set_option linter.unusedSimpArgs false
open Go.RowKit

def PlaceDrawn (w : World) (g : Nat) (e : Ending) (w' : World) : Prop :=
  ∃ (s : ByteArray) (z : Int), e = .returned (.tuple #[.string s, .int .i64 z]) ∧ s.size ≤ 3000 ∧ Keeps (oneB g) w w'

theorem resDrPlace (W : World) (v u : Value) (tmps : Array Value) (h : tmps.getD 2 undef = v) (h2 : tmps.getD 3 undef = u) : (results Try.f41 tmps).run Try.prog W = .ok (.tuple #[v, u]) W := by
  have h' : tmps[2]?.getD undef = v := by simpa using h
  have h2' : tmps[3]?.getD undef = u := by simpa using h2
  simp [results, Try.results41, go_sem, h', h2']

theorem resDrawAt (W : World) (v u : Value) (tmps : Array Value) (h : tmps.getD 2 undef = v) (h2 : tmps.getD 3 undef = u) : (results Try.f24 tmps).run Try.prog W = .ok (.tuple #[v, u]) W := by
  have h' : tmps[2]?.getD undef = v := by simpa using h
  have h2' : tmps[3]?.getD undef = u := by simpa using h2
  simp [results, Try.results24, go_sem, h', h2']

theorem resDrawCount (W : World) (v u : Value) (tmps : Array Value) (h : tmps.getD 2 undef = v) (h2 : tmps.getD 3 undef = u) : (results Try.f25 tmps).run Try.prog W = .ok (.tuple #[v, u]) W := by
  have h' : tmps[2]?.getD undef = v := by simpa using h
  have h2' : tmps[3]?.getD undef = u := by simpa using h2
  simp [results, Try.results25, go_sem, h', h2']

theorem dcap_ok {w : World} {ok : Nat → Prop} {e : TypeId} {size : Nat} {g n c : Nat} {xs : List Value} (h : Row w ok e size (.slice (some ⟨g, 0, none⟩) n c) n xs) : n ≤ c := by
  rcases h.1.2 with ⟨e1, _⟩ | ⟨g', c', cur, e1, _, hh, hnc, _⟩
  · cases e1
  · simp only [Value.slice.injEq, Option.some.injEq, Addr.mk.injEq, and_true, true_and] at e1
    obtain ⟨rfl, rfl⟩ := e1
    exact hnc

theorem pre_some (x : Nd) : 0 < x.pre.list.length := by
  obtain ⟨c, k, e, vs, ar, bs⟩ := x
  simp [Nd.pre, Nds.list]

set_option maxRecDepth 100000 in
set_option maxHeartbeats 8000000 in
theorem place_any (g t : Nat) (w : World) (h : DrAt w g t) (ht : t ≤ 30000) : Calls Try.prog 41 #[.pointer (some ⟨g, 0, none⟩)] w (PlaceDrawn w g) := by
  have HG := Lib.hid (any_any g t w h (by omega))
  clear h
  refine (callsIn_wide (n := 9)).1 ?_
  obtain ⟨F, hF⟩ : ∃ F, F = Fence.wide := ⟨_, rfl⟩
  have hFf : ∀ f, F.fn f := by subst hF; exact fun _ => trivial
  have hdd : ∀ k : Nat, (F.depth.isSome = true → 1 ≤ k) := by subst hF; intro k h; simp [Fence.wide] at h
  have hro : F.round = none := by subst hF; rfl
  have hds : F.depth.isSome = false := by subst hF; rfl
  rw [← hF]
  have HF := Lib.hid hF
  clear hF
  have HGc : Hid (∀ n', CallsIn F n' Try.prog 26 #[.pointer (some ⟨g, 0, none⟩)] w (AnyPost w g t)) := Lib.hid (fun n' => by rw [HF.out]; exact callsIn_wide.2 HG.out)
  have HPc : Hid (∀ n' W t1 k, DrAt W g t1 → t1 ≤ 100000 → k ≤ 100000 → CallsIn F n' Try.prog 44 #[.pointer (some ⟨g, 0, none⟩), .int .i64 ((k : Nat) : Int)] W (PickPost W g t1 k)) := Lib.hid (fun n' W t1 k a b c => by rw [HF.out]; exact callsIn_wide.2 (pick_any g t1 k W a b c))
  have HSc : Hid (∀ n' W (s : ByteArray), s.size ≤ 3000 → CallsIn F n' Try.prog 7 #[.string s] W (StepsPost W (progP s))) := Lib.hid (fun n' W s a => by rw [HF.out]; exact callsIn_wide.2 (ssteps_any s (by omega) W))
  have HNc : Hid (∀ n' W t1 T, DrAt W g t1 → t1 ≤ 100000 → CallsIn F n' Try.prog 54 #[.pointer (some ⟨g, 0, none⟩), .slice (some ⟨W.heap.size, 0, none⟩) 6 6] (W.alloc (.cells #[.int .i64 0, .int .i64 1, .int .i64 3, .int .i64 (-1), .int .i64 80, .int .i64 9223372036854775807] T)) (NumPickPost (W.alloc (.cells #[.int .i64 0, .int .i64 1, .int .i64 3, .int .i64 (-1), .int .i64 80, .int .i64 9223372036854775807] T)) g t1 (fun _ => True))) := Lib.hid (fun n' W t1 T a b => by
    rw [HF.out]
    refine callsIn_wide.2 (numOf_any g t1 W.heap.size 6 _ T _ _ (a.keeps ((Keeps.refl noB W).alloc _)) b (Blk.new W _ _) (by have := a.lt; omega) (by omega) (by omega) ?_)
    intro i hi
    have h : i = 0 ∨ i = 1 ∨ i = 2 ∨ i = 3 ∨ i = 4 ∨ i = 5 := by omega
    rcases h with rfl | rfl | rfl | rfl | rfl | rfl <;> exact ⟨_, rfl, trivial⟩)
  clear HG
  refine callsIn_of_wp_marks Try.func41 rfl (hFf _) ?_ hro
  simp only [Try.ntmps41, List.size_toArray, List.length_cons, List.length_nil, Nat.reduceAdd, Nat.reduceSub, Array.replicate_succ, Array.replicate_zero, List.push_toArray, List.append_toArray, List.nil_append, List.cons_append]
  gi_wp2
  refine CallsIn.mono (HGc.out _) ?_
  rintro e w1 ⟨s, t1, rfl, hs1, ht1, hr, q⟩
  have J1 := Lib.hid (And.intro hr q)
  clear hr q HGc
  gi_wp2
  refine CallsIn.mono (HSc.out _ w1 s hs1) ?_
  rintro e w2 ⟨v, b, xs, rfl, hrow, q, hb, hxs⟩
  have hg1 := J1.out.1.lt
  have J2 := Lib.hid (And.intro (J1.out.1.keeps q) (J1.out.2.trans (q.mono (fun _ e => e.elim))))
  obtain ⟨a, c, rfl⟩ := row_shape hrow
  have hnx : b = true → 0 < xs.length := fun hbt => by
    rw [hb] at hbt
    rw [hxs]
    cases hp : progP s with
    | none => rw [hp] at hbt; cases hbt
    | some x => simp only [List.length_map]; exact pre_some x
  have hxi : ∀ j, j < xs.length → ∃ z : Int, xs[j]? = some (.int .i64 z) := fun j hj => by
    obtain ⟨u, hj'⟩ : ∃ u, xs[j]? = some u := ⟨_, List.getElem?_eq_getElem hj⟩
    have hm : u ∈ xs := List.mem_of_getElem? hj'
    rw [hxs] at hm
    cases hp : progP s with
    | none => rw [hp] at hm; cases hm
    | some x =>
      rw [hp] at hm
      simp only [List.mem_map] at hm
      obtain ⟨y, _, hy⟩ := hm
      exact ⟨(y.beg : Int), by rw [hj', ← hy]; rfl⟩
  have hlx : xs.length ≤ 80 := by
    rw [hxs]
    cases hp : progP s with
    | none => simp
    | some x => simp only [List.length_map]; rw [Nds.list_len]; have := progP_few hp; omega
  have HROW : Hid (∀ j, j < xs.length → ∃ b' z, a = some ⟨b', 0, none⟩ ∧ xs.length ≤ c ∧ ∀ W', Keeps (oneB g) w2 W' → W'.cell? ⟨b', j, none⟩ = some (.int .i64 z)) := Lib.hid (fun j hj => by
    obtain ⟨b', c', e, hok, hlt, hcell⟩ := row_get hrow (by omega)
    obtain ⟨z, hz⟩ := hxi j hj
    simp only [Value.slice.injEq, true_and] at e
    obtain ⟨rfl, rfl⟩ := e
    refine ⟨b', z, rfl, dcap_ok hrow, fun W' q' => (q'.cell (p := ⟨b', j, none⟩) hlt (fun e => ?_)).trans (hcell j _ hz)⟩
    have e1 : b' = g := e
    have e2 : w1.heap.size ≤ b' := hok
    omega)
  generalize hN : xs.length = n at *
  have HN := Lib.hid hnx
  clear hrow q hb hxs hxi hN hnx J1
  cases b with
  | false =>
    gi_wp2
    refine CallsIn.mono (HNc.out _ _ t1 _ J2.out.1 (by omega)) ?_
    rintro e w3 ⟨z, rfl, _, hr, q⟩
    have J3 := Lib.hid ((J2.out.2.alloc _).trans q)
    clear hr q J2
    gi_wp2
    refine leaves_marks [] _ List.nodup_nil (fun _ h => by cases h) (fun W' q _ => ?_)
    exact ⟨_, resDrPlace W' (.string s) (.int .i64 z) _ rfl rfl, s, z, rfl, hs1, J3.out.trans (q.mono (fun _ e => by cases e))⟩
  | true =>
    gi_wp2
    refine CallsIn.mono (HPc.out _ _ t1 6 J2.out.1 (by omega) (by omega)) ?_
    rintro e w3 ⟨j, rfl, hj, hr, q⟩
    have J3 := Lib.hid (And.intro hr (And.intro (J2.out.2.trans q) q))
    clear hr q J2
    by_cases hj0 : j = 0
    · subst hj0
      gi_wp2
      refine CallsIn.mono (HNc.out _ _ (t1 + 1) _ J3.out.1 (by omega)) ?_
      rintro e w4 ⟨z, rfl, _, hr, q⟩
      have J4 := Lib.hid ((J3.out.2.1.alloc _).trans q)
      clear hr q J3
      gi_wp2
      refine leaves_marks [] _ List.nodup_nil (fun _ h => by cases h) (fun W' q _ => ?_)
      exact ⟨_, resDrPlace W' (.string s) (.int .i64 z) _ rfl rfl, s, z, rfl, hs1, J4.out.trans (q.mono (fun _ e => by cases e))⟩
    · have hj1 : (0 : Int) < (j : Int) := by omega
      gi_wp2
      refine wpIn_region_seqP (fun W => Keeps (oneB g) w2 W) [(0, true), (1, true), (2, true), (3, true), (4, true), (5, false), (6, true), (7, true), (8, true), (9, true)] hro hFf (by kernel_rfl) (by kernel_rfl) (by kernel_rfl) rfl (by kernel_rfl) (J3.out.2.2.drew) ?_
      refine seqH_take (.string s) rfl rfl (fun W4 _ => by go_simp) (fun K hK => ?_)
      go_simp
      refine hK _ ?_
      clear hK K
      refine seqH_take (.slice a n c) rfl rfl (fun W4 _ => by go_simp) (fun K hK => ?_)
      go_simp
      refine hK _ ?_
      clear hK K
      refine seqH_take (.pointer (some ⟨g, 0, none⟩)) rfl rfl (fun W4 _ => by go_simp) (fun K hK => ?_)
      go_simp
      refine hK _ ?_
      clear hK K
      refine seqH_take (.slice a n c) rfl rfl (fun W4 _ => by go_simp) (fun K hK => ?_)
      go_simp
      refine hK _ ?_
      clear hK K
      refine seqH_take (.int .i64 (n : Int)) rfl rfl (fun W4 _ => by go_simp) (fun K hK => ?_)
      go_simp
      refine hK _ ?_
      clear hK K
      refine seqH_loud rfl (fun K hK => ?_)
      gi_wp2
      refine CallsIn.mono (HPc.out _ _ (t1 + 1) n (J3.out.1.keeps ((Keeps.refl noB w3).drew)) (by omega) (by omega)) ?_
      rintro e w4 ⟨k, rfl, hk, hr, q⟩
      have J4 := Lib.hid (And.intro (J3.out.2.1.drew.trans q) (J3.out.2.2.drew.trans q))
      have hk' : k < n := by have := HN.out (by first | trivial | rfl); omega
      clear hr q J3
      obtain ⟨b', z, rfl, hnc, hcell⟩ := HROW.out k hk'
      have HCELL := Lib.hid hcell
      have hki : (k : Int) < (n : Int) := by omega
      have hnci : (n : Int) ≤ (c : Int) := by omega
      clear hcell
      gi_wp2
      refine hK _ _ J4.out.2 ?_
      clear hK K
      refine seqH_take (.pointer (some ⟨b', k, none⟩)) rfl rfl (fun W4 _ => by go_simp) (fun K hK => ?_)
      go_simp
      refine hK _ ?_
      clear hK K
      refine seqH_take (.int .i64 z) rfl rfl (fun W4 q4 => by have f0 := HCELL.out W4 q4; go_simp) (fun K hK => ?_)
      go_simp
      refine hK _ ?_
      clear hK K
      refine seqH_take (.string s) rfl rfl (fun W4 _ => by go_simp) (fun K hK => ?_)
      go_simp
      refine hK _ ?_
      clear hK K
      refine seqH_take (.int .i64 z) rfl rfl (fun W4 _ => by go_simp) (fun K hK => ?_)
      go_simp
      refine hK _ ?_
      clear hK K
      simp only [wpSeqH, noPanic]
      gi_wp2
      refine leaves_marks [] _ List.nodup_nil (fun _ h => by cases h) (fun W' q _ => ?_)
      exact ⟨_, resDrPlace W' (.string s) (.int .i64 z) _ rfl rfl, s, z, rfl, hs1, J4.out.1.trans (q.mono (fun _ e => by cases e))⟩

/-- DrawStepAt: a text of bounded size, and a number. -/
theorem drawStepAt_any (v : Value) (n : Nat) (w : World) (h : ArgB w.heap.size w v n) (hn : n ≤ 1048576) : Calls Try.prog 24 #[v] w (fun e w' => ∃ (s : ByteArray) (z : Int), e = .returned (.tuple #[.string s, .int .i64 z]) ∧ s.size ≤ 3000 ∧ Keeps noB w w') := by
  have HO := Lib.hid (open_any v n w h hn)
  clear h
  go_enter Try.func24, Try.ntmps24
  go_wp2_with fail
  refine HO.out.mono ?_
  rintro e w1 ⟨g, rfl, hg, hr, q⟩
  have HP := Lib.hid (place_any g 0 w1 hr (by omega))
  have HQ := Lib.hid q
  clear hr q HO
  go_wp2_with fail
  refine HP.out.mono ?_
  rintro e w2 ⟨s, z, rfl, hs, q⟩
  have HE := Lib.hid (HQ.out.transNew q (fun i hi e => by have e1 : i = g := e; omega))
  clear q HP
  go_wp2_with fail
  refine bodyPost_ret (resDrawAt _ (.string s) (.int .i64 z) _ rfl rfl) rfl ?_
  exact ⟨s, z, rfl, hs, HE.out⟩

set_option maxRecDepth 100000 in
set_option maxHeartbeats 8000000 in
theorem drawCount_any (v : Value) (n : Nat) (w : World) (h : ArgB w.heap.size w v n) (hn : n ≤ 1048576) : Calls Try.prog 25 #[v] w (fun e w' => ∃ (s k : ByteArray), e = .returned (.tuple #[.string s, .string k]) ∧ s.size ≤ 3000 ∧ k.size ≤ 2 ∧ Keeps noB w w') := by
  have HO := Lib.hid (open_any v n w h hn)
  clear h
  go_enter Try.func25, Try.ntmps25
  go_wp2_with fail
  refine HO.out.mono ?_
  rintro e w1 ⟨g, rfl, hg, hr, q⟩
  have HP := Lib.hid (any_any g 0 w1 hr (by omega))
  have HQ := Lib.hid q
  clear hr q HO
  go_wp2_with fail
  refine HP.out.mono ?_
  rintro e w2 ⟨s, t2, rfl, hs, ht2, hr, q⟩
  have HR := Lib.hid hr
  have HQ2 := Lib.hid (HQ.out.transNew q (fun i hi e => by have e1 : i = g := e; omega))
  clear hr q HP HQ
  have HOF : Hid (∀ T, Calls Try.prog 42 #[.pointer (some ⟨g, 0, none⟩), .slice (some ⟨w2.heap.size, 0, none⟩) 13 13] (w2.alloc (.cells #[.string ⟨#[43]⟩, .string ⟨#[45]⟩, .string ⟨#[46]⟩, .string ⟨#[126]⟩, .string ⟨#[61]⟩, .string ⟨#[94]⟩, .string ⟨#[33]⟩, .string ⟨#[63]⟩, .string ⟨#[42]⟩, .string ⟨#[123]⟩, .string ⟨#[]⟩, .string ⟨#[97]⟩, .string ⟨#[43, 97]⟩] T)) (DrOfPost (w2.alloc (.cells #[.string ⟨#[43]⟩, .string ⟨#[45]⟩, .string ⟨#[46]⟩, .string ⟨#[126]⟩, .string ⟨#[61]⟩, .string ⟨#[94]⟩, .string ⟨#[33]⟩, .string ⟨#[63]⟩, .string ⟨#[42]⟩, .string ⟨#[123]⟩, .string ⟨#[]⟩, .string ⟨#[97]⟩, .string ⟨#[43, 97]⟩] T)) g t2 (fun s => s.size ≤ 2))) := Lib.hid (fun T => by
    refine drOf_any g t2 w2.heap.size 13 _ T _ _ (HR.out.keeps ((Keeps.refl noB w2).alloc _)) (by omega) (Blk.new w2 _ _) (by have := HR.out.lt; omega) (by omega) (by omega) ?_
    intro i hi
    have h : i = 0 ∨ i = 1 ∨ i = 2 ∨ i = 3 ∨ i = 4 ∨ i = 5 ∨ i = 6 ∨ i = 7 ∨ i = 8 ∨ i = 9 ∨ i = 10 ∨ i = 11 ∨ i = 12 := by omega
    rcases h with rfl | rfl | rfl | rfl | rfl | rfl | rfl | rfl | rfl | rfl | rfl | rfl | rfl <;> exact ⟨_, rfl, by decide⟩)
  go_wp2_with fail
  refine (HOF.out _).mono ?_
  rintro e w3 ⟨x, rfl, hx, hr, q⟩
  have HE := Lib.hid ((HQ2.out.alloc _).transNew q (fun i hi e => by have e1 : i = g := e; omega))
  clear hr q HOF
  go_wp2_with fail
  refine bodyPost_ret (resDrawCount _ (.string s) (.string x) _ rfl rfl) rfl ?_
  exact ⟨s, x, rfl, hs, hx, HE.out⟩

end Go.Proofs.Ytjpmeecdndnknaa

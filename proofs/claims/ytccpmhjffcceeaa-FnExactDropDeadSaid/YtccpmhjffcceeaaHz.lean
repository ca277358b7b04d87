/-
  The program's pruner as a visitor; DropDead of the program.
-/
import Derived.Test.YtccpmhjffcceeaaHlW
namespace Go.Proofs.Ytccpmhjffcceeaa
set_option linter.unusedVariables false
set_option linter.unusedSimpArgs false
open Go.RowKit Go.Shelf

theorem resPrune (W : World) (v : Value) (tmps : Array Value) (h2 : tmps.getD 4 undef = v) : (results Try.f200 tmps).run Try.prog W = .ok v W := by
  have h' : tmps[4]?.getD undef = v := by simpa using h2
  simp [results, Try.results200, go_sem, h']

set_option maxRecDepth 100000 in
set_option maxHeartbeats 1000000 in
theorem pruneKeeps_any {x z : Nd} {P g : Nat} {ty : TypeId} {w : World} (hk : KnowsAt w x P) (hi : StepIs w z ty g) (hg : g < w.heap.size) (hbg : z.beg < 1000) (ss : ByteArray) (d : Int) :
    Calls Try.prog 200 #[.agg #[.func (.func 86) #[] #[.pointer (some ⟨P, 0, none⟩)]], .agg #[.iface ty (.pointer (some ⟨g, 0, none⟩)), .string ss, .int .i64 d]] w (fun e w' => e = .returned (.bool (liveK (knO (noteI (notesP x) (z.beg : Int))))) ∧ Keeps noB w w') := by
  refine (callsIn_wide (n := 9)).1 ?_
  obtain ⟨F, hF⟩ : ∃ F, F = Fence.wide := ⟨_, rfl⟩
  have hFf : ∀ f, F.fn f := by subst hF; exact fun _ => trivial
  have hdd : ∀ k : Nat, (F.depth.isSome = true → 1 ≤ k) := by subst hF; intro k h; simp [Fence.wide] at h
  have hro : F.round = none := by subst hF; rfl
  have hds : F.depth.isSome = false := by subst hF; rfl
  obtain ⟨k, hkk⟩ : ∃ k, knO (noteI (notesP x) (z.beg : Int)) = k := ⟨_, rfl⟩
  have haw : (Lit.int .i64 (z.beg : Int)).wf = true := lit_small hbg
  have HKN : Hid (∀ n W, KnowsAt W x P → CallsIn F n Try.prog 86 #[.int .i64 (z.beg : Int), .pointer (some ⟨P, 0, none⟩)] W (fun e w' => e = .returned (.agg #[.int .u8 (k.may : Int), .int .u8 (k.must : Int)]) ∧ Keeps noB W w')) := fun n W h => by
    rw [hF]; have := knows_any h (z.beg : Int) haw; rw [hkk] at this; exact callsIn_wide.2 this
  have HBG : Hid (∀ n W, Keeps noB w W → CallsIn F n Try.prog 186 #[.pointer (some ⟨g, 0, none⟩)] W (fun e w' => e = .returned (.int .i64 (z.beg : Int)) ∧ w' = W)) := fun n W q => by rw [hF]; exact callsIn_wide.2 (begin_any g _ W ((q.cell (p := ⟨g, 0, none⟩) hg id).trans hi.c0))
  have HIR : Hid (∀ n W, CallsIn F n Try.prog 169 #[.agg #[.int .u8 (k.may : Int), .int .u8 (k.must : Int)]] W (fun e w' => e = .returned (.bool (liveK k)) ∧ Keeps noB W w')) := fun n W => by rw [hF]; exact callsIn_wide.2 (isReached_any k W)
  rw [hkk]
  have hbeg := hi.beg
  simp [go_sem] at hbeg
  obtain ⟨w1, hw1⟩ : ∃ w1, w1 = (w.alloc (.cells #[.func (.func 86) #[] #[.pointer (some ⟨P, 0, none⟩)]] 95)).alloc (.cells #[.iface ty (.pointer (some ⟨g, 0, none⟩)), .string ss, .int .i64 d] 48) := ⟨_, rfl⟩
  have q1 : Keeps noB w w1 := by rw [hw1]; exact ((Keeps.refl _ _).alloc _).alloc _
  have hs1 : (w.alloc (.cells #[.func (.func 86) #[] #[.pointer (some ⟨P, 0, none⟩)]] 95)).heap.size = w.heap.size + 1 := by simp
  have b1 : Blk w1 w.heap.size #[.func (.func 86) #[] #[.pointer (some ⟨P, 0, none⟩)]] 95 := by rw [hw1]; exact (Blk.new _ _ _).alloc _
  have b2 : Blk w1 (w.heap.size + 1) #[.iface ty (.pointer (some ⟨g, 0, none⟩)), .string ss, .int .i64 d] 48 := by rw [hw1, ← hs1]; exact Blk.new _ _ _
  obtain ⟨N, hN⟩ : ∃ N, w.heap.size = N := ⟨_, rfl⟩
  rw [hN] at b1 b2
  have HQ := Lib.hid q1
  have HK1 := Lib.hid (hk.quiet q1)
  have HL : Hid (∀ W', Keeps noB w1 W' → W'.cell? ⟨N, 0, none⟩ = some (.func (.func 86) #[] #[.pointer (some ⟨P, 0, none⟩)]) ∧ W'.cell? ⟨N + 1, 0, none⟩ = some (.iface ty (.pointer (some ⟨g, 0, none⟩)))) := fun W' q' => ⟨((q'.blk b1 id).cell 0).trans rfl, ((q'.blk b2 id).cell 0).trans rfl⟩
  rw [← hF]
  have HF := Lib.hid hF
  clear hF hk hi hkk haw q1 b1 b2 hs1
  refine callsIn_of_wp_marks Try.func200 rfl (hFf _) ?_ hro
  simp only [Try.ntmps200, List.size_toArray, List.length_cons, List.length_nil, Nat.reduceAdd, Nat.reduceSub, Array.replicate_succ, Array.replicate_zero, List.push_toArray, List.append_toArray, List.nil_append, List.cons_append]
  gi_wp2
  rw [← hw1]
  clear hw1 hN
  refine wpIn_region_ord (Keeps noB w1) (.read 0 (.read 1 (.read 2 (.read 3 (.loud 4 (.loud 5 (.loud 6 (.read 7 .fin)))))))) hro hFf (by kernel_rfl) (by kernel_rfl) rfl (by kernel_rfl) ((Keeps.refl noB w1).drew) ?_
  refine ord_read (.pointer (some ⟨N, 0, none⟩)) rfl rfl (fun W4 q4 => by obtain ⟨f0, f1⟩ := HL.out W4 q4; go_simp) (fun K hK => ?_)
  go_simp
  refine hK _ ?_
  clear hK K
  refine ord_read (.func (.func 86) #[] #[.pointer (some ⟨P, 0, none⟩)]) rfl rfl (fun W4 q4 => by obtain ⟨f0, f1⟩ := HL.out W4 q4; go_simp) (fun K hK => ?_)
  go_simp
  refine hK _ ?_
  clear hK K
  refine ord_read (.pointer (some ⟨N + 1, 0, none⟩)) rfl rfl (fun W4 q4 => by obtain ⟨f0, f1⟩ := HL.out W4 q4; go_simp) (fun K hK => ?_)
  go_simp
  refine hK _ ?_
  clear hK K
  refine ord_read (.iface ty (.pointer (some ⟨g, 0, none⟩))) rfl rfl (fun W4 q4 => by obtain ⟨f0, f1⟩ := HL.out W4 q4; go_simp) (fun K hK => ?_)
  go_simp
  refine hK _ ?_
  clear hK K
  refine ord_loud rfl (fun K hK => ?_)
  gi_wp2
  refine CallsIn.mono (HBG.out _ _ (HQ.out.trans ((Keeps.refl noB w1).drew))) ?_
  rintro e w2 ⟨rfl, rfl⟩
  gi_wp2
  refine hK _ _ ((Keeps.refl noB w1).drew) ?_
  clear hK K hbeg
  refine ord_loud rfl (fun K hK => ?_)
  gi_wp2
  refine CallsIn.mono (HKN.out _ _ (HK1.out.quiet ((Keeps.refl noB w1).drew))) ?_
  rintro e w3 ⟨rfl, q3⟩
  have Q3 : Hid (Keeps noB w1 w3) := Keeps.trans ((Keeps.refl noB w1).drew) q3
  clear q3
  gi_wp2
  refine hK _ _ Q3.out ?_
  clear hK K
  refine ord_loud rfl (fun K hK => ?_)
  gi_wp2
  refine CallsIn.mono (HIR.out _ _) ?_
  rintro e w4 ⟨rfl, q4⟩
  have Q4 := Lib.hid (Q3.out.trans q4)
  clear q4
  gi_wp2
  refine hK _ _ Q4.out ?_
  clear hK K
  refine ord_read (.bool (liveK k)) rfl rfl (fun W4 q4 => by obtain ⟨f0, f1⟩ := HL.out W4 q4; go_simp) (fun K hK => ?_)
  go_simp
  refine hK _ ?_
  clear hK K
  simp only [wpOrd, noPanic]
  gi_wp2
  refine leaves_marks [] _ List.nodup_nil (fun _ h => by cases h) (fun W' q _ => ?_)
  exact ⟨_, resPrune W' _ _ rfl, rfl, (HQ.out.trans Q4.out).trans (q.mono (fun _ e => by cases e))⟩

theorem pruner_vis {s : ByteArray} {x : Nd} (hp : progP s = some x) (w0 : World) (ok : Nat → Prop) (P : Nat) (hk : KnowsAt w0 x P) : VisAt w0 ok (pruneV x) (fun z => z ∈ x.pre.list) (.iface 95 (.agg #[knowsF P])) where
  keeps := ⟨200, .agg #[knowsF P], fun W a => by kernel_rfl, fun z d v W hz hr q => by
    obtain ⟨ty, g, rfl⟩ := rep_iface _ _ _ _ hr
    obtain ⟨h1, _, _, hg⟩ := rep_step z w0 ok ty g hr
    have h := pruneKeeps_any (hk.quiet q) (h1.keeps q hg id) (Nat.lt_of_lt_of_le hg q.size) (by have := (step_fit hp hz).beg; omega) ⟨z.scope.toArray⟩ (d : Int)
    rw [known_at hp hz] at h
    exact h⟩
  ahead := ⟨187, .agg #[], fun W a => by kernel_rfl, fun z d v W _ hr q => cop_ahead w0 ok z d v W hr q⟩
  value := ⟨191, .agg #[], fun W a => by kernel_rfl, fun z g W _ hr q => cop_value w0 ok z g W hr q⟩
  decls := ⟨189, .agg #[], fun W a => by kernel_rfl, fun z g W _ hr q => cop_decls w0 ok z g W hr q⟩
  ends := ⟨188, .agg #[], fun W a => by kernel_rfl, fun z g W _ hr q => cop_ends w0 ok z g W hr q⟩

set_option maxRecDepth 100000 in
set_option maxHeartbeats 2000000 in
theorem dropDead_any (s : ByteArray) (hs : s.size ≤ 1048576) (w : World) : Calls Try.prog 33 #[.string s] w (RewritePost w (dropDeadP s)) := by
  have HR := Lib.hid (fun w => read_any s hs w)
  unfold dropDeadP
  cases hp : progP s with
  | none =>
    rw [hp] at HR
    clear hp
    go_enter Try.func33, Try.ntmps33
    go_wp2_with fail
    refine (HR.out _).mono ?_
    rintro e w1 ⟨rfl, q1⟩
    have HQ := Lib.hid q1
    clear q1
    go_wp2_with fail
    go_ret2
    exact ⟨rfl, HQ.out⟩
  | some x =>
    rw [hp] at HR
    have HK : Hid (∀ w ok g, RepI w ok x (.iface 57 (ptr g)) → Calls Try.prog 56 #[.pointer (some ⟨g, 0, none⟩)] w (fun e w' => ∃ P, e = .returned (knowsF P) ∧ KnowsAt w' x P ∧ Keeps noB w w')) := fun w ok g hr => knowing_any hp w ok g hr
    obtain ⟨hsc, hok, hkd, hb0, hfn, hsz⟩ := progP_ok hp
    have hfew := progP_few hp
    have HWR : Hid (∀ (w : World) (B g P : Nat), RepI w (fun i => B ≤ i ∧ i < w.heap.size) x (.iface 57 (ptr g)) → KnowsAt w x P → Calls Try.prog 55 #[.iface 95 (.agg #[knowsF P]), .agg #[.iface 57 (ptr g), .string ⟨#[]⟩, .int .i64 0]] w (fun e w' => e = .returned (.string ⟨(x.wr (pruneV x)).toArray⟩) ∧ Keeps noB w w')) := by
      intro w B g P hr hk
      have h := wrote_any (d := 0) ⟨pruner_vis hp w (fun i => B ≤ i ∧ i < w.heap.size) P hk, fun i h => h.2, fun z hz => prune_short hp hz, hsz⟩ x (progP_fit hp) (fun z hz => hz) (by omega) hok _ hr
      rw [hsc] at h
      exact h
    clear hp hsc hok hkd hb0 hfn hsz hfew
    unfold knowsF at HK HWR
    go_enter Try.func33, Try.ntmps33
    go_wp2_with fail
    refine (HR.out _).mono ?_
    rintro e w1 ⟨g, rfl, hr, q1⟩
    have HA := Lib.hid (And.intro hr q1)
    have HK1 := Lib.hid (HK.out w1 _ g hr)
    clear hr q1
    unfold ptr
    go_wp2_with fail
    refine HK1.out.mono ?_
    rintro e w2 ⟨P, rfl, hk, q2⟩
    have HC : Hid (Calls Try.prog 55 #[.iface 95 (.agg #[.func (.func 86) #[] #[.pointer (some ⟨P, 0, none⟩)]]), .agg #[.iface 57 (.pointer (some ⟨g, 0, none⟩)), .string ⟨#[]⟩, .int .i64 0]] w2 (fun e w' => e = .returned (.string ⟨(x.wr (pruneV x)).toArray⟩) ∧ Keeps noB w w')) := by
      obtain ⟨hr, q1⟩ := HA.out
      refine (HWR.out w2 w.heap.size g P ((Hands.of_keeps q2 (fun _ _ _ e => e) (fun i hi hl => ⟨hi, Nat.lt_of_lt_of_le hl q2.size⟩)).repI _ _ hr) hk).mono (fun e w' h => ⟨h.1, (q1.trans q2).trans h.2⟩)
    clear hk q2
    go_wp2_with fail
    refine HC.out.mono ?_
    rintro e w3 ⟨rfl, q3⟩
    have HE := Lib.hid q3
    clear q3
    go_wp2_with fail
    go_ret2
    exact ⟨rfl, HE.out⟩

end Go.Proofs.Ytccpmhjffcceeaa

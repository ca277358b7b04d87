/-
  DropDead of the model: the whole.
-/
import Derived.Test.YtccpmhjffcceeaaLd
import Derived.Test.YtccpmhjffcceeaaSqW
import Derived.Test.YtccpmhjffcceeaaVm
namespace Go.Proofs.Ytccpmhjffcceeaa
set_option linter.unusedVariables false
set_option linter.unusedSimpArgs false
open Go.RowKit Go.Shelf

theorem resDropS (W : World) (t : ByteArray) (b : Bool) (tmps : Array Value) (h2 : tmps.getD 2 undef = .string t) (h3 : tmps.getD 3 undef = .bool b) : (results Try.f32 tmps).run Try.prog W = .ok (.tuple #[.string t, .bool b]) W := by
  have h' : tmps[2]?.getD undef = .string t := by simpa using h2
  have h'' : tmps[3]?.getD undef = .bool b := by simpa using h3
  simp [results, Try.results32, go_sem, h', h'']

/-- The model keeps the steps that a run reaches. -/
theorem salive_of {s : ByteArray} {x : Nd} (hp : progP s = some x) {w2 : World} {own : Nat → Prop} {h : Nat} {l : AL} {va vs : Value} (hold : HoldAt w2 own h l va vs) (hll : lookL l = notesP x) :
    AliveC w2 (fun i => i < w2.heap.size) h (fun q => liveK (knownJ x q.beg)) x := by
  have h6 := (progP_ok hp).2.2.2.2.2
  have hfew := progP_few hp
  exact Nd.aliveS hold hll (fun _ h => h) x (progP_fit hp) (fun q hq => (step_fit hp hq).noted) (by omega)

theorem stext_of {s : ByteArray} {x : Nd} (hp : progP s = some x) (K : Nd → Bool) (hK : K x = true) (w3 : World) :
    ∀ a n m, RepS w3 (fun i => i < w3.heap.size) (x.al K) (nodeCellsK (x.al K) (.slice a n m)) →
    Calls Try.prog 59 #[nodeA (x.al K) a n m] w3 (fun e w' => e = .returned (.string ⟨(x.wr (keepV K)).toArray⟩) ∧ Keeps noB w3 w') := by
  intro a n m hr
  have h1 := progP_gr hp
  have hfew := progP_few hp
  have hl := Nd.al_len K x
  have h := Nd.textS (w0 := w3) (ok := fun i => i < w3.heap.size) (fun _ h => h) (x.al K) _ _ (Nd.al_gr K x _ _ h1) (by omega) a n m w3 hr (Keeps.refl _ _)
  rw [Nd.al_wr K x (progP_fit hp) hK] at h
  exact h

set_option maxRecDepth 100000 in
set_option maxHeartbeats 2000000 in
theorem sdropDead_any (s : ByteArray) (hs : s.size ≤ 1048576) (w : World) : Calls Try.prog 32 #[.string s] w (RewritePost w (dropDeadP s)) := by
  have HR := Lib.hid (sread_any s hs w)
  unfold dropDeadP
  cases hp : progP s with
  | none =>
    rw [hp] at HR
    clear hp
    go_enter Try.func32, Try.ntmps32
    go_wp2_with fail
    refine HR.out.mono ?_
    rintro e w1 ⟨⟨x0, x1, x2, x3, x4, x5, x6, x7, rfl⟩, q1⟩
    have hnv : nodeV x0 x1 x2 x3 x4 x5 x6 x7 = .agg #[.int .u8 x0, .int .i64 x1, .int .i64 x2, .string x3, .slice x4 x5 x6, .string x7] := rfl
    have HQ := Lib.hid q1
    clear q1
    go_wp2_with fail
    go_ret2
    exact ⟨rfl, HQ.out.alloc _⟩
  | some x =>
    rw [hp] at HR
    obtain ⟨_, h2, _, _, _, h6⟩ := progP_ok hp
    have hX := Nd.shC h6 x 0 h2 (progP_sp hp) (progP_fit hp)
    have hfin := h2.good.le
    have hfew := progP_few hp
    have HL := Lib.hid (fun w1 ok hok a n m hrep => lfind_any x (progP_sp hp) (by omega) hX w1 ok hok a n m hrep)
    have HAL := Lib.hid (fun (w2 : World) (own : Nat → Prop) (h : Nat) (l : AL) (va vs : Value) => salive_of hp (w2 := w2) (own := own) (h := h) (l := l) (va := va) (vs := vs))
    have HTX := Lib.hid (stext_of hp (fun q => liveK (knownJ x q.beg)) (root_live hp))
    have hvis : pruneV x = keepV (fun q => liveK (knownJ x q.beg)) := rfl
    rw [← hvis] at HTX
    clear hvis
    obtain ⟨K, hK⟩ : ∃ K : Nd → Bool, (fun q => liveK (knownJ x q.beg)) = K := ⟨_, rfl⟩
    rw [hK] at HAL HTX
    obtain ⟨T, hT⟩ : ∃ T : ByteArray, (⟨(x.wr (pruneV x)).toArray⟩ : ByteArray) = T := ⟨_, rfl⟩
    rw [hT] at HTX
    have HTT : Hid (∀ w', Keeps noB w w' → RewritePost w (Option.map (fun x => x.wr (pruneV x)) (some x)) (.returned (.tuple #[.string T, .bool true])) w') := fun w' q => ⟨by rw [← hT]; rfl, q⟩
    clear hX hfin h2 h6 hp hfew hT hK
    generalize RewritePost w (Option.map (fun x => x.wr (pruneV x)) (some x)) = POST at *
    refine (callsIn_wide (n := 9)).1 ?_
    obtain ⟨F, hF⟩ : ∃ F, F = Fence.wide := ⟨_, rfl⟩
    have hFf : ∀ f, F.fn f := by subst hF; exact fun _ => trivial
    have hdd : ∀ k : Nat, (F.depth.isSome = true → 1 ≤ k) := by subst hF; intro k h; simp [Fence.wide] at h
    have hro : F.round = none := by subst hF; rfl
    have hds : F.depth.isSome = false := by subst hF; rfl
    have HR2 : Hid (∀ n', CallsIn F n' Try.prog 41 #[.string s] w _) := fun n' => by rw [hF]; exact callsIn_wide.2 HR.out
    rw [← hF]
    have HF := Lib.hid hF
    clear hF HR
    refine callsIn_of_wp_marks Try.func32 rfl (hFf _) ?_ hro
    simp only [Try.ntmps32, List.size_toArray, List.length_cons, List.length_nil, Nat.reduceAdd, Nat.reduceSub, Array.replicate_succ, Array.replicate_zero, List.push_toArray, List.append_toArray, List.nil_append, List.cons_append]
    gi_wp2
    refine CallsIn.mono (HR2.out _) ?_
    rintro e w1 ⟨x0, x1, x2, x3, x4, x5, x6, x7, rfl, hrep, q1⟩
    obtain ⟨c, b, e', vs, ar, bs⟩ := x
    have hr2 := hrep
    simp only [RepS] at hr2
    obtain ⟨vb, n', xs, hcs, _, _⟩ := hr2
    simp [six, u8, i64, str] at hcs
    obtain ⟨rfl, rfl, rfl, rfl, rfl, rfl⟩ := hcs
    have hnv : nodeV (c.toNat : Int) (b : Int) (e' : Int) ⟨vs.toArray⟩ x4 x5 x6 ⟨ar.toArray⟩ = .agg #[.int .u8 (c.toNat : Int), .int .i64 (b : Int), .int .i64 (e' : Int), .string ⟨vs.toArray⟩, .slice x4 x5 x6, .string ⟨ar.toArray⟩] := rfl
    obtain ⟨VS, hVS⟩ : ∃ VS : ByteArray, (⟨vs.toArray⟩ : ByteArray) = VS := ⟨_, rfl⟩
    obtain ⟨AR, hAR⟩ : ∃ AR : ByteArray, (⟨ar.toArray⟩ : ByteArray) = AR := ⟨_, rfl⟩
    rw [hVS, hAR] at hnv
    rw [hVS, hAR, hnv]
    obtain ⟨W1, hW1⟩ : ∃ W1, W1 = w1.alloc (.cells #[.int .u8 (c.toNat : Int), .int .i64 (b : Int), .int .i64 (e' : Int), .string VS, .slice x4 x5 x6, .string AR] 52) := ⟨_, rfl⟩
    have qW : Keeps noB w1 W1 := by rw [hW1]; exact (Keeps.refl _ _).alloc _
    have b1 : Blk W1 w1.heap.size #[.int .u8 (c.toNat : Int), .int .i64 (b : Int), .int .i64 (e' : Int), .string VS, .slice x4 x5 x6, .string AR] 52 := by rw [hW1]; exact Blk.new _ _ _
    have HC : Hid (∀ W', Keeps noB W1 W' → W'.cell? ⟨w1.heap.size, 0, none⟩ = some (.int .u8 (c.toNat : Int)) ∧ W'.cell? ⟨w1.heap.size, 1, none⟩ = some (.int .i64 (b : Int)) ∧ W'.cell? ⟨w1.heap.size, 2, none⟩ = some (.int .i64 (e' : Int)) ∧ W'.cell? ⟨w1.heap.size, 3, none⟩ = some (.string VS) ∧ W'.cell? ⟨w1.heap.size, 4, none⟩ = some (.slice x4 x5 x6) ∧ W'.cell? ⟨w1.heap.size, 5, none⟩ = some (.string AR)) := fun W' q' =>
      ⟨((q'.blk b1 id).cell 0).trans rfl, ((q'.blk b1 id).cell 1).trans rfl, ((q'.blk b1 id).cell 2).trans rfl, ((q'.blk b1 id).cell 3).trans rfl, ((q'.blk b1 id).cell 4).trans rfl, ((q'.blk b1 id).cell 5).trans rfl⟩
    have HQ := Lib.hid (q1.trans qW)
    have HFI : Hid (∀ n' w2, Keeps noB W1 w2 → CallsIn F n' Try.prog 53 #[.agg #[.int .u8 (c.toNat : Int), .int .i64 (b : Int), .int .i64 (e' : Int), .string VS, .slice x4 x5 x6, .string AR]] w2 (fun e w' => ∃ own h l va vs', e = .returned (.pointer (some ⟨h, 0, none⟩)) ∧ HoldAt w' own h l va vs' ∧ lookL l = notesP (.mk c b e' vs ar bs) ∧ (∀ g, own g → w2.heap.size ≤ g) ∧ Keeps noB w2 w')) := fun n' w2 q2 => by
      have q2 := qW.trans q2
      have hh : Hands w1 w2 (fromB w.heap.size) (fun i => i < w2.heap.size) := Hands.of_keeps q2 (fun _ _ _ e => e.elim) (fun i _ hl => Nat.lt_of_lt_of_le hl q2.size)
      rw [HF.out, ← hVS, ← hAR]
      exact callsIn_wide.2 (HL.out w2 (fun i => i < w2.heap.size) (fun _ h => h) x4 x5 x6 (hh.repS _ _ hrep))
    have HAI : Hid (∀ n' (w2 : World) (own : Nat → Prop) (h : Nat) (l : AL) (va vs' : Value), HoldAt w2 own h l va vs' → lookL l = notesP (.mk c b e' vs ar bs) → Keeps noB W1 w2 → CallsIn F n' Try.prog 60 #[.pointer (some ⟨h, 0, none⟩), .agg #[.int .u8 (c.toNat : Int), .int .i64 (b : Int), .int .i64 (e' : Int), .string VS, .slice x4 x5 x6, .string AR]] w2 (fun e w' => ∃ a' n' m', e = .returned (.agg #[.int .u8 (c.toNat : Int), .int .i64 (b : Int), .int .i64 (e' : Int), .string VS, .slice a' n' m', .string AR]) ∧ RepS w' (fromB w2.heap.size) ((Nd.mk c b e' vs ar bs).al K) (nodeCellsK ((Nd.mk c b e' vs ar bs).al K) (.slice a' n' m')) ∧ Keeps noB w2 w')) := fun n' w2 own h l va vs' hH hM q2 => by
      have q2 := qW.trans q2
      have hh : Hands w1 w2 (fromB w.heap.size) (fun i => i < w2.heap.size) := Hands.of_keeps q2 (fun _ _ _ e => e.elim) (fun i _ hl => Nat.lt_of_lt_of_le hl q2.size)
      rw [HF.out, ← hVS, ← hAR]
      exact callsIn_wide.2 (HAL.out w2 own h l va vs' hH hM x4 x5 x6 w2 (hh.repS _ _ hrep) (Keeps.refl _ _))
    have HTI : Hid (∀ n' (B : Nat) (w3 : World) a n m, RepS w3 (fromB B) ((Nd.mk c b e' vs ar bs).al K) (nodeCellsK ((Nd.mk c b e' vs ar bs).al K) (.slice a n m)) → CallsIn F n' Try.prog 59 #[.agg #[.int .u8 (c.toNat : Int), .int .i64 (b : Int), .int .i64 (e' : Int), .string VS, .slice a n m, .string AR]] w3 (fun e w' => e = .returned (.string T) ∧ Keeps noB w3 w')) := fun n' B w3 a n m hr => by
      have hh : Hands w3 w3 (fromB B) (fun i => i < w3.heap.size) := Hands.of_keeps (Keeps.refl noB w3) (fun _ _ _ e => e.elim) (fun i _ hl => hl)
      rw [HF.out, ← hVS, ← hAR]
      exact callsIn_wide.2 (HTX.out w3 a n m (hh.repS _ _ hr))
    clear hrep q1 HL HAL HTX HR2 qW b1 hVS hAR
    gi_wp2
    rw [← hW1]
    clear hW1
    refine wpIn_region_ord (Keeps noB W1) (.read 0 (.read 2 (.loud 1 (.loud 3 (.loud 4 (.read 5 (.read 6 .fin))))))) hro hFf (by kernel_rfl) (by kernel_rfl) rfl (by kernel_rfl) ((Keeps.refl noB W1).drew) ?_
    refine ord_read (.agg #[.int .u8 (c.toNat : Int), .int .i64 (b : Int), .int .i64 (e' : Int), .string VS, .slice x4 x5 x6, .string AR]) rfl rfl (fun W4 q4 => by obtain ⟨f0, f1, f2, f3, f4, f5⟩ := HC.out W4 q4; go_simp) (fun K1 hK1 => ?_)
    go_simp
    refine hK1 _ ?_
    clear hK1 K1
    refine ord_read (.agg #[.int .u8 (c.toNat : Int), .int .i64 (b : Int), .int .i64 (e' : Int), .string VS, .slice x4 x5 x6, .string AR]) rfl rfl (fun W4 q4 => by obtain ⟨f0, f1, f2, f3, f4, f5⟩ := HC.out W4 q4; go_simp) (fun K1 hK1 => ?_)
    go_simp
    refine hK1 _ ?_
    clear hK1 K1
    refine ord_loud rfl (fun K1 hK1 => ?_)
    gi_wp2
    refine CallsIn.mono (HFI.out _ _ ((Keeps.refl noB W1).drew)) ?_
    rintro e1 w2 ⟨own, h, l, va, vs', rfl, hH, hM, _, q2⟩
    have q2 := ((Keeps.refl noB W1).drew).trans q2
    have HA1 := Lib.hid (fun n' => HAI.out n' w2 own h l va vs' hH hM q2)
    have HW2 := Lib.hid q2
    clear q2 hH hM
    gi_wp2
    refine hK1 _ _ HW2.out ?_
    clear hK1 K1
    refine ord_loud rfl (fun K1 hK1 => ?_)
    gi_wp2
    refine CallsIn.mono (HA1.out _) ?_
    rintro e1 w3 ⟨a', n1, m', rfl, hr3, q3⟩
    have q3 := HW2.out.trans q3
    have HT1 := Lib.hid (fun n' => HTI.out n' _ w3 a' n1 m' hr3)
    have HW3 := Lib.hid q3
    clear q3 hr3 HA1
    gi_wp2
    refine hK1 _ _ HW3.out ?_
    clear hK1 K1
    refine ord_loud rfl (fun K1 hK1 => ?_)
    gi_wp2
    refine CallsIn.mono (HT1.out _) ?_
    rintro e1 w4 ⟨rfl, q4⟩
    have q4 := HW3.out.trans q4
    have HW4 := Lib.hid q4
    clear q4 HT1
    gi_wp2
    refine hK1 _ _ HW4.out ?_
    clear hK1 K1
    refine ord_read (.string T) rfl rfl (fun W4 q4 => by obtain ⟨f0, f1, f2, f3, f4, f5⟩ := HC.out W4 q4; go_simp) (fun K1 hK1 => ?_)
    go_simp
    refine hK1 _ ?_
    clear hK1 K1
    refine ord_read (.bool true) rfl rfl (fun W4 q4 => by obtain ⟨f0, f1, f2, f3, f4, f5⟩ := HC.out W4 q4; go_simp) (fun K1 hK1 => ?_)
    go_simp
    refine hK1 _ ?_
    clear hK1 K1
    simp only [wpOrd, noPanic]
    gi_wp2
    refine leaves_marks [] _ List.nodup_nil (fun _ h => by cases h) (fun W' q _ => ?_)
    exact ⟨_, resDropS W' _ _ _ rfl rfl, HTT.out _ ((HQ.out.trans HW4.out).trans (q.mono (fun _ e => by cases e)))⟩

end Go.Proofs.Ytccpmhjffcceeaa

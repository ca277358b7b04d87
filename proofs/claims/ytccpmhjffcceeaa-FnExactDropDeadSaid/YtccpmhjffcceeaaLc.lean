/-
  The model's texts of steps: l10Text and l10Body.
-/
import Derived.Test.YtccpmhjffcceeaaHpa
namespace Go.Proofs.Ytccpmhjffcceeaa
set_option linter.unusedVariables false
set_option linter.unusedSimpArgs false
open Go.RowKit Go.Shelf

/-- What l10Text says of a step. -/
def TextC (w0 : World) (ok : Nat → Prop) (z : Nd) : Prop :=
  ∀ a n m W, RepS w0 ok z (nodeCellsK z (.slice a n m)) → Keeps noB w0 W →
    Calls Try.prog 59 #[nodeA z a n m] W (fun e w' => e = .returned (.string ⟨(z.wr Nd.keepVis).toArray⟩) ∧ Keeps noB W w')
/-- .. and l10Body of some. -/
def TBodyC (w0 : World) (ok : Nat → Prop) (y : Nds) : Prop :=
  ∀ v n cs W, Row w0 ok 52 6 v n cs → RepSL w0 ok y cs → Keeps noB w0 W →
    Calls Try.prog 93 #[v] W (fun e w' => e = .returned (.string ⟨(Nds.wr Nd.keepVis y).toArray⟩) ∧ Keeps noB W w')

theorem resTextS (W : World) (v : Value) (tmps : Array Value) (h2 : tmps.getD 2 undef = v) : (results Try.f59 tmps).run Try.prog W = .ok v W := by
  have h' : tmps[2]?.getD undef = v := by simpa using h2
  simp [results, Try.results59, go_sem, h']

set_option maxRecDepth 100000 in
set_option maxHeartbeats 2000000 in
theorem tbody_any (w0 : World) (ok : Nat → Prop) (y : Nds) (hs : ∀ z ∈ y.list, TextC w0 ok z) (hl : (Nds.wr Nd.keepVis y).length ≤ 1000000) (hyl : y.list.length ≤ 1000) (hok : ∀ i, ok i → i < w0.heap.size) : TBodyC w0 ok y := by
  intro v n cs W hrow hrep q
  obtain ⟨a, c, rfl⟩ := row_shape hrow
  have hn : n = y.list.length := by
    have h1 := repSL_len y cs hrep
    have h2 := hrow.1.1
    rw [len_list] at h1
    omega
  have HP : Hid (SBI w0 W ok Nd.keepVis y cs n (.string ⟨#[]⟩) (.int .i64 0) W) := ⟨0, y, ⟨#[]⟩, by omega, rfl, rfl, rfl, by simpa using hrep, fun z hz => hz, Keeps.refl _ _⟩
  have HG := Lib.hid (And.intro hrow (And.intro hs (And.intro hl (And.intro hok q))))
  have hn1 : n ≤ 1000 := by omega
  have HN := Lib.hid hn
  clear hrow hrep hs hl hok q hyl hn
  go_enter Try.func93, Try.ntmps93
  go_wp2_with fail
  go_loopw [3, 8] (fun v5 v10 wr => SBI w0 W ok Nd.keepVis y cs n v5 v10 wr) (fun _ v10 _ => n - (intOf v10).toNat)
  case atStart => exact HP.out
  case round =>
    clear HP
    obtain ⟨i, rest, T, hil, rfl, rfl, hT, hrep, hmem, qr⟩ := hrel
    cases rest with
    | nil =>
      have hd : ¬ (i : Int) < (n : Int) := by simp [Nds.list] at hil; omega
      have HE : Hid (Value.string T = .string ⟨(Nds.wr Nd.keepVis y).toArray⟩ ∧ Keeps noB W wr) := ⟨congrArg Value.string (ba_eq (by rw [← hT]; simp [Nds.wr])), qr⟩
      clear hil hT hrep hmem qr HG
      go_wp2_with fail
      go_ret
      exact ⟨congrArg Ending.returned HE.out.1, HE.out.2⟩
    | cons z r =>
      have hd : (i : Int) < (n : Int) := by simp [Nds.list] at hil; omega
      obtain ⟨na, nn, nm, hzrep, hzc, hrr⟩ := node_repK hrep
      obtain ⟨hrow, hs, hl, hok, q⟩ := HG.out
      obtain ⟨g, cc, hv, hg1, hg2, hcell⟩ := row_get hrow (by omega)
      obtain ⟨rfl, rfl⟩ : a = some ⟨g, 0, none⟩ ∧ c = cc := by simpa using hv
      have qw := q.trans qr
      have hcw : ∀ i' u, (nodeCellsK z (.slice na nn nm))[i']? = some u → wr.cell? ⟨g, i * 6 + i', none⟩ = some u := fun i' u hu =>
        (qw.cell (p := ⟨g, i * 6 + i', none⟩) hg2 id).trans (hcell _ _ (hzc i' u hu))
      have s0 : wr.cell? ⟨g, i * 6, none⟩ = some (.int .u8 (z.kind.toNat : Int)) := hcw 0 _ rfl
      have s1 := hcw 1 _ rfl
      have s2 := hcw 2 _ rfl
      have s3 := hcw 3 _ rfl
      have s4 := hcw 4 _ rfl
      have s5 := hcw 5 _ rfl
      unfold i64 at s1 s2
      unfold str at s3 s5
      have qA : Keeps noB wr (wr.alloc (.cells #[.int .u8 (z.kind.toNat : Int), .int .i64 (z.beg : Int), .int .i64 (z.fin : Int), .string ⟨z.vars.toArray⟩, .slice na nn nm, .string ⟨z.scope.toArray⟩] 52)) := (Keeps.refl _ _).alloc _
      have HC := Lib.hid (hs z (hmem z (by simp [Nds.list])) na nn nm _ hzrep (qw.trans qA))
      unfold nodeA at HC
      obtain ⟨Z, hZ⟩ : ∃ Z : ByteArray, (⟨(z.wr Nd.keepVis).toArray⟩ : ByteArray) = Z := ⟨_, rfl⟩
      have hZl : Z.data.toList = z.wr Nd.keepVis := by rw [← hZ]
      rw [hZ] at HC
      have hsum : T.size + Z.size ≤ 1000000 := by
        have e := congrArg List.length hT
        rw [List.length_append, Nds.wr, List.length_append] at e
        rw [ba_len, ba_len, hZl]
        omega
      have hov : ¬ 9223372036854775807 < T.size + Z.size := by omega
      have HE : Hid (∀ w2, Keeps noB (wr.alloc (.cells #[.int .u8 (z.kind.toNat : Int), .int .i64 (z.beg : Int), .int .i64 (z.fin : Int), .string ⟨z.vars.toArray⟩, .slice na nn nm, .string ⟨z.scope.toArray⟩] 52)) w2 → SBI w0 W ok Nd.keepVis y cs n (.string (T ++ Z)) (.int .i64 ((i : Int) + 1)) w2) := fun w2 q2 => by
        refine ⟨i + 1, r, T ++ Z, by simp [Nds.list] at hil; omega, by simp, rfl, ?_, hrr, fun x hx => hmem x (by simp [Nds.list, hx]), (qr.trans qA).trans q2⟩
        rw [ByteArray.data_append, Array.toList_append, hZl, ← hT, Nds.wr, List.append_assoc]
      have hin : i < n := by omega
      clear hZ hZl hsum hT hrep hmem qr hzrep hzc hrr hrow hs hl hok q qw hcw qA hil hv hcell HG
      obtain ⟨N, hN⟩ : ∃ N, N = z.kind.toNat := ⟨_, rfl⟩
      go_wp2_with fail
      refine HC.out.mono ?_
      rintro e w2 ⟨rfl, q2⟩
      have HE2 := Lib.hid (HE.out w2 q2)
      clear q2
      go_wp2_with fail
      go_roundw
      case rel => exact HE2.out
      case measure => simp [intOf]; omega

set_option maxRecDepth 100000 in
set_option maxHeartbeats 1000000 in
theorem text_leaf {w0 : World} {ok : Nat → Prop} (c : UInt8) (k e : Nat) (vs ar : List UInt8) (hc : c ≠ 63 ∧ c ≠ 42 ∧ c ≠ 123) (hv : c = 94 ∨ c = 33 → vs = []) (hvl : vs.length ≤ 1000) : TextC w0 ok (Nd.mk c k e vs ar .nil) := by
  intro a n m W hrep q
  unfold nodeA
  simp only [Nd.kind, Nd.beg, Nd.fin, Nd.vars, Nd.scope]
  obtain ⟨cv, hcv⟩ : ∃ cv : Int, (c.toNat : Int) = cv := ⟨_, rfl⟩
  obtain ⟨VS, hVS⟩ : ∃ VS : ByteArray, (⟨vs.toArray⟩ : ByteArray) = VS := ⟨_, rfl⟩
  obtain ⟨AR, hAR⟩ : ∃ AR : ByteArray, (⟨ar.toArray⟩ : ByteArray) = AR := ⟨_, rfl⟩
  obtain ⟨K1, hK1⟩ : ∃ K1 : ByteArray, (⟨#[c]⟩ : ByteArray) = K1 := ⟨_, rfl⟩
  have hVSl : VS.data.toList = vs := by rw [← hVS]
  have hK1l : K1.data.toList = [c] := by rw [← hK1]
  have hK1z : K1.size = 1 := by rw [← hK1]; rfl
  have hVSz : VS.size = vs.length := by rw [ba_len, hVSl]
  have h1 : ¬ cv = 63 := fun e => hc.1 (UInt8.toNat_inj.1 (show c.toNat = 63 by omega))
  have h2 : ¬ cv = 42 := fun e => hc.2.1 (UInt8.toNat_inj.1 (show c.toNat = 42 by omega))
  have h3 : ¬ cv = 123 := fun e => hc.2.2 (UInt8.toNat_inj.1 (show c.toNat = 123 by omega))
  have hov2 : ¬ 9223372036854775807 < K1.size + VS.size := by omega
  have HT : Hid (Value.string (K1 ++ VS) = .string ⟨((Nd.mk c k e vs ar .nil).wr Nd.keepVis).toArray⟩) := Lib.hid (congrArg Value.string (ba_eq (by
    rw [ByteArray.data_append, Array.toList_append, hK1l, hVSl]
    simp only [Nd.wr, Nd.keepVis, Nd.kind, Nd.vars]
    by_cases hh : c = 94 ∨ c = 33
    · rw [if_pos hh, hv hh]; simp
    · rw [if_neg hh]; simp)))
  refine (callsIn_wide (n := 9)).1 ?_
  obtain ⟨F, hF⟩ : ∃ F, F = Fence.wide := ⟨_, rfl⟩
  have hFf : ∀ f, F.fn f := by subst hF; exact fun _ => trivial
  have hdd : ∀ k : Nat, (F.depth.isSome = true → 1 ≤ k) := by subst hF; intro k h; simp [Fence.wide] at h
  have hro : F.round = none := by subst hF; rfl
  have hds : F.depth.isSome = false := by subst hF; rfl
  rw [hcv, hVS, hAR]
  have hcvn : (convert 22 9 (.slice (some ⟨W.heap.size + 1, 0, none⟩) 1 1)).run Try.prog ((W.alloc (.cells #[.int .u8 cv, .int .i64 (k : Int), .int .i64 (e : Int), .string VS, .slice a n m, .string AR] 52)).alloc (.cells #[.int .u8 cv] 5)) = .ok (.string K1) ((W.alloc (.cells #[.int .u8 cv, .int .i64 (k : Int), .int .i64 (e : Int), .string VS, .slice a n m, .string AR] 52)).alloc (.cells #[.int .u8 cv] 5)) := by
    have hb := Blk.new (W.alloc (.cells #[.int .u8 cv, .int .i64 (k : Int), .int .i64 (e : Int), .string VS, .slice a n m, .string AR] 52)) #[.int .u8 cv] 5
    have hsz : (W.alloc (.cells #[.int .u8 cv, .int .i64 (k : Int), .int .i64 (e : Int), .string VS, .slice a n m, .string AR] 52)).heap.size = W.heap.size + 1 := by simp
    rw [hsz] at hb
    rw [← hcv] at hb ⊢
    rw [← hK1]
    exact conv_kind hb
  obtain ⟨W1, hW1⟩ : ∃ W1, W1 = (W.alloc (.cells #[.int .u8 cv, .int .i64 (k : Int), .int .i64 (e : Int), .string VS, .slice a n m, .string AR] 52)).alloc (.cells #[.int .u8 cv] 5) := ⟨_, rfl⟩
  have q1 : Keeps noB W W1 := by rw [hW1]; exact ((Keeps.refl _ _).alloc _).alloc _
  have b1 : Blk W1 W.heap.size #[.int .u8 cv, .int .i64 (k : Int), .int .i64 (e : Int), .string VS, .slice a n m, .string AR] 52 := by rw [hW1]; exact (Blk.new _ _ _).alloc _
  have HQ : Hid (∀ W', Keeps noB W1 W' → Keeps noB w0 W') := fun W' q' => (q.trans q1).trans q'
  have HQW := Lib.hid q1
  have HL : Hid (∀ W', Keeps noB W1 W' → W'.cell? ⟨W.heap.size, 0, none⟩ = some (.int .u8 cv) ∧ W'.cell? ⟨W.heap.size, 1, none⟩ = some (.int .i64 (k : Int)) ∧ W'.cell? ⟨W.heap.size, 2, none⟩ = some (.int .i64 (e : Int)) ∧ W'.cell? ⟨W.heap.size, 3, none⟩ = some (.string VS) ∧ W'.cell? ⟨W.heap.size, 4, none⟩ = some (.slice a n m) ∧ W'.cell? ⟨W.heap.size, 5, none⟩ = some (.string AR) ∧ True) := fun W' q' =>
    ⟨((q'.blk b1 id).cell 0).trans rfl, ((q'.blk b1 id).cell 1).trans rfl, ((q'.blk b1 id).cell 2).trans rfl, ((q'.blk b1 id).cell 3).trans rfl, ((q'.blk b1 id).cell 4).trans rfl, ((q'.blk b1 id).cell 5).trans rfl, trivial⟩
  rw [← hF]
  have HF := Lib.hid hF
  clear hF hrep q q1 b1 hVS hAR hK1 hK1l
  clear hc hv hvl hVSl hK1z hVSz hcv
  refine callsIn_of_wp_marks Try.func59 rfl (hFf _) ?_ hro
  simp only [Try.ntmps59, List.size_toArray, List.length_cons, List.length_nil, Nat.reduceAdd, Nat.reduceSub, Array.replicate_succ, Array.replicate_zero, List.push_toArray, List.append_toArray, List.nil_append, List.cons_append]
  gi_wp2
  have HE : Hid (Ending.returned (.string (K1 ++ VS)) = .returned (.string ⟨((Nd.mk c k e vs ar .nil).wr Nd.keepVis).toArray⟩) ∧ Keeps noB W W1) := ⟨congrArg Ending.returned HT.out, HQW.out⟩
  rw [← hW1]
  refine leaves_marks [] _ List.nodup_nil (fun _ h => by cases h) (fun W' q _ => ?_)
  exact ⟨_, resTextS W' _ _ rfl, HE.out.1, HE.out.2.trans (q.mono (fun _ e => by cases e))⟩

set_option maxRecDepth 100000 in
set_option maxHeartbeats 1000000 in
theorem text_loop {w0 : World} {ok : Nat → Prop} (c : UInt8) (k e : Nat) (vs ar : List UInt8) (hcc : c = 42) (y : Nds) (hB : TBodyC w0 ok y) (hyl : (Nds.wr Nd.keepVis y).length ≤ 1000000) : TextC w0 ok (Nd.mk c k e vs ar (.cons y .nil)) := by
  intro a n m W hrep q
  unfold nodeA
  simp only [Nd.kind, Nd.beg, Nd.fin, Nd.vars, Nd.scope]
  obtain ⟨a', n', m', xs, hva, hrow, hb⟩ := node_slice hrep
  obtain ⟨rfl, rfl, rfl⟩ : a = a' ∧ n = n' ∧ m = m' := by simpa using hva
  simp only [RepSB] at hb
  obtain ⟨v0, vr, n1, cs, rfl, ⟨hr1, hr2⟩, rfl⟩ := hb
  obtain ⟨xa, xc, rfl⟩ := row_shape hr1
  have hlen := hrow.1.1
  simp at hlen
  obtain ⟨gB, cc, hv, hg1, hg2, hcell⟩ := row_get hrow (by omega)
  obtain ⟨rfl, rfl⟩ : a = some ⟨gB, 0, none⟩ ∧ m = cc := by simpa using hv
  have hgc := fun (W' : World) (q' : Keeps noB w0 W') => (q'.cell (p := ⟨gB, 0, none⟩) hg2 id).trans (hcell 0 _ rfl)
  obtain rfl : n = 1 := by omega
  have hcv : (c.toNat : Int) = 42 := by rw [hcc]; rfl
  obtain ⟨VS, hVS⟩ : ∃ VS : ByteArray, (⟨vs.toArray⟩ : ByteArray) = VS := ⟨_, rfl⟩
  obtain ⟨AR, hAR⟩ : ∃ AR : ByteArray, (⟨ar.toArray⟩ : ByteArray) = AR := ⟨_, rfl⟩
  obtain ⟨K1, hK1⟩ : ∃ K1 : ByteArray, (⟨#[c]⟩ : ByteArray) = K1 := ⟨_, rfl⟩
  have hVSl : VS.data.toList = vs := by rw [← hVS]
  have hK1l : K1.data.toList = [c] := by rw [← hK1]
  have hK1z : K1.size = 1 := by rw [← hK1]; rfl
  have hVSz : VS.size = vs.length := by rw [ba_len, hVSl]
  obtain ⟨BY, hBY⟩ : ∃ BY : ByteArray, (⟨(Nds.wr Nd.keepVis y).toArray⟩ : ByteArray) = BY := ⟨_, rfl⟩
  have hBYl : BY.data.toList = Nds.wr Nd.keepVis y := by rw [← hBY]
  have hBYz : BY.size = (Nds.wr Nd.keepVis y).length := by rw [ba_len, hBYl]
  obtain ⟨A1, hA1⟩ : ∃ A1 : ByteArray, K1 ++ ⟨#[91]⟩ = A1 := ⟨_, rfl⟩
  obtain ⟨A2, hA2⟩ : ∃ A2 : ByteArray, A1 ++ BY = A2 := ⟨_, rfl⟩
  obtain ⟨A3, hA3⟩ : ∃ A3 : ByteArray, A2 ++ ⟨#[93]⟩ = A3 := ⟨_, rfl⟩
  have hA1z : A1.size = K1.size + 1 := by rw [← hA1, ByteArray.size_append]; rfl
  have hA2z : A2.size = A1.size + BY.size := by rw [← hA2, ByteArray.size_append]
  have o1 : K1.size ≤ 9223372036854775806 := by omega
  have o2 : ¬ 9223372036854775807 < A1.size + BY.size := by omega
  have o3 : A2.size ≤ 9223372036854775806 := by omega
  have HT : Hid (Value.string A3 = .string ⟨((Nd.mk c k e vs ar (.cons y .nil)).wr Nd.keepVis).toArray⟩) := Lib.hid (congrArg Value.string (ba_eq (by
    rw [← hA3, ← hA2, ← hA1]
    simp only [ByteArray.data_append, Array.toList_append, hK1l, hBYl]
    simp only [Nd.wr, Nd.keepVis, Nd.kind, Nd.vars, hcc]
    simp)))
  clear hA1z hA2z
  refine (callsIn_wide (n := 9)).1 ?_
  obtain ⟨F, hF⟩ : ∃ F, F = Fence.wide := ⟨_, rfl⟩
  have hFf : ∀ f, F.fn f := by subst hF; exact fun _ => trivial
  have hdd : ∀ k : Nat, (F.depth.isSome = true → 1 ≤ k) := by subst hF; intro k h; simp [Fence.wide] at h
  have hro : F.round = none := by subst hF; rfl
  have hds : F.depth.isSome = false := by subst hF; rfl
  have HBY : Hid (∀ n' W', Keeps noB w0 W' → CallsIn F n' Try.prog 93 #[.slice xa n1 xc] W' (fun e w' => e = .returned (.string BY) ∧ Keeps noB W' w')) := fun n' W' q' => by
    rw [hF, ← hBY]; exact callsIn_wide.2 (hB _ _ _ W' hr1 hr2 q')
  rw [hcv, hVS, hAR]
  have hcvn : (convert 22 9 (.slice (some ⟨W.heap.size + 1, 0, none⟩) 1 1)).run Try.prog ((W.alloc (.cells #[.int .u8 42, .int .i64 (k : Int), .int .i64 (e : Int), .string VS, .slice (some ⟨gB, 0, none⟩) 1 m, .string AR] 52)).alloc (.cells #[.int .u8 42] 5)) = .ok (.string K1) ((W.alloc (.cells #[.int .u8 42, .int .i64 (k : Int), .int .i64 (e : Int), .string VS, .slice (some ⟨gB, 0, none⟩) 1 m, .string AR] 52)).alloc (.cells #[.int .u8 42] 5)) := by
    have hb := Blk.new (W.alloc (.cells #[.int .u8 42, .int .i64 (k : Int), .int .i64 (e : Int), .string VS, .slice (some ⟨gB, 0, none⟩) 1 m, .string AR] 52)) #[.int .u8 42] 5
    have hsz : (W.alloc (.cells #[.int .u8 42, .int .i64 (k : Int), .int .i64 (e : Int), .string VS, .slice (some ⟨gB, 0, none⟩) 1 m, .string AR] 52)).heap.size = W.heap.size + 1 := by simp
    rw [hsz] at hb
    rw [← hcv] at hb ⊢
    rw [← hK1]
    exact conv_kind hb
  obtain ⟨W1, hW1⟩ : ∃ W1, W1 = (W.alloc (.cells #[.int .u8 42, .int .i64 (k : Int), .int .i64 (e : Int), .string VS, .slice (some ⟨gB, 0, none⟩) 1 m, .string AR] 52)).alloc (.cells #[.int .u8 42] 5) := ⟨_, rfl⟩
  have q1 : Keeps noB W W1 := by rw [hW1]; exact ((Keeps.refl _ _).alloc _).alloc _
  have b1 : Blk W1 W.heap.size #[.int .u8 42, .int .i64 (k : Int), .int .i64 (e : Int), .string VS, .slice (some ⟨gB, 0, none⟩) 1 m, .string AR] 52 := by rw [hW1]; exact (Blk.new _ _ _).alloc _
  have HQ : Hid (∀ W', Keeps noB W1 W' → Keeps noB w0 W') := fun W' q' => (q.trans q1).trans q'
  have HQW := Lib.hid q1
  have HL : Hid (∀ W', Keeps noB W1 W' → W'.cell? ⟨W.heap.size, 0, none⟩ = some (.int .u8 42) ∧ W'.cell? ⟨W.heap.size, 1, none⟩ = some (.int .i64 (k : Int)) ∧ W'.cell? ⟨W.heap.size, 2, none⟩ = some (.int .i64 (e : Int)) ∧ W'.cell? ⟨W.heap.size, 3, none⟩ = some (.string VS) ∧ W'.cell? ⟨W.heap.size, 4, none⟩ = some (.slice (some ⟨gB, 0, none⟩) 1 m) ∧ W'.cell? ⟨W.heap.size, 5, none⟩ = some (.string AR) ∧ W'.cell? ⟨gB, 0, none⟩ = some (.slice xa n1 xc)) := fun W' q' =>
    ⟨((q'.blk b1 id).cell 0).trans rfl, ((q'.blk b1 id).cell 1).trans rfl, ((q'.blk b1 id).cell 2).trans rfl, ((q'.blk b1 id).cell 3).trans rfl, ((q'.blk b1 id).cell 4).trans rfl, ((q'.blk b1 id).cell 5).trans rfl, hgc _ ((q.trans q1).trans q')⟩
  have hgW := hgc W q
  have hgl : gB < W.heap.size := Nat.lt_of_lt_of_le hg2 q.size
  have hgn : ¬ gB = W.heap.size := by omega
  have hgn1 : ¬ gB = W.heap.size + 1 := by omega
  rw [← hF]
  have HF := Lib.hid hF
  clear hF hrep q q1 b1 hVS hAR hK1 hK1l
  clear hB hVSl hK1z hVSz hcv hcc hgc hrow hr1 hr2 hcell hva hlen hBYl hBYz hBY hyl hg1 hg2 hv
  refine callsIn_of_wp_marks Try.func59 rfl (hFf _) ?_ hro
  simp only [Try.ntmps59, List.size_toArray, List.length_cons, List.length_nil, Nat.reduceAdd, Nat.reduceSub, Array.replicate_succ, Array.replicate_zero, List.push_toArray, List.append_toArray, List.nil_append, List.cons_append]
  gi_wp2
  rw [← hW1]
  refine CallsIn.mono (HBY.out _ _ (HQ.out _ (Keeps.refl noB W1))) ?_
  rintro e1 w2 ⟨rfl, q2⟩
  have HE : Hid (Ending.returned (.string A3) = .returned (.string ⟨((Nd.mk c k e vs ar (.cons y .nil)).wr Nd.keepVis).toArray⟩) ∧ Keeps noB W w2) := ⟨congrArg Ending.returned HT.out, HQW.out.trans q2⟩
  clear q2 hcvn hW1
  gi_wp2
  refine leaves_marks [] _ List.nodup_nil (fun _ h => by cases h) (fun W' q _ => ?_)
  exact ⟨_, resTextS W' _ _ rfl, HE.out.1, HE.out.2.trans (q.mono (fun _ e => by cases e))⟩

set_option maxRecDepth 100000 in
set_option maxHeartbeats 1000000 in
theorem text_branch {w0 : World} {ok : Nat → Prop} (c : UInt8) (k e : Nat) (vs ar : List UInt8) (hcc : c = 63) (y u : Nds) (hB : TBodyC w0 ok y) (hC : TBodyC w0 ok u) (hyl : (Nds.wr Nd.keepVis y).length ≤ 1000000) (hul : (Nds.wr Nd.keepVis u).length ≤ 1000000) : TextC w0 ok (Nd.mk c k e vs ar (.cons y (.cons u .nil))) := by
  intro a n m W hrep q
  unfold nodeA
  simp only [Nd.kind, Nd.beg, Nd.fin, Nd.vars, Nd.scope]
  obtain ⟨a', n', m', xs, hva, hrow, hb⟩ := node_slice hrep
  obtain ⟨rfl, rfl, rfl⟩ : a = a' ∧ n = n' ∧ m = m' := by simpa using hva
  simp only [RepSB] at hb
  obtain ⟨v0, vr, n1, cs, rfl, ⟨hr1, hr2⟩, v1, vr2, n2, cs2, rfl, ⟨hr3, hr4⟩, rfl⟩ := hb
  obtain ⟨xa, xc, rfl⟩ := row_shape hr1
  obtain ⟨ya, yc, rfl⟩ := row_shape hr3
  have hlen := hrow.1.1
  simp at hlen
  obtain ⟨gB, cc, hv, hg1, hg2, hcell⟩ := row_get hrow (by omega)
  obtain ⟨rfl, rfl⟩ : a = some ⟨gB, 0, none⟩ ∧ m = cc := by simpa using hv
  have hgc := fun (W' : World) (q' : Keeps noB w0 W') => (q'.cell (p := ⟨gB, 0, none⟩) hg2 id).trans (hcell 0 _ rfl)
  have hgd := fun (W' : World) (q' : Keeps noB w0 W') => (q'.cell (p := ⟨gB, 1, none⟩) hg2 id).trans (hcell 1 _ rfl)
  obtain rfl : n = 2 := by omega
  have hcv : (c.toNat : Int) = 63 := by rw [hcc]; rfl
  obtain ⟨VS, hVS⟩ : ∃ VS : ByteArray, (⟨vs.toArray⟩ : ByteArray) = VS := ⟨_, rfl⟩
  obtain ⟨AR, hAR⟩ : ∃ AR : ByteArray, (⟨ar.toArray⟩ : ByteArray) = AR := ⟨_, rfl⟩
  obtain ⟨K1, hK1⟩ : ∃ K1 : ByteArray, (⟨#[c]⟩ : ByteArray) = K1 := ⟨_, rfl⟩
  have hVSl : VS.data.toList = vs := by rw [← hVS]
  have hK1l : K1.data.toList = [c] := by rw [← hK1]
  have hK1z : K1.size = 1 := by rw [← hK1]; rfl
  have hVSz : VS.size = vs.length := by rw [ba_len, hVSl]
  obtain ⟨BY, hBY⟩ : ∃ BY : ByteArray, (⟨(Nds.wr Nd.keepVis y).toArray⟩ : ByteArray) = BY := ⟨_, rfl⟩
  have hBYl : BY.data.toList = Nds.wr Nd.keepVis y := by rw [← hBY]
  have hBYz : BY.size = (Nds.wr Nd.keepVis y).length := by rw [ba_len, hBYl]
  obtain ⟨BU, hBU⟩ : ∃ BU : ByteArray, (⟨(Nds.wr Nd.keepVis u).toArray⟩ : ByteArray) = BU := ⟨_, rfl⟩
  have hBUl : BU.data.toList = Nds.wr Nd.keepVis u := by rw [← hBU]
  have hBUz : BU.size = (Nds.wr Nd.keepVis u).length := by rw [ba_len, hBUl]
  obtain ⟨A1, hA1⟩ : ∃ A1 : ByteArray, K1 ++ ⟨#[91]⟩ = A1 := ⟨_, rfl⟩
  obtain ⟨A2, hA2⟩ : ∃ A2 : ByteArray, A1 ++ BY = A2 := ⟨_, rfl⟩
  obtain ⟨A3, hA3⟩ : ∃ A3 : ByteArray, A2 ++ ⟨#[93, 91]⟩ = A3 := ⟨_, rfl⟩
  obtain ⟨A4, hA4⟩ : ∃ A4 : ByteArray, A3 ++ BU = A4 := ⟨_, rfl⟩
  obtain ⟨A5, hA5⟩ : ∃ A5 : ByteArray, A4 ++ ⟨#[93]⟩ = A5 := ⟨_, rfl⟩
  have hA1z : A1.size = K1.size + 1 := by rw [← hA1, ByteArray.size_append]; rfl
  have hA2z : A2.size = A1.size + BY.size := by rw [← hA2, ByteArray.size_append]
  have hA3z : A3.size = A2.size + 2 := by rw [← hA3, ByteArray.size_append]; rfl
  have hA4z : A4.size = A3.size + BU.size := by rw [← hA4, ByteArray.size_append]
  have o1 : K1.size ≤ 9223372036854775806 := by omega
  have o2 : ¬ 9223372036854775807 < A1.size + BY.size := by omega
  have o3 : A2.size ≤ 9223372036854775805 := by omega
  have o4 : ¬ 9223372036854775807 < A3.size + BU.size := by omega
  have o5 : A4.size ≤ 9223372036854775806 := by omega
  have HT : Hid (Value.string A5 = .string ⟨((Nd.mk c k e vs ar (.cons y (.cons u .nil))).wr Nd.keepVis).toArray⟩) := Lib.hid (congrArg Value.string (ba_eq (by
    rw [← hA5, ← hA4, ← hA3, ← hA2, ← hA1]
    simp only [ByteArray.data_append, Array.toList_append, hK1l, hBYl, hBUl]
    simp only [Nd.wr, Nd.keepVis, Nd.kind, Nd.vars, hcc]
    simp)))
  clear hA1z hA2z hA3z hA4z
  refine (callsIn_wide (n := 9)).1 ?_
  obtain ⟨F, hF⟩ : ∃ F, F = Fence.wide := ⟨_, rfl⟩
  have hFf : ∀ f, F.fn f := by subst hF; exact fun _ => trivial
  have hdd : ∀ k : Nat, (F.depth.isSome = true → 1 ≤ k) := by subst hF; intro k h; simp [Fence.wide] at h
  have hro : F.round = none := by subst hF; rfl
  have hds : F.depth.isSome = false := by subst hF; rfl
  have HBY : Hid (∀ n' W', Keeps noB w0 W' → CallsIn F n' Try.prog 93 #[.slice xa n1 xc] W' (fun e w' => e = .returned (.string BY) ∧ Keeps noB W' w')) := fun n' W' q' => by
    rw [hF, ← hBY]; exact callsIn_wide.2 (hB _ _ _ W' hr1 hr2 q')
  have HBU : Hid (∀ n' W', Keeps noB w0 W' → CallsIn F n' Try.prog 93 #[.slice ya n2 yc] W' (fun e w' => e = .returned (.string BU) ∧ Keeps noB W' w')) := fun n' W' q' => by
    rw [hF, ← hBU]; exact callsIn_wide.2 (hC _ _ _ W' hr3 hr4 q')
  rw [hcv, hVS, hAR]
  have hcvn : (convert 22 9 (.slice (some ⟨W.heap.size + 1, 0, none⟩) 1 1)).run Try.prog ((W.alloc (.cells #[.int .u8 63, .int .i64 (k : Int), .int .i64 (e : Int), .string VS, .slice (some ⟨gB, 0, none⟩) 2 m, .string AR] 52)).alloc (.cells #[.int .u8 63] 5)) = .ok (.string K1) ((W.alloc (.cells #[.int .u8 63, .int .i64 (k : Int), .int .i64 (e : Int), .string VS, .slice (some ⟨gB, 0, none⟩) 2 m, .string AR] 52)).alloc (.cells #[.int .u8 63] 5)) := by
    have hb := Blk.new (W.alloc (.cells #[.int .u8 63, .int .i64 (k : Int), .int .i64 (e : Int), .string VS, .slice (some ⟨gB, 0, none⟩) 2 m, .string AR] 52)) #[.int .u8 63] 5
    have hsz : (W.alloc (.cells #[.int .u8 63, .int .i64 (k : Int), .int .i64 (e : Int), .string VS, .slice (some ⟨gB, 0, none⟩) 2 m, .string AR] 52)).heap.size = W.heap.size + 1 := by simp
    rw [hsz] at hb
    rw [← hcv] at hb ⊢
    rw [← hK1]
    exact conv_kind hb
  obtain ⟨W1, hW1⟩ : ∃ W1, W1 = (W.alloc (.cells #[.int .u8 63, .int .i64 (k : Int), .int .i64 (e : Int), .string VS, .slice (some ⟨gB, 0, none⟩) 2 m, .string AR] 52)).alloc (.cells #[.int .u8 63] 5) := ⟨_, rfl⟩
  have q1 : Keeps noB W W1 := by rw [hW1]; exact ((Keeps.refl _ _).alloc _).alloc _
  have b1 : Blk W1 W.heap.size #[.int .u8 63, .int .i64 (k : Int), .int .i64 (e : Int), .string VS, .slice (some ⟨gB, 0, none⟩) 2 m, .string AR] 52 := by rw [hW1]; exact (Blk.new _ _ _).alloc _
  have HQ : Hid (∀ W', Keeps noB W1 W' → Keeps noB w0 W') := fun W' q' => (q.trans q1).trans q'
  have HQW := Lib.hid q1
  have HL : Hid (∀ W', Keeps noB W1 W' → W'.cell? ⟨W.heap.size, 0, none⟩ = some (.int .u8 63) ∧ W'.cell? ⟨W.heap.size, 1, none⟩ = some (.int .i64 (k : Int)) ∧ W'.cell? ⟨W.heap.size, 2, none⟩ = some (.int .i64 (e : Int)) ∧ W'.cell? ⟨W.heap.size, 3, none⟩ = some (.string VS) ∧ W'.cell? ⟨W.heap.size, 4, none⟩ = some (.slice (some ⟨gB, 0, none⟩) 2 m) ∧ W'.cell? ⟨W.heap.size, 5, none⟩ = some (.string AR) ∧ W'.cell? ⟨gB, 0, none⟩ = some (.slice xa n1 xc) ∧ W'.cell? ⟨gB, 1, none⟩ = some (.slice ya n2 yc)) := fun W' q' =>
    ⟨((q'.blk b1 id).cell 0).trans rfl, ((q'.blk b1 id).cell 1).trans rfl, ((q'.blk b1 id).cell 2).trans rfl, ((q'.blk b1 id).cell 3).trans rfl, ((q'.blk b1 id).cell 4).trans rfl, ((q'.blk b1 id).cell 5).trans rfl, hgc _ ((q.trans q1).trans q'), hgd _ ((q.trans q1).trans q')⟩
  have hgW := hgc W q
  have hgl : gB < W.heap.size := Nat.lt_of_lt_of_le hg2 q.size
  have hgn : ¬ gB = W.heap.size := by omega
  have hgn1 : ¬ gB = W.heap.size + 1 := by omega
  rw [← hF]
  have HF := Lib.hid hF
  clear hF hrep q q1 b1 hVS hAR hK1 hK1l
  clear hB hC hVSl hK1z hVSz hcv hcc hgc hgd hrow hr1 hr2 hr3 hr4 hcell hva hlen hBYl hBYz hBY hBUl hBUz hBU hyl hul hg1 hg2 hv
  refine callsIn_of_wp_marks Try.func59 rfl (hFf _) ?_ hro
  simp only [Try.ntmps59, List.size_toArray, List.length_cons, List.length_nil, Nat.reduceAdd, Nat.reduceSub, Array.replicate_succ, Array.replicate_zero, List.push_toArray, List.append_toArray, List.nil_append, List.cons_append]
  gi_wp2
  rw [← hW1]
  clear hW1 hcvn
  refine wpIn_region_ord (Keeps noB W1) (.read 0 (.read 1 (.read 2 (.read 3 (.read 4 (.read 5 (.read 9 (.read 10 (.read 11 (.read 12 (.loud 6 (.read 7 (.read 8 (.loud 13 (.read 14 (.read 15 (.read 16 .fin))))))))))))))))) hro hFf (by kernel_rfl) (by kernel_rfl) rfl (by kernel_rfl) ((Keeps.refl noB W1).drew) ?_
  refine ord_read (.string K1) rfl rfl (fun W4 q4 => by obtain ⟨f0, f1, f2, f3, f4, f5, f6, f7⟩ := HL.out W4 q4; go_simp) (fun K hK => ?_)
  go_simp
  refine hK _ ?_
  clear hK K
  refine ord_read (.string A1) rfl rfl (fun W4 q4 => by obtain ⟨f0, f1, f2, f3, f4, f5, f6, f7⟩ := HL.out W4 q4; go_simp) (fun K hK => ?_)
  go_simp
  refine hK _ ?_
  clear hK K
  refine ord_read (.pointer (some ⟨W.heap.size, 4, none⟩)) rfl rfl (fun W4 q4 => by obtain ⟨f0, f1, f2, f3, f4, f5, f6, f7⟩ := HL.out W4 q4; go_simp) (fun K hK => ?_)
  go_simp
  refine hK _ ?_
  clear hK K
  refine ord_read (.slice (some ⟨gB, 0, none⟩) 2 m) rfl rfl (fun W4 q4 => by obtain ⟨f0, f1, f2, f3, f4, f5, f6, f7⟩ := HL.out W4 q4; go_simp) (fun K hK => ?_)
  go_simp
  refine hK _ ?_
  clear hK K
  refine ord_read (.pointer (some ⟨gB, 0, none⟩)) rfl rfl (fun W4 q4 => by obtain ⟨f0, f1, f2, f3, f4, f5, f6, f7⟩ := HL.out W4 q4; go_simp) (fun K hK => ?_)
  go_simp
  refine hK _ ?_
  clear hK K
  refine ord_read (.slice xa n1 xc) rfl rfl (fun W4 q4 => by obtain ⟨f0, f1, f2, f3, f4, f5, f6, f7⟩ := HL.out W4 q4; go_simp) (fun K hK => ?_)
  go_simp
  refine hK _ ?_
  clear hK K
  refine ord_read (.pointer (some ⟨W.heap.size, 4, none⟩)) rfl rfl (fun W4 q4 => by obtain ⟨f0, f1, f2, f3, f4, f5, f6, f7⟩ := HL.out W4 q4; go_simp) (fun K hK => ?_)
  go_simp
  refine hK _ ?_
  clear hK K
  refine ord_read (.slice (some ⟨gB, 0, none⟩) 2 m) rfl rfl (fun W4 q4 => by obtain ⟨f0, f1, f2, f3, f4, f5, f6, f7⟩ := HL.out W4 q4; go_simp) (fun K hK => ?_)
  go_simp
  refine hK _ ?_
  clear hK K
  refine ord_read (.pointer (some ⟨gB, 1, none⟩)) rfl rfl (fun W4 q4 => by obtain ⟨f0, f1, f2, f3, f4, f5, f6, f7⟩ := HL.out W4 q4; go_simp) (fun K hK => ?_)
  go_simp
  refine hK _ ?_
  clear hK K
  refine ord_read (.slice ya n2 yc) rfl rfl (fun W4 q4 => by obtain ⟨f0, f1, f2, f3, f4, f5, f6, f7⟩ := HL.out W4 q4; go_simp) (fun K hK => ?_)
  go_simp
  refine hK _ ?_
  clear hK K
  refine ord_loud rfl (fun K hK => ?_)
  gi_wp2
  refine CallsIn.mono (HBY.out _ _ (HQ.out _ ((Keeps.refl noB W1).drew))) ?_
  rintro e1 w2 ⟨rfl, q2⟩
  have HW2 : Hid (Keeps noB W1 w2) := Keeps.trans ((Keeps.refl noB W1).drew) q2
  clear q2
  gi_wp2
  refine hK _ _ HW2.out ?_
  clear hK K
  refine ord_read (.string A2) rfl rfl (fun W4 q4 => by obtain ⟨f0, f1, f2, f3, f4, f5, f6, f7⟩ := HL.out W4 q4; go_simp) (fun K hK => ?_)
  go_simp
  refine hK _ ?_
  clear hK K
  refine ord_read (.string A3) rfl rfl (fun W4 q4 => by obtain ⟨f0, f1, f2, f3, f4, f5, f6, f7⟩ := HL.out W4 q4; go_simp) (fun K hK => ?_)
  go_simp
  refine hK _ ?_
  clear hK K
  refine ord_loud rfl (fun K hK => ?_)
  gi_wp2
  refine CallsIn.mono (HBU.out _ _ (HQ.out _ HW2.out)) ?_
  rintro e1 w3 ⟨rfl, q2⟩
  have HW3 : Hid (Keeps noB W1 w3) := Keeps.trans HW2.out q2
  clear q2
  gi_wp2
  refine hK _ _ HW3.out ?_
  clear hK K
  refine ord_read (.string A4) rfl rfl (fun W4 q4 => by obtain ⟨f0, f1, f2, f3, f4, f5, f6, f7⟩ := HL.out W4 q4; go_simp) (fun K hK => ?_)
  go_simp
  refine hK _ ?_
  clear hK K
  refine ord_read (.string A5) rfl rfl (fun W4 q4 => by obtain ⟨f0, f1, f2, f3, f4, f5, f6, f7⟩ := HL.out W4 q4; go_simp) (fun K hK => ?_)
  go_simp
  refine hK _ ?_
  clear hK K
  refine ord_read (.string A5) rfl rfl (fun W4 q4 => by obtain ⟨f0, f1, f2, f3, f4, f5, f6, f7⟩ := HL.out W4 q4; go_simp) (fun K hK => ?_)
  go_simp
  refine hK _ ?_
  clear hK K
  simp only [wpOrd, noPanic]
  gi_wp2
  have HE : Hid (Ending.returned (.string A5) = .returned (.string ⟨((Nd.mk c k e vs ar (.cons y (.cons u .nil))).wr Nd.keepVis).toArray⟩) ∧ Keeps noB W w3) := ⟨congrArg Ending.returned HT.out, HQW.out.trans HW3.out⟩
  refine leaves_marks [] _ List.nodup_nil (fun _ h => by cases h) (fun W' q _ => ?_)
  exact ⟨_, resTextS W' _ _ rfl, HE.out.1, HE.out.2.trans (q.mono (fun _ e => by cases e))⟩

set_option maxRecDepth 100000 in
set_option maxHeartbeats 1000000 in
theorem text_scope {w0 : World} {ok : Nat → Prop} (c : UInt8) (k e : Nat) (vs ar : List UInt8) (hcc : c = 123) (y : Nds) (hne : vs ≠ []) (hvl : vs.length ≤ 1000) (hB : TBodyC w0 ok y) (hyl : (Nds.wr Nd.keepVis y).length ≤ 1000000) : TextC w0 ok (Nd.mk c k e vs ar (.cons y .nil)) := by
  intro a n m W hrep q
  unfold nodeA
  simp only [Nd.kind, Nd.beg, Nd.fin, Nd.vars, Nd.scope]
  obtain ⟨a', n', m', xs, hva, hrow, hb⟩ := node_slice hrep
  obtain ⟨rfl, rfl, rfl⟩ : a = a' ∧ n = n' ∧ m = m' := by simpa using hva
  simp only [RepSB] at hb
  obtain ⟨v0, vr, n1, cs, rfl, ⟨hr1, hr2⟩, rfl⟩ := hb
  obtain ⟨xa, xc, rfl⟩ := row_shape hr1
  have hlen := hrow.1.1
  simp at hlen
  obtain ⟨gB, cc, hv, hg1, hg2, hcell⟩ := row_get hrow (by omega)
  obtain ⟨rfl, rfl⟩ : a = some ⟨gB, 0, none⟩ ∧ m = cc := by simpa using hv
  have hgc := fun (W' : World) (q' : Keeps noB w0 W') => (q'.cell (p := ⟨gB, 0, none⟩) hg2 id).trans (hcell 0 _ rfl)
  obtain rfl : n = 1 := by omega
  have hcv : (c.toNat : Int) = 123 := by rw [hcc]; rfl
  obtain ⟨VS, hVS⟩ : ∃ VS : ByteArray, (⟨vs.toArray⟩ : ByteArray) = VS := ⟨_, rfl⟩
  obtain ⟨AR, hAR⟩ : ∃ AR : ByteArray, (⟨ar.toArray⟩ : ByteArray) = AR := ⟨_, rfl⟩
  obtain ⟨K1, hK1⟩ : ∃ K1 : ByteArray, (⟨#[c]⟩ : ByteArray) = K1 := ⟨_, rfl⟩
  have hVSl : VS.data.toList = vs := by rw [← hVS]
  have hK1l : K1.data.toList = [c] := by rw [← hK1]
  have hK1z : K1.size = 1 := by rw [← hK1]; rfl
  have hVSz : VS.size = vs.length := by rw [ba_len, hVSl]
  obtain ⟨BY, hBY⟩ : ∃ BY : ByteArray, (⟨(Nds.wr Nd.keepVis y).toArray⟩ : ByteArray) = BY := ⟨_, rfl⟩
  have hBYl : BY.data.toList = Nds.wr Nd.keepVis y := by rw [← hBY]
  have hBYz : BY.size = (Nds.wr Nd.keepVis y).length := by rw [ba_len, hBYl]
  obtain ⟨A1, hA1⟩ : ∃ A1 : ByteArray, K1 ++ VS = A1 := ⟨_, rfl⟩
  obtain ⟨A2, hA2⟩ : ∃ A2 : ByteArray, A1 ++ ⟨#[58]⟩ = A2 := ⟨_, rfl⟩
  obtain ⟨A3, hA3⟩ : ∃ A3 : ByteArray, A2 ++ BY = A3 := ⟨_, rfl⟩
  obtain ⟨A4, hA4⟩ : ∃ A4 : ByteArray, A3 ++ ⟨#[125]⟩ = A4 := ⟨_, rfl⟩
  have hA1z : A1.size = K1.size + VS.size := by rw [← hA1, ByteArray.size_append]
  have hA2z : A2.size = A1.size + 1 := by rw [← hA2, ByteArray.size_append]; rfl
  have hA3z : A3.size = A2.size + BY.size := by rw [← hA3, ByteArray.size_append]
  have o1 : ¬ 9223372036854775807 < K1.size + VS.size := by omega
  have o2 : A1.size ≤ 9223372036854775806 := by omega
  have o3 : ¬ 9223372036854775807 < A2.size + BY.size := by omega
  have o4 : A3.size ≤ 9223372036854775806 := by omega
  have HT : Hid (Value.string A4 = .string ⟨((Nd.mk c k e vs ar (.cons y .nil)).wr Nd.keepVis).toArray⟩) := Lib.hid (congrArg Value.string (ba_eq (by
    rw [← hA4, ← hA3, ← hA2, ← hA1]
    simp only [ByteArray.data_append, Array.toList_append, hK1l, hBYl, hVSl]
    simp only [Nd.wr, Nd.keepVis, Nd.kind, Nd.vars, hcc]
    simp [hne])))
  clear hA1z hA2z hA3z
  refine (callsIn_wide (n := 9)).1 ?_
  obtain ⟨F, hF⟩ : ∃ F, F = Fence.wide := ⟨_, rfl⟩
  have hFf : ∀ f, F.fn f := by subst hF; exact fun _ => trivial
  have hdd : ∀ k : Nat, (F.depth.isSome = true → 1 ≤ k) := by subst hF; intro k h; simp [Fence.wide] at h
  have hro : F.round = none := by subst hF; rfl
  have hds : F.depth.isSome = false := by subst hF; rfl
  have HBY : Hid (∀ n' W', Keeps noB w0 W' → CallsIn F n' Try.prog 93 #[.slice xa n1 xc] W' (fun e w' => e = .returned (.string BY) ∧ Keeps noB W' w')) := fun n' W' q' => by
    rw [hF, ← hBY]; exact callsIn_wide.2 (hB _ _ _ W' hr1 hr2 q')
  rw [hcv, hVS, hAR]
  have hcvn : (convert 22 9 (.slice (some ⟨W.heap.size + 1, 0, none⟩) 1 1)).run Try.prog ((W.alloc (.cells #[.int .u8 123, .int .i64 (k : Int), .int .i64 (e : Int), .string VS, .slice (some ⟨gB, 0, none⟩) 1 m, .string AR] 52)).alloc (.cells #[.int .u8 123] 5)) = .ok (.string K1) ((W.alloc (.cells #[.int .u8 123, .int .i64 (k : Int), .int .i64 (e : Int), .string VS, .slice (some ⟨gB, 0, none⟩) 1 m, .string AR] 52)).alloc (.cells #[.int .u8 123] 5)) := by
    have hb := Blk.new (W.alloc (.cells #[.int .u8 123, .int .i64 (k : Int), .int .i64 (e : Int), .string VS, .slice (some ⟨gB, 0, none⟩) 1 m, .string AR] 52)) #[.int .u8 123] 5
    have hsz : (W.alloc (.cells #[.int .u8 123, .int .i64 (k : Int), .int .i64 (e : Int), .string VS, .slice (some ⟨gB, 0, none⟩) 1 m, .string AR] 52)).heap.size = W.heap.size + 1 := by simp
    rw [hsz] at hb
    rw [← hcv] at hb ⊢
    rw [← hK1]
    exact conv_kind hb
  obtain ⟨W1, hW1⟩ : ∃ W1, W1 = (W.alloc (.cells #[.int .u8 123, .int .i64 (k : Int), .int .i64 (e : Int), .string VS, .slice (some ⟨gB, 0, none⟩) 1 m, .string AR] 52)).alloc (.cells #[.int .u8 123] 5) := ⟨_, rfl⟩
  have q1 : Keeps noB W W1 := by rw [hW1]; exact ((Keeps.refl _ _).alloc _).alloc _
  have b1 : Blk W1 W.heap.size #[.int .u8 123, .int .i64 (k : Int), .int .i64 (e : Int), .string VS, .slice (some ⟨gB, 0, none⟩) 1 m, .string AR] 52 := by rw [hW1]; exact (Blk.new _ _ _).alloc _
  have HQ : Hid (∀ W', Keeps noB W1 W' → Keeps noB w0 W') := fun W' q' => (q.trans q1).trans q'
  have HQW := Lib.hid q1
  have HL : Hid (∀ W', Keeps noB W1 W' → W'.cell? ⟨W.heap.size, 0, none⟩ = some (.int .u8 123) ∧ W'.cell? ⟨W.heap.size, 1, none⟩ = some (.int .i64 (k : Int)) ∧ W'.cell? ⟨W.heap.size, 2, none⟩ = some (.int .i64 (e : Int)) ∧ W'.cell? ⟨W.heap.size, 3, none⟩ = some (.string VS) ∧ W'.cell? ⟨W.heap.size, 4, none⟩ = some (.slice (some ⟨gB, 0, none⟩) 1 m) ∧ W'.cell? ⟨W.heap.size, 5, none⟩ = some (.string AR) ∧ W'.cell? ⟨gB, 0, none⟩ = some (.slice xa n1 xc)) := fun W' q' =>
    ⟨((q'.blk b1 id).cell 0).trans rfl, ((q'.blk b1 id).cell 1).trans rfl, ((q'.blk b1 id).cell 2).trans rfl, ((q'.blk b1 id).cell 3).trans rfl, ((q'.blk b1 id).cell 4).trans rfl, ((q'.blk b1 id).cell 5).trans rfl, hgc _ ((q.trans q1).trans q')⟩
  have hgW := hgc W q
  have hgl : gB < W.heap.size := Nat.lt_of_lt_of_le hg2 q.size
  have hgn : ¬ gB = W.heap.size := by omega
  have hgn1 : ¬ gB = W.heap.size + 1 := by omega
  rw [← hF]
  have HF := Lib.hid hF
  clear hF hrep q q1 b1 hVS hAR hK1 hK1l
  clear hB hVSl hK1z hVSz hcv hcc hgc hrow hr1 hr2 hcell hva hlen hBYl hBYz hBY hyl hne hvl hg1 hg2 hv
  refine callsIn_of_wp_marks Try.func59 rfl (hFf _) ?_ hro
  simp only [Try.ntmps59, List.size_toArray, List.length_cons, List.length_nil, Nat.reduceAdd, Nat.reduceSub, Array.replicate_succ, Array.replicate_zero, List.push_toArray, List.append_toArray, List.nil_append, List.cons_append]
  gi_wp2
  rw [← hW1]
  clear hW1 hcvn
  refine wpIn_region_ord (Keeps noB W1) (.read 0 (.read 1 (.read 2 (.read 3 (.read 4 (.read 5 (.read 6 (.read 7 (.read 8 (.loud 9 (.read 10 (.read 11 (.read 12 .fin))))))))))))) hro hFf (by kernel_rfl) (by kernel_rfl) rfl (by kernel_rfl) ((Keeps.refl noB W1).drew) ?_
  refine ord_read (.string K1) rfl rfl (fun W4 q4 => by obtain ⟨f0, f1, f2, f3, f4, f5, f6⟩ := HL.out W4 q4; go_simp) (fun K hK => ?_)
  go_simp
  refine hK _ ?_
  clear hK K
  refine ord_read (.pointer (some ⟨W.heap.size, 3, none⟩)) rfl rfl (fun W4 q4 => by obtain ⟨f0, f1, f2, f3, f4, f5, f6⟩ := HL.out W4 q4; go_simp) (fun K hK => ?_)
  go_simp
  refine hK _ ?_
  clear hK K
  refine ord_read (.string VS) rfl rfl (fun W4 q4 => by obtain ⟨f0, f1, f2, f3, f4, f5, f6⟩ := HL.out W4 q4; go_simp) (fun K hK => ?_)
  go_simp
  refine hK _ ?_
  clear hK K
  refine ord_read (.string A1) rfl rfl (fun W4 q4 => by obtain ⟨f0, f1, f2, f3, f4, f5, f6⟩ := HL.out W4 q4; go_simp) (fun K hK => ?_)
  go_simp
  refine hK _ ?_
  clear hK K
  refine ord_read (.string A2) rfl rfl (fun W4 q4 => by obtain ⟨f0, f1, f2, f3, f4, f5, f6⟩ := HL.out W4 q4; go_simp) (fun K hK => ?_)
  go_simp
  refine hK _ ?_
  clear hK K
  refine ord_read (.pointer (some ⟨W.heap.size, 4, none⟩)) rfl rfl (fun W4 q4 => by obtain ⟨f0, f1, f2, f3, f4, f5, f6⟩ := HL.out W4 q4; go_simp) (fun K hK => ?_)
  go_simp
  refine hK _ ?_
  clear hK K
  refine ord_read (.slice (some ⟨gB, 0, none⟩) 1 m) rfl rfl (fun W4 q4 => by obtain ⟨f0, f1, f2, f3, f4, f5, f6⟩ := HL.out W4 q4; go_simp) (fun K hK => ?_)
  go_simp
  refine hK _ ?_
  clear hK K
  refine ord_read (.pointer (some ⟨gB, 0, none⟩)) rfl rfl (fun W4 q4 => by obtain ⟨f0, f1, f2, f3, f4, f5, f6⟩ := HL.out W4 q4; go_simp) (fun K hK => ?_)
  go_simp
  refine hK _ ?_
  clear hK K
  refine ord_read (.slice xa n1 xc) rfl rfl (fun W4 q4 => by obtain ⟨f0, f1, f2, f3, f4, f5, f6⟩ := HL.out W4 q4; go_simp) (fun K hK => ?_)
  go_simp
  refine hK _ ?_
  clear hK K
  refine ord_loud rfl (fun K hK => ?_)
  gi_wp2
  refine CallsIn.mono (HBY.out _ _ (HQ.out _ ((Keeps.refl noB W1).drew))) ?_
  rintro e1 w2 ⟨rfl, q2⟩
  have HW2 : Hid (Keeps noB W1 w2) := Keeps.trans ((Keeps.refl noB W1).drew) q2
  clear q2
  gi_wp2
  refine hK _ _ HW2.out ?_
  clear hK K
  refine ord_read (.string A3) rfl rfl (fun W4 q4 => by obtain ⟨f0, f1, f2, f3, f4, f5, f6⟩ := HL.out W4 q4; go_simp) (fun K hK => ?_)
  go_simp
  refine hK _ ?_
  clear hK K
  refine ord_read (.string A4) rfl rfl (fun W4 q4 => by obtain ⟨f0, f1, f2, f3, f4, f5, f6⟩ := HL.out W4 q4; go_simp) (fun K hK => ?_)
  go_simp
  refine hK _ ?_
  clear hK K
  refine ord_read (.string A4) rfl rfl (fun W4 q4 => by obtain ⟨f0, f1, f2, f3, f4, f5, f6⟩ := HL.out W4 q4; go_simp) (fun K hK => ?_)
  go_simp
  refine hK _ ?_
  clear hK K
  simp only [wpOrd, noPanic]
  gi_wp2
  have HE : Hid (Ending.returned (.string A4) = .returned (.string ⟨((Nd.mk c k e vs ar (.cons y .nil)).wr Nd.keepVis).toArray⟩) ∧ Keeps noB W w2) := ⟨congrArg Ending.returned HT.out, HQW.out.trans HW2.out⟩
  refine leaves_marks [] _ List.nodup_nil (fun _ h => by cases h) (fun W' q _ => ?_)
  exact ⟨_, resTextS W' _ _ rfl, HE.out.1, HE.out.2.trans (q.mono (fun _ e => by cases e))⟩


end Go.Proofs.Ytccpmhjffcceeaa

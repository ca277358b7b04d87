/-
  The program's writer of programs: a step, by its kind.
  The program's writer of programs: a step, by its kind.
  The program's writer of programs: a step, by its kind.
  The program's writer of programs: a step, by its kind.
  The program's writer of programs: a step, by its kind.
  The program's writer of programs: every step of a tree; writtenBy.
-/
import Derived.Test.YtccpmhjffcceeaaHbW
namespace Go.Proofs.Ytccpmhjffcceeaa
set_option linter.unusedVariables false
set_option linter.unusedSimpArgs false
open Go.RowKit

set_option maxRecDepth 100000 in
set_option maxHeartbeats 4000000 in
theorem wstep_value {w0 : World} {ok : Nat → Prop} {V : Vis} {S : Nd → Prop} {vt : TypeId} {vd : Value} {s : ByteArray} (H : WEnv w0 ok V S vt vd s) {b : Nat} (c : UInt8) (k e : Nat) (vs ar : List UInt8) (hc : c ≠ 94 ∧ c ≠ 33) (hz : S (Nd.mk c k e vs ar .nil)) (hlen : (Nd.mk c k e vs ar .nil).pre.len ≤ 200) :
    StepW w0 ok V (.iface vt vd) b s (Nd.mk c k e vs ar .nil) := by
  intro d v l own w hok hr hw hl
  obtain ⟨z, hzz⟩ : ∃ z, z = Nd.mk c k e vs ar .nil := ⟨_, rfl⟩
  rw [← hzz] at hz hlen hok hr hl ⊢
  have hzs : z.scope = ar := by rw [hzz]; rfl
  obtain ⟨g, hgo, rfl, t0, u0, hblk⟩ := (by rw [hzz] at hr; obtain ⟨g, hg, e, t, u, hb⟩ := RepI.value hc hr; exact ⟨g, hg, e, ⟨t, u, hb⟩⟩ : ∃ g, ok g ∧ v = .iface 149 (ptr g) ∧ ∃ t u, Blk w0 g #[i64 k, i64 e, u8 c, u8 t, u8 u] 194)
  have hgl : g < w0.heap.size := H.lt g hgo
  have hsh := H.short z hz
  have hgW := fun (W : World) (q : Keeps noB w0 W) => (q.cell (p := ⟨g, 2, none⟩) hgl id).trans (hblk.cell 2)
  refine (callsIn_wide (n := 9)).1 ?_
  obtain ⟨F, hF⟩ : ∃ F, F = Fence.wide := ⟨_, rfl⟩
  have hFf : ∀ f, F.fn f := by subst hF; exact fun _ => trivial
  have hdd : ∀ k : Nat, (F.depth.isSome = true → 1 ≤ k) := by subst hF; intro k h; simp [Fence.wide] at h
  have hro : F.round = none := by subst hF; rfl
  have hds : F.depth.isSome = false := by subst hF; rfl
  obtain ⟨kk, rk, hmk, hck⟩ := H.vis.keeps
  obtain ⟨ka, ra, hma, hca⟩ := H.vis.ahead
  obtain ⟨kv, rv, hmv, hcv⟩ := H.vis.value
  have HMK := Lib.hid hmk
  have HMA := Lib.hid hma
  have HMV := Lib.hid hmv
  obtain ⟨A, hA⟩ : ∃ A : ByteArray, A = ⟨(V.ahead z).toArray⟩ := ⟨_, rfl⟩
  obtain ⟨U, hU⟩ : ∃ U : ByteArray, U = ⟨(V.value z).toArray⟩ := ⟨_, rfl⟩
  have hAz : A.size = (V.ahead z).length := by rw [hA]; exact bytes_size _
  have hUz : U.size = (V.value z).length := by rw [hU]; exact bytes_size _
  have hAl : A.size ≤ 200 := by rw [hAz]; exact hsh.ahead
  have hUl : U.size ≤ 200 := by rw [hUz]; exact hsh.value
  have hAL : A.data.toList = V.ahead z := by rw [hA]
  have hUL : U.data.toList = V.value z := by rw [hU]
  obtain ⟨bk, hbk⟩ : ∃ bk, V.keeps z = bk := ⟨_, rfl⟩
  obtain ⟨ss, hss⟩ : ∃ ss : ByteArray, str z.scope = .string ss := ⟨_, rfl⟩
  have hpv : placeV (.iface 149 (ptr g)) z.scope d = .agg #[.iface 149 (.pointer (some ⟨g, 0, none⟩)), .string ss, .int .i64 (d : Int)] := by unfold placeV; rw [hss]; rfl
  rw [hpv]
  have HCK : Hid (∀ n W, Keeps noB w0 W → CallsIn F n Try.prog kk #[rk, .agg #[.iface 149 (.pointer (some ⟨g, 0, none⟩)), .string ss, .int .i64 (d : Int)]] W (fun e w' => e = .returned (.bool bk) ∧ Keeps noB W w')) := fun n W q => by rw [hF, ← hpv, ← hbk]; exact callsIn_wide.2 (hck z d _ W hz hr q)
  have HCA : Hid (∀ n W, Keeps noB w0 W → CallsIn F n Try.prog ka #[ra, .agg #[.iface 149 (.pointer (some ⟨g, 0, none⟩)), .string ss, .int .i64 (d : Int)]] W (fun e w' => e = .returned (.string A) ∧ Keeps noB W w')) := fun n W q => by rw [hF, ← hpv, hA]; exact callsIn_wide.2 (hca z d _ W hz hr q)
  have HCV : Hid (∀ n W, Keeps noB w0 W → CallsIn F n Try.prog kv #[rv, .pointer (some ⟨g, 0, none⟩)] W (fun e w' => e = .returned (.string U) ∧ Keeps noB W w')) := fun n W q => by rw [hF, hU]; exact callsIn_wide.2 (hcv z g W hz hr q)
  have hl2 : (l ++ V.ahead z).length ≤ 10000500 := by rw [List.length_append, ← hAz]; omega
  have HWU : Hid (∀ n own W, WrI w0 b (.iface vt vd) (l ++ V.ahead z) own W → CallsIn F n Try.prog 121 #[.pointer (some ⟨b, 0, none⟩), .string U] W (WrPost w0 b (.iface vt vd) W own ((l ++ V.ahead z) ++ V.value z) (.tuple #[.int .i64 (U.size : Int), .nilIface]))) := fun n own W h => by
    rw [hF, ← hUL]; exact callsIn_wide.2 (wstr_any U h (by omega))
  have HWA : Hid (∀ n W, WrI w0 b (.iface vt vd) l own W → CallsIn F n Try.prog 121 #[.pointer (some ⟨b, 0, none⟩), .string A] W (WrPost w0 b (.iface vt vd) W own (l ++ V.ahead z) (.tuple #[.int .i64 (A.size : Int), .nilIface]))) := fun n W h => by
    rw [hF, ← hAL]; exact callsIn_wide.2 (wstr_any A h (by omega))
  have HKI : Hid (∀ n W, Keeps noB w0 W → CallsIn F n Try.prog 92 #[.agg #[.iface 149 (.pointer (some ⟨g, 0, none⟩)), .string ss, .int .i64 (d : Int)]] W (fun e w' => ∃ a m, e = .returned (.slice a z.bodies.kids.length m) ∧ z.bodies.kids.length ≤ m ∧ (m = 0 → a = none ∨ ∃ g, a = some ⟨g, 0, none⟩) ∧ (0 < m → ∃ g, a = some ⟨g, 0, none⟩) ∧ Keeps noB W w' ∧ ∀ own, (∀ k, own k → k < W.heap.size) → KidsAt w0 ok (inD z.kind d) z.bodies.kids own w' a)) := fun n W q => by
    rw [hF, ← hpv]; exact callsIn_wide.2 (H.kids hok hlen hr W q)
  have hN := Blk.new w #[.iface 149 (.pointer (some ⟨g, 0, none⟩)), .string ss, .int .i64 (d : Int)] 48
  obtain ⟨wN, hwN⟩ : ∃ wN, wN = w.alloc (.cells #[.iface 149 (.pointer (some ⟨g, 0, none⟩)), .string ss, .int .i64 (d : Int)] 48) := ⟨_, rfl⟩
  have q0 : Keeps noB w wN := by rw [hwN]; exact (Keeps.refl _ _).alloc _
  have hNs : wN.heap.size = w.heap.size + 1 := by rw [hwN]; simp
  rw [← hwN] at hN
  have hwI := hw.quiet q0
  have hNo : ¬ own w.heap.size := fun e => by have := hw.lt _ e; omega
  have hbw := hw.blt
  have hgw : g < w.heap.size := Nat.lt_of_lt_of_le hgl hw.old.size
  have ho0 : Owns own own w wN := ⟨fun k e => .inl e, fun k e => by have := hw.lt k e; omega, q0.mono (fun _ e => e.elim)⟩
  have hseen : WSeen b w.heap.size vt vd 149 g ss d (u8 c) wN := ⟨hwI.vis, (hN.cell 0).trans rfl, (hN.cell 1).trans rfl, (hN.cell 2).trans rfl, (hgW _ hwI.old)⟩
  have HN := Lib.hid (And.intro hNs (And.intro hNo (And.intro hbw hgw)))
  have HI0 := Lib.hid (And.intro ho0 (And.intro hwI hseen))
  rw [← hF]
  have HF := Lib.hid hF
  have hneN : ¬ b = w.heap.size := by omega
  clear hF H hsh hgW hmk hma hmv hck hca hcv hA hU hAz hUz hss hpv hok hr hw hl hz hblk hN q0 hwI hNo ho0 hseen hNs
  clear hl2
  refine callsIn_of_wp_marks Try.func83 rfl (hFf _) ?_ hro
  simp only [Try.ntmps83, List.size_toArray, List.length_cons, List.length_nil, Nat.reduceAdd, Nat.reduceSub, Array.replicate_succ, Array.replicate_zero, List.push_toArray, List.append_toArray, List.nil_append, List.cons_append]
  have hmk := HMK.out
  simp [go_sem] at hmk
  gi_wp2
  rw [← hwN]
  clear hwN
  obtain ⟨N, hNN⟩ : ∃ N, N = w.heap.size := ⟨_, rfl⟩
  rw [← hNN] at HN HI0 hneN ⊢
  clear hNN
  refine wpIn_region_seqP (WSeen b N vt vd 149 g ss d (u8 c)) [(0, true), (1, true), (2, true), (3, true), (4, true), (5, false), (6, true)] hro hFf (by kernel_rfl) (by kernel_rfl) (by kernel_rfl) rfl (by kernel_rfl) (HI0.out.2.2.quiet ((Keeps.refl noB wN).drew) HI0.out.2.1.blt (by have := HN.out; omega) (by have := HN.out; omega)) ?_
  refine seqH_take (.pointer (some ⟨b, 0, none⟩)) rfl rfl (fun W4 q4 => by obtain ⟨f0, f1, f2, f3, f4⟩ := q4; go_simp) (fun K hK => ?_)
  go_simp
  refine hK _ ?_
  clear hK K
  refine seqH_take (.pointer (some ⟨b, 0, none⟩)) rfl rfl (fun W4 q4 => by obtain ⟨f0, f1, f2, f3, f4⟩ := q4; go_simp) (fun K hK => ?_)
  go_simp
  refine hK _ ?_
  clear hK K
  refine seqH_take (.pointer (some ⟨b, 2, none⟩)) rfl rfl (fun W4 q4 => by obtain ⟨f0, f1, f2, f3, f4⟩ := q4; go_simp) (fun K hK => ?_)
  go_simp
  refine hK _ ?_
  clear hK K
  refine seqH_take (.iface vt vd) rfl rfl (fun W4 q4 => by obtain ⟨f0, f1, f2, f3, f4⟩ := q4; go_simp) (fun K hK => ?_)
  go_simp
  refine hK _ ?_
  clear hK K
  refine seqH_take (.agg #[.iface 149 (.pointer (some ⟨g, 0, none⟩)), .string ss, .int .i64 (d : Int)]) rfl rfl (fun W4 q4 => by obtain ⟨f0, f1, f2, f3, f4⟩ := q4; go_simp) (fun K hK => ?_)
  go_simp
  refine hK _ ?_
  clear hK K
  refine seqH_loud rfl (fun K hK => ?_)
  gi_wp2
  refine CallsIn.mono (HCK.out _ _ HI0.out.2.1.old.drew) ?_
  rintro e w1 ⟨rfl, q1⟩
  have HI1 : Hid (Owns own own w w1 ∧ WrI w0 b (.iface vt vd) l own w1 ∧ WSeen b N vt vd 149 g ss d (u8 c) w1 ∧ N < w1.heap.size) := by
    have q1' := Keeps.trans ((Keeps.refl noB wN).drew) q1
    obtain ⟨h1, h2, h3⟩ := HI0.out
    obtain ⟨h4, h5, h6, h7⟩ := HN.out
    exact ⟨h1.ahead q1' (fun _ e => e.elim), h2.quiet q1', h3.quiet q1' h2.blt (by omega) (by omega), by have := q1'.size; omega⟩
  clear q1 hmk
  gi_wp2
  refine hK _ _ HI1.out.2.2.1 ?_
  clear hK K
  refine seqH_take (.bool (!bk)) rfl rfl (fun W4 q4 => by obtain ⟨f0, f1, f2, f3, f4⟩ := q4; go_simp) (fun K hK => ?_)
  go_simp
  refine hK _ ?_
  clear hK K
  simp only [wpSeqH, noPanic]
  cases bk with
  | false =>
    have HE : Hid (l ++ z.wr V = l) := Lib.hid (by rw [hzz] at hbk ⊢; simp only [Nd.wr, hbk]; simp)
    gi_wp2
    refine leaves_marks [] _ List.nodup_nil (fun _ h => by cases h) (fun W' q _ => ?_)
    refine ⟨_, results_none rfl _ _ _, rfl, own, HI1.out.1.ahead q (fun _ e => by cases e), ?_⟩
    rw [HE.out]
    exact HI1.out.2.1.quiet (q.mono (fun _ e => by cases e))
  | true =>
    have HT : Hid (l ++ z.wr V = (l ++ V.ahead z) ++ (V.value z)) := Lib.hid (by rw [hzz] at hbk ⊢; simp only [Nd.wr, hbk]; simp [hc.1, hc.2, hzz])
    have hma := HMA.out
    simp [go_sem] at hma
    gi_wp2
    refine wpIn_region_seqP (WSeen b N vt vd 149 g ss d (u8 c)) [(0, true), (1, true), (2, true), (3, true), (4, true), (5, true), (6, true), (7, true), (8, false), (9, false)] hro hFf (by kernel_rfl) (by kernel_rfl) (by kernel_rfl) rfl (by kernel_rfl) (HI1.out.2.2.1.quiet ((Keeps.refl noB w1).drew) HI1.out.2.1.blt HI1.out.2.2.2 (Nat.lt_of_lt_of_le hgl HI1.out.2.1.old.size)) ?_
    refine seqH_take (.pointer (some ⟨b, 0, none⟩)) rfl rfl (fun W4 q4 => by obtain ⟨f0, f1, f2, f3, f4⟩ := q4; go_simp) (fun K hK => ?_)
    go_simp
    refine hK _ ?_
    clear hK K
    refine seqH_take (.pointer (some ⟨b, 0, none⟩)) rfl rfl (fun W4 q4 => by obtain ⟨f0, f1, f2, f3, f4⟩ := q4; go_simp) (fun K hK => ?_)
    go_simp
    refine hK _ ?_
    clear hK K
    refine seqH_take (.pointer (some ⟨b, 0, none⟩)) rfl rfl (fun W4 q4 => by obtain ⟨f0, f1, f2, f3, f4⟩ := q4; go_simp) (fun K hK => ?_)
    go_simp
    refine hK _ ?_
    clear hK K
    refine seqH_take (.pointer (some ⟨b, 0, none⟩)) rfl rfl (fun W4 q4 => by obtain ⟨f0, f1, f2, f3, f4⟩ := q4; go_simp) (fun K hK => ?_)
    go_simp
    refine hK _ ?_
    clear hK K
    refine seqH_take (.pointer (some ⟨b, 0, none⟩)) rfl rfl (fun W4 q4 => by obtain ⟨f0, f1, f2, f3, f4⟩ := q4; go_simp) (fun K hK => ?_)
    go_simp
    refine hK _ ?_
    clear hK K
    refine seqH_take (.pointer (some ⟨b, 2, none⟩)) rfl rfl (fun W4 q4 => by obtain ⟨f0, f1, f2, f3, f4⟩ := q4; go_simp) (fun K hK => ?_)
    go_simp
    refine hK _ ?_
    clear hK K
    refine seqH_take (.iface vt vd) rfl rfl (fun W4 q4 => by obtain ⟨f0, f1, f2, f3, f4⟩ := q4; go_simp) (fun K hK => ?_)
    go_simp
    refine hK _ ?_
    clear hK K
    refine seqH_take (.agg #[.iface 149 (.pointer (some ⟨g, 0, none⟩)), .string ss, .int .i64 (d : Int)]) rfl rfl (fun W4 q4 => by obtain ⟨f0, f1, f2, f3, f4⟩ := q4; go_simp) (fun K hK => ?_)
    go_simp
    refine hK _ ?_
    clear hK K
    refine seqH_loud rfl (fun K hK => ?_)
    gi_wp2
    refine CallsIn.mono (HCA.out _ _ HI1.out.2.1.old.drew) ?_
    rintro e w2 ⟨rfl, q2⟩
    have HI2 : Hid (Owns own own w w2 ∧ WrI w0 b (.iface vt vd) l own w2 ∧ WSeen b N vt vd 149 g ss d (u8 c) w2 ∧ N < w2.heap.size) := by
      have q2' := Keeps.trans ((Keeps.refl noB w1).drew) q2
      obtain ⟨h1, h2, h3, h4⟩ := HI1.out
      exact ⟨h1.ahead q2' (fun _ e => e.elim), h2.quiet q2', h3.quiet q2' h2.blt h4 (Nat.lt_of_lt_of_le hgl h2.old.size), Nat.lt_of_lt_of_le h4 q2'.size⟩
    clear q2 hma
    gi_wp2
    refine hK _ _ HI2.out.2.2.1 ?_
    clear hK K
    refine seqH_loud rfl (fun K hK => ?_)
    gi_wp2
    refine CallsIn.mono (HWA.out _ _ HI2.out.2.1) ?_
    rintro e w3 ⟨rfl, own3, o3, i3⟩
    have HI3 : Hid (Owns own own3 w w3 ∧ WrI w0 b (.iface vt vd) (l ++ V.ahead z) own3 w3 ∧ WSeen b N vt vd 149 g ss d (u8 c) w3 ∧ N < w3.heap.size ∧ ¬ own3 N) := by
      obtain ⟨h1, h2, h3, h4⟩ := HI2.out
      have hno : ¬ own N := HN.out.2.1
      exact ⟨h1.trans o3, i3, h3.owns h2 o3 i3 ⟨hno, h4⟩ hgl, Nat.lt_of_lt_of_le h4 o3.keeps.size, fun e => (o3.more N e).elim hno (fun e => by omega)⟩
    clear o3 i3
    gi_wp2
    refine hK _ _ HI3.out.2.2.1 ?_
    clear hK K
    simp only [wpSeqH, noPanic]
    obtain ⟨n0, n1, n2⟩ := (⟨HI3.out.2.2.1.n0, HI3.out.2.2.1.n1, HI3.out.2.2.1.n2⟩ : _ ∧ _ ∧ _)
    gi_wp2
    refine CallsIn.mono (HKI.out _ _ HI3.out.2.1.old) ?_
    rintro e w4 ⟨a, m, rfl, hkm, hm0, hm1, q4, hka⟩
    have HI4 : Hid (Owns own own3 w w4 ∧ WrI w0 b (.iface vt vd) (l ++ V.ahead z) own3 w4 ∧ WSeen b N vt vd 149 g ss d (u8 c) w4 ∧ N < w4.heap.size ∧ ¬ own3 N ∧ KidsAt w0 ok (inD z.kind d) z.bodies.kids own3 w4 a ∧ z.bodies.kids.length ≤ m ∧ (m = 0 → a = none ∨ ∃ g, a = some ⟨g, 0, none⟩) ∧ (0 < m → ∃ g, a = some ⟨g, 0, none⟩)) := by
      obtain ⟨h1, h2, h3, h4, h5⟩ := HI3.out
      exact ⟨h1.ahead q4 (fun _ e => e.elim), h2.quiet q4, h3.quiet q4 h2.blt h4 (Nat.lt_of_lt_of_le hgl h2.old.size), Nat.lt_of_lt_of_le h4 q4.size, h5, hka own3 h2.lt, hkm, hm0, hm1⟩
    clear q4 hka hkm hm0 hm1 n0 n1 n2
    have n0 := HI4.out.2.2.1.n0
    have g2 := HI4.out.2.2.1.g2
    have a0 := isVV (.pointer (some ⟨g, 0, none⟩))
    have hmv := HMV.out
    simp [go_sem] at hmv
    generalize z.bodies.kids.length = kn at *
    gi_wp2
    refine wpIn_region_seqP (WSeen b N vt vd 149 g ss d (u8 c)) [(0, true), (1, true), (2, true), (3, true), (4, true), (5, true), (6, true), (7, true), (8, false), (9, false)] hro hFf (by kernel_rfl) (by kernel_rfl) (by kernel_rfl) rfl (by kernel_rfl) (HI4.out.2.2.1.quiet ((Keeps.refl noB w4).drew) HI4.out.2.1.blt HI4.out.2.2.2.1 (Nat.lt_of_lt_of_le hgl HI4.out.2.1.old.size)) ?_
    refine seqH_take (.pointer (some ⟨b, 0, none⟩)) rfl rfl (fun W4 q4 => by obtain ⟨f0, f1, f2, f3, f4⟩ := q4; go_simp) (fun K hK => ?_)
    go_simp
    refine hK _ ?_
    clear hK K
    refine seqH_take (.pointer (some ⟨b, 0, none⟩)) rfl rfl (fun W4 q4 => by obtain ⟨f0, f1, f2, f3, f4⟩ := q4; go_simp) (fun K hK => ?_)
    go_simp
    refine hK _ ?_
    clear hK K
    refine seqH_take (.pointer (some ⟨b, 0, none⟩)) rfl rfl (fun W4 q4 => by obtain ⟨f0, f1, f2, f3, f4⟩ := q4; go_simp) (fun K hK => ?_)
    go_simp
    refine hK _ ?_
    clear hK K
    refine seqH_take (.pointer (some ⟨b, 0, none⟩)) rfl rfl (fun W4 q4 => by obtain ⟨f0, f1, f2, f3, f4⟩ := q4; go_simp) (fun K hK => ?_)
    go_simp
    refine hK _ ?_
    clear hK K
    refine seqH_take (.pointer (some ⟨b, 0, none⟩)) rfl rfl (fun W4 q4 => by obtain ⟨f0, f1, f2, f3, f4⟩ := q4; go_simp) (fun K hK => ?_)
    go_simp
    refine hK _ ?_
    clear hK K
    refine seqH_take (.pointer (some ⟨b, 2, none⟩)) rfl rfl (fun W4 q4 => by obtain ⟨f0, f1, f2, f3, f4⟩ := q4; go_simp) (fun K hK => ?_)
    go_simp
    refine hK _ ?_
    clear hK K
    refine seqH_take (.iface vt vd) rfl rfl (fun W4 q4 => by obtain ⟨f0, f1, f2, f3, f4⟩ := q4; go_simp) (fun K hK => ?_)
    go_simp
    refine hK _ ?_
    clear hK K
    refine seqH_take (.pointer (some ⟨g, 0, none⟩)) rfl rfl (fun W4 q4 => by obtain ⟨f0, f1, f2, f3, f4⟩ := q4; go_simp) (fun K hK => ?_)
    go_simp
    refine hK _ ?_
    clear hK K
    refine seqH_loud rfl (fun K hK => ?_)
    gi_wp2
    refine CallsIn.mono (HCV.out _ _ HI4.out.2.1.old.drew) ?_
    rintro e w5 ⟨rfl, q5⟩
    have HIV : Hid (Owns own own3 w w5 ∧ WrI w0 b (.iface vt vd) (l ++ V.ahead z) own3 w5 ∧ WSeen b N vt vd 149 g ss d (u8 c) w5 ∧ N < w5.heap.size ∧ ¬ own3 N) := by
      have q5' := Keeps.trans ((Keeps.refl noB w4).drew) q5
      obtain ⟨h1, h2, h3, h4, h5, _⟩ := HI4.out
      exact ⟨h1.ahead q5' (fun _ e => e.elim), h2.quiet q5', h3.quiet q5' h2.blt h4 (Nat.lt_of_lt_of_le hgl h2.old.size), Nat.lt_of_lt_of_le h4 q5'.size, h5⟩
    clear q5 hmv
    gi_wp2
    refine hK _ _ HIV.out.2.2.1 ?_
    clear hK K
    refine seqH_loud rfl (fun K hK => ?_)
    gi_wp2
    refine CallsIn.mono (HWU.out _ _ _ HIV.out.2.1) ?_
    rintro e w6 ⟨rfl, own5, o6, i6⟩
    have HI5 : Hid (Owns own own5 w w6 ∧ WrI w0 b (.iface vt vd) ((l ++ V.ahead z) ++ V.value z) own5 w6 ∧ WSeen b N vt vd 149 g ss d (u8 c) w6) := by
      obtain ⟨h1, h2, h3, h4, h5⟩ := HIV.out
      exact ⟨h1.trans o6, i6, h3.owns h2 o6 i6 ⟨h5, h4⟩ hgl⟩
    clear o6 i6
    gi_wp2
    refine hK _ _ HI5.out.2.2 ?_
    clear hK K
    simp only [wpSeqH, noPanic]
    gi_wp2
    refine leaves_marks [] _ List.nodup_nil (fun _ h => by cases h) (fun W' q _ => ?_)
    refine ⟨_, results_none rfl _ _ _, rfl, own5, HI5.out.1.ahead q (fun _ e => by cases e), ?_⟩
    rw [HT.out]
    exact HI5.out.2.1.quiet (q.mono (fun _ e => by cases e))


end Go.Proofs.Ytccpmhjffcceeaa

namespace Go.Proofs.Ytccpmhjffcceeaa
set_option linter.unusedVariables false
set_option linter.unusedSimpArgs false
open Go.RowKit

set_option maxRecDepth 100000 in
set_option maxHeartbeats 4000000 in
theorem wstep_leave {w0 : World} {ok : Nat → Prop} {V : Vis} {S : Nd → Prop} {vt : TypeId} {vd : Value} {s : ByteArray} (H : WEnv w0 ok V S vt vd s) {b : Nat} (c : UInt8) (k e : Nat) (vs ar : List UInt8) (hc : c = 94 ∨ c = 33) (hz : S (Nd.mk c k e vs ar .nil)) (hlen : (Nd.mk c k e vs ar .nil).pre.len ≤ 200) :
    StepW w0 ok V (.iface vt vd) b s (Nd.mk c k e vs ar .nil) := by
  intro d v l own w hok hr hw hl
  obtain ⟨z, hzz⟩ : ∃ z, z = Nd.mk c k e vs ar .nil := ⟨_, rfl⟩
  rw [← hzz] at hz hlen hok hr hl ⊢
  have hzs : z.scope = ar := by rw [hzz]; rfl
  obtain ⟨g, hgo, rfl, hblk⟩ := (by rw [hzz] at hr; exact RepI.leave hc hr : ∃ g, ok g ∧ v = .iface 178 (ptr g) ∧ Blk w0 g #[i64 k, i64 e, u8 c] 181)
  have hgl : g < w0.heap.size := H.lt g hgo
  have hsh := H.short z hz
  have hgW := fun (W : World) (q : Keeps noB w0 W) => (q.cell (p := ⟨g, 2, none⟩) hgl id).trans (hblk.cell 2)
  refine (callsIn_wide (n := 9)).1 ?_
  obtain ⟨F, hF⟩ : ∃ F, F = Fence.wide := ⟨_, rfl⟩
  have hFf : ∀ f, F.fn f := by subst hF; exact fun _ => trivial
  have hdd : ∀ k : Nat, (F.depth.isSome = true → 1 ≤ k) := by subst hF; intro k h; simp [Fence.wide] at h
  have hro : F.round = none := by subst hF; rfl
  have hds : F.depth.isSome = false := by subst hF; rfl
  obtain ⟨kk, rk, hmk, hck⟩ := H.vis.keeps
  obtain ⟨ka, ra, hma, hca⟩ := H.vis.ahead
  obtain ⟨kv, rv, hmv, hcv⟩ := H.vis.value
  have HMK := Lib.hid hmk
  have HMA := Lib.hid hma
  have HMV := Lib.hid hmv
  obtain ⟨A, hA⟩ : ∃ A : ByteArray, A = ⟨(V.ahead z).toArray⟩ := ⟨_, rfl⟩
  obtain ⟨U, hU⟩ : ∃ U : ByteArray, U = ⟨(V.value z).toArray⟩ := ⟨_, rfl⟩
  have hAz : A.size = (V.ahead z).length := by rw [hA]; exact bytes_size _
  have hUz : U.size = (V.value z).length := by rw [hU]; exact bytes_size _
  have hAl : A.size ≤ 200 := by rw [hAz]; exact hsh.ahead
  have hUl : U.size ≤ 200 := by rw [hUz]; exact hsh.value
  have hAL : A.data.toList = V.ahead z := by rw [hA]
  have hUL : U.data.toList = V.value z := by rw [hU]
  obtain ⟨bk, hbk⟩ : ∃ bk, V.keeps z = bk := ⟨_, rfl⟩
  obtain ⟨ss, hss⟩ : ∃ ss : ByteArray, str z.scope = .string ss := ⟨_, rfl⟩
  have hpv : placeV (.iface 178 (ptr g)) z.scope d = .agg #[.iface 178 (.pointer (some ⟨g, 0, none⟩)), .string ss, .int .i64 (d : Int)] := by unfold placeV; rw [hss]; rfl
  rw [hpv]
  have HCK : Hid (∀ n W, Keeps noB w0 W → CallsIn F n Try.prog kk #[rk, .agg #[.iface 178 (.pointer (some ⟨g, 0, none⟩)), .string ss, .int .i64 (d : Int)]] W (fun e w' => e = .returned (.bool bk) ∧ Keeps noB W w')) := fun n W q => by rw [hF, ← hpv, ← hbk]; exact callsIn_wide.2 (hck z d _ W hz hr q)
  have HCA : Hid (∀ n W, Keeps noB w0 W → CallsIn F n Try.prog ka #[ra, .agg #[.iface 178 (.pointer (some ⟨g, 0, none⟩)), .string ss, .int .i64 (d : Int)]] W (fun e w' => e = .returned (.string A) ∧ Keeps noB W w')) := fun n W q => by rw [hF, ← hpv, hA]; exact callsIn_wide.2 (hca z d _ W hz hr q)
  have hl2 : (l ++ V.ahead z).length ≤ 10000500 := by rw [List.length_append, ← hAz]; omega
  have HWB : Hid (∀ n own W, WrI w0 b (.iface vt vd) (l ++ V.ahead z) own W → CallsIn F n Try.prog 122 #[.pointer (some ⟨b, 0, none⟩), u8 c] W (WrPost w0 b (.iface vt vd) W own ((l ++ V.ahead z) ++ [c]) .nilIface)) := fun n own W h => by
    rw [hF]; exact callsIn_wide.2 (wbyte_any c h (by omega))
  have HWA : Hid (∀ n W, WrI w0 b (.iface vt vd) l own W → CallsIn F n Try.prog 121 #[.pointer (some ⟨b, 0, none⟩), .string A] W (WrPost w0 b (.iface vt vd) W own (l ++ V.ahead z) (.tuple #[.int .i64 (A.size : Int), .nilIface]))) := fun n W h => by
    rw [hF, ← hAL]; exact callsIn_wide.2 (wstr_any A h (by omega))
  have HKI : Hid (∀ n W, Keeps noB w0 W → CallsIn F n Try.prog 92 #[.agg #[.iface 178 (.pointer (some ⟨g, 0, none⟩)), .string ss, .int .i64 (d : Int)]] W (fun e w' => ∃ a m, e = .returned (.slice a z.bodies.kids.length m) ∧ z.bodies.kids.length ≤ m ∧ (m = 0 → a = none ∨ ∃ g, a = some ⟨g, 0, none⟩) ∧ (0 < m → ∃ g, a = some ⟨g, 0, none⟩) ∧ Keeps noB W w' ∧ ∀ own, (∀ k, own k → k < W.heap.size) → KidsAt w0 ok (inD z.kind d) z.bodies.kids own w' a)) := fun n W q => by
    rw [hF, ← hpv]; exact callsIn_wide.2 (H.kids hok hlen hr W q)
  have hN := Blk.new w #[.iface 178 (.pointer (some ⟨g, 0, none⟩)), .string ss, .int .i64 (d : Int)] 48
  obtain ⟨wN, hwN⟩ : ∃ wN, wN = w.alloc (.cells #[.iface 178 (.pointer (some ⟨g, 0, none⟩)), .string ss, .int .i64 (d : Int)] 48) := ⟨_, rfl⟩
  have q0 : Keeps noB w wN := by rw [hwN]; exact (Keeps.refl _ _).alloc _
  have hNs : wN.heap.size = w.heap.size + 1 := by rw [hwN]; simp
  rw [← hwN] at hN
  have hwI := hw.quiet q0
  have hNo : ¬ own w.heap.size := fun e => by have := hw.lt _ e; omega
  have hbw := hw.blt
  have hgw : g < w.heap.size := Nat.lt_of_lt_of_le hgl hw.old.size
  have ho0 : Owns own own w wN := ⟨fun k e => .inl e, fun k e => by have := hw.lt k e; omega, q0.mono (fun _ e => e.elim)⟩
  have hseen : WSeen b w.heap.size vt vd 178 g ss d (u8 c) wN := ⟨hwI.vis, (hN.cell 0).trans rfl, (hN.cell 1).trans rfl, (hN.cell 2).trans rfl, (hgW _ hwI.old)⟩
  have HN := Lib.hid (And.intro hNs (And.intro hNo (And.intro hbw hgw)))
  have HI0 := Lib.hid (And.intro ho0 (And.intro hwI hseen))
  rw [← hF]
  have HF := Lib.hid hF
  have hneN : ¬ b = w.heap.size := by omega
  clear hF H hsh hgW hmk hma hmv hck hca hcv hA hU hAz hUz hss hpv hok hr hw hl hz hblk hN q0 hwI hNo ho0 hseen hNs
  clear hl2
  refine callsIn_of_wp_marks Try.func83 rfl (hFf _) ?_ hro
  simp only [Try.ntmps83, List.size_toArray, List.length_cons, List.length_nil, Nat.reduceAdd, Nat.reduceSub, Array.replicate_succ, Array.replicate_zero, List.push_toArray, List.append_toArray, List.nil_append, List.cons_append]
  have hmk := HMK.out
  simp [go_sem] at hmk
  gi_wp2
  rw [← hwN]
  clear hwN
  obtain ⟨N, hNN⟩ : ∃ N, N = w.heap.size := ⟨_, rfl⟩
  rw [← hNN] at HN HI0 hneN ⊢
  clear hNN
  refine wpIn_region_seqP (WSeen b N vt vd 178 g ss d (u8 c)) [(0, true), (1, true), (2, true), (3, true), (4, true), (5, false), (6, true)] hro hFf (by kernel_rfl) (by kernel_rfl) (by kernel_rfl) rfl (by kernel_rfl) (HI0.out.2.2.quiet ((Keeps.refl noB wN).drew) HI0.out.2.1.blt (by have := HN.out; omega) (by have := HN.out; omega)) ?_
  refine seqH_take (.pointer (some ⟨b, 0, none⟩)) rfl rfl (fun W4 q4 => by obtain ⟨f0, f1, f2, f3, f4⟩ := q4; go_simp) (fun K hK => ?_)
  go_simp
  refine hK _ ?_
  clear hK K
  refine seqH_take (.pointer (some ⟨b, 0, none⟩)) rfl rfl (fun W4 q4 => by obtain ⟨f0, f1, f2, f3, f4⟩ := q4; go_simp) (fun K hK => ?_)
  go_simp
  refine hK _ ?_
  clear hK K
  refine seqH_take (.pointer (some ⟨b, 2, none⟩)) rfl rfl (fun W4 q4 => by obtain ⟨f0, f1, f2, f3, f4⟩ := q4; go_simp) (fun K hK => ?_)
  go_simp
  refine hK _ ?_
  clear hK K
  refine seqH_take (.iface vt vd) rfl rfl (fun W4 q4 => by obtain ⟨f0, f1, f2, f3, f4⟩ := q4; go_simp) (fun K hK => ?_)
  go_simp
  refine hK _ ?_
  clear hK K
  refine seqH_take (.agg #[.iface 178 (.pointer (some ⟨g, 0, none⟩)), .string ss, .int .i64 (d : Int)]) rfl rfl (fun W4 q4 => by obtain ⟨f0, f1, f2, f3, f4⟩ := q4; go_simp) (fun K hK => ?_)
  go_simp
  refine hK _ ?_
  clear hK K
  refine seqH_loud rfl (fun K hK => ?_)
  gi_wp2
  refine CallsIn.mono (HCK.out _ _ HI0.out.2.1.old.drew) ?_
  rintro e w1 ⟨rfl, q1⟩
  have HI1 : Hid (Owns own own w w1 ∧ WrI w0 b (.iface vt vd) l own w1 ∧ WSeen b N vt vd 178 g ss d (u8 c) w1 ∧ N < w1.heap.size) := by
    have q1' := Keeps.trans ((Keeps.refl noB wN).drew) q1
    obtain ⟨h1, h2, h3⟩ := HI0.out
    obtain ⟨h4, h5, h6, h7⟩ := HN.out
    exact ⟨h1.ahead q1' (fun _ e => e.elim), h2.quiet q1', h3.quiet q1' h2.blt (by omega) (by omega), by have := q1'.size; omega⟩
  clear q1 hmk
  gi_wp2
  refine hK _ _ HI1.out.2.2.1 ?_
  clear hK K
  refine seqH_take (.bool (!bk)) rfl rfl (fun W4 q4 => by obtain ⟨f0, f1, f2, f3, f4⟩ := q4; go_simp) (fun K hK => ?_)
  go_simp
  refine hK _ ?_
  clear hK K
  simp only [wpSeqH, noPanic]
  cases bk with
  | false =>
    have HE : Hid (l ++ z.wr V = l) := Lib.hid (by rw [hzz] at hbk ⊢; simp only [Nd.wr, hbk]; simp)
    gi_wp2
    refine leaves_marks [] _ List.nodup_nil (fun _ h => by cases h) (fun W' q _ => ?_)
    refine ⟨_, results_none rfl _ _ _, rfl, own, HI1.out.1.ahead q (fun _ e => by cases e), ?_⟩
    rw [HE.out]
    exact HI1.out.2.1.quiet (q.mono (fun _ e => by cases e))
  | true =>
    have HT : Hid (l ++ z.wr V = (l ++ V.ahead z) ++ ([c])) := Lib.hid (by rw [hzz] at hbk ⊢; simp only [Nd.wr, hbk]; simp [hc, hzz])
    have hma := HMA.out
    simp [go_sem] at hma
    gi_wp2
    refine wpIn_region_seqP (WSeen b N vt vd 178 g ss d (u8 c)) [(0, true), (1, true), (2, true), (3, true), (4, true), (5, true), (6, true), (7, true), (8, false), (9, false)] hro hFf (by kernel_rfl) (by kernel_rfl) (by kernel_rfl) rfl (by kernel_rfl) (HI1.out.2.2.1.quiet ((Keeps.refl noB w1).drew) HI1.out.2.1.blt HI1.out.2.2.2 (Nat.lt_of_lt_of_le hgl HI1.out.2.1.old.size)) ?_
    refine seqH_take (.pointer (some ⟨b, 0, none⟩)) rfl rfl (fun W4 q4 => by obtain ⟨f0, f1, f2, f3, f4⟩ := q4; go_simp) (fun K hK => ?_)
    go_simp
    refine hK _ ?_
    clear hK K
    refine seqH_take (.pointer (some ⟨b, 0, none⟩)) rfl rfl (fun W4 q4 => by obtain ⟨f0, f1, f2, f3, f4⟩ := q4; go_simp) (fun K hK => ?_)
    go_simp
    refine hK _ ?_
    clear hK K
    refine seqH_take (.pointer (some ⟨b, 0, none⟩)) rfl rfl (fun W4 q4 => by obtain ⟨f0, f1, f2, f3, f4⟩ := q4; go_simp) (fun K hK => ?_)
    go_simp
    refine hK _ ?_
    clear hK K
    refine seqH_take (.pointer (some ⟨b, 0, none⟩)) rfl rfl (fun W4 q4 => by obtain ⟨f0, f1, f2, f3, f4⟩ := q4; go_simp) (fun K hK => ?_)
    go_simp
    refine hK _ ?_
    clear hK K
    refine seqH_take (.pointer (some ⟨b, 0, none⟩)) rfl rfl (fun W4 q4 => by obtain ⟨f0, f1, f2, f3, f4⟩ := q4; go_simp) (fun K hK => ?_)
    go_simp
    refine hK _ ?_
    clear hK K
    refine seqH_take (.pointer (some ⟨b, 2, none⟩)) rfl rfl (fun W4 q4 => by obtain ⟨f0, f1, f2, f3, f4⟩ := q4; go_simp) (fun K hK => ?_)
    go_simp
    refine hK _ ?_
    clear hK K
    refine seqH_take (.iface vt vd) rfl rfl (fun W4 q4 => by obtain ⟨f0, f1, f2, f3, f4⟩ := q4; go_simp) (fun K hK => ?_)
    go_simp
    refine hK _ ?_
    clear hK K
    refine seqH_take (.agg #[.iface 178 (.pointer (some ⟨g, 0, none⟩)), .string ss, .int .i64 (d : Int)]) rfl rfl (fun W4 q4 => by obtain ⟨f0, f1, f2, f3, f4⟩ := q4; go_simp) (fun K hK => ?_)
    go_simp
    refine hK _ ?_
    clear hK K
    refine seqH_loud rfl (fun K hK => ?_)
    gi_wp2
    refine CallsIn.mono (HCA.out _ _ HI1.out.2.1.old.drew) ?_
    rintro e w2 ⟨rfl, q2⟩
    have HI2 : Hid (Owns own own w w2 ∧ WrI w0 b (.iface vt vd) l own w2 ∧ WSeen b N vt vd 178 g ss d (u8 c) w2 ∧ N < w2.heap.size) := by
      have q2' := Keeps.trans ((Keeps.refl noB w1).drew) q2
      obtain ⟨h1, h2, h3, h4⟩ := HI1.out
      exact ⟨h1.ahead q2' (fun _ e => e.elim), h2.quiet q2', h3.quiet q2' h2.blt h4 (Nat.lt_of_lt_of_le hgl h2.old.size), Nat.lt_of_lt_of_le h4 q2'.size⟩
    clear q2 hma
    gi_wp2
    refine hK _ _ HI2.out.2.2.1 ?_
    clear hK K
    refine seqH_loud rfl (fun K hK => ?_)
    gi_wp2
    refine CallsIn.mono (HWA.out _ _ HI2.out.2.1) ?_
    rintro e w3 ⟨rfl, own3, o3, i3⟩
    have HI3 : Hid (Owns own own3 w w3 ∧ WrI w0 b (.iface vt vd) (l ++ V.ahead z) own3 w3 ∧ WSeen b N vt vd 178 g ss d (u8 c) w3 ∧ N < w3.heap.size ∧ ¬ own3 N) := by
      obtain ⟨h1, h2, h3, h4⟩ := HI2.out
      have hno : ¬ own N := HN.out.2.1
      exact ⟨h1.trans o3, i3, h3.owns h2 o3 i3 ⟨hno, h4⟩ hgl, Nat.lt_of_lt_of_le h4 o3.keeps.size, fun e => (o3.more N e).elim hno (fun e => by omega)⟩
    clear o3 i3
    gi_wp2
    refine hK _ _ HI3.out.2.2.1 ?_
    clear hK K
    simp only [wpSeqH, noPanic]
    obtain ⟨n0, n1, n2⟩ := (⟨HI3.out.2.2.1.n0, HI3.out.2.2.1.n1, HI3.out.2.2.1.n2⟩ : _ ∧ _ ∧ _)
    gi_wp2
    refine CallsIn.mono (HKI.out _ _ HI3.out.2.1.old) ?_
    rintro e w4 ⟨a, m, rfl, hkm, hm0, hm1, q4, hka⟩
    have HI4 : Hid (Owns own own3 w w4 ∧ WrI w0 b (.iface vt vd) (l ++ V.ahead z) own3 w4 ∧ WSeen b N vt vd 178 g ss d (u8 c) w4 ∧ N < w4.heap.size ∧ ¬ own3 N ∧ KidsAt w0 ok (inD z.kind d) z.bodies.kids own3 w4 a ∧ z.bodies.kids.length ≤ m ∧ (m = 0 → a = none ∨ ∃ g, a = some ⟨g, 0, none⟩) ∧ (0 < m → ∃ g, a = some ⟨g, 0, none⟩)) := by
      obtain ⟨h1, h2, h3, h4, h5⟩ := HI3.out
      exact ⟨h1.ahead q4 (fun _ e => e.elim), h2.quiet q4, h3.quiet q4 h2.blt h4 (Nat.lt_of_lt_of_le hgl h2.old.size), Nat.lt_of_lt_of_le h4 q4.size, h5, hka own3 h2.lt, hkm, hm0, hm1⟩
    clear q4 hka hkm hm0 hm1 n0 n1 n2
    have n0 := HI4.out.2.2.1.n0
    have g2 := HI4.out.2.2.1.g2
    have a0 := isLV (.pointer (some ⟨g, 0, none⟩))
    have a1 := isLL (.pointer (some ⟨g, 0, none⟩))
    generalize z.bodies.kids.length = kn at *
    gi_wp2
    refine wpIn_region_seqP (WSeen b N vt vd 178 g ss d (u8 c)) [(0, true), (1, true), (2, true), (3, true), (4, true), (5, true), (6, true), (7, false)] hro hFf (by kernel_rfl) (by kernel_rfl) (by kernel_rfl) rfl (by kernel_rfl) (HI4.out.2.2.1.quiet ((Keeps.refl noB w4).drew) HI4.out.2.1.blt HI4.out.2.2.2.1 (Nat.lt_of_lt_of_le hgl HI4.out.2.1.old.size)) ?_
    refine seqH_take (.pointer (some ⟨b, 0, none⟩)) rfl rfl (fun W4 q4 => by obtain ⟨f0, f1, f2, f3, f4⟩ := q4; go_simp) (fun K hK => ?_)
    go_simp
    refine hK _ ?_
    clear hK K
    refine seqH_take (.pointer (some ⟨b, 0, none⟩)) rfl rfl (fun W4 q4 => by obtain ⟨f0, f1, f2, f3, f4⟩ := q4; go_simp) (fun K hK => ?_)
    go_simp
    refine hK _ ?_
    clear hK K
    refine seqH_take (.pointer (some ⟨b, 0, none⟩)) rfl rfl (fun W4 q4 => by obtain ⟨f0, f1, f2, f3, f4⟩ := q4; go_simp) (fun K hK => ?_)
    go_simp
    refine hK _ ?_
    clear hK K
    refine seqH_take (.pointer (some ⟨g, 0, none⟩)) rfl rfl (fun W4 q4 => by obtain ⟨f0, f1, f2, f3, f4⟩ := q4; go_simp) (fun K hK => ?_)
    go_simp
    refine hK _ ?_
    clear hK K
    refine seqH_take (.pointer (some ⟨g, 0, none⟩)) rfl rfl (fun W4 q4 => by obtain ⟨f0, f1, f2, f3, f4⟩ := q4; go_simp) (fun K hK => ?_)
    go_simp
    refine hK _ ?_
    clear hK K
    refine seqH_take (.pointer (some ⟨g, 2, none⟩)) rfl rfl (fun W4 q4 => by obtain ⟨f0, f1, f2, f3, f4⟩ := q4; go_simp) (fun K hK => ?_)
    go_simp
    refine hK _ ?_
    clear hK K
    refine seqH_take (u8 c) rfl rfl (fun W4 q4 => by obtain ⟨f0, f1, f2, f3, f4⟩ := q4; go_simp) (fun K hK => ?_)
    go_simp
    refine hK _ ?_
    clear hK K
    refine seqH_loud rfl (fun K hK => ?_)
    gi_wp2
    refine CallsIn.mono (HWB.out _ _ _ HI4.out.2.1.drew) ?_
    rintro e w5 ⟨rfl, own5, o5, i5⟩
    have HI5 : Hid (Owns own own5 w w5 ∧ WrI w0 b (.iface vt vd) ((l ++ V.ahead z) ++ [c]) own5 w5 ∧ WSeen b N vt vd 178 g ss d (u8 c) w5) := by
      have qd := (Keeps.refl noB w4).drew
      obtain ⟨h1, h2, h3, h4, h5, _⟩ := HI4.out
      have o5' := Owns.behind qd o5
      exact ⟨h1.trans o5', i5, h3.owns h2 o5' i5 ⟨h5, h4⟩ hgl⟩
    clear o5 i5
    gi_wp2
    refine hK _ _ HI5.out.2.2 ?_
    clear hK K
    simp only [wpSeqH, noPanic]
    gi_wp2
    refine leaves_marks [] _ List.nodup_nil (fun _ h => by cases h) (fun W' q _ => ?_)
    refine ⟨_, results_none rfl _ _ _, rfl, own5, HI5.out.1.ahead q (fun _ e => by cases e), ?_⟩
    rw [HT.out]
    exact HI5.out.2.1.quiet (q.mono (fun _ e => by cases e))


end Go.Proofs.Ytccpmhjffcceeaa

namespace Go.Proofs.Ytccpmhjffcceeaa
set_option linter.unusedVariables false
set_option linter.unusedSimpArgs false
open Go.RowKit

set_option maxRecDepth 100000 in
set_option maxHeartbeats 4000000 in
theorem wstep_loop {w0 : World} {ok : Nat → Prop} {V : Vis} {S : Nd → Prop} {vt : TypeId} {vd : Value} {s : ByteArray} (H : WEnv w0 ok V S vt vd s) {b : Nat} (k e : Nat) (vs ar : List UInt8) (y : Nds) (hS : ∀ d, (Nd.mk 42 k e vs ar (.cons y .nil)).Ok s d → StepsC w0 ok V (.iface vt vd) b (inD (Nd.mk 42 k e vs ar (.cons y .nil)).kind d) (Nd.mk 42 k e vs ar (.cons y .nil)).bodies.kids) (hW : (wrL V (Nd.mk 42 k e vs ar (.cons y .nil)).bodies.kids).length ≤ 1000 * lenL (Nd.mk 42 k e vs ar (.cons y .nil)).bodies.kids) (hz : S (Nd.mk 42 k e vs ar (.cons y .nil))) (hlen : (Nd.mk 42 k e vs ar (.cons y .nil)).pre.len ≤ 200) :
    StepW w0 ok V (.iface vt vd) b s (Nd.mk 42 k e vs ar (.cons y .nil)) := by
  intro d v l own w hok hr hw hl
  obtain ⟨z, hzz⟩ : ∃ z, z = Nd.mk 42 k e vs ar (.cons y .nil) := ⟨_, rfl⟩
  rw [← hzz] at hz hlen hok hr hl ⊢
  have hzs : z.scope = ar := by rw [hzz]; rfl
  obtain ⟨g, hgo, rfl, vx, hblk⟩ := (by rw [hzz] at hr; exact RepI.loop hr : ∃ g, ok g ∧ v = .iface 69 (ptr g) ∧ ∃ vx, Blk w0 g #[i64 k, i64 e, vx] 192)
  have hgl : g < w0.heap.size := H.lt g hgo
  have hsh := H.short z hz
  have hgW := fun (W : World) (q : Keeps noB w0 W) => (q.cell (p := ⟨g, 2, none⟩) hgl id).trans (hblk.cell 2)
  refine (callsIn_wide (n := 9)).1 ?_
  obtain ⟨F, hF⟩ : ∃ F, F = Fence.wide := ⟨_, rfl⟩
  have hFf : ∀ f, F.fn f := by subst hF; exact fun _ => trivial
  have hdd : ∀ k : Nat, (F.depth.isSome = true → 1 ≤ k) := by subst hF; intro k h; simp [Fence.wide] at h
  have hro : F.round = none := by subst hF; rfl
  have hds : F.depth.isSome = false := by subst hF; rfl
  obtain ⟨kk, rk, hmk, hck⟩ := H.vis.keeps
  obtain ⟨ka, ra, hma, hca⟩ := H.vis.ahead
  obtain ⟨kv, rv, hmv, hcv⟩ := H.vis.value
  have HMK := Lib.hid hmk
  have HMA := Lib.hid hma
  have HMV := Lib.hid hmv
  obtain ⟨A, hA⟩ : ∃ A : ByteArray, A = ⟨(V.ahead z).toArray⟩ := ⟨_, rfl⟩
  obtain ⟨U, hU⟩ : ∃ U : ByteArray, U = ⟨(V.value z).toArray⟩ := ⟨_, rfl⟩
  have hAz : A.size = (V.ahead z).length := by rw [hA]; exact bytes_size _
  have hUz : U.size = (V.value z).length := by rw [hU]; exact bytes_size _
  have hAl : A.size ≤ 200 := by rw [hAz]; exact hsh.ahead
  have hUl : U.size ≤ 200 := by rw [hUz]; exact hsh.value
  have hAL : A.data.toList = V.ahead z := by rw [hA]
  have hUL : U.data.toList = V.value z := by rw [hU]
  obtain ⟨bk, hbk⟩ : ∃ bk, V.keeps z = bk := ⟨_, rfl⟩
  obtain ⟨ss, hss⟩ : ∃ ss : ByteArray, str z.scope = .string ss := ⟨_, rfl⟩
  have hpv : placeV (.iface 69 (ptr g)) z.scope d = .agg #[.iface 69 (.pointer (some ⟨g, 0, none⟩)), .string ss, .int .i64 (d : Int)] := by unfold placeV; rw [hss]; rfl
  rw [hpv]
  have HCK : Hid (∀ n W, Keeps noB w0 W → CallsIn F n Try.prog kk #[rk, .agg #[.iface 69 (.pointer (some ⟨g, 0, none⟩)), .string ss, .int .i64 (d : Int)]] W (fun e w' => e = .returned (.bool bk) ∧ Keeps noB W w')) := fun n W q => by rw [hF, ← hpv, ← hbk]; exact callsIn_wide.2 (hck z d _ W hz hr q)
  have HCA : Hid (∀ n W, Keeps noB w0 W → CallsIn F n Try.prog ka #[ra, .agg #[.iface 69 (.pointer (some ⟨g, 0, none⟩)), .string ss, .int .i64 (d : Int)]] W (fun e w' => e = .returned (.string A) ∧ Keeps noB W w')) := fun n W q => by rw [hF, ← hpv, hA]; exact callsIn_wide.2 (hca z d _ W hz hr q)
  have hSz : StepsC w0 ok V (.iface vt vd) b (inD z.kind d) z.bodies.kids := by rw [hzz] at hok ⊢; exact hS d hok
  have hWz : (wrL V z.bodies.kids).length ≤ 1000 * lenL z.bodies.kids := by rw [hzz]; exact hW
  have hzl : z.pre.len = lenL z.bodies.kids + 1 := by rw [hzz]; simp only [Nd.pre, Bds.pre, Nds.len, Nds.len_app, Nd.bodies, kids_one, lenL_nds]
  have hl2 : (l ++ V.ahead z).length ≤ l.length + 200 := by rw [List.length_append, ← hAz]; omega
  have HWB : Hid (∀ n own W, WrI w0 b (.iface vt vd) (l ++ V.ahead z) own W → CallsIn F n Try.prog 122 #[.pointer (some ⟨b, 0, none⟩), .int .u8 42] W (WrPost w0 b (.iface vt vd) W own ((l ++ V.ahead z) ++ [42]) .nilIface)) := fun n own W h => by
    rw [hF]; exact callsIn_wide.2 (wbyte_any 42 h (by omega))
  have HBR : Hid (∀ n own W a m, WrI w0 b (.iface vt vd) ((l ++ V.ahead z) ++ [42]) own W → KidsAt w0 ok (inD z.kind d) z.bodies.kids own W a → CallsIn F n Try.prog 123 #[.pointer (some ⟨b, 0, none⟩), .slice a z.bodies.kids.length m] W (WrPost w0 b (.iface vt vd) W own (((l ++ V.ahead z) ++ [42]) ++ ([91] ++ wrL V z.bodies.kids ++ [93])) (.tuple #[]))) := fun n own W a m h hk => by
    rw [hF]; exact callsIn_wide.2 (wbracket_any hSz hWz _ own W a m h (by rw [List.length_append]; simp only [List.length_cons, List.length_nil]; omega) hk)
  have HWA : Hid (∀ n W, WrI w0 b (.iface vt vd) l own W → CallsIn F n Try.prog 121 #[.pointer (some ⟨b, 0, none⟩), .string A] W (WrPost w0 b (.iface vt vd) W own (l ++ V.ahead z) (.tuple #[.int .i64 (A.size : Int), .nilIface]))) := fun n W h => by
    rw [hF, ← hAL]; exact callsIn_wide.2 (wstr_any A h (by omega))
  have HKI : Hid (∀ n W, Keeps noB w0 W → CallsIn F n Try.prog 92 #[.agg #[.iface 69 (.pointer (some ⟨g, 0, none⟩)), .string ss, .int .i64 (d : Int)]] W (fun e w' => ∃ a m, e = .returned (.slice a z.bodies.kids.length m) ∧ z.bodies.kids.length ≤ m ∧ (m = 0 → a = none ∨ ∃ g, a = some ⟨g, 0, none⟩) ∧ (0 < m → ∃ g, a = some ⟨g, 0, none⟩) ∧ Keeps noB W w' ∧ ∀ own, (∀ k, own k → k < W.heap.size) → KidsAt w0 ok (inD z.kind d) z.bodies.kids own w' a)) := fun n W q => by
    rw [hF, ← hpv]; exact callsIn_wide.2 (H.kids hok hlen hr W q)
  have hN := Blk.new w #[.iface 69 (.pointer (some ⟨g, 0, none⟩)), .string ss, .int .i64 (d : Int)] 48
  obtain ⟨wN, hwN⟩ : ∃ wN, wN = w.alloc (.cells #[.iface 69 (.pointer (some ⟨g, 0, none⟩)), .string ss, .int .i64 (d : Int)] 48) := ⟨_, rfl⟩
  have q0 : Keeps noB w wN := by rw [hwN]; exact (Keeps.refl _ _).alloc _
  have hNs : wN.heap.size = w.heap.size + 1 := by rw [hwN]; simp
  rw [← hwN] at hN
  have hwI := hw.quiet q0
  have hNo : ¬ own w.heap.size := fun e => by have := hw.lt _ e; omega
  have hbw := hw.blt
  have hgw : g < w.heap.size := Nat.lt_of_lt_of_le hgl hw.old.size
  have ho0 : Owns own own w wN := ⟨fun k e => .inl e, fun k e => by have := hw.lt k e; omega, q0.mono (fun _ e => e.elim)⟩
  have hseen : WSeen b w.heap.size vt vd 69 g ss d vx wN := ⟨hwI.vis, (hN.cell 0).trans rfl, (hN.cell 1).trans rfl, (hN.cell 2).trans rfl, (hgW _ hwI.old)⟩
  have HN := Lib.hid (And.intro hNs (And.intro hNo (And.intro hbw hgw)))
  have HI0 := Lib.hid (And.intro ho0 (And.intro hwI hseen))
  rw [← hF]
  have HF := Lib.hid hF
  have hneN : ¬ b = w.heap.size := by omega
  clear hF H hsh hgW hmk hma hmv hck hca hcv hA hU hAz hUz hss hpv hok hr hw hl hz hblk hN q0 hwI hNo ho0 hseen hNs
  clear hl2 hSz hWz hzl hS hW
  refine callsIn_of_wp_marks Try.func83 rfl (hFf _) ?_ hro
  simp only [Try.ntmps83, List.size_toArray, List.length_cons, List.length_nil, Nat.reduceAdd, Nat.reduceSub, Array.replicate_succ, Array.replicate_zero, List.push_toArray, List.append_toArray, List.nil_append, List.cons_append]
  have hmk := HMK.out
  simp [go_sem] at hmk
  gi_wp2
  rw [← hwN]
  clear hwN
  obtain ⟨N, hNN⟩ : ∃ N, N = w.heap.size := ⟨_, rfl⟩
  rw [← hNN] at HN HI0 hneN ⊢
  clear hNN
  refine wpIn_region_seqP (WSeen b N vt vd 69 g ss d vx) [(0, true), (1, true), (2, true), (3, true), (4, true), (5, false), (6, true)] hro hFf (by kernel_rfl) (by kernel_rfl) (by kernel_rfl) rfl (by kernel_rfl) (HI0.out.2.2.quiet ((Keeps.refl noB wN).drew) HI0.out.2.1.blt (by have := HN.out; omega) (by have := HN.out; omega)) ?_
  refine seqH_take (.pointer (some ⟨b, 0, none⟩)) rfl rfl (fun W4 q4 => by obtain ⟨f0, f1, f2, f3, f4⟩ := q4; go_simp) (fun K hK => ?_)
  go_simp
  refine hK _ ?_
  clear hK K
  refine seqH_take (.pointer (some ⟨b, 0, none⟩)) rfl rfl (fun W4 q4 => by obtain ⟨f0, f1, f2, f3, f4⟩ := q4; go_simp) (fun K hK => ?_)
  go_simp
  refine hK _ ?_
  clear hK K
  refine seqH_take (.pointer (some ⟨b, 2, none⟩)) rfl rfl (fun W4 q4 => by obtain ⟨f0, f1, f2, f3, f4⟩ := q4; go_simp) (fun K hK => ?_)
  go_simp
  refine hK _ ?_
  clear hK K
  refine seqH_take (.iface vt vd) rfl rfl (fun W4 q4 => by obtain ⟨f0, f1, f2, f3, f4⟩ := q4; go_simp) (fun K hK => ?_)
  go_simp
  refine hK _ ?_
  clear hK K
  refine seqH_take (.agg #[.iface 69 (.pointer (some ⟨g, 0, none⟩)), .string ss, .int .i64 (d : Int)]) rfl rfl (fun W4 q4 => by obtain ⟨f0, f1, f2, f3, f4⟩ := q4; go_simp) (fun K hK => ?_)
  go_simp
  refine hK _ ?_
  clear hK K
  refine seqH_loud rfl (fun K hK => ?_)
  gi_wp2
  refine CallsIn.mono (HCK.out _ _ HI0.out.2.1.old.drew) ?_
  rintro e w1 ⟨rfl, q1⟩
  have HI1 : Hid (Owns own own w w1 ∧ WrI w0 b (.iface vt vd) l own w1 ∧ WSeen b N vt vd 69 g ss d vx w1 ∧ N < w1.heap.size) := by
    have q1' := Keeps.trans ((Keeps.refl noB wN).drew) q1
    obtain ⟨h1, h2, h3⟩ := HI0.out
    obtain ⟨h4, h5, h6, h7⟩ := HN.out
    exact ⟨h1.ahead q1' (fun _ e => e.elim), h2.quiet q1', h3.quiet q1' h2.blt (by omega) (by omega), by have := q1'.size; omega⟩
  clear q1 hmk
  gi_wp2
  refine hK _ _ HI1.out.2.2.1 ?_
  clear hK K
  refine seqH_take (.bool (!bk)) rfl rfl (fun W4 q4 => by obtain ⟨f0, f1, f2, f3, f4⟩ := q4; go_simp) (fun K hK => ?_)
  go_simp
  refine hK _ ?_
  clear hK K
  simp only [wpSeqH, noPanic]
  cases bk with
  | false =>
    have HE : Hid (l ++ z.wr V = l) := Lib.hid (by rw [hzz] at hbk ⊢; simp only [Nd.wr, hbk]; simp)
    gi_wp2
    refine leaves_marks [] _ List.nodup_nil (fun _ h => by cases h) (fun W' q _ => ?_)
    refine ⟨_, results_none rfl _ _ _, rfl, own, HI1.out.1.ahead q (fun _ e => by cases e), ?_⟩
    rw [HE.out]
    exact HI1.out.2.1.quiet (q.mono (fun _ e => by cases e))
  | true =>
    have HT : Hid (l ++ z.wr V = (l ++ V.ahead z) ++ ([42] ++ ([91] ++ wrL V z.bodies.kids ++ [93]))) := Lib.hid (by rw [hzz] at hbk ⊢; simp only [Nd.wr, hbk]; simp [hzz, Nd.bodies, kids_one, wrL_nds])
    have hma := HMA.out
    simp [go_sem] at hma
    gi_wp2
    refine wpIn_region_seqP (WSeen b N vt vd 69 g ss d vx) [(0, true), (1, true), (2, true), (3, true), (4, true), (5, true), (6, true), (7, true), (8, false), (9, false)] hro hFf (by kernel_rfl) (by kernel_rfl) (by kernel_rfl) rfl (by kernel_rfl) (HI1.out.2.2.1.quiet ((Keeps.refl noB w1).drew) HI1.out.2.1.blt HI1.out.2.2.2 (Nat.lt_of_lt_of_le hgl HI1.out.2.1.old.size)) ?_
    refine seqH_take (.pointer (some ⟨b, 0, none⟩)) rfl rfl (fun W4 q4 => by obtain ⟨f0, f1, f2, f3, f4⟩ := q4; go_simp) (fun K hK => ?_)
    go_simp
    refine hK _ ?_
    clear hK K
    refine seqH_take (.pointer (some ⟨b, 0, none⟩)) rfl rfl (fun W4 q4 => by obtain ⟨f0, f1, f2, f3, f4⟩ := q4; go_simp) (fun K hK => ?_)
    go_simp
    refine hK _ ?_
    clear hK K
    refine seqH_take (.pointer (some ⟨b, 0, none⟩)) rfl rfl (fun W4 q4 => by obtain ⟨f0, f1, f2, f3, f4⟩ := q4; go_simp) (fun K hK => ?_)
    go_simp
    refine hK _ ?_
    clear hK K
    refine seqH_take (.pointer (some ⟨b, 0, none⟩)) rfl rfl (fun W4 q4 => by obtain ⟨f0, f1, f2, f3, f4⟩ := q4; go_simp) (fun K hK => ?_)
    go_simp
    refine hK _ ?_
    clear hK K
    refine seqH_take (.pointer (some ⟨b, 0, none⟩)) rfl rfl (fun W4 q4 => by obtain ⟨f0, f1, f2, f3, f4⟩ := q4; go_simp) (fun K hK => ?_)
    go_simp
    refine hK _ ?_
    clear hK K
    refine seqH_take (.pointer (some ⟨b, 2, none⟩)) rfl rfl (fun W4 q4 => by obtain ⟨f0, f1, f2, f3, f4⟩ := q4; go_simp) (fun K hK => ?_)
    go_simp
    refine hK _ ?_
    clear hK K
    refine seqH_take (.iface vt vd) rfl rfl (fun W4 q4 => by obtain ⟨f0, f1, f2, f3, f4⟩ := q4; go_simp) (fun K hK => ?_)
    go_simp
    refine hK _ ?_
    clear hK K
    refine seqH_take (.agg #[.iface 69 (.pointer (some ⟨g, 0, none⟩)), .string ss, .int .i64 (d : Int)]) rfl rfl (fun W4 q4 => by obtain ⟨f0, f1, f2, f3, f4⟩ := q4; go_simp) (fun K hK => ?_)
    go_simp
    refine hK _ ?_
    clear hK K
    refine seqH_loud rfl (fun K hK => ?_)
    gi_wp2
    refine CallsIn.mono (HCA.out _ _ HI1.out.2.1.old.drew) ?_
    rintro e w2 ⟨rfl, q2⟩
    have HI2 : Hid (Owns own own w w2 ∧ WrI w0 b (.iface vt vd) l own w2 ∧ WSeen b N vt vd 69 g ss d vx w2 ∧ N < w2.heap.size) := by
      have q2' := Keeps.trans ((Keeps.refl noB w1).drew) q2
      obtain ⟨h1, h2, h3, h4⟩ := HI1.out
      exact ⟨h1.ahead q2' (fun _ e => e.elim), h2.quiet q2', h3.quiet q2' h2.blt h4 (Nat.lt_of_lt_of_le hgl h2.old.size), Nat.lt_of_lt_of_le h4 q2'.size⟩
    clear q2 hma
    gi_wp2
    refine hK _ _ HI2.out.2.2.1 ?_
    clear hK K
    refine seqH_loud rfl (fun K hK => ?_)
    gi_wp2
    refine CallsIn.mono (HWA.out _ _ HI2.out.2.1) ?_
    rintro e w3 ⟨rfl, own3, o3, i3⟩
    have HI3 : Hid (Owns own own3 w w3 ∧ WrI w0 b (.iface vt vd) (l ++ V.ahead z) own3 w3 ∧ WSeen b N vt vd 69 g ss d vx w3 ∧ N < w3.heap.size ∧ ¬ own3 N) := by
      obtain ⟨h1, h2, h3, h4⟩ := HI2.out
      have hno : ¬ own N := HN.out.2.1
      exact ⟨h1.trans o3, i3, h3.owns h2 o3 i3 ⟨hno, h4⟩ hgl, Nat.lt_of_lt_of_le h4 o3.keeps.size, fun e => (o3.more N e).elim hno (fun e => by omega)⟩
    clear o3 i3
    gi_wp2
    refine hK _ _ HI3.out.2.2.1 ?_
    clear hK K
    simp only [wpSeqH, noPanic]
    obtain ⟨n0, n1, n2⟩ := (⟨HI3.out.2.2.1.n0, HI3.out.2.2.1.n1, HI3.out.2.2.1.n2⟩ : _ ∧ _ ∧ _)
    gi_wp2
    refine CallsIn.mono (HKI.out _ _ HI3.out.2.1.old) ?_
    rintro e w4 ⟨a, m, rfl, hkm, hm0, hm1, q4, hka⟩
    have HI4 : Hid (Owns own own3 w w4 ∧ WrI w0 b (.iface vt vd) (l ++ V.ahead z) own3 w4 ∧ WSeen b N vt vd 69 g ss d vx w4 ∧ N < w4.heap.size ∧ ¬ own3 N ∧ KidsAt w0 ok (inD z.kind d) z.bodies.kids own3 w4 a ∧ z.bodies.kids.length ≤ m ∧ (m = 0 → a = none ∨ ∃ g, a = some ⟨g, 0, none⟩) ∧ (0 < m → ∃ g, a = some ⟨g, 0, none⟩)) := by
      obtain ⟨h1, h2, h3, h4, h5⟩ := HI3.out
      exact ⟨h1.ahead q4 (fun _ e => e.elim), h2.quiet q4, h3.quiet q4 h2.blt h4 (Nat.lt_of_lt_of_le hgl h2.old.size), Nat.lt_of_lt_of_le h4 q4.size, h5, hka own3 h2.lt, hkm, hm0, hm1⟩
    clear q4 hka hkm hm0 hm1 n0 n1 n2
    have n0 := HI4.out.2.2.1.n0
    have g2 := HI4.out.2.2.1.g2
    have a0 := isOV (.pointer (some ⟨g, 0, none⟩))
    have a1 := isOL (.pointer (some ⟨g, 0, none⟩))
    have a2 := isOB (.pointer (some ⟨g, 0, none⟩))
    have a3 := isOO (.pointer (some ⟨g, 0, none⟩))
    generalize z.bodies.kids.length = kn at *
    gi_wp2
    refine CallsIn.mono (HWB.out _ _ _ HI4.out.2.1) ?_
    rintro e w5 ⟨rfl, own4, o5, i5⟩
    have HIO : Hid (Owns own own4 w w5 ∧ WrI w0 b (.iface vt vd) ((l ++ V.ahead z) ++ [42]) own4 w5 ∧ KidsAt w0 ok (inD z.kind d) z.bodies.kids own4 w5 a) := by
      obtain ⟨h1, h2, h3, h4, h5, h6, _⟩ := HI4.out
      exact ⟨h1.trans o5, i5, h6.owns o5⟩
    clear o5 i5
    gi_wp2
    refine CallsIn.mono (HBR.out _ _ _ _ _ HIO.out.2.1 HIO.out.2.2) ?_
    rintro e w6 ⟨rfl, own5, o6, i6⟩
    have HI5 : Hid (Owns own own5 w w6 ∧ WrI w0 b (.iface vt vd) (((l ++ V.ahead z) ++ [42]) ++ ([91] ++ wrL V z.bodies.kids ++ [93])) own5 w6 ∧ True) := ⟨HIO.out.1.trans o6, i6, trivial⟩
    clear o6 i6
    gi_wp2
    refine leaves_marks [] _ List.nodup_nil (fun _ h => by cases h) (fun W' q _ => ?_)
    refine ⟨_, results_none rfl _ _ _, rfl, own5, HI5.out.1.ahead q (fun _ e => by cases e), ?_⟩
    rw [HT.out, ← List.append_assoc]
    exact HI5.out.2.1.quiet (q.mono (fun _ e => by cases e))


end Go.Proofs.Ytccpmhjffcceeaa

namespace Go.Proofs.Ytccpmhjffcceeaa
set_option linter.unusedVariables false
set_option linter.unusedSimpArgs false
open Go.RowKit

set_option maxRecDepth 100000 in
set_option maxHeartbeats 4000000 in
theorem wstep_scope {w0 : World} {ok : Nat → Prop} {V : Vis} {S : Nd → Prop} {vt : TypeId} {vd : Value} {s : ByteArray} (H : WEnv w0 ok V S vt vd s) {b : Nat} (k e : Nat) (vs ar : List UInt8) (y : Nds) (hS : ∀ d, (Nd.mk 123 k e vs ar (.cons y .nil)).Ok s d → StepsC w0 ok V (.iface vt vd) b (inD (Nd.mk 123 k e vs ar (.cons y .nil)).kind d) (Nd.mk 123 k e vs ar (.cons y .nil)).bodies.kids) (hW : (wrL V (Nd.mk 123 k e vs ar (.cons y .nil)).bodies.kids).length ≤ 1000 * lenL (Nd.mk 123 k e vs ar (.cons y .nil)).bodies.kids) (hz : S (Nd.mk 123 k e vs ar (.cons y .nil))) (hlen : (Nd.mk 123 k e vs ar (.cons y .nil)).pre.len ≤ 200) :
    StepW w0 ok V (.iface vt vd) b s (Nd.mk 123 k e vs ar (.cons y .nil)) := by
  intro d v l own w hok hr hw hl
  obtain ⟨z, hzz⟩ : ∃ z, z = Nd.mk 123 k e vs ar (.cons y .nil) := ⟨_, rfl⟩
  rw [← hzz] at hz hlen hok hr hl ⊢
  have hzs : z.scope = ar := by rw [hzz]; rfl
  obtain ⟨g, hgo, rfl, vx, hblk⟩ := (by rw [hzz] at hr; exact RepI.scopeN hr : ∃ g, ok g ∧ v = .iface 57 (ptr g) ∧ ∃ vx, Blk w0 g #[i64 k, i64 e, str vs, vx] 63)
  have hgl : g < w0.heap.size := H.lt g hgo
  have hsh := H.short z hz
  have hgW := fun (W : World) (q : Keeps noB w0 W) => (q.cell (p := ⟨g, 2, none⟩) hgl id).trans (hblk.cell 2)
  refine (callsIn_wide (n := 9)).1 ?_
  obtain ⟨F, hF⟩ : ∃ F, F = Fence.wide := ⟨_, rfl⟩
  have hFf : ∀ f, F.fn f := by subst hF; exact fun _ => trivial
  have hdd : ∀ k : Nat, (F.depth.isSome = true → 1 ≤ k) := by subst hF; intro k h; simp [Fence.wide] at h
  have hro : F.round = none := by subst hF; rfl
  have hds : F.depth.isSome = false := by subst hF; rfl
  obtain ⟨kk, rk, hmk, hck⟩ := H.vis.keeps
  obtain ⟨ka, ra, hma, hca⟩ := H.vis.ahead
  obtain ⟨kv, rv, hmv, hcv⟩ := H.vis.value
  have HMK := Lib.hid hmk
  have HMA := Lib.hid hma
  have HMV := Lib.hid hmv
  obtain ⟨A, hA⟩ : ∃ A : ByteArray, A = ⟨(V.ahead z).toArray⟩ := ⟨_, rfl⟩
  obtain ⟨U, hU⟩ : ∃ U : ByteArray, U = ⟨(V.value z).toArray⟩ := ⟨_, rfl⟩
  have hAz : A.size = (V.ahead z).length := by rw [hA]; exact bytes_size _
  have hUz : U.size = (V.value z).length := by rw [hU]; exact bytes_size _
  have hAl : A.size ≤ 200 := by rw [hAz]; exact hsh.ahead
  have hUl : U.size ≤ 200 := by rw [hUz]; exact hsh.value
  have hAL : A.data.toList = V.ahead z := by rw [hA]
  have hUL : U.data.toList = V.value z := by rw [hU]
  obtain ⟨bk, hbk⟩ : ∃ bk, V.keeps z = bk := ⟨_, rfl⟩
  obtain ⟨ss, hss⟩ : ∃ ss : ByteArray, str z.scope = .string ss := ⟨_, rfl⟩
  have hpv : placeV (.iface 57 (ptr g)) z.scope d = .agg #[.iface 57 (.pointer (some ⟨g, 0, none⟩)), .string ss, .int .i64 (d : Int)] := by unfold placeV; rw [hss]; rfl
  rw [hpv]
  have HCK : Hid (∀ n W, Keeps noB w0 W → CallsIn F n Try.prog kk #[rk, .agg #[.iface 57 (.pointer (some ⟨g, 0, none⟩)), .string ss, .int .i64 (d : Int)]] W (fun e w' => e = .returned (.bool bk) ∧ Keeps noB W w')) := fun n W q => by rw [hF, ← hpv, ← hbk]; exact callsIn_wide.2 (hck z d _ W hz hr q)
  have HCA : Hid (∀ n W, Keeps noB w0 W → CallsIn F n Try.prog ka #[ra, .agg #[.iface 57 (.pointer (some ⟨g, 0, none⟩)), .string ss, .int .i64 (d : Int)]] W (fun e w' => e = .returned (.string A) ∧ Keeps noB W w')) := fun n W q => by rw [hF, ← hpv, hA]; exact callsIn_wide.2 (hca z d _ W hz hr q)
  have hSz : StepsC w0 ok V (.iface vt vd) b (inD z.kind d) z.bodies.kids := by rw [hzz] at hok ⊢; exact hS d hok
  have hWz : (wrL V z.bodies.kids).length ≤ 1000 * lenL z.bodies.kids := by rw [hzz]; exact hW
  have hzl : z.pre.len = lenL z.bodies.kids + 1 := by rw [hzz]; simp only [Nd.pre, Bds.pre, Nds.len, Nds.len_app, Nd.bodies, kids_one, lenL_nds]
  have hl2 : (l ++ V.ahead z).length ≤ l.length + 200 := by rw [List.length_append, ← hAz]; omega
  have HSC : Hid (∀ n own W a m, WrI w0 b (.iface vt vd) (l ++ V.ahead z) own W → KidsAt w0 ok (inD z.kind d) z.bodies.kids own W a → CallsIn F n Try.prog 124 #[.pointer (some ⟨b, 0, none⟩), .pointer (some ⟨g, 0, none⟩), .slice a z.bodies.kids.length m] W (WrPost w0 b (.iface vt vd) W own ((l ++ V.ahead z) ++ scopeT V z (wrL V z.bodies.kids)) (.tuple #[]))) := fun n own W a m h hk => by
    rw [hF]; exact callsIn_wide.2 (wscope_any H.vis hSz hWz z hz hsh g hr _ own W a m h (by omega) hk)
  have HWA : Hid (∀ n W, WrI w0 b (.iface vt vd) l own W → CallsIn F n Try.prog 121 #[.pointer (some ⟨b, 0, none⟩), .string A] W (WrPost w0 b (.iface vt vd) W own (l ++ V.ahead z) (.tuple #[.int .i64 (A.size : Int), .nilIface]))) := fun n W h => by
    rw [hF, ← hAL]; exact callsIn_wide.2 (wstr_any A h (by omega))
  have HKI : Hid (∀ n W, Keeps noB w0 W → CallsIn F n Try.prog 92 #[.agg #[.iface 57 (.pointer (some ⟨g, 0, none⟩)), .string ss, .int .i64 (d : Int)]] W (fun e w' => ∃ a m, e = .returned (.slice a z.bodies.kids.length m) ∧ z.bodies.kids.length ≤ m ∧ (m = 0 → a = none ∨ ∃ g, a = some ⟨g, 0, none⟩) ∧ (0 < m → ∃ g, a = some ⟨g, 0, none⟩) ∧ Keeps noB W w' ∧ ∀ own, (∀ k, own k → k < W.heap.size) → KidsAt w0 ok (inD z.kind d) z.bodies.kids own w' a)) := fun n W q => by
    rw [hF, ← hpv]; exact callsIn_wide.2 (H.kids hok hlen hr W q)
  have hN := Blk.new w #[.iface 57 (.pointer (some ⟨g, 0, none⟩)), .string ss, .int .i64 (d : Int)] 48
  obtain ⟨wN, hwN⟩ : ∃ wN, wN = w.alloc (.cells #[.iface 57 (.pointer (some ⟨g, 0, none⟩)), .string ss, .int .i64 (d : Int)] 48) := ⟨_, rfl⟩
  have q0 : Keeps noB w wN := by rw [hwN]; exact (Keeps.refl _ _).alloc _
  have hNs : wN.heap.size = w.heap.size + 1 := by rw [hwN]; simp
  rw [← hwN] at hN
  have hwI := hw.quiet q0
  have hNo : ¬ own w.heap.size := fun e => by have := hw.lt _ e; omega
  have hbw := hw.blt
  have hgw : g < w.heap.size := Nat.lt_of_lt_of_le hgl hw.old.size
  have ho0 : Owns own own w wN := ⟨fun k e => .inl e, fun k e => by have := hw.lt k e; omega, q0.mono (fun _ e => e.elim)⟩
  have hseen : WSeen b w.heap.size vt vd 57 g ss d (str vs) wN := ⟨hwI.vis, (hN.cell 0).trans rfl, (hN.cell 1).trans rfl, (hN.cell 2).trans rfl, (hgW _ hwI.old)⟩
  have HN := Lib.hid (And.intro hNs (And.intro hNo (And.intro hbw hgw)))
  have HI0 := Lib.hid (And.intro ho0 (And.intro hwI hseen))
  rw [← hF]
  have HF := Lib.hid hF
  have hneN : ¬ b = w.heap.size := by omega
  clear hF H hsh hgW hmk hma hmv hck hca hcv hA hU hAz hUz hss hpv hok hr hw hl hz hblk hN q0 hwI hNo ho0 hseen hNs
  clear hl2 hSz hWz hzl hS hW
  refine callsIn_of_wp_marks Try.func83 rfl (hFf _) ?_ hro
  simp only [Try.ntmps83, List.size_toArray, List.length_cons, List.length_nil, Nat.reduceAdd, Nat.reduceSub, Array.replicate_succ, Array.replicate_zero, List.push_toArray, List.append_toArray, List.nil_append, List.cons_append]
  have hmk := HMK.out
  simp [go_sem] at hmk
  gi_wp2
  rw [← hwN]
  clear hwN
  obtain ⟨N, hNN⟩ : ∃ N, N = w.heap.size := ⟨_, rfl⟩
  rw [← hNN] at HN HI0 hneN ⊢
  clear hNN
  refine wpIn_region_seqP (WSeen b N vt vd 57 g ss d (str vs)) [(0, true), (1, true), (2, true), (3, true), (4, true), (5, false), (6, true)] hro hFf (by kernel_rfl) (by kernel_rfl) (by kernel_rfl) rfl (by kernel_rfl) (HI0.out.2.2.quiet ((Keeps.refl noB wN).drew) HI0.out.2.1.blt (by have := HN.out; omega) (by have := HN.out; omega)) ?_
  refine seqH_take (.pointer (some ⟨b, 0, none⟩)) rfl rfl (fun W4 q4 => by obtain ⟨f0, f1, f2, f3, f4⟩ := q4; go_simp) (fun K hK => ?_)
  go_simp
  refine hK _ ?_
  clear hK K
  refine seqH_take (.pointer (some ⟨b, 0, none⟩)) rfl rfl (fun W4 q4 => by obtain ⟨f0, f1, f2, f3, f4⟩ := q4; go_simp) (fun K hK => ?_)
  go_simp
  refine hK _ ?_
  clear hK K
  refine seqH_take (.pointer (some ⟨b, 2, none⟩)) rfl rfl (fun W4 q4 => by obtain ⟨f0, f1, f2, f3, f4⟩ := q4; go_simp) (fun K hK => ?_)
  go_simp
  refine hK _ ?_
  clear hK K
  refine seqH_take (.iface vt vd) rfl rfl (fun W4 q4 => by obtain ⟨f0, f1, f2, f3, f4⟩ := q4; go_simp) (fun K hK => ?_)
  go_simp
  refine hK _ ?_
  clear hK K
  refine seqH_take (.agg #[.iface 57 (.pointer (some ⟨g, 0, none⟩)), .string ss, .int .i64 (d : Int)]) rfl rfl (fun W4 q4 => by obtain ⟨f0, f1, f2, f3, f4⟩ := q4; go_simp) (fun K hK => ?_)
  go_simp
  refine hK _ ?_
  clear hK K
  refine seqH_loud rfl (fun K hK => ?_)
  gi_wp2
  refine CallsIn.mono (HCK.out _ _ HI0.out.2.1.old.drew) ?_
  rintro e w1 ⟨rfl, q1⟩
  have HI1 : Hid (Owns own own w w1 ∧ WrI w0 b (.iface vt vd) l own w1 ∧ WSeen b N vt vd 57 g ss d (str vs) w1 ∧ N < w1.heap.size) := by
    have q1' := Keeps.trans ((Keeps.refl noB wN).drew) q1
    obtain ⟨h1, h2, h3⟩ := HI0.out
    obtain ⟨h4, h5, h6, h7⟩ := HN.out
    exact ⟨h1.ahead q1' (fun _ e => e.elim), h2.quiet q1', h3.quiet q1' h2.blt (by omega) (by omega), by have := q1'.size; omega⟩
  clear q1 hmk
  gi_wp2
  refine hK _ _ HI1.out.2.2.1 ?_
  clear hK K
  refine seqH_take (.bool (!bk)) rfl rfl (fun W4 q4 => by obtain ⟨f0, f1, f2, f3, f4⟩ := q4; go_simp) (fun K hK => ?_)
  go_simp
  refine hK _ ?_
  clear hK K
  simp only [wpSeqH, noPanic]
  cases bk with
  | false =>
    have HE : Hid (l ++ z.wr V = l) := Lib.hid (by rw [hzz] at hbk ⊢; simp only [Nd.wr, hbk]; simp)
    gi_wp2
    refine leaves_marks [] _ List.nodup_nil (fun _ h => by cases h) (fun W' q _ => ?_)
    refine ⟨_, results_none rfl _ _ _, rfl, own, HI1.out.1.ahead q (fun _ e => by cases e), ?_⟩
    rw [HE.out]
    exact HI1.out.2.1.quiet (q.mono (fun _ e => by cases e))
  | true =>
    have HT : Hid (l ++ z.wr V = (l ++ V.ahead z) ++ (scopeT V z (wrL V z.bodies.kids))) := Lib.hid (by rw [hzz] at hbk ⊢; simp only [Nd.wr, hbk]; simp [scopeT, hzz, Nd.bodies, kids_one, wrL_nds])
    have hma := HMA.out
    simp [go_sem] at hma
    gi_wp2
    refine wpIn_region_seqP (WSeen b N vt vd 57 g ss d (str vs)) [(0, true), (1, true), (2, true), (3, true), (4, true), (5, true), (6, true), (7, true), (8, false), (9, false)] hro hFf (by kernel_rfl) (by kernel_rfl) (by kernel_rfl) rfl (by kernel_rfl) (HI1.out.2.2.1.quiet ((Keeps.refl noB w1).drew) HI1.out.2.1.blt HI1.out.2.2.2 (Nat.lt_of_lt_of_le hgl HI1.out.2.1.old.size)) ?_
    refine seqH_take (.pointer (some ⟨b, 0, none⟩)) rfl rfl (fun W4 q4 => by obtain ⟨f0, f1, f2, f3, f4⟩ := q4; go_simp) (fun K hK => ?_)
    go_simp
    refine hK _ ?_
    clear hK K
    refine seqH_take (.pointer (some ⟨b, 0, none⟩)) rfl rfl (fun W4 q4 => by obtain ⟨f0, f1, f2, f3, f4⟩ := q4; go_simp) (fun K hK => ?_)
    go_simp
    refine hK _ ?_
    clear hK K
    refine seqH_take (.pointer (some ⟨b, 0, none⟩)) rfl rfl (fun W4 q4 => by obtain ⟨f0, f1, f2, f3, f4⟩ := q4; go_simp) (fun K hK => ?_)
    go_simp
    refine hK _ ?_
    clear hK K
    refine seqH_take (.pointer (some ⟨b, 0, none⟩)) rfl rfl (fun W4 q4 => by obtain ⟨f0, f1, f2, f3, f4⟩ := q4; go_simp) (fun K hK => ?_)
    go_simp
    refine hK _ ?_
    clear hK K
    refine seqH_take (.pointer (some ⟨b, 0, none⟩)) rfl rfl (fun W4 q4 => by obtain ⟨f0, f1, f2, f3, f4⟩ := q4; go_simp) (fun K hK => ?_)
    go_simp
    refine hK _ ?_
    clear hK K
    refine seqH_take (.pointer (some ⟨b, 2, none⟩)) rfl rfl (fun W4 q4 => by obtain ⟨f0, f1, f2, f3, f4⟩ := q4; go_simp) (fun K hK => ?_)
    go_simp
    refine hK _ ?_
    clear hK K
    refine seqH_take (.iface vt vd) rfl rfl (fun W4 q4 => by obtain ⟨f0, f1, f2, f3, f4⟩ := q4; go_simp) (fun K hK => ?_)
    go_simp
    refine hK _ ?_
    clear hK K
    refine seqH_take (.agg #[.iface 57 (.pointer (some ⟨g, 0, none⟩)), .string ss, .int .i64 (d : Int)]) rfl rfl (fun W4 q4 => by obtain ⟨f0, f1, f2, f3, f4⟩ := q4; go_simp) (fun K hK => ?_)
    go_simp
    refine hK _ ?_
    clear hK K
    refine seqH_loud rfl (fun K hK => ?_)
    gi_wp2
    refine CallsIn.mono (HCA.out _ _ HI1.out.2.1.old.drew) ?_
    rintro e w2 ⟨rfl, q2⟩
    have HI2 : Hid (Owns own own w w2 ∧ WrI w0 b (.iface vt vd) l own w2 ∧ WSeen b N vt vd 57 g ss d (str vs) w2 ∧ N < w2.heap.size) := by
      have q2' := Keeps.trans ((Keeps.refl noB w1).drew) q2
      obtain ⟨h1, h2, h3, h4⟩ := HI1.out
      exact ⟨h1.ahead q2' (fun _ e => e.elim), h2.quiet q2', h3.quiet q2' h2.blt h4 (Nat.lt_of_lt_of_le hgl h2.old.size), Nat.lt_of_lt_of_le h4 q2'.size⟩
    clear q2 hma
    gi_wp2
    refine hK _ _ HI2.out.2.2.1 ?_
    clear hK K
    refine seqH_loud rfl (fun K hK => ?_)
    gi_wp2
    refine CallsIn.mono (HWA.out _ _ HI2.out.2.1) ?_
    rintro e w3 ⟨rfl, own3, o3, i3⟩
    have HI3 : Hid (Owns own own3 w w3 ∧ WrI w0 b (.iface vt vd) (l ++ V.ahead z) own3 w3 ∧ WSeen b N vt vd 57 g ss d (str vs) w3 ∧ N < w3.heap.size ∧ ¬ own3 N) := by
      obtain ⟨h1, h2, h3, h4⟩ := HI2.out
      have hno : ¬ own N := HN.out.2.1
      exact ⟨h1.trans o3, i3, h3.owns h2 o3 i3 ⟨hno, h4⟩ hgl, Nat.lt_of_lt_of_le h4 o3.keeps.size, fun e => (o3.more N e).elim hno (fun e => by omega)⟩
    clear o3 i3
    gi_wp2
    refine hK _ _ HI3.out.2.2.1 ?_
    clear hK K
    simp only [wpSeqH, noPanic]
    obtain ⟨n0, n1, n2⟩ := (⟨HI3.out.2.2.1.n0, HI3.out.2.2.1.n1, HI3.out.2.2.1.n2⟩ : _ ∧ _ ∧ _)
    gi_wp2
    refine CallsIn.mono (HKI.out _ _ HI3.out.2.1.old) ?_
    rintro e w4 ⟨a, m, rfl, hkm, hm0, hm1, q4, hka⟩
    have HI4 : Hid (Owns own own3 w w4 ∧ WrI w0 b (.iface vt vd) (l ++ V.ahead z) own3 w4 ∧ WSeen b N vt vd 57 g ss d (str vs) w4 ∧ N < w4.heap.size ∧ ¬ own3 N ∧ KidsAt w0 ok (inD z.kind d) z.bodies.kids own3 w4 a ∧ z.bodies.kids.length ≤ m ∧ (m = 0 → a = none ∨ ∃ g, a = some ⟨g, 0, none⟩) ∧ (0 < m → ∃ g, a = some ⟨g, 0, none⟩)) := by
      obtain ⟨h1, h2, h3, h4, h5⟩ := HI3.out
      exact ⟨h1.ahead q4 (fun _ e => e.elim), h2.quiet q4, h3.quiet q4 h2.blt h4 (Nat.lt_of_lt_of_le hgl h2.old.size), Nat.lt_of_lt_of_le h4 q4.size, h5, hka own3 h2.lt, hkm, hm0, hm1⟩
    clear q4 hka hkm hm0 hm1 n0 n1 n2
    have n0 := HI4.out.2.2.1.n0
    have g2 := HI4.out.2.2.1.g2
    have a0 := isSV (.pointer (some ⟨g, 0, none⟩))
    have a1 := isSL (.pointer (some ⟨g, 0, none⟩))
    have a2 := isSB (.pointer (some ⟨g, 0, none⟩))
    have a3 := isSO (.pointer (some ⟨g, 0, none⟩))
    have a4 := isSS (.pointer (some ⟨g, 0, none⟩))
    generalize z.bodies.kids.length = kn at *
    gi_wp2
    refine CallsIn.mono (HSC.out _ _ _ _ _ HI4.out.2.1 HI4.out.2.2.2.2.2.1) ?_
    rintro e w6 ⟨rfl, own5, o6, i6⟩
    have HI5 : Hid (Owns own own5 w w6 ∧ WrI w0 b (.iface vt vd) ((l ++ V.ahead z) ++ scopeT V z (wrL V z.bodies.kids)) own5 w6 ∧ True) := ⟨HI4.out.1.trans o6, i6, trivial⟩
    clear o6 i6
    gi_wp2
    refine leaves_marks [] _ List.nodup_nil (fun _ h => by cases h) (fun W' q _ => ?_)
    refine ⟨_, results_none rfl _ _ _, rfl, own5, HI5.out.1.ahead q (fun _ e => by cases e), ?_⟩
    rw [HT.out]
    exact HI5.out.2.1.quiet (q.mono (fun _ e => by cases e))


end Go.Proofs.Ytccpmhjffcceeaa

namespace Go.Proofs.Ytccpmhjffcceeaa
set_option linter.unusedVariables false
set_option linter.unusedSimpArgs false
open Go.RowKit

set_option maxRecDepth 100000 in
set_option maxHeartbeats 4000000 in
theorem wstep_branch {w0 : World} {ok : Nat → Prop} {V : Vis} {S : Nd → Prop} {vt : TypeId} {vd : Value} {s : ByteArray} (H : WEnv w0 ok V S vt vd s) {b : Nat} (k e : Nat) (vs ar : List UInt8) (y u : Nds) (hS1 : ∀ d, (Nd.mk 63 k e vs ar (.cons y (.cons u .nil))).Ok s d → StepsC w0 ok V (.iface vt vd) b (inD (Nd.mk 63 k e vs ar (.cons y (.cons u .nil))).kind d) y.list) (hS2 : ∀ d, (Nd.mk 63 k e vs ar (.cons y (.cons u .nil))).Ok s d → StepsC w0 ok V (.iface vt vd) b (inD (Nd.mk 63 k e vs ar (.cons y (.cons u .nil))).kind d) u.list) (hW1 : (wrL V y.list).length ≤ 1000 * lenL y.list) (hW2 : (wrL V u.list).length ≤ 1000 * lenL u.list) (hz : S (Nd.mk 63 k e vs ar (.cons y (.cons u .nil)))) (hlen : (Nd.mk 63 k e vs ar (.cons y (.cons u .nil))).pre.len ≤ 200) :
    StepW w0 ok V (.iface vt vd) b s (Nd.mk 63 k e vs ar (.cons y (.cons u .nil))) := by
  intro d v l own w hok hr hw hl
  obtain ⟨z, hzz⟩ : ∃ z, z = Nd.mk 63 k e vs ar (.cons y (.cons u .nil)) := ⟨_, rfl⟩
  rw [← hzz] at hz hlen hok hr hl ⊢
  have hzs : z.scope = ar := by rw [hzz]; rfl
  obtain ⟨g, hgo, rfl, ax, cx, vy, hblk⟩ := (by rw [hzz] at hr; exact RepI.branchN hr : ∃ g, ok g ∧ v = .iface 68 (ptr g) ∧ ∃ ax cx vy, Blk w0 g #[i64 k, i64 e, .slice ax y.list.length cx, vy] 184)
  have hgl : g < w0.heap.size := H.lt g hgo
  have hsh := H.short z hz
  have hgW := fun (W : World) (q : Keeps noB w0 W) => (q.cell (p := ⟨g, 2, none⟩) hgl id).trans (hblk.cell 2)
  refine (callsIn_wide (n := 9)).1 ?_
  obtain ⟨F, hF⟩ : ∃ F, F = Fence.wide := ⟨_, rfl⟩
  have hFf : ∀ f, F.fn f := by subst hF; exact fun _ => trivial
  have hdd : ∀ k : Nat, (F.depth.isSome = true → 1 ≤ k) := by subst hF; intro k h; simp [Fence.wide] at h
  have hro : F.round = none := by subst hF; rfl
  have hds : F.depth.isSome = false := by subst hF; rfl
  obtain ⟨kk, rk, hmk, hck⟩ := H.vis.keeps
  obtain ⟨ka, ra, hma, hca⟩ := H.vis.ahead
  obtain ⟨kv, rv, hmv, hcv⟩ := H.vis.value
  have HMK := Lib.hid hmk
  have HMA := Lib.hid hma
  have HMV := Lib.hid hmv
  obtain ⟨A, hA⟩ : ∃ A : ByteArray, A = ⟨(V.ahead z).toArray⟩ := ⟨_, rfl⟩
  obtain ⟨U, hU⟩ : ∃ U : ByteArray, U = ⟨(V.value z).toArray⟩ := ⟨_, rfl⟩
  have hAz : A.size = (V.ahead z).length := by rw [hA]; exact bytes_size _
  have hUz : U.size = (V.value z).length := by rw [hU]; exact bytes_size _
  have hAl : A.size ≤ 200 := by rw [hAz]; exact hsh.ahead
  have hUl : U.size ≤ 200 := by rw [hUz]; exact hsh.value
  have hAL : A.data.toList = V.ahead z := by rw [hA]
  have hUL : U.data.toList = V.value z := by rw [hU]
  obtain ⟨bk, hbk⟩ : ∃ bk, V.keeps z = bk := ⟨_, rfl⟩
  obtain ⟨ss, hss⟩ : ∃ ss : ByteArray, str z.scope = .string ss := ⟨_, rfl⟩
  have hpv : placeV (.iface 68 (ptr g)) z.scope d = .agg #[.iface 68 (.pointer (some ⟨g, 0, none⟩)), .string ss, .int .i64 (d : Int)] := by unfold placeV; rw [hss]; rfl
  rw [hpv]
  have HCK : Hid (∀ n W, Keeps noB w0 W → CallsIn F n Try.prog kk #[rk, .agg #[.iface 68 (.pointer (some ⟨g, 0, none⟩)), .string ss, .int .i64 (d : Int)]] W (fun e w' => e = .returned (.bool bk) ∧ Keeps noB W w')) := fun n W q => by rw [hF, ← hpv, ← hbk]; exact callsIn_wide.2 (hck z d _ W hz hr q)
  have HCA : Hid (∀ n W, Keeps noB w0 W → CallsIn F n Try.prog ka #[ra, .agg #[.iface 68 (.pointer (some ⟨g, 0, none⟩)), .string ss, .int .i64 (d : Int)]] W (fun e w' => e = .returned (.string A) ∧ Keeps noB W w')) := fun n W q => by rw [hF, ← hpv, hA]; exact callsIn_wide.2 (hca z d _ W hz hr q)
  have hSy : StepsC w0 ok V (.iface vt vd) b (inD z.kind d) y.list := by rw [hzz] at hok ⊢; exact hS1 d hok
  have hSu : StepsC w0 ok V (.iface vt vd) b (inD z.kind d) u.list := by rw [hzz] at hok ⊢; exact hS2 d hok
  have hzl : z.pre.len = lenL y.list + lenL u.list + 1 := by rw [hzz]; simp only [Nd.pre, Bds.pre, Nds.len, Nds.len_app, lenL_nds]; omega
  have hl2 : (l ++ V.ahead z).length ≤ l.length + 200 := by rw [List.length_append, ← hAz]; omega
  have HWB : Hid (∀ n own W, WrI w0 b (.iface vt vd) (l ++ V.ahead z) own W → CallsIn F n Try.prog 122 #[.pointer (some ⟨b, 0, none⟩), .int .u8 63] W (WrPost w0 b (.iface vt vd) W own ((l ++ V.ahead z) ++ [63]) .nilIface)) := fun n own W h => by
    rw [hF]; exact callsIn_wide.2 (wbyte_any 63 h (by omega))
  have HB1 : Hid (∀ n own W a m, WrI w0 b (.iface vt vd) ((l ++ V.ahead z) ++ [63]) own W → KidsAt w0 ok (inD z.kind d) y.list own W a → CallsIn F n Try.prog 123 #[.pointer (some ⟨b, 0, none⟩), .slice a y.list.length m] W (WrPost w0 b (.iface vt vd) W own (((l ++ V.ahead z) ++ [63]) ++ ([91] ++ wrL V y.list ++ [93])) (.tuple #[]))) := fun n own W a m h hk => by
    rw [hF]; exact callsIn_wide.2 (wbracket_any hSy hW1 _ own W a m h (by rw [List.length_append]; simp only [List.length_cons, List.length_nil]; omega) hk)
  have HB2 : Hid (∀ n own W a m, WrI w0 b (.iface vt vd) (((l ++ V.ahead z) ++ [63]) ++ ([91] ++ wrL V y.list ++ [93])) own W → KidsAt w0 ok (inD z.kind d) u.list own W a → CallsIn F n Try.prog 123 #[.pointer (some ⟨b, 0, none⟩), .slice a u.list.length m] W (WrPost w0 b (.iface vt vd) W own ((((l ++ V.ahead z) ++ [63]) ++ ([91] ++ wrL V y.list ++ [93])) ++ ([91] ++ wrL V u.list ++ [93])) (.tuple #[]))) := fun n own W a m h hk => by
    rw [hF]; exact callsIn_wide.2 (wbracket_any hSu hW2 _ own W a m h (by simp only [List.length_append, List.length_cons, List.length_nil] at hl2 ⊢; omega) hk)
  have HKD : Hid (z.bodies.kids = y.list ++ u.list) := Lib.hid (by rw [hzz]; simp only [Nd.bodies, kids_two])
  have HWA : Hid (∀ n W, WrI w0 b (.iface vt vd) l own W → CallsIn F n Try.prog 121 #[.pointer (some ⟨b, 0, none⟩), .string A] W (WrPost w0 b (.iface vt vd) W own (l ++ V.ahead z) (.tuple #[.int .i64 (A.size : Int), .nilIface]))) := fun n W h => by
    rw [hF, ← hAL]; exact callsIn_wide.2 (wstr_any A h (by omega))
  have HKI : Hid (∀ n W, Keeps noB w0 W → CallsIn F n Try.prog 92 #[.agg #[.iface 68 (.pointer (some ⟨g, 0, none⟩)), .string ss, .int .i64 (d : Int)]] W (fun e w' => ∃ a m, e = .returned (.slice a z.bodies.kids.length m) ∧ z.bodies.kids.length ≤ m ∧ (m = 0 → a = none ∨ ∃ g, a = some ⟨g, 0, none⟩) ∧ (0 < m → ∃ g, a = some ⟨g, 0, none⟩) ∧ Keeps noB W w' ∧ ∀ own, (∀ k, own k → k < W.heap.size) → KidsAt w0 ok (inD z.kind d) z.bodies.kids own w' a)) := fun n W q => by
    rw [hF, ← hpv]; exact callsIn_wide.2 (H.kids hok hlen hr W q)
  have hN := Blk.new w #[.iface 68 (.pointer (some ⟨g, 0, none⟩)), .string ss, .int .i64 (d : Int)] 48
  obtain ⟨wN, hwN⟩ : ∃ wN, wN = w.alloc (.cells #[.iface 68 (.pointer (some ⟨g, 0, none⟩)), .string ss, .int .i64 (d : Int)] 48) := ⟨_, rfl⟩
  have q0 : Keeps noB w wN := by rw [hwN]; exact (Keeps.refl _ _).alloc _
  have hNs : wN.heap.size = w.heap.size + 1 := by rw [hwN]; simp
  rw [← hwN] at hN
  have hwI := hw.quiet q0
  have hNo : ¬ own w.heap.size := fun e => by have := hw.lt _ e; omega
  have hbw := hw.blt
  have hgw : g < w.heap.size := Nat.lt_of_lt_of_le hgl hw.old.size
  have ho0 : Owns own own w wN := ⟨fun k e => .inl e, fun k e => by have := hw.lt k e; omega, q0.mono (fun _ e => e.elim)⟩
  have hseen : WSeen b w.heap.size vt vd 68 g ss d (.slice ax y.list.length cx) wN := ⟨hwI.vis, (hN.cell 0).trans rfl, (hN.cell 1).trans rfl, (hN.cell 2).trans rfl, (hgW _ hwI.old)⟩
  have HN := Lib.hid (And.intro hNs (And.intro hNo (And.intro hbw hgw)))
  have HI0 := Lib.hid (And.intro ho0 (And.intro hwI hseen))
  rw [← hF]
  have HF := Lib.hid hF
  have hneN : ¬ b = w.heap.size := by omega
  clear hF H hsh hgW hmk hma hmv hck hca hcv hA hU hAz hUz hss hpv hok hr hw hl hz hblk hN q0 hwI hNo ho0 hseen hNs
  clear hl2 hSy hSu hzl hS1 hS2 hW1 hW2
  refine callsIn_of_wp_marks Try.func83 rfl (hFf _) ?_ hro
  simp only [Try.ntmps83, List.size_toArray, List.length_cons, List.length_nil, Nat.reduceAdd, Nat.reduceSub, Array.replicate_succ, Array.replicate_zero, List.push_toArray, List.append_toArray, List.nil_append, List.cons_append]
  have hmk := HMK.out
  simp [go_sem] at hmk
  gi_wp2
  rw [← hwN]
  clear hwN
  obtain ⟨N, hNN⟩ : ∃ N, N = w.heap.size := ⟨_, rfl⟩
  rw [← hNN] at HN HI0 hneN ⊢
  clear hNN
  refine wpIn_region_seqP (WSeen b N vt vd 68 g ss d (.slice ax y.list.length cx)) [(0, true), (1, true), (2, true), (3, true), (4, true), (5, false), (6, true)] hro hFf (by kernel_rfl) (by kernel_rfl) (by kernel_rfl) rfl (by kernel_rfl) (HI0.out.2.2.quiet ((Keeps.refl noB wN).drew) HI0.out.2.1.blt (by have := HN.out; omega) (by have := HN.out; omega)) ?_
  refine seqH_take (.pointer (some ⟨b, 0, none⟩)) rfl rfl (fun W4 q4 => by obtain ⟨f0, f1, f2, f3, f4⟩ := q4; go_simp) (fun K hK => ?_)
  go_simp
  refine hK _ ?_
  clear hK K
  refine seqH_take (.pointer (some ⟨b, 0, none⟩)) rfl rfl (fun W4 q4 => by obtain ⟨f0, f1, f2, f3, f4⟩ := q4; go_simp) (fun K hK => ?_)
  go_simp
  refine hK _ ?_
  clear hK K
  refine seqH_take (.pointer (some ⟨b, 2, none⟩)) rfl rfl (fun W4 q4 => by obtain ⟨f0, f1, f2, f3, f4⟩ := q4; go_simp) (fun K hK => ?_)
  go_simp
  refine hK _ ?_
  clear hK K
  refine seqH_take (.iface vt vd) rfl rfl (fun W4 q4 => by obtain ⟨f0, f1, f2, f3, f4⟩ := q4; go_simp) (fun K hK => ?_)
  go_simp
  refine hK _ ?_
  clear hK K
  refine seqH_take (.agg #[.iface 68 (.pointer (some ⟨g, 0, none⟩)), .string ss, .int .i64 (d : Int)]) rfl rfl (fun W4 q4 => by obtain ⟨f0, f1, f2, f3, f4⟩ := q4; go_simp) (fun K hK => ?_)
  go_simp
  refine hK _ ?_
  clear hK K
  refine seqH_loud rfl (fun K hK => ?_)
  gi_wp2
  refine CallsIn.mono (HCK.out _ _ HI0.out.2.1.old.drew) ?_
  rintro e w1 ⟨rfl, q1⟩
  have HI1 : Hid (Owns own own w w1 ∧ WrI w0 b (.iface vt vd) l own w1 ∧ WSeen b N vt vd 68 g ss d (.slice ax y.list.length cx) w1 ∧ N < w1.heap.size) := by
    have q1' := Keeps.trans ((Keeps.refl noB wN).drew) q1
    obtain ⟨h1, h2, h3⟩ := HI0.out
    obtain ⟨h4, h5, h6, h7⟩ := HN.out
    exact ⟨h1.ahead q1' (fun _ e => e.elim), h2.quiet q1', h3.quiet q1' h2.blt (by omega) (by omega), by have := q1'.size; omega⟩
  clear q1 hmk
  gi_wp2
  refine hK _ _ HI1.out.2.2.1 ?_
  clear hK K
  refine seqH_take (.bool (!bk)) rfl rfl (fun W4 q4 => by obtain ⟨f0, f1, f2, f3, f4⟩ := q4; go_simp) (fun K hK => ?_)
  go_simp
  refine hK _ ?_
  clear hK K
  simp only [wpSeqH, noPanic]
  cases bk with
  | false =>
    have HE : Hid (l ++ z.wr V = l) := Lib.hid (by rw [hzz] at hbk ⊢; simp only [Nd.wr, hbk]; simp)
    gi_wp2
    refine leaves_marks [] _ List.nodup_nil (fun _ h => by cases h) (fun W' q _ => ?_)
    refine ⟨_, results_none rfl _ _ _, rfl, own, HI1.out.1.ahead q (fun _ e => by cases e), ?_⟩
    rw [HE.out]
    exact HI1.out.2.1.quiet (q.mono (fun _ e => by cases e))
  | true =>
    have HT : Hid (l ++ z.wr V = (l ++ V.ahead z) ++ (([63] ++ ([91] ++ wrL V y.list ++ [93])) ++ ([91] ++ wrL V u.list ++ [93]))) := Lib.hid (by rw [hzz] at hbk ⊢; simp only [Nd.wr, hbk]; simp [hzz, wrL_nds])
    have hma := HMA.out
    simp [go_sem] at hma
    gi_wp2
    refine wpIn_region_seqP (WSeen b N vt vd 68 g ss d (.slice ax y.list.length cx)) [(0, true), (1, true), (2, true), (3, true), (4, true), (5, true), (6, true), (7, true), (8, false), (9, false)] hro hFf (by kernel_rfl) (by kernel_rfl) (by kernel_rfl) rfl (by kernel_rfl) (HI1.out.2.2.1.quiet ((Keeps.refl noB w1).drew) HI1.out.2.1.blt HI1.out.2.2.2 (Nat.lt_of_lt_of_le hgl HI1.out.2.1.old.size)) ?_
    refine seqH_take (.pointer (some ⟨b, 0, none⟩)) rfl rfl (fun W4 q4 => by obtain ⟨f0, f1, f2, f3, f4⟩ := q4; go_simp) (fun K hK => ?_)
    go_simp
    refine hK _ ?_
    clear hK K
    refine seqH_take (.pointer (some ⟨b, 0, none⟩)) rfl rfl (fun W4 q4 => by obtain ⟨f0, f1, f2, f3, f4⟩ := q4; go_simp) (fun K hK => ?_)
    go_simp
    refine hK _ ?_
    clear hK K
    refine seqH_take (.pointer (some ⟨b, 0, none⟩)) rfl rfl (fun W4 q4 => by obtain ⟨f0, f1, f2, f3, f4⟩ := q4; go_simp) (fun K hK => ?_)
    go_simp
    refine hK _ ?_
    clear hK K
    refine seqH_take (.pointer (some ⟨b, 0, none⟩)) rfl rfl (fun W4 q4 => by obtain ⟨f0, f1, f2, f3, f4⟩ := q4; go_simp) (fun K hK => ?_)
    go_simp
    refine hK _ ?_
    clear hK K
    refine seqH_take (.pointer (some ⟨b, 0, none⟩)) rfl rfl (fun W4 q4 => by obtain ⟨f0, f1, f2, f3, f4⟩ := q4; go_simp) (fun K hK => ?_)
    go_simp
    refine hK _ ?_
    clear hK K
    refine seqH_take (.pointer (some ⟨b, 2, none⟩)) rfl rfl (fun W4 q4 => by obtain ⟨f0, f1, f2, f3, f4⟩ := q4; go_simp) (fun K hK => ?_)
    go_simp
    refine hK _ ?_
    clear hK K
    refine seqH_take (.iface vt vd) rfl rfl (fun W4 q4 => by obtain ⟨f0, f1, f2, f3, f4⟩ := q4; go_simp) (fun K hK => ?_)
    go_simp
    refine hK _ ?_
    clear hK K
    refine seqH_take (.agg #[.iface 68 (.pointer (some ⟨g, 0, none⟩)), .string ss, .int .i64 (d : Int)]) rfl rfl (fun W4 q4 => by obtain ⟨f0, f1, f2, f3, f4⟩ := q4; go_simp) (fun K hK => ?_)
    go_simp
    refine hK _ ?_
    clear hK K
    refine seqH_loud rfl (fun K hK => ?_)
    gi_wp2
    refine CallsIn.mono (HCA.out _ _ HI1.out.2.1.old.drew) ?_
    rintro e w2 ⟨rfl, q2⟩
    have HI2 : Hid (Owns own own w w2 ∧ WrI w0 b (.iface vt vd) l own w2 ∧ WSeen b N vt vd 68 g ss d (.slice ax y.list.length cx) w2 ∧ N < w2.heap.size) := by
      have q2' := Keeps.trans ((Keeps.refl noB w1).drew) q2
      obtain ⟨h1, h2, h3, h4⟩ := HI1.out
      exact ⟨h1.ahead q2' (fun _ e => e.elim), h2.quiet q2', h3.quiet q2' h2.blt h4 (Nat.lt_of_lt_of_le hgl h2.old.size), Nat.lt_of_lt_of_le h4 q2'.size⟩
    clear q2 hma
    gi_wp2
    refine hK _ _ HI2.out.2.2.1 ?_
    clear hK K
    refine seqH_loud rfl (fun K hK => ?_)
    gi_wp2
    refine CallsIn.mono (HWA.out _ _ HI2.out.2.1) ?_
    rintro e w3 ⟨rfl, own3, o3, i3⟩
    have HI3 : Hid (Owns own own3 w w3 ∧ WrI w0 b (.iface vt vd) (l ++ V.ahead z) own3 w3 ∧ WSeen b N vt vd 68 g ss d (.slice ax y.list.length cx) w3 ∧ N < w3.heap.size ∧ ¬ own3 N) := by
      obtain ⟨h1, h2, h3, h4⟩ := HI2.out
      have hno : ¬ own N := HN.out.2.1
      exact ⟨h1.trans o3, i3, h3.owns h2 o3 i3 ⟨hno, h4⟩ hgl, Nat.lt_of_lt_of_le h4 o3.keeps.size, fun e => (o3.more N e).elim hno (fun e => by omega)⟩
    clear o3 i3
    gi_wp2
    refine hK _ _ HI3.out.2.2.1 ?_
    clear hK K
    simp only [wpSeqH, noPanic]
    obtain ⟨n0, n1, n2⟩ := (⟨HI3.out.2.2.1.n0, HI3.out.2.2.1.n1, HI3.out.2.2.1.n2⟩ : _ ∧ _ ∧ _)
    gi_wp2
    refine CallsIn.mono (HKI.out _ _ HI3.out.2.1.old) ?_
    rintro e w4 ⟨a, m, rfl, hkm, hm0, hm1, q4, hka⟩
    have HI4 : Hid (Owns own own3 w w4 ∧ WrI w0 b (.iface vt vd) (l ++ V.ahead z) own3 w4 ∧ WSeen b N vt vd 68 g ss d (.slice ax y.list.length cx) w4 ∧ N < w4.heap.size ∧ ¬ own3 N ∧ KidsAt w0 ok (inD z.kind d) z.bodies.kids own3 w4 a ∧ z.bodies.kids.length ≤ m ∧ (m = 0 → a = none ∨ ∃ g, a = some ⟨g, 0, none⟩) ∧ (0 < m → ∃ g, a = some ⟨g, 0, none⟩)) := by
      obtain ⟨h1, h2, h3, h4, h5⟩ := HI3.out
      exact ⟨h1.ahead q4 (fun _ e => e.elim), h2.quiet q4, h3.quiet q4 h2.blt h4 (Nat.lt_of_lt_of_le hgl h2.old.size), Nat.lt_of_lt_of_le h4 q4.size, h5, hka own3 h2.lt, hkm, hm0, hm1⟩
    clear q4 hka hkm hm0 hm1 n0 n1 n2
    have n0 := HI4.out.2.2.1.n0
    have g2 := HI4.out.2.2.1.g2
    have a0 := isBV (.pointer (some ⟨g, 0, none⟩))
    have a1 := isBL (.pointer (some ⟨g, 0, none⟩))
    have a2 := isBB (.pointer (some ⟨g, 0, none⟩))
    have HI4b : Hid (Owns own own3 w w4 ∧ WrI w0 b (.iface vt vd) (l ++ V.ahead z) own3 w4 ∧ WSeen b N vt vd 68 g ss d (.slice ax y.list.length cx) w4 ∧ N < w4.heap.size ∧ ¬ own3 N ∧ KidsAt w0 ok (inD z.kind d) (y.list ++ u.list) own3 w4 a ∧ y.list.length + u.list.length ≤ m ∧ (0 < m → ∃ g, a = some ⟨g, 0, none⟩)) := by
      obtain ⟨h1, h2, h3, h4, h5, h6, h7, h8, h9⟩ := HI4.out
      rw [HKD.out] at h6 h7
      rw [List.length_append] at h7
      exact ⟨h1, h2, h3, h4, h5, h6, h7, h9⟩
    have hkz : z.bodies.kids.length = y.list.length + u.list.length := by rw [HKD.out, List.length_append]
    rw [hkz]
    clear HI4 hkz HKI
    have hsum := HI4b.out.2.2.2.2.2.2.1
    obtain ⟨n1, hn1⟩ : ∃ n1, y.list.length = n1 := ⟨_, rfl⟩
    obtain ⟨n2, hn2⟩ : ∃ n2, u.list.length = n2 := ⟨_, rfl⟩
    have HY : Hid (y.list.length = n1 ∧ u.list.length = n2) := ⟨hn1, hn2⟩
    rw [hn1] at HB1 hsum g2 ⊢
    rw [hn2] at HB2 hsum ⊢
    clear hn1 hn2
    have hs1 : (n1 : Int) ≤ ((n1 + n2 : Nat) : Int) := by omega
    have hs2 : n1 ≤ m := by omega
    have hs3 : (n1 : Int) ≤ (m : Int) := by omega
    gi_wp2
    refine CallsIn.mono (HWB.out _ _ _ HI4b.out.2.1) ?_
    rintro e w5 ⟨rfl, own4, o5, i5⟩
    have HIO : Hid (Owns own own4 w w5 ∧ WrI w0 b (.iface vt vd) ((l ++ V.ahead z) ++ [63]) own4 w5 ∧ KidsAt w0 ok (inD z.kind d) (y.list ++ u.list) own4 w5 a ∧ WSeen b N vt vd 68 g ss d (.slice ax y.list.length cx) w5 ∧ N < w5.heap.size ∧ ¬ own4 N) := by
      obtain ⟨h1, h2, h3, h4, h5, h6, _⟩ := HI4b.out
      exact ⟨h1.trans o5, i5, h6.owns o5, h3.owns h2 o5 i5 ⟨h5, h4⟩ hgl, Nat.lt_of_lt_of_le h4 o5.keeps.size, fun e => (o5.more N e).elim h5 (fun e => by omega)⟩
    clear o5 i5 g2
    have g2 := HIO.out.2.2.2.1.g2
    rw [HY.out.1] at g2
    gi_wp2
    refine CallsIn.mono (HB1.out _ _ _ _ _ HIO.out.2.1 HIO.out.2.2.1.fst) ?_
    rintro e w6 ⟨rfl, own6, o6, i6⟩
    have HIB : Hid (Owns own own6 w w6 ∧ WrI w0 b (.iface vt vd) (((l ++ V.ahead z) ++ [63]) ++ ([91] ++ wrL V y.list ++ [93])) own6 w6 ∧ KidsAt w0 ok (inD z.kind d) (y.list ++ u.list) own6 w6 a ∧ WSeen b N vt vd 68 g ss d (.slice ax y.list.length cx) w6) := by
      obtain ⟨h1, h2, h3, h4, h5, h6⟩ := HIO.out
      exact ⟨h1.trans o6, i6, h3.owns o6, h4.owns h2 o6 i6 ⟨h6, h5⟩ hgl⟩
    clear o6 i6 g2
    have g2 := HIB.out.2.2.2.g2
    rw [HY.out.1] at g2
    by_cases hm : m = n1
    · have h20 : n2 = 0 := by omega
      have hu0 : u.list = [] := List.length_eq_zero_iff.1 (by rw [HY.out.2]; exact h20)
      have HKU : Hid (∀ a', KidsAt w0 ok (inD z.kind d) u.list own6 w6 a') := Lib.hid (fun a' => by rw [hu0]; exact KidsAt.none)
      subst h20
      subst hm
      clear hu0 hsum
      gi_wp2
      refine CallsIn.mono (HB2.out _ _ _ _ _ HIB.out.2.1 (HKU.out _)) ?_
      rintro e w7 ⟨rfl, own5, o7, i7⟩
      have HI5 : Hid (Owns own own5 w w7 ∧ WrI w0 b (.iface vt vd) ((((l ++ V.ahead z) ++ [63]) ++ ([91] ++ wrL V y.list ++ [93])) ++ ([91] ++ wrL V u.list ++ [93])) own5 w7) := ⟨HIB.out.1.trans o7, i7⟩
      clear o7 i7
      gi_wp2
      refine leaves_marks [] _ List.nodup_nil (fun _ h => by cases h) (fun W' q _ => ?_)
      refine ⟨_, results_none rfl _ _ _, rfl, own5, HI5.out.1.ahead q (fun _ e => by cases e), ?_⟩
      rw [HT.out]
      simp only [← List.append_assoc] at HI5 ⊢
      exact HI5.out.2.quiet (q.mono (fun _ e => by cases e))
    · have hm2 : n1 < m := by omega
      have hm3 : 0 < m := by omega
      obtain ⟨G, rfl⟩ := HI4b.out.2.2.2.2.2.2.2 hm3
      have HKU := Lib.hid (HIB.out.2.2.1.snd)
      rw [HY.out.1] at HKU
      gi_wp2
      refine CallsIn.mono (HB2.out _ _ _ _ _ HIB.out.2.1 (by have h := HKU.out; rw [Nat.zero_add] at h; exact h)) ?_
      rintro e w7 ⟨rfl, own5, o7, i7⟩
      have HI5 : Hid (Owns own own5 w w7 ∧ WrI w0 b (.iface vt vd) ((((l ++ V.ahead z) ++ [63]) ++ ([91] ++ wrL V y.list ++ [93])) ++ ([91] ++ wrL V u.list ++ [93])) own5 w7) := ⟨HIB.out.1.trans o7, i7⟩
      clear o7 i7
      gi_wp2
      refine leaves_marks [] _ List.nodup_nil (fun _ h => by cases h) (fun W' q _ => ?_)
      refine ⟨_, results_none rfl _ _ _, rfl, own5, HI5.out.1.ahead q (fun _ e => by cases e), ?_⟩
      rw [HT.out]
      simp only [← List.append_assoc] at HI5 ⊢
      exact HI5.out.2.quiet (q.mono (fun _ e => by cases e))


end Go.Proofs.Ytccpmhjffcceeaa

namespace Go.Proofs.Ytccpmhjffcceeaa
set_option linter.unusedVariables false
set_option linter.unusedSimpArgs false
open Go.RowKit

theorem list_pre : ∀ y : Nds, y.list.length ≤ y.pre.len
  | .nil => Nat.le_refl _
  | .cons x r => by
    have h1 : 1 ≤ x.pre.len := by cases x; simp only [Nd.pre, Nds.len]; omega
    have h2 := list_pre r
    simp only [Nds.list, List.length_cons, Nds.pre, Nds.len_app]
    omega

theorem stepsC_of {w0 : World} {ok : Nat → Prop} {V : Vis} {vv : Value} {b : Nat} {s : ByteArray} {y : Nds} (h : ∀ z ∈ y.list, StepW w0 ok V vv b s z ∧ ∀ q ∈ z.pre.list, ShortAt V q) (hl : y.pre.len ≤ 200) {d : Nat} (hok : ∀ z ∈ y.list, z.Ok s d) : StepsC w0 ok V vv b d y.list := by
  refine stepsC w0 ok V vv b s d y.list (fun z hz => ⟨(h z hz).1, hok z hz, (h z hz).2⟩) ?_
  have := list_pre y
  omega

mutual
theorem Nd.stepW {w0 : World} {ok : Nat → Prop} {V : Vis} {S : Nd → Prop} {vt : TypeId} {vd : Value} {s : ByteArray} (H : WEnv w0 ok V S vt vd s) (b : Nat) : ∀ (x : Nd), x.Fit → (∀ z ∈ x.pre.list, S z) → x.pre.len ≤ 200 → StepW w0 ok V (.iface vt vd) b s x
  | .mk c k e vs ar .nil, hf, hS, hl => by
    have h0 := hS (.mk c k e vs ar .nil) (by simp [Nd.pre, Nds.list])
    by_cases hc : c = 94 ∨ c = 33
    · exact wstep_leave H c k e vs ar hc h0 hl
    · exact wstep_value H c k e vs ar ⟨fun e => hc (.inl e), fun e => hc (.inr e)⟩ h0 hl
  | .mk c k e vs ar (.cons y .nil), hf, hS, hl => by
    have h0 := hS (.mk c k e vs ar (.cons y .nil)) (by simp [Nd.pre, Nds.list])
    simp only [Nd.Fit] at hf
    have hly : y.pre.len ≤ 200 := by simp only [Nd.pre, Bds.pre, Nds.len, Nds.len_app] at hl; omega
    have ih := Nds.stepW H b y hf.2 (fun z hz => hS z (by simp only [Nd.pre, Bds.pre, Nds.list, Nds.list_app]; simp [hz])) hly
    have hw := wrL_len V y.list (fun z hz => (ih z hz).2)
    have hkd : ∀ d, (Nd.mk c k e vs ar (.cons y .nil)).Ok s d → StepsC w0 ok V (.iface vt vd) b (inD (Nd.mk c k e vs ar (.cons y .nil)).kind d) (Nd.mk c k e vs ar (.cons y .nil)).bodies.kids := fun d hok => by
      have e1 : (Nd.mk c k e vs ar (.cons y .nil)).bodies.kids = y.list := by simp only [Nd.bodies, kids_one]
      rw [e1]
      exact stepsC_of ih hly (fun z hz => (hok.good.kids z (by rw [e1]; exact hz)).2)
    rcases hf.1 with ⟨rfl, rfl⟩ | rfl
    · exact wstep_loop H k e [] ar y hkd (by simp only [Nd.bodies, kids_one]; exact hw) h0 hl
    · exact wstep_scope H k e vs ar y hkd (by simp only [Nd.bodies, kids_one]; exact hw) h0 hl
  | .mk c k e vs ar (.cons y (.cons u .nil)), hf, hS, hl => by
    have h0 := hS (.mk c k e vs ar (.cons y (.cons u .nil))) (by simp [Nd.pre, Nds.list])
    simp only [Nd.Fit] at hf
    obtain ⟨rfl, rfl, hfy, hfu⟩ := hf
    have hly : y.pre.len ≤ 200 := by simp only [Nd.pre, Bds.pre, Nds.len, Nds.len_app] at hl; omega
    have hlu : u.pre.len ≤ 200 := by simp only [Nd.pre, Bds.pre, Nds.len, Nds.len_app] at hl; omega
    have ihy := Nds.stepW H b y hfy (fun z hz => hS z (by simp only [Nd.pre, Bds.pre, Nds.list, Nds.list_app]; simp [hz])) hly
    have ihu := Nds.stepW H b u hfu (fun z hz => hS z (by simp only [Nd.pre, Bds.pre, Nds.list, Nds.list_app]; simp [hz])) hlu
    have e1 : (Nd.mk 63 k e [] ar (.cons y (.cons u .nil))).bodies.kids = y.list ++ u.list := by simp only [Nd.bodies, kids_two]
    exact wstep_branch H k e [] ar y u (fun d hok => stepsC_of ihy hly (fun z hz => (hok.good.kids z (by rw [e1]; simp [hz])).2)) (fun d hok => stepsC_of ihu hlu (fun z hz => (hok.good.kids z (by rw [e1]; simp [hz])).2))
      (wrL_len V y.list (fun z hz => (ihy z hz).2)) (wrL_len V u.list (fun z hz => (ihu z hz).2)) h0 hl
  | .mk _ _ _ _ _ (.cons _ (.cons _ (.cons _ _))), hf, hS, hl => by simp only [Nd.Fit] at hf
theorem Nds.stepW {w0 : World} {ok : Nat → Prop} {V : Vis} {S : Nd → Prop} {vt : TypeId} {vd : Value} {s : ByteArray} (H : WEnv w0 ok V S vt vd s) (b : Nat) : ∀ (x : Nds), x.Fit → (∀ z ∈ x.pre.list, S z) → x.pre.len ≤ 200 → ∀ z ∈ x.list, StepW w0 ok V (.iface vt vd) b s z ∧ ∀ q ∈ z.pre.list, ShortAt V q
  | .nil, hf, hS, hl => fun z hz => by cases hz
  | .cons x r, hf, hS, hl => by
    simp only [Nds.Fit] at hf
    have hS1 : ∀ z ∈ x.pre.list, S z := fun z hz => hS z (by simp only [Nds.pre, Nds.list_app]; simp [hz])
    have h1 := Nd.stepW H b x hf.1 hS1 (by simp only [Nds.pre, Nds.len_app] at hl; omega)
    have h2 := Nds.stepW H b r hf.2 (fun z hz => hS z (by simp only [Nds.pre, Nds.list_app]; simp [hz])) (by simp only [Nds.pre, Nds.len_app] at hl; omega)
    intro z hz
    rcases List.mem_cons.1 hz with e | hz
    · rw [e]; exact ⟨h1, fun q hq => H.short q (hS1 q hq)⟩
    · exact h2 z hz
end

set_option maxRecDepth 100000 in
set_option maxHeartbeats 2000000 in
theorem wrote_any {w : World} {ok : Nat → Prop} {V : Vis} {S : Nd → Prop} {vt : TypeId} {vd : Value} {s : ByteArray} (H : WEnv w ok V S vt vd s) (x : Nd) (hf : x.Fit) (hS : ∀ z ∈ x.pre.list, S z) (hl : x.pre.len ≤ 200) (d : Nat) (hok : x.Ok s d) (v : Value) (hr : RepI w ok x v) :
    Calls Try.prog 55 #[.iface vt vd, placeV v x.scope d] w (fun e w' => e = .returned (.string ⟨(x.wr V).toArray⟩) ∧ Keeps noB w w') := by
  obtain ⟨ty, g, rfl⟩ := rep_iface _ _ _ _ hr
  obtain ⟨ss, hss⟩ : ∃ ss : ByteArray, str x.scope = .string ss := ⟨_, rfl⟩
  have hpv : placeV (.iface ty (ptr g)) x.scope d = .agg #[.iface ty (.pointer (some ⟨g, 0, none⟩)), .string ss, .int .i64 (d : Int)] := by unfold placeV; rw [hss]; rfl
  obtain ⟨w1, hw1⟩ : ∃ w1, w1 = w.alloc (.cells #[.iface ty (.pointer (some ⟨g, 0, none⟩)), .string ss, .int .i64 (d : Int)] 48) := ⟨_, rfl⟩
  obtain ⟨w2, hw2⟩ : ∃ w2, w2 = w1.alloc (.cells #[.pointer none, .slice none 0 0, .iface vt vd] 136) := ⟨_, rfl⟩
  have hs1 : w1.heap.size = w.heap.size + 1 := by rw [hw1]; simp
  have hs2 : w2.heap.size = w.heap.size + 1 + 1 := by rw [hw2]; simp [hs1]
  have q1 : Keeps noB w w1 := by rw [hw1]; exact (Keeps.refl _ _).alloc _
  have q2 : Keeps noB w w2 := by rw [hw2]; exact q1.alloc _
  have bW : Blk w2 (w.heap.size + 1) #[.pointer none, .slice none 0 0, .iface vt vd] 136 := by rw [hw2, ← hs1]; exact Blk.new _ _ _
  have bP : Blk w2 w.heap.size #[.iface ty (.pointer (some ⟨g, 0, none⟩)), .string ss, .int .i64 (d : Int)] 48 := by rw [hw2, hw1]; exact (Blk.new _ _ _).alloc _
  have hI : WrI w (w.heap.size + 1) (.iface vt vd) [] (oneB (w.heap.size + 1)) w2 :=
    ⟨_, ⟨.pointer none, .slice none 0 0, .inl rfl, bW, rfl, rfl, rfl, ⟨rfl, .inl ⟨rfl, rfl⟩⟩, rfl, fun g hg => by simp [Value.ownBlock] at hg⟩, rfl, fun k (e : k = w.heap.size + 1) => by omega, q2⟩
  have hC := Nd.stepW H (w.heap.size + 1) x hf hS hl d _ [] _ w2 hok hr hI (by simp; omega)
  rw [hpv] at hC ⊢
  rw [List.nil_append] at hC
  have HC := Lib.hid hC
  have p0 := bP.cell 0
  have p1 := bP.cell 1
  have p2 := bP.cell 2
  simp at p0 p1 p2
  have HQ := Lib.hid q2
  obtain ⟨N, hN⟩ : ∃ N, N = w.heap.size := ⟨_, rfl⟩
  have HNN := Lib.hid hN
  clear hC hI bW bP q1 q2 hpv hss hr hok hl hS hf H hs2 hN
  go_enter Try.func55, Try.ntmps55
  go_wp2_with fail
  rw [← hw1, ← hw2]
  clear hw1 hw2 hs1
  refine HC.out.mono ?_
  rintro e w3 ⟨rfl, own, o3, i3⟩
  have HE : Hid (Calls Try.prog 84 #[.pointer (some ⟨w.heap.size + 1, 0, none⟩)] w3 (fun e w' => e = .returned (.string ⟨(x.wr V).toArray⟩) ∧ Keeps noB w w')) := by
    have hnew := i3.new
    have hold := i3.old
    obtain ⟨cs, hb, _, _, _⟩ := i3
    refine (btext_anyX _ cs _ own w3 hb).mono (fun e w' h => ⟨h.1, ?_⟩)
    exact hold.transNew h.2 (fun i hi e => by have := hnew i e; omega)
  clear o3 i3
  go_wp2_with fail
  refine HE.out.mono ?_
  rintro e w4 ⟨rfl, q4⟩
  have HF := Lib.hid q4
  clear q4
  go_wp2_with fail
  go_ret
  exact ⟨rfl, HF.out⟩

end Go.Proofs.Ytccpmhjffcceeaa

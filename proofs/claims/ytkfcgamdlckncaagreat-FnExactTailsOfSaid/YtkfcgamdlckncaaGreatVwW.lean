/-
  Walks of the model's holder: step with bodies, by within.
  Walks of the model's holder: within, a scope.
-/
import Derived.Test.YtkfcgamdlckncaaGreatVt
import Derived.Test.YtkfcgamdlckncaaGreatVn
namespace Go.Proofs.YtkfcgamdlckncaaGreat
set_option linter.unusedVariables false
set_option linter.unusedSimpArgs false
open Go.RowKit

theorem HdSt.ofBox {w w0 : World} {nd : Array Value} {k : Kn} {own : Nat → Prop} {h : Nat} {l : AL} {va vs : Value} (b : StepBox w w0 nd k) (H : HoldAt w own h l va vs) (hlt : ∀ i, own i → i < w.heap.size) : HdSt w w0 own own h l va vs (w.heap.size + 1) (w.heap.size + 1 + 1) k :=
  ⟨⟨fun _ e => .inl e, fun i e => Nat.lt_of_lt_of_le (hlt i e) b.q.size, b.q.mono (fun _ e => e.elim)⟩, H.quiet b.q, b.bS, b.bR, fun e => by have := hlt _ e; omega, fun e => by have := hlt _ e; omega, by omega, by omega, by omega⟩

set_option maxRecDepth 100000 in
set_option maxHeartbeats 4000000 in
theorem hstep_within (k t : Kn) (M : Notes) (c : Int) (hc : c = 63 ∨ c = 42 ∨ c = 123) (l : AL) (own : Nat → Prop) (h : Nat) (va vs : Value) (kv ev : Int) (vr ar : ByteArray) (xa : Option Addr) (xn xc : Nat) (w : World) (H : HoldAt w own h l va vs) (hlt : ∀ i, own i → i < w.heap.size)
    (HW : ∀ w1, Keeps noB w w1 → Calls Tryz.prog 86 #[.pointer (some ⟨h, 0, none⟩), .agg #[.int .u8 c, .int .i64 kv, .int .i64 ev, .string vr, .slice xa xn xc, .string ar], stV k] w1 (Notes1 w1 own h M (stV t))) :
    Calls Tryz.prog 61 #[.pointer (some ⟨h, 0, none⟩), .agg #[.int .u8 c, .int .i64 kv, .int .i64 ev, .string vr, .slice xa xn xc, .string ar], stV k] w (Notes1 w own h M (stV t)) := by
  have hB := StepBox.start (w := w) (nd := #[.int .u8 c, .int .i64 kv, .int .i64 ev, .string vr, .slice xa xn xc, .string ar]) (k := k) (Keeps.refl _ _)
  have hst := HdSt.ofBox hB H hlt
  have HC := Lib.hid (HW _ hB.q)
  have HD : Hid (∀ w2, Notes1 (((w.alloc (.cells #[.int .u8 c, .int .i64 kv, .int .i64 ev, .string vr, .slice xa xn xc, .string ar] 52)).alloc (.cells #[.string (mayB k), .string (mustB k), .bool (liveK k)] 60)).alloc (.cells #[.string ⟨#[]⟩, .string ⟨#[]⟩, .bool false] 60)) own h M (stV t) (.returned (stV t)) w2 →
      HdCells w2 (w.heap.size + 1) (w.heap.size + 1 + 1) (mayB k) (mustB k) (liveK k) ∧
      ((((w2.setCell ⟨w.heap.size + 1 + 1, 0, none⟩ (.string (mayB t))).setCell ⟨w.heap.size + 1 + 1, 1, none⟩ (.string (mustB t))).setCell ⟨w.heap.size + 1 + 1, 2, none⟩ (.bool (liveK t))).cell? ⟨w.heap.size + 1 + 1, 0, none⟩ = some (.string (mayB t)) ∧
      (((w2.setCell ⟨w.heap.size + 1 + 1, 0, none⟩ (.string (mayB t))).setCell ⟨w.heap.size + 1 + 1, 1, none⟩ (.string (mustB t))).setCell ⟨w.heap.size + 1 + 1, 2, none⟩ (.bool (liveK t))).cell? ⟨w.heap.size + 1 + 1, 1, none⟩ = some (.string (mustB t)) ∧
      (((w2.setCell ⟨w.heap.size + 1 + 1, 0, none⟩ (.string (mayB t))).setCell ⟨w.heap.size + 1 + 1, 1, none⟩ (.string (mustB t))).setCell ⟨w.heap.size + 1 + 1, 2, none⟩ (.bool (liveK t))).cell? ⟨w.heap.size + 1 + 1, 2, none⟩ = some (.bool (liveK t)) ∧
      Notes1 w own h M (stV t) (.returned (stV t)) (((w2.setCell ⟨w.heap.size + 1 + 1, 0, none⟩ (.string (mayB t))).setCell ⟨w.heap.size + 1 + 1, 1, none⟩ (.string (mustB t))).setCell ⟨w.heap.size + 1 + 1, 2, none⟩ (.bool (liveK t))))) := by
    rintro w2 ⟨own2, l2, va2, vs2, he, ho2, hH2, hM2⟩
    have hs2 := hst.call ho2 hH2
    have hd := hs2.done (.string (mayB t)) (.string (mustB t)) (.bool (liveK t)) (stV t)
    rw [hM2] at hd
    exact ⟨hs2.cells, hd⟩
  clear hB hst HW
  rw [stV_eq k]
  rw [stV_eq k] at HC
  rw [stV_eq t] at *
  rcases hc with rfl | rfl | rfl
  all_goals
    go_enter Tryz.func61, Tryz.ntmps61
    go_wp2_with fail
    refine HC.out.mono ?_
    rintro e w2 hn
    obtain ⟨hcs, hd⟩ := HD.out w2 (by obtain ⟨a1, a2, a3, a4, a5, a6, a7, a8⟩ := hn; exact ⟨a1, a2, a3, a4, rfl, a6, a7, a8⟩)
    obtain ⟨_, _, _, _, rfl, _, _, _⟩ := hn
    have ⟨t0, t1, t2, t3, t4, t5, ⟨t6, t7, t8⟩, t9, t10, t11⟩ := hcs
    have HF := Lib.hid hd
    clear hcs hd
    go_wp2_with fail
    obtain ⟨f0, f1, f2, f3⟩ := HF.out
    exact bodyPost_ret (resSt Tryz.results61 _ (w.heap.size + 1 + 1) _ _ _ _ rfl f0 f1 f2) rfl f3

end Go.Proofs.YtkfcgamdlckncaaGreat

namespace Go.Proofs.YtkfcgamdlckncaaGreat
set_option linter.unusedVariables false
set_option linter.unusedSimpArgs false
open Go.RowKit

theorem changed_twice {k : Kn} (hk : k.Wf) {v : UInt8} (hv : ltr v) (r : List UInt8) : (k.changed 0 (bitV v)).changed 0 (bitsV r) = k.changed 0 (bitsV (v :: r)) := by
  by_cases hn : k = Kn.no
  · subst hn; simp [Kn.changed]
  · have h1 := val_clear hk hn v
    have h2 : (k.changed 0 (bitV v)).Wf := wf_changed hk (by decide)
    have h3 : k.changed 0 (bitV v) ≠ Kn.no := changed_live hk hn (by decide)
    rw [← val_clears h2 h3, ← h1, ← val_clears hk hn]
    rfl
theorem changed_none {k : Kn} (hk : k.Wf) : k.changed 0 (bitsV []) = k := by
  by_cases hn : k = Kn.no
  · subst hn; simp [Kn.changed]
  · rw [← val_clears hk hn]; rfl

/-- The boxes of within: the holder's, and the node's. -/
structure WiSt (w w1 : World) (own own1 : Nat → Prop) (h : Nat) (l : AL) (va vs : Value) (nd : Array Value) (k : Kn) : Prop where
  d : HdSt w w1 own own1 h l va vs (w.heap.size + 1) (w.heap.size + 1 + 1) k
  bN : Blk w1 w.heap.size nd 52
  frN : ¬ own1 w.heap.size
theorem WiSt.start {w w1 : World} {nd : Array Value} {k : Kn} {own : Nat → Prop} {h : Nat} {l : AL} {va vs : Value} (q : Keeps noB (((w.alloc (.cells nd 52)).alloc (.cells #[.string (mayB k), .string (mustB k), .bool (liveK k)] 60)).alloc (.cells #[.string ⟨#[]⟩, .string ⟨#[]⟩, .bool false] 60)) w1)
    (H : HoldAt w own h l va vs) (hlt : ∀ i, own i → i < w.heap.size) : WiSt w w1 own own h l va vs nd k :=
  ⟨HdSt.ofBox (StepBox.start q) H hlt, (StepBox.start q).bN, fun e => by have := hlt _ e; omega⟩
theorem WiSt.call {w w1 w2 : World} {own own1 own2 : Nat → Prop} {h : Nat} {l l2 : AL} {va vs va2 vs2 : Value} {nd : Array Value} {k : Kn} (a : WiSt w w1 own own1 h l va vs nd k) (ho : Owns own1 own2 w1 w2) (H2 : HoldAt w2 own2 h l2 va2 vs2) : WiSt w w2 own own2 h l2 va2 vs2 nd k :=
  ⟨a.d.call ho H2, ho.keeps.blk a.bN a.frN, fun e => (ho.more _ e).elim a.frN (fun e2 => by have := a.bN.lt; omega)⟩
theorem WiSt.quiet {w w1 w2 : World} {own own1 : Nat → Prop} {h : Nat} {l : AL} {va vs : Value} {nd : Array Value} {k : Kn} (a : WiSt w w1 own own1 h l va vs nd k) (q : Keeps noB w1 w2) : WiSt w w2 own own1 h l va vs nd k :=
  ⟨a.d.quiet q, q.blk a.bN id, a.frN⟩
theorem WiSt.store {w w1 : World} {own own1 : Nat → Prop} {h : Nat} {l : AL} {va vs : Value} {nd : Array Value} {k : Kn} (a : WiSt w w1 own own1 h l va vs nd k) (t : Kn) :
    WiSt w (((w1.setCell ⟨w.heap.size + 1, 0, none⟩ (.string (mayB t))).setCell ⟨w.heap.size + 1, 1, none⟩ (.string (mustB t))).setCell ⟨w.heap.size + 1, 2, none⟩ (.bool (liveK t))) own own1 h l va vs nd t := by
  have n1 : w.heap.size + 1 ≠ w.heap.size := by omega
  exact ⟨a.d.store t, ((a.bN.setOther n1 _).setOther n1 _).setOther n1 _, a.frN⟩

/-- What the loop over a scope's variables holds. -/
def ScRel (w : World) (own : Nat → Prop) (h : Nat) (nd : Array Value) (M : Notes) (vr : List UInt8) (K : Kn) (v62 : Value) (wr : World) : Prop :=
  ∃ (i : Nat) (kt : Kn) (own2 : Nat → Prop) (l2 : AL) (va2 vs2 : Value), i ≤ vr.length ∧ v62 = .int .i64 (i : Int) ∧ kt.Wf ∧ kt.changed 0 (bitsV (vr.drop i)) = K ∧ lookL l2 = M ∧ WiSt w wr own own2 h l2 va2 vs2 nd kt

set_option maxRecDepth 100000 in
set_option maxHeartbeats 4000000 in
theorem hscope_any (k kb : Kn) (hk : k.Wf) (hkb : kb.Wf) (l : AL) (own : Nat → Prop) (h : Nat) (va vs : Value) (kv : Int) (e : Nat) (he : 1 ≤ e) (he2 : e ≤ 81) (vr : List UInt8) (hl : ∀ v ∈ vr, ltr v) (hll : vr.length ≤ 1000) (ar : ByteArray) (gB n c : Nat) (hn : 0 < n) (xa : Option Addr) (xn xc : Nat) (w : World)
    (H : HoldAt w own h l va vs) (hlt : ∀ i, own i → i < w.heap.size) (hg : gB < w.heap.size) (hgc : w.cell? ⟨gB, 0, none⟩ = some (.slice xa xn xc)) (M1 : Notes)
    (HB : ∀ w1, Keeps noB w w1 → Calls Tryz.prog 39 #[.pointer (some ⟨h, 0, none⟩), .slice xa xn xc, stV k] w1 (Notes1 w1 own h M1 (stV kb))) :
    Calls Tryz.prog 86 #[.pointer (some ⟨h, 0, none⟩), .agg #[.int .u8 123, .int .i64 kv, .int .i64 (e : Int), .string ⟨vr.toArray⟩, .slice (some ⟨gB, 0, none⟩) n c, .string ar], stV k] w (Notes1 w own h (Notes.both M1 (point (e - 1) kb)) (stV (kb.changed 0 (bitsV vr)))) := by
  obtain ⟨sv, hsv⟩ : ∃ sv : ByteArray, sv = ⟨vr.toArray⟩ := ⟨_, rfl⟩
  rw [← hsv]
  have hsz : sv.size = vr.length := by rw [hsv]; exact size_arr vr
  have hget : ∀ (i : Nat) (hi : i < sv.size), vr[i]? = some sv[i] := by
    intro i hi
    subst hsv
    rw [List.getElem?_eq_getElem (by omega)]
    rfl
  have hsz1 : (sv.size : Int) ≤ 1000 := by omega
  have hn1 : (0 : Int) < (n : Int) := by omega
  have hnn : ¬ n = 0 := by omega
  have hgN : ¬ gB = w.heap.size := by omega
  have hgS : ¬ gB = w.heap.size + 1 := by omega
  have hgR : ¬ gB = w.heap.size + 1 + 1 := by omega
  have HW0 := Lib.hid (fun w1 q => WiSt.start (w := w) (w1 := w1) (nd := #[.int .u8 123, .int .i64 kv, .int .i64 (e : Int), .string sv, .slice (some ⟨gB, 0, none⟩) n c, .string ar]) (k := k) q H hlt)
  have HBB := Lib.hid HB
  have HG := Lib.hid (fun w1 (q : Keeps noB w w1) => (q.cell (p := ⟨gB, 0, none⟩) hg id).trans hgc)
  have HNT := Lib.hid (note_any kb hkb (e - 1) (by omega))
  have hei : ((e - 1 : Nat) : Int) = (e : Int) - 1 := by omega
  rw [hei] at HNT
  have hei1 : (1 : Int) ≤ (e : Int) := by omega
  have hei2 : (e : Int) ≤ 81 := by omega
  have HSV := Lib.hid (And.intro hsz (And.intro hget (And.intro hl hkb)))
  generalize hK : kb.changed 0 (bitsV vr) = K at *
  rw [stV_eq k]
  rw [stV_eq k] at HBB
  rw [stV_eq kb] at *
  clear hsv hget hsz hl hll HB hk hkb hei hgc H hlt
  go_enter Tryz.func86, Tryz.ntmps86
  go_wp2_with fail
  refine wp_region_still_tail 6 (by kernel_rfl) (by kernel_rfl) ?_
  simp only [List.take_succ_cons, List.take_zero, List.drop_succ_cons, List.drop_zero]
  change wpStill _ _ (World.drew _) (fun a' => wpList _ _ _ _ a' (World.drew _)) _ _
  have HW := Lib.hid (HW0.out (World.drew (((w.alloc (.cells #[.int .u8 123, .int .i64 kv, .int .i64 (e : Int), .string sv, .slice (some ⟨gB, 0, none⟩) n c, .string ar] 52)).alloc (.cells #[.string (mayB k), .string (mustB k), .bool (liveK k)] 60)).alloc (.cells #[.string ⟨#[]⟩, .string ⟨#[]⟩, .bool false] 60))) (Keeps.refl _ _).drew)
  have HQ0 : Hid (Keeps noB w (World.drew (((w.alloc (.cells #[.int .u8 123, .int .i64 kv, .int .i64 (e : Int), .string sv, .slice (some ⟨gB, 0, none⟩) n c, .string ar] 52)).alloc (.cells #[.string (mayB k), .string (mustB k), .bool (liveK k)] 60)).alloc (.cells #[.string ⟨#[]⟩, .string ⟨#[]⟩, .bool false] 60)))) := ((((Keeps.refl _ w).alloc _).alloc _).alloc _).drew
  generalize World.drew _ = w0 at *
  have ⟨t0, t1, t2, t3, t4, t5, ⟨t6, t7, t8⟩, t9, t10, t11⟩ := HW.out.d.cells
  have n2 := HW.out.bN.cell 2
  have n3 := HW.out.bN.cell 3
  have n4 := HW.out.bN.cell 4
  simp at n2 n3 n4
  have g0 := HG.out w0 HQ0.out
  still_step
  still_step
  still_step
  still_step
  still_step
  still_step
  refine wpStill_nil ?_
  have HS1 : Hid (∀ own1 l1 va1 vs1 w1, Owns own own1 w0 w1 → HoldAt w1 own1 h l1 va1 vs1 → WiSt w w1 own own1 h l1 va1 vs1 #[.int .u8 123, .int .i64 kv, .int .i64 (e : Int), .string sv, .slice (some ⟨gB, 0, none⟩) n c, .string ar] k) := fun own1 l1 va1 vs1 w1 ho hH => HW.out.call ho hH
  have HC := Lib.hid (HBB.out w0 HQ0.out)
  clear HBB HG HW0 HW HQ0
  go_wp2_with (first
    | (go_at_call 39; refine HC.out.mono ?_; rintro e1 w1 ⟨own1, l1, va1, vs1, rfl, ho1, hH1, hM1⟩
       have hs1 := HS1.out own1 l1 va1 vs1 w1 ho1 hH1
       have ⟨r0, r1, r2, r3, r4, r5, ⟨r6, r7, r8⟩, r9, r10, r11⟩ := hs1.d.cells
       have m2 := hs1.bN.cell 2
       simp at m2
       have HS2 := Lib.hid (And.intro (hs1.store kb) hM1)
       clear ho1 hH1 hs1 hM1)
    | (go_at_call 60; refine (HNT.out _ _ own1 h va1 vs1 HS2.out.1.d.H HS2.out.1.d.o.lt).mono ?_; rintro e2 w2 ⟨own2, l2, va2, vs2, rfl, ho2, hH2, hM2⟩
       have hs3 := HS2.out.1.call ho2 hH2
       have ⟨p0, p1, p2, p3, p4, p5, ⟨p6, p7, p8⟩, p9, p10, p11⟩ := hs3.d.cells
       have p12 := hs3.bN.cell 3
       simp at p12
       have HS3 := Lib.hid hs3
       have HM := Lib.hid (show lookL l2 = Notes.both M1 (point (e - 1) kb) from by rw [hM2, HS2.out.2])
       clear ho2 hH2 hs3 hM2))
  have HP : Hid (ScRel w own h #[.int .u8 123, .int .i64 kv, .int .i64 (e : Int), .string sv, .slice (some ⟨gB, 0, none⟩) n c, .string ar] (Notes.both M1 (point (e - 1) kb)) vr K (.int .i64 0) w2) :=
    ⟨0, kb, own2, l2, va2, vs2, Nat.zero_le _, rfl, HSV.out.2.2.2, by rw [List.drop_zero]; exact hK, HM.out, HS3.out⟩
  generalize Notes.both M1 (point (e - 1) kb) = M at *
  clear HS1 HNT HC HS2 HS3 HM g0
  go_loopw [62] (fun v62 wr => ScRel w own h #[.int .u8 123, .int .i64 kv, .int .i64 (e : Int), .string sv, .slice (some ⟨gB, 0, none⟩) n c, .string ar] M vr K v62 wr) (fun v62 _ => sv.size - (intOf v62).toNat)
  case atStart => exact HP.out
  case round =>
    clear HP
    obtain ⟨i, kt, own3, l3, va3, vs3, hil, rfl, hkt, hkk, hM3, hst⟩ := hrel
    have ⟨r0, r1, r2, r3, r4, r5, ⟨r6, r7, r8⟩, r9, r10, r11⟩ := hst.d.cells
    have m3 := hst.bN.cell 3
    simp at m3
    have HST := Lib.hid hst
    by_cases hi : i < sv.size
    · have hget := HSV.out.2.1 i hi
      have hv : ltr sv[i] := HSV.out.2.2.1 _ (List.mem_of_getElem? hget)
      have HN := Lib.hid (fun w => sclear_any kt hkt hv w)
      rw [stV_eq kt, stV_eq (kt.changed 0 (bitV sv[i]))] at HN
      unfold u8 at HN
      have hdr : vr.drop i = sv[i] :: vr.drop (i + 1) := by
        have hlt : i < vr.length := by have := HSV.out.1; omega
        rw [List.drop_eq_getElem_cons hlt]
        rw [List.getElem?_eq_getElem hlt] at hget
        rw [Option.some.inj hget]
      have HR : Hid (∀ w2, Keeps noB (World.drew wr) w2 → ScRel w own h #[.int .u8 123, .int .i64 kv, .int .i64 (e : Int), .string sv, .slice (some ⟨gB, 0, none⟩) n c, .string ar] M vr K (.int .i64 ((i : Int) + 1)) (((w2.setCell ⟨w.heap.size + 1, 0, none⟩ (.string (mayB (kt.changed 0 (bitV sv[i]))))).setCell ⟨w.heap.size + 1, 1, none⟩ (.string (mustB (kt.changed 0 (bitV sv[i]))))).setCell ⟨w.heap.size + 1, 2, none⟩ (.bool (liveK (kt.changed 0 (bitV sv[i])))))) := fun w2 q =>
        ⟨i + 1, kt.changed 0 (bitV sv[i]), own3, l3, va3, vs3, by have := HSV.out.1; omega, by simp, wf_changed hkt (by decide), by rw [changed_twice hkt hv, ← hdr]; exact hkk, hM3, (HST.out.quiet ((Keeps.refl noB wr).drew.trans q)).store _⟩
      have HQ : Hid (∀ w2, Keeps noB (World.drew wr) w2 → HdCells w2 (w.heap.size + 1) (w.heap.size + 1 + 1) (mayB kt) (mustB kt) (liveK kt)) := fun w2 q => (HST.out.quiet ((Keeps.refl noB wr).drew.trans q)).d.cells
      have hi1 : (i : Int) < (sv.size : Int) := by omega
      have hd := HQ.out (World.drew wr) (Keeps.refl _ _)
      have hdn : (World.drew wr).cell? ⟨w.heap.size, 3, none⟩ = some (.string sv) := ((HST.out.quiet (Keeps.refl noB wr).drew).bN.cell 3).trans rfl
      generalize kt.changed 0 (bitV sv[i]) = kn at *
      clear hget hv hdr hkt hkk hM3 hst hil
      obtain ⟨vi, hvi⟩ : ∃ vi : UInt8, sv[i] = vi := ⟨_, rfl⟩
      rw [hvi] at HN
      go_wp2_with fail
      refine wp_region_still_tail 5 (by kernel_rfl) (by kernel_rfl) ?_
      simp only [List.take_succ_cons, List.take_zero, List.drop_succ_cons, List.drop_zero]
      change wpStill _ _ (World.drew _) (fun a' => wpList _ _ _ _ a' (World.drew _)) _ _
      generalize World.drew _ = wd at *
      have ⟨t0, t1, t2, t3, t4, t5, ⟨t6, t7, t8⟩, t9, t10, t11⟩ := hd
      still_step
      still_step
      still_step
      still_step
      still_step
      refine wpStill_nil ?_
      go_wp2_with (go_at_call 85; refine (HN.out _).mono ?_; rintro e3 w3 ⟨rfl, q3⟩; have hz := HQ.out w3 q3; have ⟨z0, z1, z2, z3, z4, z5, ⟨z6, z7, z8⟩, z9, z10, z11⟩ := hz; have HZ := Lib.hid (HR.out w3 q3); clear q3 hz)
      exact ⟨HZ.out, by simp [intOf]; omega⟩
    · have hie : i = vr.length := by have := HSV.out.1; omega
      have hkK : kt = K := by rw [← hkk, hie, List.drop_length, changed_none hkt]
      have hi1 : ¬ (i : Int) < (sv.size : Int) := by omega
      subst hkK hM3
      have HF := Lib.hid (hst.d.done (.string (mayB kt)) (.string (mustB kt)) (.bool (liveK kt)) (stV kt))
      clear hkk hst hil HST
      rw [stV_eq kt] at *
      go_wp2_with fail
      obtain ⟨f0, f1, f2, f3⟩ := HF.out
      exact bodyPost_ret (resSt Tryz.results86 _ (w.heap.size + 1 + 1) _ _ _ _ rfl f0 f1 f2) rfl f3

end Go.Proofs.YtkfcgamdlckncaaGreat

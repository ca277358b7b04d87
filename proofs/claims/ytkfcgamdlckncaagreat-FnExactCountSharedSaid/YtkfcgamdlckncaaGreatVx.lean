/-
  Walks of the model's holder: within, a branch.
-/
import Derived.Test.YtkfcgamdlckncaaGreatVwW
namespace Go.Proofs.YtkfcgamdlckncaaGreat
set_option linter.unusedVariables false
set_option linter.unusedSimpArgs false
open Go.RowKit

/-- The boxes of within behind the first body of a branch. -/
structure BrSt (w w1 : World) (own own1 : Nat → Prop) (h : Nat) (l : AL) (va vs : Value) (nd : Array Value) (k : Kn) (A : Nat) (ka : Kn) : Prop where
  s : WiSt w w1 own own1 h l va vs nd k
  bA : Blk w1 A #[.string (mayB ka), .string (mustB ka), .bool (liveK ka)] 60
  frA : ¬ own1 A
  geA : w.heap.size + 1 + 1 < A
theorem BrSt.ofStore {w w1 : World} {own own1 : Nat → Prop} {h : Nat} {l : AL} {va vs : Value} {nd : Array Value} {k : Kn} {A : Nat} (a : WiSt w w1 own own1 h l va vs nd k) {t : Array Value} (ht : t.size = 3) (bA : Blk w1 A t 60) (frA : ¬ own1 A) (geA : w.heap.size + 1 + 1 < A) (ka : Kn) :
    BrSt w (((w1.setCell ⟨A, 0, none⟩ (.string (mayB ka))).setCell ⟨A, 1, none⟩ (.string (mustB ka))).setCell ⟨A, 2, none⟩ (.bool (liveK ka))) own own1 h l va vs nd k A ka := by
  have q : Keeps (oneB A) w1 (((w1.setCell ⟨A, 0, none⟩ (.string (mayB ka))).setCell ⟨A, 1, none⟩ (.string (mustB ka))).setCell ⟨A, 2, none⟩ (.bool (liveK ka))) := (((Keeps.refl (oneB A) w1).setCell (p := ⟨A, 0, none⟩) (.inl rfl) _).setCell (p := ⟨A, 1, none⟩) (.inl rfl) _).setCell (p := ⟨A, 2, none⟩) (.inl rfl) _
  have d := a.d
  refine ⟨⟨⟨d.o.ahead q (fun i e => by have : i = A := e; omega), d.H.keeps q (fun g hg e => frA (by have : g = A := e; rw [← this]; exact hg)), q.blk d.bS (fun e => by have : w.heap.size + 1 = A := e; omega), q.blk d.bR (fun e => by have : w.heap.size + 1 + 1 = A := e; omega), d.frS, d.frR, d.geS, d.geR, d.ne⟩, q.blk a.bN (fun e => by have : w.heap.size = A := e; omega), a.frN⟩, ?_, frA, geA⟩
  have b := ((bA.set 0 (.string (mayB ka))).set 1 (.string (mustB ka))).set 2 (.bool (liveK ka))
  obtain ⟨tl⟩ := t
  match tl, ht with
  | [x, y, z], _ => exact b
theorem BrSt.call {w w1 w2 : World} {own own1 own2 : Nat → Prop} {h : Nat} {l l2 : AL} {va vs va2 vs2 : Value} {nd : Array Value} {k ka : Kn} {A : Nat} (a : BrSt w w1 own own1 h l va vs nd k A ka) (ho : Owns own1 own2 w1 w2) (H2 : HoldAt w2 own2 h l2 va2 vs2) : BrSt w w2 own own2 h l2 va2 vs2 nd k A ka :=
  ⟨a.s.call ho H2, ho.keeps.blk a.bA a.frA, fun e => (ho.more _ e).elim a.frA (fun e2 => by have := a.bA.lt; omega), a.geA⟩
theorem BrSt.quiet {w w1 w2 : World} {own own1 : Nat → Prop} {h : Nat} {l : AL} {va vs : Value} {nd : Array Value} {k ka : Kn} {A : Nat} (a : BrSt w w1 own own1 h l va vs nd k A ka) (q : Keeps noB w1 w2) : BrSt w w2 own own1 h l va vs nd k A ka :=
  ⟨a.s.quiet q, q.blk a.bA id, a.frA, a.geA⟩

set_option maxRecDepth 100000 in
set_option maxHeartbeats 4000000 in
theorem hbranch_any (k ka kb : Kn) (hk : k.Wf) (hka : ka.Wf) (hkb : kb.Wf) (l : AL) (own : Nat → Prop) (h : Nat) (va vs : Value) (kv ev : Int) (vr ar : ByteArray) (gB n c : Nat) (hn : 1 < n) (xa ya : Option Addr) (xn xc yn yc : Nat) (w : World)
    (H : HoldAt w own h l va vs) (hlt : ∀ i, own i → i < w.heap.size) (hg : gB < w.heap.size) (hgo : ¬ own gB) (hgc : w.cell? ⟨gB, 0, none⟩ = some (.slice xa xn xc)) (hgd : w.cell? ⟨gB, 1, none⟩ = some (.slice ya yn yc)) (M1 : Notes) (M2 : Notes)
    (HB : ∀ w1, Keeps noB w w1 → Calls Tryz.prog 39 #[.pointer (some ⟨h, 0, none⟩), .slice xa xn xc, stV k] w1 (Notes1 w1 own h M1 (stV ka)))
    (HB2 : ∀ own1 l1 va1 vs1 w1, Owns own own1 w w1 → HoldAt w1 own1 h l1 va1 vs1 → lookL l1 = M1 → Calls Tryz.prog 39 #[.pointer (some ⟨h, 0, none⟩), .slice ya yn yc, stV k] w1 (Notes1 w1 own1 h M2 (stV kb))) :
    Calls Tryz.prog 86 #[.pointer (some ⟨h, 0, none⟩), .agg #[.int .u8 63, .int .i64 kv, .int .i64 ev, .string vr, .slice (some ⟨gB, 0, none⟩) n c, .string ar], stV k] w (Notes1 w own h M2 (stV (ka.join kb))) := by
  have hnz : 0 < n := by omega
  have hn0 : (0 : Int) < (n : Int) := by omega
  have hn1 : (1 : Int) < (n : Int) := by omega
  have hgN : ¬ gB = w.heap.size := by omega
  have hgS : ¬ gB = w.heap.size + 1 := by omega
  have hgR : ¬ gB = w.heap.size + 1 + 1 := by omega
  have HW0 := Lib.hid (fun w1 q => WiSt.start (w := w) (w1 := w1) (nd := #[.int .u8 63, .int .i64 kv, .int .i64 ev, .string vr, .slice (some ⟨gB, 0, none⟩) n c, .string ar]) (k := k) q H hlt)
  have HG := Lib.hid (fun w1 (q : Keeps noB w w1) => (q.cell (p := ⟨gB, 0, none⟩) hg id).trans hgc)
  have HJ := Lib.hid (fun w => sjoin_any ka kb hka hkb w)
  have HBB := Lib.hid HB
  have HBC := Lib.hid HB2
  rw [stV_eq k] at HBB HBC
  rw [stV_eq ka] at HBB HJ
  rw [stV_eq kb] at HBC HJ
  rw [stV_eq (ka.join kb)] at *
  rw [stV_eq k]
  clear HB HB2 hk hka hkb hgc H hlt
  go_enter Tryz.func86, Tryz.ntmps86
  go_wp2_with fail
  rename_i K4 hK4
  have HT : Hid (∀ (A : Nat) (wr : World) (own1 : Nat → Prop) (l1 : AL) (va1 vs1 : Value), BrSt w wr own own1 h l1 va1 vs1 #[.int .u8 63, .int .i64 kv, .int .i64 ev, .string vr, .slice (some ⟨gB, 0, none⟩) n c, .string ar] k A ka → lookL l1 = M1 → K4 ⟨#[Value.pointer (some ⟨h, 0, none⟩), Value.agg #[.int .u8 63, .int .i64 kv, .int .i64 ev, .string vr, .slice (some ⟨gB, 0, none⟩) n c, .string ar], Value.agg #[.string (mayB k), .string (mustB k), .bool (liveK k)], undef, Value.pointer (some ⟨w.heap.size, 0, none⟩), Value.pointer (some ⟨w.heap.size + 1, 0, none⟩), Value.pointer (some ⟨w.heap.size + 1 + 1, 0, none⟩), Value.pointer (some ⟨A, 0, none⟩), undef, undef, Value.pointer (some ⟨w.heap.size, 0, none⟩), Value.int .u8 63, Value.bool true, Value.bool true, Value.pointer (some ⟨h, 0, none⟩), Value.pointer (some ⟨w.heap.size, 4, none⟩), Value.slice (some ⟨gB, 0, none⟩) n c, Value.pointer (some ⟨gB, 0, none⟩), Value.slice xa xn xc, Value.agg #[.string (mayB k), .string (mustB k), .bool (liveK k)], Value.agg #[.string (mayB ka), .string (mustB ka), .bool (liveK ka)], undef, undef, undef, undef, undef, undef, undef, undef, undef, undef, undef, undef, undef, undef, undef, undef, undef, undef, undef, undef, undef, undef, undef, undef, undef, undef, undef, undef, undef, undef, undef, undef, undef, undef, undef, undef, undef, undef, undef, undef, undef, undef, undef, undef, undef, undef, undef, undef, undef, undef, undef, undef], []⟩ wr) := by
    intro A wr own1 l1 va1 vs1 hbr0 hM1
    have hbr := (hbr0.quiet (Keeps.refl noB wr).drew)
    have g1 : (World.drew wr).cell? ⟨gB, 1, none⟩ = some (.slice ya yn yc) := (hbr.s.d.o.keeps.cell (p := ⟨gB, 1, none⟩) hg hgo).trans hgd
    have ⟨t0, t1, t2, t3, t4, t5, ⟨t6, t7, t8⟩, t9, t10, t11⟩ := hbr.s.d.cells
    have n4 : (World.drew wr).cell? ⟨w.heap.size, 4, none⟩ = some (.slice (some ⟨gB, 0, none⟩) n c) := (hbr.s.bN.cell 4).trans rfl
    have a0 : (World.drew wr).cell? ⟨A, 0, none⟩ = some (.string (mayB ka)) := (hbr.bA.cell 0).trans rfl
    have a1 : (World.drew wr).cell? ⟨A, 1, none⟩ = some (.string (mustB ka)) := (hbr.bA.cell 1).trans rfl
    have a2 : (World.drew wr).cell? ⟨A, 2, none⟩ = some (.bool (liveK ka)) := (hbr.bA.cell 2).trans rfl
    have HC := Lib.hid (HBC.out own1 l1 va1 vs1 (World.drew wr) hbr.s.d.o hbr.s.d.H hM1)
    have HD := Lib.hid hbr
    clear hbr hM1 hbr0
    apply hK4
    go_wp2_with fail
    go_region_law (first
      | (go_simp; go_at_call 39; refine HC.out.mono ?_; rintro e2 w2 ⟨own2, l2, va2, vs2, rfl, ho2, hH2, hM2⟩
         have hb2 := HD.out.call ho2 hH2
         have ⟨r0, r1, r2, r3, r4, r5, ⟨r6, r7, r8⟩, r9, r10, r11⟩ := hb2.s.d.cells
         have b0 : w2.cell? ⟨A, 0, none⟩ = some (.string (mayB ka)) := (hb2.bA.cell 0).trans rfl
         have b1 : w2.cell? ⟨A, 1, none⟩ = some (.string (mustB ka)) := (hb2.bA.cell 1).trans rfl
         have b2 : w2.cell? ⟨A, 2, none⟩ = some (.bool (liveK ka)) := (hb2.bA.cell 2).trans rfl
         have HE := Lib.hid (And.intro hb2.s.d hM2)
         clear ho2 hH2 hM2 hb2)
      | (go_simp; go_at_call 82; refine (HJ.out _).mono ?_; rintro e3 w3 ⟨rfl, q3⟩
         have hb3 := HE.out.1.quiet q3
         have ⟨s0, s1, s2, s3, s4, s5, ⟨s6, s7, s8⟩, s9, s10, s11⟩ := hb3.cells
         have HZ := Lib.hid (hb3.done (.string (mayB (ka.join kb))) (.string (mustB (ka.join kb))) (.bool (liveK (ka.join kb))) (stV (ka.join kb)))
         clear q3 hb3))
    all_goals
      go_wp2_with fail
      obtain ⟨f0, f1, f2, f3⟩ := HZ.out
      rw [HE.out.2, stV_eq (ka.join kb)] at f3
      exact bodyPost_ret (resSt Tryz.results86 _ (w.heap.size + 1 + 1) _ _ _ _ rfl f0 f1 f2) rfl f3

  have HW := Lib.hid (HW0.out (World.drew (((w.alloc (.cells #[.int .u8 63, .int .i64 kv, .int .i64 ev, .string vr, .slice (some ⟨gB, 0, none⟩) n c, .string ar] 52)).alloc (.cells #[.string (mayB k), .string (mustB k), .bool (liveK k)] 60)).alloc (.cells #[.string ⟨#[]⟩, .string ⟨#[]⟩, .bool false] 60))) (Keeps.refl _ _).drew)
  have HQ0 : Hid (Keeps noB w (World.drew (((w.alloc (.cells #[.int .u8 63, .int .i64 kv, .int .i64 ev, .string vr, .slice (some ⟨gB, 0, none⟩) n c, .string ar] 52)).alloc (.cells #[.string (mayB k), .string (mustB k), .bool (liveK k)] 60)).alloc (.cells #[.string ⟨#[]⟩, .string ⟨#[]⟩, .bool false] 60)))) := ((((Keeps.refl _ w).alloc _).alloc _).alloc _).drew
  generalize (((w.alloc (.cells #[.int .u8 63, .int .i64 kv, .int .i64 ev, .string vr, .slice (some ⟨gB, 0, none⟩) n c, .string ar] 52)).alloc (.cells #[.string (mayB k), .string (mustB k), .bool (liveK k)] 60)).alloc (.cells #[.string ⟨#[]⟩, .string ⟨#[]⟩, .bool false] 60)) = w0 at *
  have ⟨t0, t1, t2, t3, t4, t5, ⟨t6, t7, t8⟩, t9, t10, t11⟩ := HW.out.d.cells
  have n4 : (World.drew w0).cell? ⟨w.heap.size, 4, none⟩ = some (.slice (some ⟨gB, 0, none⟩) n c) := (HW.out.bN.cell 4).trans rfl
  have g0 := HG.out _ HQ0.out
  have hlR : w.heap.size + 1 + 1 < w0.heap.size := HW.out.d.bR.lt
  have x1 : ¬ w.heap.size = w0.heap.size := by omega
  have x2 : ¬ w.heap.size + 1 = w0.heap.size := by omega
  have x3 : ¬ w.heap.size + 1 + 1 = w0.heap.size := by omega
  have x4 : ¬ gB = w0.heap.size := by omega
  have x5 : ¬ w0.heap.size = w.heap.size := by omega
  have x6 : ¬ w0.heap.size = w.heap.size + 1 := by omega
  have x7 : ¬ w0.heap.size = w.heap.size + 1 + 1 := by omega
  have u0 : w0.cell? ⟨w.heap.size + 1, 0, none⟩ = some (.string (mayB k)) := t0
  have u1 : w0.cell? ⟨w.heap.size + 1, 1, none⟩ = some (.string (mustB k)) := t1
  have u2 : w0.cell? ⟨w.heap.size + 1, 2, none⟩ = some (.bool (liveK k)) := t2
  have u4 : w0.cell? ⟨w.heap.size, 4, none⟩ = some (.slice (some ⟨gB, 0, none⟩) n c) := n4
  have u5 : w0.cell? ⟨gB, 0, none⟩ = some (.slice xa xn xc) := g0
  have qA : Keeps noB w0 (w0.alloc (.cells #[.string ⟨#[]⟩, .string ⟨#[]⟩, .bool false] 60)) := (Keeps.refl _ _).alloc _
  have y0 := (qA.cell (p := ⟨w.heap.size + 1, 0, none⟩) (by show w.heap.size + 1 < w0.heap.size; omega) id).trans u0
  have y1 := (qA.cell (p := ⟨w.heap.size + 1, 1, none⟩) (by show w.heap.size + 1 < w0.heap.size; omega) id).trans u1
  have y2 := (qA.cell (p := ⟨w.heap.size + 1, 2, none⟩) (by show w.heap.size + 1 < w0.heap.size; omega) id).trans u2
  have y4 := (qA.cell (p := ⟨w.heap.size, 4, none⟩) (by show w.heap.size < w0.heap.size; omega) id).trans u4
  have y5 := (qA.cell (p := ⟨gB, 0, none⟩) (by show gB < w0.heap.size; omega) id).trans u5
  clear qA
  have HS1 : Hid (∀ wx own1 l1 va1 vs1 w1, Keeps noB (World.drew w0) wx → Owns own own1 wx w1 → HoldAt w1 own1 h l1 va1 vs1 → WiSt w w1 own own1 h l1 va1 vs1 #[.int .u8 63, .int .i64 kv, .int .i64 ev, .string vr, .slice (some ⟨gB, 0, none⟩) n c, .string ar] k) := fun wx own1 l1 va1 vs1 w1 q ho hH => (HW.out.quiet q).call ho hH
  have HC := Lib.hid (fun wx (q : Keeps noB (World.drew w0) wx) => HBB.out wx (HQ0.out.trans q))
  have HA : Hid (∀ own1 l1 va1 vs1 w1, Owns own own1 (World.drew w0) w1 → WiSt w w1 own own1 h l1 va1 vs1 #[.int .u8 63, .int .i64 kv, .int .i64 ev, .string vr, .slice (some ⟨gB, 0, none⟩) n c, .string ar] k → lookL l1 = M1 → BrSt w (w1.alloc (.cells #[.string (mayB ka), .string (mustB ka), .bool (liveK ka)] 60)) own own1 h l1 va1 vs1 #[.int .u8 63, .int .i64 kv, .int .i64 ev, .string vr, .slice (some ⟨gB, 0, none⟩) n c, .string ar] k w1.heap.size ka ∧ lookL l1 = M1) := fun own1 l1 va1 vs1 w1 ho hs hM =>
    ⟨⟨hs.quiet ((Keeps.refl _ _).alloc _), Blk.new _ _ _, fun e => Nat.lt_irrefl _ (ho.lt _ e), hs.d.bR.lt⟩, hM⟩
  have HA2 : Hid (∀ own1 l1 va1 vs1 w1, Owns own own1 ((World.drew w0).alloc (.cells #[.string ⟨#[]⟩, .string ⟨#[]⟩, .bool false] 60)) w1 → WiSt w w1 own own1 h l1 va1 vs1 #[.int .u8 63, .int .i64 kv, .int .i64 ev, .string vr, .slice (some ⟨gB, 0, none⟩) n c, .string ar] k → lookL l1 = M1 →
      Blk w1 w0.heap.size #[.string ⟨#[]⟩, .string ⟨#[]⟩, .bool false] 60 ∧
      BrSt w (((w1.setCell ⟨w0.heap.size, 0, none⟩ (.string (mayB ka))).setCell ⟨w0.heap.size, 1, none⟩ (.string (mustB ka))).setCell ⟨w0.heap.size, 2, none⟩ (.bool (liveK ka))) own own1 h l1 va1 vs1 #[.int .u8 63, .int .i64 kv, .int .i64 ev, .string vr, .slice (some ⟨gB, 0, none⟩) n c, .string ar] k w0.heap.size ka ∧ lookL l1 = M1) := fun own1 l1 va1 vs1 w1 ho hs hM => by
    have hA := ho.keeps.blk (Blk.new (World.drew w0) #[.string ⟨#[]⟩, .string ⟨#[]⟩, .bool false] 60) (fun e => Nat.lt_irrefl _ (HW.out.d.o.lt _ e))
    have hZ : ((World.drew w0).alloc (.cells #[.string ⟨#[]⟩, .string ⟨#[]⟩, .bool false] 60)).heap.size = w0.heap.size + 1 := by simp only [World.alloc, Array.size_push]; rfl
    refine ⟨hA, BrSt.ofStore hs rfl hA (fun e => (ho.more _ e).elim (fun e => Nat.lt_irrefl _ (HW.out.d.o.lt _ e)) (fun e2 => ?_)) hlR ka, hM⟩
    have e3 : w0.heap.size + 1 ≤ w0.heap.size := hZ ▸ e2
    omega
  go_region_law (first
    | (go_simp; go_at_call 39; refine (HC.out _ (Keeps.refl _ _)).mono ?_; rintro e1 w1 ⟨own1, l1, va1, vs1, rfl, ho1, hH1, hM1⟩
       have hs1 := HS1.out _ own1 l1 va1 vs1 w1 (Keeps.refl _ _) ho1 hH1
       have HBr := Lib.hid (HA.out own1 l1 va1 vs1 w1 ho1 hs1 hM1)
       have ⟨r0, r1, r2, r3, r4, r5, ⟨r6, r7, r8⟩, r9, r10, r11⟩ := hs1.d.cells
       clear ho1 hs1 hH1 hM1)
    | (go_simp; go_at_call 39; refine (HC.out _ ((Keeps.refl _ _).alloc _)).mono ?_; rintro e1 w1 ⟨own1, l1, va1, vs1, rfl, ho1, hH1, hM1⟩
       have hs1 := HS1.out _ own1 l1 va1 vs1 w1 ((Keeps.refl _ _).alloc _) ho1 hH1
       have hab := HA2.out own1 l1 va1 vs1 w1 ho1 hs1 hM1
       have hA := hab.1
       have HBr := Lib.hid hab.2
       have c0 : w1.cell? ⟨w0.heap.size, 0, none⟩ = some (.string ⟨#[]⟩) := (hA.cell 0).trans rfl
       have c1 : w1.cell? ⟨w0.heap.size, 1, none⟩ = some (.string ⟨#[]⟩) := (hA.cell 1).trans rfl
       have c2 : w1.cell? ⟨w0.heap.size, 2, none⟩ = some (.bool false) := (hA.cell 2).trans rfl
       have f0 : w1.frozen? ⟨w0.heap.size, 0, none⟩ = false := hA.free 0
       have f1 : w1.frozen? ⟨w0.heap.size, 1, none⟩ = false := hA.free 1
       have f2 : w1.frozen? ⟨w0.heap.size, 2, none⟩ = false := hA.free 2
       have ⟨r0, r1, r2, r3, r4, r5, ⟨r6, r7, r8⟩, r9, r10, r11⟩ := hs1.d.cells
       clear ho1 hs1 hH1 hM1 hab hA))
  all_goals
    exact HT.out _ _ own1 l1 va1 vs1 HBr.out.1 HBr.out.2

end Go.Proofs.YtkfcgamdlckncaaGreat

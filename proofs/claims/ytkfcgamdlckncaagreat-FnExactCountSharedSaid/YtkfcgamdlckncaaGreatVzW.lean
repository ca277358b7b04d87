/-
  Walks of the model's holder: within, a loop.
  Walks of the model's holder: within, a loop: the walk.
-/
import Derived.Test.YtkfcgamdlckncaaGreatVwW
import Derived.Test.YtkfcgamdlckncaaGreatVx
namespace Go.Proofs.YtkfcgamdlckncaaGreat
set_option linter.unusedVariables false
set_option linter.unusedSimpArgs false
open Go.RowKit

/-- What the loop holds: how often at most it goes round still; where it ends; what is noted at its end. -/
def LpRel (w : World) (own : Nat → Prop) (h : Nat) (nd : Array Value) (x : Nds) (K : Kn) (MF : Notes) (g : Nat) (wr : World) : Prop :=
  ∃ (kt : Kn) (own1 : Nat → Prop) (l1 : AL) (va1 vs1 : Value), kt.Wf ∧ 13 ≤ g + kt.w ∧ loopK (fun t => Nds.know x t) g kt = K ∧ Notes.both (lookL l1) (Nds.note x K) = MF ∧ WiSt w wr own own1 h l1 va1 vs1 nd kt

/-- A round: it is the last one, or one fewer is to come. -/
theorem loop_round {x : Nds} {lo hi : Nat} (hsp : x.Sp lo hi) {kt K : Kn} {g : Nat} (hk : kt.Wf) (hg : 13 ≤ g + kt.w) (h : loopK (fun t => Nds.know x t) g kt = K) :
    (kt.join (Nds.know x kt) = kt → kt = K) ∧ (kt.join (Nds.know x kt) ≠ kt → ∃ m, g = m + 1 ∧ 13 ≤ m + (kt.join (Nds.know x kt)).w ∧ loopK (fun t => Nds.know x t) m (kt.join (Nds.know x kt)) = K) := by
  have hw := w_le kt
  obtain ⟨m, rfl⟩ : ∃ m, g = m + 1 := ⟨g - 1, by omega⟩
  rw [loopK] at h
  constructor
  · intro e; rw [if_pos e] at h; exact h
  · intro e
    rw [if_neg e] at h
    have hs := (Nds.steady x lo hi hsp).wf kt hk
    have := w_lt hk (wf_join hk hs) (le_join_left kt _) (fun e2 => e e2.symm)
    exact ⟨m, rfl, by omega, h⟩
/-- What a round notes. -/
theorem loop_notes {x : Nds} {lo hi : Nat} (hsp : x.Sp lo hi) {kt K : Kn} {g : Nat} (hk : kt.Wf) (hK : K.Wf) (h : loopK (fun t => Nds.know x t) g kt = K) {M MF : Notes} (hM : Notes.both M (Nds.note x K) = MF) : Notes.both (Notes.both M (Nds.note x kt)) (Nds.note x K) = MF := by
  have hle : kt.le K := by rw [← h]; exact loop_ge g kt
  rw [both_grow (Nds.note_mono x lo hi kt K hsp hk hK hle)]
  exact hM

end Go.Proofs.YtkfcgamdlckncaaGreat

namespace Go.Proofs.YtkfcgamdlckncaaGreat
set_option linter.unusedVariables false
set_option linter.unusedSimpArgs false
open Go.RowKit

set_option maxRecDepth 100000 in
set_option maxHeartbeats 8000000 in
theorem hloop_any (x : Nds) (lo hi : Nat) (hsp : x.Sp lo hi) (k : Kn) (hk : k.Wf) (l : AL) (own : Nat → Prop) (h : Nat) (va vs : Value) (kv ev : Int) (vr ar : ByteArray) (gB n c : Nat) (hn : 0 < n) (xa : Option Addr) (xn xc : Nat) (w : World)
    (H : HoldAt w own h l va vs) (hlt : ∀ i, own i → i < w.heap.size) (hg : gB < w.heap.size) (hgo : ¬ own gB) (hgc : w.cell? ⟨gB, 0, none⟩ = some (.slice xa xn xc))
    (HB : ∀ kt own1 l1 va1 vs1 w1, kt.Wf → Owns own own1 w w1 → HoldAt w1 own1 h l1 va1 vs1 → Calls Tryz.prog 39 #[.pointer (some ⟨h, 0, none⟩), .slice xa xn xc, stV kt] w1 (Notes1 w1 own1 h (Notes.both (lookL l1) (Nds.note x kt)) (stV (Nds.know x kt)))) :
    Calls Tryz.prog 86 #[.pointer (some ⟨h, 0, none⟩), .agg #[.int .u8 42, .int .i64 kv, .int .i64 ev, .string vr, .slice (some ⟨gB, 0, none⟩) n c, .string ar], stV k] w (Notes1 w own h (Notes.both (lookL l) (Nds.note x (loopK (fun t => Nds.know x t) 13 k))) (stV (loopK (fun t => Nds.know x t) 13 k))) := by
  have hn0 : (0 : Int) < (n : Int) := by omega
  have HKW := Lib.hid (loop_wf (Nds.steady x lo hi hsp) 13 k hk)
  have HP : Hid (LpRel w own h #[.int .u8 42, .int .i64 kv, .int .i64 ev, .string vr, .slice (some ⟨gB, 0, none⟩) n c, .string ar] x (loopK (fun t => Nds.know x t) 13 k) (Notes.both (lookL l) (Nds.note x (loopK (fun t => Nds.know x t) 13 k))) 13 (((w.alloc (.cells #[.int .u8 42, .int .i64 kv, .int .i64 ev, .string vr, .slice (some ⟨gB, 0, none⟩) n c, .string ar] 52)).alloc (.cells #[.string (mayB k), .string (mustB k), .bool (liveK k)] 60)).alloc (.cells #[.string ⟨#[]⟩, .string ⟨#[]⟩, .bool false] 60))) :=
    ⟨k, own, l, va, vs, hk, by omega, rfl, rfl, WiSt.start (Keeps.refl _ _) H hlt⟩
  generalize loopK (fun t => Nds.know x t) 13 k = K at *
  generalize Notes.both (lookL l) (Nds.note x K) = MF at *
  have HBB := Lib.hid HB
  rw [stV_eq k]
  clear HB hk H hlt
  go_enter Tryz.func86, Tryz.ntmps86
  go_wp2_with fail
  go_loopg [] 13 (fun g wr => LpRel w own h #[.int .u8 42, .int .i64 kv, .int .i64 ev, .string vr, .slice (some ⟨gB, 0, none⟩) n c, .string ar] x K MF g wr)
  case atStart => exact HP.out
  case round =>
    clear HP
    obtain ⟨kt, own1, l1, va1, vs1, hkt, hgk, hlk, hM, hst⟩ := hrel
    obtain ⟨hr1, hr2⟩ := loop_round hsp hkt hgk hlk
    have hM2 := loop_notes hsp hkt HKW.out hlk hM
    have hfw := (Nds.steady x lo hi hsp).wf kt hkt
    have hjw := wf_join hkt hfw
    have HJ := Lib.hid (fun w => sjoin_any kt (Nds.know x kt) hkt hfw w)
    have HC := Lib.hid (fun w1 ho hH => HBB.out kt own1 l1 va1 vs1 w1 hkt ho hH)
    rw [stV_eq kt, stV_eq (Nds.know x kt)] at HC
    have HEQ := Lib.hid (fun w => st_eql (kt.join (Nds.know x kt)) kt hjw hkt w)
    have HGU := Lib.hid (fun a b w => st_guard (kt.join (Nds.know x kt)) kt a b w)
    rw [stV_eq kt, stV_eq (kt.join (Nds.know x kt))] at HEQ HGU
    rw [stV_eq kt, stV_eq (Nds.know x kt), stV_eq (kt.join (Nds.know x kt))] at HJ
    have HR := Lib.hid (And.intro hr1 (And.intro hr2 (And.intro hM (And.intro hM2 (And.intro hkt hjw)))))
    clear hr1 hr2 hM2 hM hkt hjw hfw hgk hlk
    generalize Nds.know x kt = kf at *
    generalize kt.join kf = kj at *
    have HW := Lib.hid (hst.quiet (Keeps.refl noB wr).drew)
    have HLT := Lib.hid hst.d.o.lt
    have ⟨t0, t1, t2, t3, t4, t5, ⟨t6, t7, t8⟩, t9, t10, t11⟩ := HW.out.d.cells
    have n4 : (World.drew wr).cell? ⟨w.heap.size, 4, none⟩ = some (.slice (some ⟨gB, 0, none⟩) n c) := (HW.out.bN.cell 4).trans rfl
    have g0 : (World.drew wr).cell? ⟨gB, 0, none⟩ = some (.slice xa xn xc) := (HW.out.d.o.keeps.cell (p := ⟨gB, 0, none⟩) hg hgo).trans hgc
    have hlR : w.heap.size + 1 + 1 < wr.heap.size := hst.d.bR.lt
    have qA : Keeps noB (World.drew wr) ((World.drew wr).alloc (.cells #[.string ⟨#[]⟩, .string ⟨#[]⟩, .bool false] 60)) := (Keeps.refl _ _).alloc _
    have qB : Keeps noB wr (wr.alloc (.cells #[.string ⟨#[]⟩, .string ⟨#[]⟩, .bool false] 60)) := (Keeps.refl _ _).alloc _
    have y0 : (wr.alloc (.cells #[.string ⟨#[]⟩, .string ⟨#[]⟩, .bool false] 60)).cell? ⟨w.heap.size + 1, 0, none⟩ = some (.string (mayB kt)) := (qB.cell (p := ⟨w.heap.size + 1, 0, none⟩) (by show w.heap.size + 1 < wr.heap.size; omega) id).trans t0
    have y1 : (wr.alloc (.cells #[.string ⟨#[]⟩, .string ⟨#[]⟩, .bool false] 60)).cell? ⟨w.heap.size + 1, 1, none⟩ = some (.string (mustB kt)) := (qB.cell (p := ⟨w.heap.size + 1, 1, none⟩) (by show w.heap.size + 1 < wr.heap.size; omega) id).trans t1
    have y2 : (wr.alloc (.cells #[.string ⟨#[]⟩, .string ⟨#[]⟩, .bool false] 60)).cell? ⟨w.heap.size + 1, 2, none⟩ = some (.bool (liveK kt)) := (qB.cell (p := ⟨w.heap.size + 1, 2, none⟩) (by show w.heap.size + 1 < wr.heap.size; omega) id).trans t2
    have y4 : (wr.alloc (.cells #[.string ⟨#[]⟩, .string ⟨#[]⟩, .bool false] 60)).cell? ⟨w.heap.size, 4, none⟩ = some (.slice (some ⟨gB, 0, none⟩) n c) := (qB.cell (p := ⟨w.heap.size, 4, none⟩) (by show w.heap.size < wr.heap.size; omega) id).trans n4
    have y5 : (wr.alloc (.cells #[.string ⟨#[]⟩, .string ⟨#[]⟩, .bool false] 60)).cell? ⟨gB, 0, none⟩ = some (.slice xa xn xc) := (qB.cell (p := ⟨gB, 0, none⟩) (by show gB < wr.heap.size; omega) id).trans g0
    have x1 : ¬ w.heap.size = wr.heap.size := by omega
    have x2 : ¬ w.heap.size + 1 = wr.heap.size := by omega
    have x3 : ¬ w.heap.size + 1 + 1 = wr.heap.size := by omega
    have x4 : ¬ gB = wr.heap.size := by omega
    have hZ : ((World.drew wr).alloc (.cells #[.string ⟨#[]⟩, .string ⟨#[]⟩, .bool false] 60)).heap.size = wr.heap.size + 1 := by simp only [World.alloc, Array.size_push]; rfl
    -- the body is called ahead of the new box, or behind it
    have HC1 := Lib.hid (HC.out (World.drew wr) HW.out.d.o HW.out.d.H)
    have HWA := Lib.hid (HW.out.quiet qA)
    have HC2 := Lib.hid (HC.out ((World.drew wr).alloc (.cells #[.string ⟨#[]⟩, .string ⟨#[]⟩, .bool false] 60)) HWA.out.d.o HWA.out.d.H)
    have HA2 : Hid (∀ own2 l2 va2 vs2 w2, Owns own1 own2 ((World.drew wr).alloc (.cells #[.string ⟨#[]⟩, .string ⟨#[]⟩, .bool false] 60)) w2 → HoldAt w2 own2 h l2 va2 vs2 → BrSt w w2 own own2 h l2 va2 vs2 #[.int .u8 42, .int .i64 kv, .int .i64 ev, .string vr, .slice (some ⟨gB, 0, none⟩) n c, .string ar] kt wr.heap.size Kn.no) := fun own2 l2 va2 vs2 w2 ho hH =>
      ⟨HWA.out.call ho hH, ho.keeps.blk (Blk.new (World.drew wr) _ _) (fun e => Nat.lt_irrefl _ (HLT.out _ e)), fun e => (ho.more _ e).elim (fun e => Nat.lt_irrefl _ (HLT.out _ e)) (fun e2 => by
        have e3 : wr.heap.size + 1 ≤ wr.heap.size := hZ ▸ e2
        omega), hlR⟩
    have HA1 : Hid (∀ own2 l2 va2 vs2 w2, Owns own1 own2 (World.drew wr) w2 → HoldAt w2 own2 h l2 va2 vs2 → WiSt w w2 own own2 h l2 va2 vs2 #[.int .u8 42, .int .i64 kv, .int .i64 ev, .string vr, .slice (some ⟨gB, 0, none⟩) n c, .string ar] kt ∧ BrSt w (w2.alloc (.cells #[.string ⟨#[]⟩, .string ⟨#[]⟩, .bool false] 60)) own own2 h l2 va2 vs2 #[.int .u8 42, .int .i64 kv, .int .i64 ev, .string vr, .slice (some ⟨gB, 0, none⟩) n c, .string ar] kt w2.heap.size Kn.no) := fun own2 l2 va2 vs2 w2 ho hH =>
      have hs := HW.out.call ho hH
      ⟨hs, hs.quiet ((Keeps.refl _ _).alloc _), Blk.new w2 _ _, fun e => Nat.lt_irrefl _ (ho.lt _ e), hs.d.bR.lt⟩
    clear qA qB hZ
    go_wp2_with fail
    rename_i K4 hK4
    have HT : Hid (∀ (A : Nat) (wq : World) (own2 : Nat → Prop) (l2 : AL) (va2 vs2 : Value), BrSt w wq own own2 h l2 va2 vs2 #[.int .u8 42, .int .i64 kv, .int .i64 ev, .string vr, .slice (some ⟨gB, 0, none⟩) n c, .string ar] kt A kj → lookL l2 = Notes.both (lookL l1) (Nds.note x kt) → K4 ⟨#[Value.pointer (some ⟨h, 0, none⟩), Value.agg #[.int .u8 42, .int .i64 kv, .int .i64 ev, .string vr, .slice (some ⟨gB, 0, none⟩) n c, .string ar], Value.agg #[.string (mayB k), .string (mustB k), .bool (liveK k)], undef, Value.pointer (some ⟨w.heap.size, 0, none⟩), Value.pointer (some ⟨w.heap.size + 1, 0, none⟩), Value.pointer (some ⟨w.heap.size + 1 + 1, 0, none⟩), undef, Value.pointer (some ⟨A, 0, none⟩), undef, Value.pointer (some ⟨w.heap.size, 0, none⟩), Value.int .u8 42, Value.bool false, Value.bool false, undef, undef, undef, undef, undef, undef, undef, undef, undef, undef, undef, undef, undef, undef, undef, undef, Value.bool true, Value.bool true, Value.agg #[.string (mayB kt), .string (mustB kt), .bool (liveK kt)], Value.pointer (some ⟨h, 0, none⟩), Value.pointer (some ⟨w.heap.size, 4, none⟩), Value.slice (some ⟨gB, 0, none⟩) n c, Value.pointer (some ⟨gB, 0, none⟩), Value.slice xa xn xc, Value.agg #[.string (mayB kt), .string (mustB kt), .bool (liveK kt)], Value.agg #[.string (mayB kf), .string (mustB kf), .bool (liveK kf)], Value.agg #[.string (mayB kj), .string (mustB kj), .bool (liveK kj)], u41, u42, u43, u44, u45, undef, undef, undef, undef, undef, undef, undef, undef, undef, undef, undef, undef, undef, undef, undef, undef, undef, undef, undef, undef, undef, undef, undef, undef, undef, undef, undef], []⟩ wq) := by
      intro A wq own2 l2 va2 vs2 hbr hN2
      have ⟨t0, t1, t2, t3, t4, t5, ⟨t6, t7, t8⟩, t9, t10, t11⟩ := hbr.s.d.cells
      have a0 : wq.cell? ⟨A, 0, none⟩ = some (.string (mayB kj)) := (hbr.bA.cell 0).trans rfl
      have a1 : wq.cell? ⟨A, 1, none⟩ = some (.string (mustB kj)) := (hbr.bA.cell 1).trans rfl
      have a2 : wq.cell? ⟨A, 2, none⟩ = some (.bool (liveK kj)) := (hbr.bA.cell 2).trans rfl
      have hA1 : ¬ A = w.heap.size + 1 := by have := hbr.geA; omega
      have hA2 : ¬ w.heap.size + 1 = A := by omega
      apply hK4
      by_cases e : kj = kt
      · have eK : kt = K := HR.out.1 e
        have hM := HR.out.2.2.1
        have hML : lookL l2 = MF := by rw [hN2, eK]; exact hM
        rw [e] at HEQ HGU
        have he1 := HEQ.out
        have HZ := Lib.hid (hbr.s.d.done (.string (mayB kt)) (.string (mustB kt)) (.bool (liveK kt)) (stV kt))
        clear HR HW HLT HC1 HC2 HWA HA1 HA2
        subst e
        go_wp2_with fail
        obtain ⟨z0, z1, z2, z3⟩ := HZ.out
        rw [hML] at z3
        rw [eK] at z0 z1 z2 z3
        exact bodyPost_ret (resSt Tryz.results86 _ (w.heap.size + 1 + 1) _ _ _ _ rfl z0 z1 z2) rfl z3
      · obtain ⟨m, hm, h13, hlk2⟩ := HR.out.2.1 e
        have HRel : Hid (LpRel w own h #[.int .u8 42, .int .i64 kv, .int .i64 ev, .string vr, .slice (some ⟨gB, 0, none⟩) n c, .string ar] x K MF m (((wq.setCell ⟨w.heap.size + 1, 0, none⟩ (.string (mayB kj))).setCell ⟨w.heap.size + 1, 1, none⟩ (.string (mustB kj))).setCell ⟨w.heap.size + 1, 2, none⟩ (.bool (liveK kj)))) :=
          ⟨kj, own2, l2, va2, vs2, HR.out.2.2.2.2.2, h13, hlk2, by rw [hN2]; exact HR.out.2.2.2.1, hbr.s.store kj⟩
        rw [decide_eq_false e] at HEQ
        have he1 := HEQ.out
        clear HR HW HLT HC1 HC2 HWA HA1 HA2 hN2 hbr h13 hlk2
        go_wp2_with fail
        go_roundg m
        case rel => exact HRel.out
        all_goals omega
    go_region_law (first
      | (go_simp; go_at_call 39; refine HC1.out.mono ?_; rintro e2 w2 ⟨own2, l2, va2, vs2, rfl, ho2, hH2, hN2⟩
         have hab := HA1.out own2 l2 va2 vs2 w2 ho2 hH2
         have HS := Lib.hid hab.1
         have HBa := Lib.hid hab.2
         have HN := Lib.hid hN2
         have ⟨r0, r1, r2, r3, r4, r5, ⟨r6, r7, r8⟩, r9, r10, r11⟩ := hab.1.d.cells
         have hsc := hab.2.s.d.cells
         have ⟨p0, p1, p2, p3, p4, p5, ⟨p6, p7, p8⟩, p9, p10, p11⟩ := hsc
         clear ho2 hH2 hN2 hab hsc)
      | (go_simp; go_at_call 39; refine HC2.out.mono ?_; rintro e2 w2 ⟨own2, l2, va2, vs2, rfl, ho2, hH2, hN2⟩
         have hb2 := HA2.out own2 l2 va2 vs2 w2 ho2 hH2
         have HBr := Lib.hid hb2
         have HN := Lib.hid hN2
         have ⟨r0, r1, r2, r3, r4, r5, ⟨r6, r7, r8⟩, r9, r10, r11⟩ := hb2.s.d.cells
         clear ho2 hH2 hN2 hb2)
      | (go_simp; go_at_call 82; refine (HJ.out _).mono ?_; rintro e3 w3 ⟨rfl, q3⟩
         have hb3 := HBr.out.quiet q3
         have c0 := hb3.bA.cell 0
         have c1 := hb3.bA.cell 1
         have c2 := hb3.bA.cell 2
         simp at c0 c1 c2
         have f0 := hb3.bA.free 0
         have f1 := hb3.bA.free 1
         have f2 := hb3.bA.free 2
         have HE := Lib.hid (BrSt.ofStore hb3.s rfl hb3.bA hb3.frA hb3.geA kj)
         clear q3 hb3)
      | (go_simp; go_at_call 82; refine (HJ.out _).mono ?_; rintro e3 w3 ⟨rfl, q3⟩
         have hb3 := HBa.out.quiet q3
         have c0 := hb3.bA.cell 0
         have c1 := hb3.bA.cell 1
         have c2 := hb3.bA.cell 2
         simp at c0 c1 c2
         have f0 := hb3.bA.free 0
         have f1 := hb3.bA.free 1
         have f2 := hb3.bA.free 2
         have HE := Lib.hid (BrSt.ofStore hb3.s rfl hb3.bA hb3.frA hb3.geA kj)
         clear q3 hb3)
      | (go_simp; go_at_call 82; refine (HJ.out _).mono ?_; rintro e3 w3 ⟨rfl, q3⟩
         have hs3 := HS.out.quiet q3
         have HE : Hid (BrSt w (w3.alloc (.cells #[.string (mayB kj), .string (mustB kj), .bool (liveK kj)] 60)) own own2 h l2 va2 vs2 #[.int .u8 42, .int .i64 kv, .int .i64 ev, .string vr, .slice (some ⟨gB, 0, none⟩) n c, .string ar] kt w3.heap.size kj) := ⟨hs3.quiet ((Keeps.refl _ _).alloc _), Blk.new w3 _ _, fun e => Nat.lt_irrefl _ (hs3.d.o.lt _ e), hs3.d.bR.lt⟩
         clear q3 hs3))
    all_goals exact HT.out _ _ own2 l2 va2 vs2 HE.out HN.out

end Go.Proofs.YtkfcgamdlckncaaGreat

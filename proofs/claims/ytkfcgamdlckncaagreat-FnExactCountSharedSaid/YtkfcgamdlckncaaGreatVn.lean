/-
  Walks of the model's holder: a step that has no bodies.
-/
import Derived.Test.YtkfcgamdlckncaaGreatVm
import Derived.Test.YtkfcgamdlckncaaGreatEbV
import Derived.StillTailTactics
namespace Go.Proofs.YtkfcgamdlckncaaGreat
set_option linter.unusedVariables false
set_option linter.unusedSimpArgs false
open Go.RowKit

/-- The boxes of step and within: the node, what is known, the answer. -/
structure StepBox (w w1 : World) (nd : Array Value) (k : Kn) : Prop where
  q : Keeps noB w w1
  bN : Blk w1 w.heap.size nd 52
  bS : Blk w1 (w.heap.size + 1) #[.string (mayB k), .string (mustB k), .bool (liveK k)] 60
  bR : Blk w1 (w.heap.size + 1 + 1) #[.string ⟨#[]⟩, .string ⟨#[]⟩, .bool false] 60
theorem StepBox.start {w w1 : World} {nd : Array Value} {k : Kn} (q : Keeps noB (((w.alloc (.cells nd 52)).alloc (.cells #[.string (mayB k), .string (mustB k), .bool (liveK k)] 60)).alloc (.cells #[.string ⟨#[]⟩, .string ⟨#[]⟩, .bool false] 60)) w1) : StepBox w w1 nd k := by
  have hZ : (w.alloc (.cells nd 52)).heap.size = w.heap.size + 1 := by simp only [World.alloc, Array.size_push]
  have hZ2 : ((w.alloc (.cells nd 52)).alloc (.cells #[.string (mayB k), .string (mustB k), .bool (liveK k)] 60)).heap.size = w.heap.size + 1 + 1 := by simp only [World.alloc, Array.size_push]
  have hA := ((Blk.new w nd 52).alloc (.cells #[.string (mayB k), .string (mustB k), .bool (liveK k)] 60)).alloc (.cells #[.string ⟨#[]⟩, .string ⟨#[]⟩, .bool false] 60)
  have hB := (Blk.new (w.alloc (.cells nd 52)) #[.string (mayB k), .string (mustB k), .bool (liveK k)] 60).alloc (.cells #[.string ⟨#[]⟩, .string ⟨#[]⟩, .bool false] 60)
  have hC := Blk.new ((w.alloc (.cells nd 52)).alloc (.cells #[.string (mayB k), .string (mustB k), .bool (liveK k)] 60)) #[.string ⟨#[]⟩, .string ⟨#[]⟩, .bool false] 60
  rw [hZ] at hB
  rw [hZ2] at hC
  exact ⟨((((Keeps.refl _ w).alloc _).alloc _).alloc _).trans q, q.blk hA id, q.blk hB id, q.blk hC id⟩
theorem StepBox.keeps {w w1 w2 : World} {nd : Array Value} {k : Kn} (h : StepBox w w1 nd k) (q : Keeps noB w1 w2) : StepBox w w2 nd k := ⟨h.q.trans q, q.blk h.bN id, q.blk h.bS id, q.blk h.bR id⟩
theorem StepBox.store {w w1 : World} {nd : Array Value} {k : Kn} (h : StepBox w w1 nd k) (t : Kn) : StepBox w (((w1.setCell ⟨w.heap.size + 1, 0, none⟩ (.string (mayB t))).setCell ⟨w.heap.size + 1, 1, none⟩ (.string (mustB t))).setCell ⟨w.heap.size + 1, 2, none⟩ (.bool (liveK t))) nd t := by
  have n1 : w.heap.size + 1 ≠ w.heap.size := by omega
  have n2 : w.heap.size + 1 ≠ w.heap.size + 1 + 1 := by omega
  refine ⟨((h.q.setCell (p := ⟨w.heap.size + 1, 0, none⟩) (.inr (by show w.heap.size ≤ w.heap.size + 1; omega)) _).setCell (p := ⟨w.heap.size + 1, 1, none⟩) (.inr (by show w.heap.size ≤ w.heap.size + 1; omega)) _).setCell (p := ⟨w.heap.size + 1, 2, none⟩) (.inr (by show w.heap.size ≤ w.heap.size + 1; omega)) _, ((h.bN.setOther n1 _).setOther n1 _).setOther n1 _, ?_, ((h.bR.setOther n2 _).setOther n2 _).setOther n2 _⟩
  exact ((h.bS.set 0 _).set 1 _).set 2 _
def StepCells (w w1 : World) (k : Kn) : Prop :=
  w1.cell? ⟨w.heap.size + 1, 0, none⟩ = some (.string (mayB k)) ∧ w1.cell? ⟨w.heap.size + 1, 1, none⟩ = some (.string (mustB k)) ∧ w1.cell? ⟨w.heap.size + 1, 2, none⟩ = some (.bool (liveK k)) ∧
  w1.cell? ⟨w.heap.size + 1 + 1, 0, none⟩ = some (.string ⟨#[]⟩) ∧ w1.cell? ⟨w.heap.size + 1 + 1, 1, none⟩ = some (.string ⟨#[]⟩) ∧ w1.cell? ⟨w.heap.size + 1 + 1, 2, none⟩ = some (.bool false) ∧
  (w1.frozen? ⟨w.heap.size + 1, 0, none⟩ = false ∧ w1.frozen? ⟨w.heap.size + 1, 1, none⟩ = false ∧ w1.frozen? ⟨w.heap.size + 1, 2, none⟩ = false) ∧
  w1.frozen? ⟨w.heap.size + 1 + 1, 0, none⟩ = false ∧ w1.frozen? ⟨w.heap.size + 1 + 1, 1, none⟩ = false ∧ w1.frozen? ⟨w.heap.size + 1 + 1, 2, none⟩ = false
theorem StepBox.cells {w w1 : World} {nd : Array Value} {k : Kn} (h : StepBox w w1 nd k) : StepCells w w1 k :=
  ⟨(h.bS.cell 0).trans rfl, (h.bS.cell 1).trans rfl, (h.bS.cell 2).trans rfl, (h.bR.cell 0).trans rfl, (h.bR.cell 1).trans rfl, (h.bR.cell 2).trans rfl, ⟨h.bS.free 0, h.bS.free 1, h.bS.free 2⟩, h.bR.free 0, h.bR.free 1, h.bR.free 2⟩
theorem StepBox.done {w w1 : World} {nd : Array Value} {k : Kn} (h : StepBox w w1 nd k) (x y z : Value) :
    (((w1.setCell ⟨w.heap.size + 1 + 1, 0, none⟩ x).setCell ⟨w.heap.size + 1 + 1, 1, none⟩ y).setCell ⟨w.heap.size + 1 + 1, 2, none⟩ z).cell? ⟨w.heap.size + 1 + 1, 0, none⟩ = some x ∧
    (((w1.setCell ⟨w.heap.size + 1 + 1, 0, none⟩ x).setCell ⟨w.heap.size + 1 + 1, 1, none⟩ y).setCell ⟨w.heap.size + 1 + 1, 2, none⟩ z).cell? ⟨w.heap.size + 1 + 1, 1, none⟩ = some y ∧
    (((w1.setCell ⟨w.heap.size + 1 + 1, 0, none⟩ x).setCell ⟨w.heap.size + 1 + 1, 1, none⟩ y).setCell ⟨w.heap.size + 1 + 1, 2, none⟩ z).cell? ⟨w.heap.size + 1 + 1, 2, none⟩ = some z ∧
    Keeps noB w (((w1.setCell ⟨w.heap.size + 1 + 1, 0, none⟩ x).setCell ⟨w.heap.size + 1 + 1, 1, none⟩ y).setCell ⟨w.heap.size + 1 + 1, 2, none⟩ z) := by
  have b2 := ((h.bR.set 0 x).set 1 y).set 2 z
  exact ⟨(b2.cell 0).trans rfl, (b2.cell 1).trans rfl, (b2.cell 2).trans rfl, ((h.q.setCell (p := ⟨w.heap.size + 1 + 1, 0, none⟩) (.inr (by show w.heap.size ≤ w.heap.size + 1 + 1; omega)) _).setCell (p := ⟨w.heap.size + 1 + 1, 1, none⟩) (.inr (by show w.heap.size ≤ w.heap.size + 1 + 1; omega)) _).setCell (p := ⟨w.heap.size + 1 + 1, 2, none⟩) (.inr (by show w.heap.size ≤ w.heap.size + 1 + 1; omega)) _⟩

theorem quiet_notes {w w' : World} {own : Nat → Prop} {h : Nat} {l : AL} {va vs v : Value} (H : HoldAt w own h l va vs) (hlt : ∀ k, own k → k < w.heap.size) (q : Keeps noB w w') : Notes1 w own h (lookL l) v (.returned v) w' :=
  ⟨own, l, va, vs, rfl, ⟨fun _ e => .inl e, fun k e => Nat.lt_of_lt_of_le (hlt k e) q.size, q.mono (fun _ e => e.elim)⟩, H.quiet q, rfl⟩

set_option maxRecDepth 100000 in
set_option maxHeartbeats 4000000 in
theorem hstep_use (k : Kn) (hk : k.Wf) {v : UInt8} (hv : ltr v) (h : Nat) (kv ev : Int) (xa : Option Addr) (xn xc : Nat) (ar : ByteArray) (w : World) :
    Calls Tryz.prog 61 #[.pointer (some ⟨h, 0, none⟩), .agg #[.int .u8 46, .int .i64 kv, .int .i64 ev, .string ⟨[v].toArray⟩, .slice xa xn xc, .string ar], stV k] w (fun e w' => e = .returned (stV (k.used v)) ∧ Keeps noB w w') := by
  have HN := Lib.hid (fun w => sneeds_any k hk hv w)
  rw [stV_eq k, stV_eq (k.used v)] at HN
  rw [stV_eq (k.used v)]
  unfold u8 at HN
  obtain ⟨sv, hsv⟩ : ∃ sv : ByteArray, sv = ⟨[v].toArray⟩ := ⟨_, rfl⟩
  rw [← hsv]
  have h01 : (0 : Int) < (sv.size : Int) := by rw [hsv]; exact Int.one_pos
  have h0 : 0 < sv.size := by omega
  have hg : sv[0] = v := by subst hsv; rfl
  have HB := Lib.hid (fun w1 q => StepBox.start (w := w) (w1 := w1) (nd := #[.int .u8 46, .int .i64 kv, .int .i64 ev, .string sv, .slice xa xn xc, .string ar]) (k := k) q)
  rw [stV_eq k]
  have hvi0 := hg
  clear hsv hk hv
  go_enter Tryz.func61, Tryz.ntmps61
  go_wp2_with fail
  refine wp_region_still_tail 4 (by kernel_rfl) (by kernel_rfl) ?_
  simp only [List.take_succ_cons, List.take_zero, List.drop_succ_cons, List.drop_zero]
  change wpStill _ _ (World.drew _) (fun a' => wpList _ _ _ _ a' (World.drew _)) _ _
  have HW := Lib.hid (HB.out (World.drew (((w.alloc (.cells #[.int .u8 46, .int .i64 kv, .int .i64 ev, .string sv, .slice xa xn xc, .string ar] 52)).alloc (.cells #[.string (mayB k), .string (mustB k), .bool (liveK k)] 60)).alloc (.cells #[.string ⟨#[]⟩, .string ⟨#[]⟩, .bool false] 60))) (Keeps.refl _ _).drew)
  generalize World.drew _ = w0 at *
  have ⟨t0, t1, t2, t3, t4, t5, ⟨t6, t7, t8⟩, t9, t10, t11⟩ := HW.out.cells
  have n3 := (HW.out.bN.cell 3)
  simp at n3
  still_step
  still_step
  still_step
  still_step
  refine wpStill_nil ?_
  go_wp2_with (go_at_call 84; refine (HN.out _).mono ?_; rintro e1 w1 ⟨rfl, q1⟩; have hb := HW.out.keeps q1; have ⟨s0, s1, s2, s3, s4, s5, ⟨s6, s7, s8⟩, s9, s10, s11⟩ := hb.cells; have HZ := Lib.hid (hb.done (.string (mayB (k.used v))) (.string (mustB (k.used v))) (.bool (liveK (k.used v)))); clear q1 hb)
  obtain ⟨f0, f1, f2, f3⟩ := HZ.out
  exact bodyPost_ret (resSt Tryz.results61 _ (w.heap.size + 1 + 1) _ _ _ _ rfl f0 f1 f2) rfl ⟨rfl, f3⟩

set_option maxRecDepth 100000 in
set_option maxHeartbeats 4000000 in
theorem hstep_drop (k : Kn) (hk : k.Wf) {v : UInt8} (hv : ltr v) (h : Nat) (kv ev : Int) (xa : Option Addr) (xn xc : Nat) (ar : ByteArray) (w : World) :
    Calls Tryz.prog 61 #[.pointer (some ⟨h, 0, none⟩), .agg #[.int .u8 126, .int .i64 kv, .int .i64 ev, .string ⟨[v].toArray⟩, .slice xa xn xc, .string ar], stV k] w (fun e w' => e = .returned (stV (k.changed 0 (bitV v))) ∧ Keeps noB w w') := by
  have HN := Lib.hid (fun w => sclear_any k hk hv w)
  rw [stV_eq k, stV_eq (k.changed 0 (bitV v))] at HN
  rw [stV_eq (k.changed 0 (bitV v))]
  unfold u8 at HN
  obtain ⟨sv, hsv⟩ : ∃ sv : ByteArray, sv = ⟨[v].toArray⟩ := ⟨_, rfl⟩
  rw [← hsv]
  have h01 : (0 : Int) < (sv.size : Int) := by rw [hsv]; exact Int.one_pos
  have h0 : 0 < sv.size := by omega
  have hg : sv[0] = v := by subst hsv; rfl
  have HB := Lib.hid (fun w1 q => StepBox.start (w := w) (w1 := w1) (nd := #[.int .u8 126, .int .i64 kv, .int .i64 ev, .string sv, .slice xa xn xc, .string ar]) (k := k) q)
  rw [stV_eq k]
  have hvi0 := hg
  clear hsv hk hv
  go_enter Tryz.func61, Tryz.ntmps61
  go_wp2_with fail
  refine wp_region_still_tail 4 (by kernel_rfl) (by kernel_rfl) ?_
  simp only [List.take_succ_cons, List.take_zero, List.drop_succ_cons, List.drop_zero]
  change wpStill _ _ (World.drew _) (fun a' => wpList _ _ _ _ a' (World.drew _)) _ _
  have HW := Lib.hid (HB.out (World.drew (((w.alloc (.cells #[.int .u8 126, .int .i64 kv, .int .i64 ev, .string sv, .slice xa xn xc, .string ar] 52)).alloc (.cells #[.string (mayB k), .string (mustB k), .bool (liveK k)] 60)).alloc (.cells #[.string ⟨#[]⟩, .string ⟨#[]⟩, .bool false] 60))) (Keeps.refl _ _).drew)
  generalize World.drew _ = w0 at *
  have ⟨t0, t1, t2, t3, t4, t5, ⟨t6, t7, t8⟩, t9, t10, t11⟩ := HW.out.cells
  have n3 := (HW.out.bN.cell 3)
  simp at n3
  still_step
  still_step
  still_step
  still_step
  refine wpStill_nil ?_
  go_wp2_with (go_at_call 85; refine (HN.out _).mono ?_; rintro e1 w1 ⟨rfl, q1⟩; have hb := HW.out.keeps q1; have ⟨s0, s1, s2, s3, s4, s5, ⟨s6, s7, s8⟩, s9, s10, s11⟩ := hb.cells; have HZ := Lib.hid (hb.done (.string (mayB (k.changed 0 (bitV v)))) (.string (mustB (k.changed 0 (bitV v)))) (.bool (liveK (k.changed 0 (bitV v))))); clear q1 hb)
  obtain ⟨f0, f1, f2, f3⟩ := HZ.out
  exact bodyPost_ret (resSt Tryz.results61 _ (w.heap.size + 1 + 1) _ _ _ _ rfl f0 f1 f2) rfl ⟨rfl, f3⟩

set_option maxRecDepth 100000 in
set_option maxHeartbeats 4000000 in
theorem hstep_make (k : Kn) (hk : k.Wf) (hn : k ≠ Kn.no) {v : UInt8} (hv : ltr v) (h : Nat) (kv ev : Int) (xa : Option Addr) (xn xc : Nat) (ar : ByteArray) (w : World) :
    Calls Tryz.prog 61 #[.pointer (some ⟨h, 0, none⟩), .agg #[.int .u8 43, .int .i64 kv, .int .i64 ev, .string ⟨[v].toArray⟩, .slice xa xn xc, .string ar], stV k] w (fun e w' => e = .returned (stV (k.changed (bitV v) 0)) ∧ Keeps noB w w') := by
  have HN := Lib.hid (fun w => sset_any k hk hn hv w)
  rw [stV_eq k, stV_eq (k.changed (bitV v) 0), liveK_yes hn] at HN
  rw [stV_eq (k.changed (bitV v) 0)]
  have hlv := liveK_yes hn
  unfold u8 at HN
  obtain ⟨sv, hsv⟩ : ∃ sv : ByteArray, sv = ⟨[v].toArray⟩ := ⟨_, rfl⟩
  rw [← hsv]
  have h01 : (0 : Int) < (sv.size : Int) := by rw [hsv]; exact Int.one_pos
  have h0 : 0 < sv.size := by omega
  have hg : sv[0] = v := by subst hsv; rfl
  have HB := Lib.hid (fun w1 q => StepBox.start (w := w) (w1 := w1) (nd := #[.int .u8 43, .int .i64 kv, .int .i64 ev, .string sv, .slice xa xn xc, .string ar]) (k := k) q)
  rw [stV_eq k]
  rw [hlv]
  have hvi0 := hg
  have HB2 : Hid (∀ w1, Keeps noB (((w.alloc (.cells #[.int .u8 43, .int .i64 kv, .int .i64 ev, .string sv, .slice xa xn xc, .string ar] 52)).alloc (.cells #[.string (mayB k), .string (mustB k), .bool true] 60)).alloc (.cells #[.string ⟨#[]⟩, .string ⟨#[]⟩, .bool false] 60)) w1 → StepBox w w1 #[.int .u8 43, .int .i64 kv, .int .i64 ev, .string sv, .slice xa xn xc, .string ar] k) := fun w1 q => HB.out w1 (by rw [hlv]; exact q)
  clear hsv hk hv
  go_enter Tryz.func61, Tryz.ntmps61
  go_wp2_with fail
  refine wp_region_still_tail 4 (by kernel_rfl) (by kernel_rfl) ?_
  simp only [List.take_succ_cons, List.take_zero, List.drop_succ_cons, List.drop_zero]
  change wpStill _ _ (World.drew _) (fun a' => wpList _ _ _ _ a' (World.drew _)) _ _
  have HW := Lib.hid (HB2.out (World.drew (((w.alloc (.cells #[.int .u8 43, .int .i64 kv, .int .i64 ev, .string sv, .slice xa xn xc, .string ar] 52)).alloc (.cells #[.string (mayB k), .string (mustB k), .bool (true)] 60)).alloc (.cells #[.string ⟨#[]⟩, .string ⟨#[]⟩, .bool false] 60))) (Keeps.refl _ _).drew)
  generalize World.drew _ = w0 at *
  have hcl := HW.out.cells
  unfold StepCells at hcl
  rw [hlv] at hcl
  have ⟨t0, t1, t2, t3, t4, t5, ⟨t6, t7, t8⟩, t9, t10, t11⟩ := hcl
  have n3 := (HW.out.bN.cell 3)
  simp at n3
  still_step
  still_step
  still_step
  still_step
  refine wpStill_nil ?_
  go_wp2_with (go_at_call 83; refine (HN.out _).mono ?_; rintro e1 w1 ⟨rfl, q1⟩; have hb := HW.out.keeps q1; have ⟨s0, s1, s2, s3, s4, s5, ⟨s6, s7, s8⟩, s9, s10, s11⟩ := hb.cells; have HZ := Lib.hid (hb.done (.string (mayB (k.changed (bitV v) 0))) (.string (mustB (k.changed (bitV v) 0))) (.bool (liveK (k.changed (bitV v) 0)))); clear q1 hb)
  obtain ⟨f0, f1, f2, f3⟩ := HZ.out
  exact bodyPost_ret (resSt Tryz.results61 _ (w.heap.size + 1 + 1) _ _ _ _ rfl f0 f1 f2) rfl ⟨rfl, f3⟩

set_option maxRecDepth 100000 in
set_option maxHeartbeats 4000000 in
theorem hstep_leave94 (k : Kn) (hk : k.Wf) (sv : ByteArray) (h : Nat) (kv ev : Int) (xa : Option Addr) (xn xc : Nat) (ar : ByteArray) (w : World) :
    Calls Tryz.prog 61 #[.pointer (some ⟨h, 0, none⟩), .agg #[.int .u8 94, .int .i64 kv, .int .i64 ev, .string sv, .slice xa xn xc, .string ar], stV k] w (fun e w' => e = .returned (stV (Kn.no)) ∧ Keeps noB w w') := by
  have HB := Lib.hid (fun w1 q => StepBox.start (w := w) (w1 := w1) (nd := #[.int .u8 94, .int .i64 kv, .int .i64 ev, .string sv, .slice xa xn xc, .string ar]) (k := k) q)
  rw [stV_eq k]
  rw [stV_no]
  have HZ := Lib.hid ((HB.out _ (Keeps.refl _ _)).done (.string ⟨#[]⟩) (.string ⟨#[]⟩) (.bool false))
  clear hk
  go_enter Tryz.func61, Tryz.ntmps61
  go_wp2_with fail
  have hb := HB.out _ (Keeps.refl _ _)
  obtain ⟨_, _, _, f0, f1, f2, _⟩ := hb.cells
  exact bodyPost_ret (resSt Tryz.results61 _ (w.heap.size + 1 + 1) _ _ _ _ rfl f0 f1 f2) rfl ⟨rfl, hb.q⟩

set_option maxRecDepth 100000 in
set_option maxHeartbeats 4000000 in
theorem hstep_leave33 (k : Kn) (hk : k.Wf) (sv : ByteArray) (h : Nat) (kv ev : Int) (xa : Option Addr) (xn xc : Nat) (ar : ByteArray) (w : World) :
    Calls Tryz.prog 61 #[.pointer (some ⟨h, 0, none⟩), .agg #[.int .u8 33, .int .i64 kv, .int .i64 ev, .string sv, .slice xa xn xc, .string ar], stV k] w (fun e w' => e = .returned (stV (Kn.no)) ∧ Keeps noB w w') := by
  have HB := Lib.hid (fun w1 q => StepBox.start (w := w) (w1 := w1) (nd := #[.int .u8 33, .int .i64 kv, .int .i64 ev, .string sv, .slice xa xn xc, .string ar]) (k := k) q)
  rw [stV_eq k]
  rw [stV_no]
  have HZ := Lib.hid ((HB.out _ (Keeps.refl _ _)).done (.string ⟨#[]⟩) (.string ⟨#[]⟩) (.bool false))
  clear hk
  go_enter Tryz.func61, Tryz.ntmps61
  go_wp2_with fail
  have hb := HB.out _ (Keeps.refl _ _)
  obtain ⟨_, _, _, f0, f1, f2, _⟩ := hb.cells
  exact bodyPost_ret (resSt Tryz.results61 _ (w.heap.size + 1 + 1) _ _ _ _ rfl f0 f1 f2) rfl ⟨rfl, hb.q⟩

set_option maxRecDepth 100000 in
set_option maxHeartbeats 4000000 in
theorem hstep_make_no (k : Kn) (hk : k.Wf) (hn : k = Kn.no) (sv : ByteArray) (h : Nat) (kv ev : Int) (xa : Option Addr) (xn xc : Nat) (ar : ByteArray) (w : World) :
    Calls Tryz.prog 61 #[.pointer (some ⟨h, 0, none⟩), .agg #[.int .u8 43, .int .i64 kv, .int .i64 ev, .string sv, .slice xa xn xc, .string ar], stV k] w (fun e w' => e = .returned (stV (k)) ∧ Keeps noB w w') := by
  have HB := Lib.hid (fun w1 q => StepBox.start (w := w) (w1 := w1) (nd := #[.int .u8 43, .int .i64 kv, .int .i64 ev, .string sv, .slice xa xn xc, .string ar]) (k := k) q)
  rw [stV_eq k]
  have hlv : liveK k = false := by rw [hn]; exact liveK_no
  have HB2 : Hid (∀ w1, Keeps noB (((w.alloc (.cells #[.int .u8 43, .int .i64 kv, .int .i64 ev, .string sv, .slice xa xn xc, .string ar] 52)).alloc (.cells #[.string (mayB k), .string (mustB k), .bool false] 60)).alloc (.cells #[.string (mayB k), .string (mustB k), .bool false] 60)) w1 → Keeps noB w w1) := fun w1 q => ((((Keeps.refl _ w).alloc _).alloc _).alloc _).trans q
  rw [hlv]
  clear hk hn
  generalize mayB k = a0 at *
  generalize mustB k = b0 at *
  go_enter Tryz.func61, Tryz.ntmps61
  go_wp2_with fail
  have h3 : ∀ (w : World) (nd : Array Value) (x y : Array Value), Blk (((w.alloc (.cells nd 52)).alloc (.cells x 60)).alloc (.cells y 60)) (w.heap.size + 1 + 1) y 60 := fun w nd x y => by
    have := Blk.new ((w.alloc (.cells nd 52)).alloc (.cells x 60)) y 60
    have e : ((w.alloc (.cells nd 52)).alloc (.cells x 60)).heap.size = w.heap.size + 1 + 1 := by simp only [World.alloc, Array.size_push]
    rw [e] at this; exact this
  exact bodyPost_ret (resSt Tryz.results61 _ (w.heap.size + 1 + 1) _ _ _ _ rfl (((h3 _ _ _ _).cell 0).trans rfl) (((h3 _ _ _ _).cell 1).trans rfl) (((h3 _ _ _ _).cell 2).trans rfl)) rfl ⟨rfl, (((Keeps.refl _ _).alloc _).alloc _).alloc _⟩

set_option maxRecDepth 100000 in
set_option maxHeartbeats 4000000 in
theorem hstep_end (k : Kn) (hk : k.Wf) {v : UInt8} (hv : ltr v) (h : Nat) (kv ev : Int) (xa : Option Addr) (xn xc : Nat) (ar : ByteArray) (w : World) :
    Calls Tryz.prog 61 #[.pointer (some ⟨h, 0, none⟩), .agg #[.int .u8 45, .int .i64 kv, .int .i64 ev, .string ⟨[v].toArray⟩, .slice xa xn xc, .string ar], stV k] w (fun e w' => e = .returned (stV ((k.used v).changed 0 (bitV v))) ∧ Keeps noB w w') := by
  have hu : (k.used v).Wf := wf_changed (wf_needs hk v) (bitV_lt hv)
  have H1 := Lib.hid (fun w => sneeds_any k hk hv w)
  have H2 := Lib.hid (fun w => sclear_any (k.used v) hu hv w)
  rw [stV_eq k, stV_eq (k.used v)] at H1
  rw [stV_eq (k.used v), stV_eq ((k.used v).changed 0 (bitV v))] at H2
  rw [stV_eq ((k.used v).changed 0 (bitV v))]
  unfold u8 at H1 H2
  generalize (k.used v).changed 0 (bitV v) = kr at *
  generalize k.used v = ku at *
  clear hu
  obtain ⟨sv, hsv⟩ : ∃ sv : ByteArray, sv = ⟨[v].toArray⟩ := ⟨_, rfl⟩
  rw [← hsv]
  have h01 : (0 : Int) < (sv.size : Int) := by rw [hsv]; exact Int.one_pos
  have h0 : 0 < sv.size := by omega
  have hg : sv[0] = v := by subst hsv; rfl
  have HB := Lib.hid (fun w1 q => StepBox.start (w := w) (w1 := w1) (nd := #[.int .u8 45, .int .i64 kv, .int .i64 ev, .string sv, .slice xa xn xc, .string ar]) (k := k) q)
  rw [stV_eq k]
  clear hsv hk hv
  go_enter Tryz.func61, Tryz.ntmps61
  go_wp2_with fail
  have HW := Lib.hid (HB.out (((w.alloc (.cells #[.int .u8 45, .int .i64 kv, .int .i64 ev, .string sv, .slice xa xn xc, .string ar] 52)).alloc (.cells #[.string (mayB k), .string (mustB k), .bool (liveK k)] 60)).alloc (.cells #[.string ⟨#[]⟩, .string ⟨#[]⟩, .bool false] 60)) (Keeps.refl _ _))
  generalize (((w.alloc (.cells #[.int .u8 45, .int .i64 kv, .int .i64 ev, .string sv, .slice xa xn xc, .string ar] 52)).alloc (.cells #[.string (mayB k), .string (mustB k), .bool (liveK k)] 60)).alloc (.cells #[.string ⟨#[]⟩, .string ⟨#[]⟩, .bool false] 60)) = w0 at *
  have HWD := Lib.hid (HW.out.keeps (Keeps.refl noB w0).drew)
  have ⟨t0, t1, t2, t3, t4, t5, ⟨t6, t7, t8⟩, t9, t10, t11⟩ := HWD.out.cells
  have n3 := (HWD.out.bN.cell 3)
  simp at n3
  go_region_law (first
    | (go_simp; go_at_call 84; refine (H1.out _).mono ?_; rintro e1 w1 ⟨rfl, q1⟩
       have HX := Lib.hid (HWD.out.keeps q1)
       have ⟨s0, s1, s2, s3, s4, s5, ⟨s6, s7, s8⟩, s9, s10, s11⟩ := HX.out.cells
       have m3 := (HX.out.bN.cell 3)
       simp at m3
       clear q1)
    | (go_simp; go_at_call 85; refine (H2.out _).mono ?_; rintro e2 w2 ⟨rfl, q2⟩
       have hb := HX.out.keeps q2
       have ⟨r0, r1, r2, r3, r4, r5, ⟨r6, r7, r8⟩, r9, r10, r11⟩ := hb.cells
       have l3 := (hb.bN.cell 3)
       simp at l3
       have HZ := Lib.hid (hb.done (.string (mayB kr)) (.string (mustB kr)) (.bool (liveK kr)))
       clear q2 hb))
  all_goals
    go_wp2_with fail
    obtain ⟨f0, f1, f2, f3⟩ := HZ.out
    exact bodyPost_ret (resSt Tryz.results61 _ (w.heap.size + 1 + 1) _ _ _ _ rfl f0 f1 f2) rfl ⟨rfl, f3⟩

set_option maxRecDepth 100000 in
set_option maxHeartbeats 4000000 in
theorem hstep_move_no (k : Kn) (hk : k.Wf) {v u : UInt8} (hv : ltr v) (hu : ltr u) (hh : k.used u = Kn.no) (h : Nat) (kv ev : Int) (xa : Option Addr) (xn xc : Nat) (ar : ByteArray) (w : World) :
    Calls Tryz.prog 61 #[.pointer (some ⟨h, 0, none⟩), .agg #[.int .u8 61, .int .i64 kv, .int .i64 ev, .string ⟨[v, u].toArray⟩, .slice xa xn xc, .string ar], stV k] w (fun e w' => e = .returned (stV (Kn.no)) ∧ Keeps noB w w') := by
  have huw : (k.used u).Wf := wf_changed (wf_needs hk u) (bitV_lt hu)
  have H1 := Lib.hid (fun w => sneeds_any k hk hu w)
  rw [stV_eq k, stV_eq (k.used u)] at H1
  rw [hh] at H1
  rw [stV_eq Kn.no]
  have hlv : liveK Kn.no = false := liveK_no
  unfold u8 at H1
  generalize Kn.no = ku at *
  clear huw
  obtain ⟨sv, hsv⟩ : ∃ sv : ByteArray, sv = ⟨[v, u].toArray⟩ := ⟨_, rfl⟩
  rw [← hsv]
  have h2s : sv.size = 2 := by rw [hsv]; rfl
  have h01 : (0 : Int) < (sv.size : Int) := by omega
  have h11 : (1 : Int) < (sv.size : Int) := by omega
  have h0 : 0 < sv.size := by omega
  have h1 : 1 < sv.size := by omega
  have hg : sv[0] = v := by subst hsv; rfl
  have hg1 : sv[1] = u := by subst hsv; rfl
  have HB := Lib.hid (fun w1 q => StepBox.start (w := w) (w1 := w1) (nd := #[.int .u8 61, .int .i64 kv, .int .i64 ev, .string sv, .slice xa xn xc, .string ar]) (k := k) q)
  rw [stV_eq k]
  clear hsv hk hv hu hh h2s
  go_enter Tryz.func61, Tryz.ntmps61
  go_wp2_with fail
  refine wp_region_still_tail 4 (by kernel_rfl) (by kernel_rfl) ?_
  simp only [List.take_succ_cons, List.take_zero, List.drop_succ_cons, List.drop_zero]
  change wpStill _ _ (World.drew _) (fun a' => wpList _ _ _ _ a' (World.drew _)) _ _
  have HW := Lib.hid (HB.out (World.drew (((w.alloc (.cells #[.int .u8 61, .int .i64 kv, .int .i64 ev, .string sv, .slice xa xn xc, .string ar] 52)).alloc (.cells #[.string (mayB k), .string (mustB k), .bool (liveK k)] 60)).alloc (.cells #[.string ⟨#[]⟩, .string ⟨#[]⟩, .bool false] 60))) (Keeps.refl _ _).drew)
  generalize World.drew _ = w0 at *
  have ⟨t0, t1, t2, t3, t4, t5, ⟨t6, t7, t8⟩, t9, t10, t11⟩ := HW.out.cells
  have n3 := (HW.out.bN.cell 3)
  simp at n3
  still_step
  still_step
  still_step
  still_step
  refine wpStill_nil ?_
  go_wp2_with (go_at_call 84; refine (H1.out _).mono ?_; rintro e1 w1 ⟨rfl, q1⟩; have hb := HW.out.keeps q1; have ⟨s0, s1, s2, s3, s4, s5, ⟨s6, s7, s8⟩, s9, s10, s11⟩ := hb.cells; have HS := Lib.hid (hb.store ku); have hsc := HS.out.cells; unfold StepCells at hsc; have HZ := Lib.hid (HS.out.done (.string (mayB ku)) (.string (mustB ku)) (.bool (liveK ku))); rw [hlv] at hsc HS HZ; rw [hlv]; have ⟨r0, r1, r2, r3, r4, r5, ⟨r6, r7, r8⟩, r9, r10, r11⟩ := hsc; clear q1 hb hsc)
  obtain ⟨f0, f1, f2, f3⟩ := HZ.out
  exact bodyPost_ret (resSt Tryz.results61 _ (w.heap.size + 1 + 1) _ _ _ _ rfl f0 f1 f2) rfl ⟨by rw [hlv], f3⟩

set_option maxRecDepth 100000 in
set_option maxHeartbeats 4000000 in
theorem hstep_move (k : Kn) (hk : k.Wf) {v u : UInt8} (hv : ltr v) (hu : ltr u) (hh : k.used u ≠ Kn.no) (h : Nat) (kv ev : Int) (xa : Option Addr) (xn xc : Nat) (ar : ByteArray) (w : World) :
    Calls Tryz.prog 61 #[.pointer (some ⟨h, 0, none⟩), .agg #[.int .u8 61, .int .i64 kv, .int .i64 ev, .string ⟨[v, u].toArray⟩, .slice xa xn xc, .string ar], stV k] w (fun e w' => e = .returned (stV (((k.used u).changed (bitV v) 0).changed 0 (bitV u))) ∧ Keeps noB w w') := by
  have huw : (k.used u).Wf := wf_changed (wf_needs hk u) (bitV_lt hu)
  have H1 := Lib.hid (fun w => sneeds_any k hk hu w)
  rw [stV_eq k, stV_eq (k.used u)] at H1
  have H2 := Lib.hid (fun w => sset_any (k.used u) huw hh hv w)
  have H3 := Lib.hid (fun w => sclear_any ((k.used u).changed (bitV v) 0) (wf_changed huw (bitV_lt hv)) hu w)
  rw [stV_eq (k.used u), stV_eq ((k.used u).changed (bitV v) 0)] at H2
  rw [stV_eq ((k.used u).changed (bitV v) 0), stV_eq (((k.used u).changed (bitV v) 0).changed 0 (bitV u))] at H3
  rw [stV_eq (((k.used u).changed (bitV v) 0).changed 0 (bitV u))]
  have hlv : liveK (k.used u) = true := liveK_yes hh
  unfold u8 at H1 H2 H3
  generalize ((k.used u).changed (bitV v) 0).changed 0 (bitV u) = kr at *
  generalize (k.used u).changed (bitV v) 0 = ks at *
  generalize k.used u = ku at *
  clear huw
  obtain ⟨sv, hsv⟩ : ∃ sv : ByteArray, sv = ⟨[v, u].toArray⟩ := ⟨_, rfl⟩
  rw [← hsv]
  have h2s : sv.size = 2 := by rw [hsv]; rfl
  have h01 : (0 : Int) < (sv.size : Int) := by omega
  have h11 : (1 : Int) < (sv.size : Int) := by omega
  have h0 : 0 < sv.size := by omega
  have h1 : 1 < sv.size := by omega
  have hg : sv[0] = v := by subst hsv; rfl
  have hg1 : sv[1] = u := by subst hsv; rfl
  have HB := Lib.hid (fun w1 q => StepBox.start (w := w) (w1 := w1) (nd := #[.int .u8 61, .int .i64 kv, .int .i64 ev, .string sv, .slice xa xn xc, .string ar]) (k := k) q)
  rw [stV_eq k]
  clear hsv hk hv hu hh h2s
  go_enter Tryz.func61, Tryz.ntmps61
  go_wp2_with fail
  refine wp_region_still_tail 4 (by kernel_rfl) (by kernel_rfl) ?_
  simp only [List.take_succ_cons, List.take_zero, List.drop_succ_cons, List.drop_zero]
  change wpStill _ _ (World.drew _) (fun a' => wpList _ _ _ _ a' (World.drew _)) _ _
  have HW := Lib.hid (HB.out (World.drew (((w.alloc (.cells #[.int .u8 61, .int .i64 kv, .int .i64 ev, .string sv, .slice xa xn xc, .string ar] 52)).alloc (.cells #[.string (mayB k), .string (mustB k), .bool (liveK k)] 60)).alloc (.cells #[.string ⟨#[]⟩, .string ⟨#[]⟩, .bool false] 60))) (Keeps.refl _ _).drew)
  generalize World.drew _ = w0 at *
  have ⟨t0, t1, t2, t3, t4, t5, ⟨t6, t7, t8⟩, t9, t10, t11⟩ := HW.out.cells
  have n3 := (HW.out.bN.cell 3)
  simp at n3
  still_step
  still_step
  still_step
  still_step
  refine wpStill_nil ?_
  go_wp2_with (go_at_call 84; refine (H1.out _).mono ?_; rintro e1 w1 ⟨rfl, q1⟩; have hb := HW.out.keeps q1; have ⟨s0, s1, s2, s3, s4, s5, ⟨s6, s7, s8⟩, s9, s10, s11⟩ := hb.cells; have HS := Lib.hid (hb.store ku); have hsc := HS.out.cells; unfold StepCells at hsc; have HZ := Lib.hid (HS.out.done (.string (mayB ku)) (.string (mustB ku)) (.bool (liveK ku))); rw [hlv] at hsc HS HZ; rw [hlv]; have ⟨r0, r1, r2, r3, r4, r5, ⟨r6, r7, r8⟩, r9, r10, r11⟩ := hsc; clear q1 hb hsc)
  clear r0 r1 r2 r3 r4 r5 r6 r7 r8 r9 r10 r11 s0 s1 s2 s3 s4 s5 s6 s7 s8 s9 s10 s11 HZ n3
  rw [hlv] at H2
  generalize World.setCell (World.setCell (World.setCell _ _ _) _ _) _ _ = w5 at *
  have HWD := Lib.hid (HS.out.keeps (Keeps.refl noB w5).drew)
  have hcd := HWD.out.cells
  unfold StepCells at hcd
  rw [hlv] at hcd
  have ⟨d0, d1, d2, d3, d4, d5, ⟨d6, d7, d8⟩, d9, d10, d11⟩ := hcd
  have n3 := (HWD.out.bN.cell 3)
  simp at n3
  go_region_law (first
    | (go_simp; go_at_call 83; refine (H2.out _).mono ?_; rintro e6 w6 ⟨rfl, q6⟩
       have HX := Lib.hid (HWD.out.keeps q6)
       have ⟨s0, s1, s2, s3, s4, s5, ⟨s6, s7, s8⟩, s9, s10, s11⟩ := HX.out.cells
       have m3 := (HX.out.bN.cell 3)
       simp at m3
       clear q6)
    | (go_simp; go_at_call 85; refine (H3.out _).mono ?_; rintro e7 w7 ⟨rfl, q7⟩
       have hb := HX.out.keeps q7
       have ⟨t0, t1, t2, t3, t4, t5, ⟨t6, t7, t8⟩, t9, t10, t11⟩ := hb.cells
       have l3 := (hb.bN.cell 3)
       simp at l3
       have hb2 := hb.store kr
       have ⟨z0, z1, z2, z3, z4, z5, ⟨z6, z7, z8⟩, z9, z10, z11⟩ := hb2.cells
       have HZ := Lib.hid (hb2.done (.string (mayB kr)) (.string (mustB kr)) (.bool (liveK kr)))
       clear q7 hb hb2))
  all_goals
    go_wp2_with fail
    obtain ⟨f0, f1, f2, f3⟩ := HZ.out
    exact bodyPost_ret (resSt Tryz.results61 _ (w.heap.size + 1 + 1) _ _ _ _ rfl f0 f1 f2) rfl ⟨rfl, f3⟩

end Go.Proofs.YtkfcgamdlckncaaGreat

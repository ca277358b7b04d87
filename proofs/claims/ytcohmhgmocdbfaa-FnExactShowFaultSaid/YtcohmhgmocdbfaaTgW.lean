/-
  Walks of the model's run: steps with one variable.
  Walks of the model's run: a value moves; leaving.
-/
import Derived.Test.YtcohmhgmocdbfaaTeW
import Derived.BigRegion
namespace Go.Proofs.Ytcohmhgmocdbfaa
set_option linter.unusedVariables false
set_option linter.unusedSimpArgs false
open Go.RowKit

def six' (c k e : Int) (vs : ByteArray) (a : Option Addr) (n m : Nat) (ar : ByteArray) : Array Value := #[.int .u8 c, .int .i64 k, .int .i64 e, .string vs, .slice a n m, .string ar]

/-- The world with the node boxed. -/
theorem boxed {w : World} {own ok : Nat → Prop} {b : Nat} {C : ByteArray} {s : St} {sc : List UInt8} {vv : Value} (h : Fine w own ok b C s sc vv) (cs : Array Value) (t : TypeId) :
    Fine (w.alloc (.cells cs t)) own ok b C s sc vv ∧ Owns own own w (w.alloc (.cells cs t)) ∧ Blk (w.alloc (.cells cs t)) w.heap.size cs t ∧ ¬ own w.heap.size := by
  have q : Keeps noB w (w.alloc (.cells cs t)) := (Keeps.refl _ _).alloc _
  have o : Owns own own w (w.alloc (.cells cs t)) := ⟨fun k e => .inl e, fun k e => Nat.lt_of_lt_of_le (h.lt k e) q.size, q.mono (fun _ e => e.elim)⟩
  exact ⟨⟨h.at_.keeps q (fun _ _ e => e), h.size, h.held, h.low, ok_after o h.ok, o.lt⟩, o, Blk.new _ _ _, fun e => by have := h.lt _ e; omega⟩

theorem madeM_set (C : ByteArray) (a : Nat) (f : UInt8 → Nat) (m : Nat) (ev : ByteArray) (ex wh : Int) (st : Bool) (ask : ByteArray) (vv : Value) (k : Nat) : (rnCells C a f m ev ex wh st ask vv).setIfInBounds 8 (i64 k) = rnCells C a f k ev ex wh st ask vv := rfl

/-- Ahead of a variable's making, the count turned. -/
theorem makeM_ready {w : World} {own : Nat → Prop} {b : Nat} {C : ByteArray} {s : St} {vv : Value} (h : RnAt w own b C s none vv) (hlt : ∀ k, own k → k < w.heap.size) (v : UInt8) (hv : lett v) (hn : s.ev.length ≤ 1000000) (hm : s.made ≤ 900000) :
    RnAt (w.setCell ⟨b, 8, none⟩ (.int .i64 ((s.made : Int) + 1))) own b C { s with made := s.made + 1 } none vv ∧ Owns own own w (w.setCell ⟨b, 8, none⟩ (.int .i64 ((s.made : Int) + 1))) ∧
    Calls Try.prog 120 #[.pointer (some ⟨b, 0, none⟩), .string ⟨#[43]⟩, .int .i64 ((s.made : Int) + 1)] ((w.setCell ⟨b, 8, none⟩ (.int .i64 ((s.made : Int) + 1))).setCell ⟨b, slot v, none⟩ (.int .i64 ((s.made : Int) + 1))).drew
      (RnRuns w own b C (s.make v) none (.tuple #[])) := by
  have h1 : RnAt (w.setCell ⟨b, 8, none⟩ (i64 (s.made + 1))) own b C { s with made := s.made + 1 } none vv := h.stored (t := { s with made := s.made + 1 }) 8 (i64 (s.made + 1)) (madeM_set _ _ _ _ _ _ _ _ _ _ (s.made + 1)) h.few h.rest h.txt rfl
  have h2 := (h1.put hv (s.made + 1)).drew
  have o1 := owns_set h.mine hlt 8 (i64 (s.made + 1))
  have o2 := owns_drew (owns_set h.mine o1.lt (slot v) (i64 (s.made + 1)))
  have e := event_any b C _ none vv own _ h2 o2.lt 43 (s.made + 1) (by omega) hn
  exact ⟨h1, o1, e.mono (fun e w' hr => RnRuns.after (o1.trans o2) hr)⟩

set_option maxRecDepth 100000 in
set_option maxHeartbeats 2000000 in
theorem stepM_make (b : Nat) (C : ByteArray) (s : St) (sc : List UInt8) (vv : Value) (own ok : Nat → Prop) (w : World) (h : Fine w own ok b C s sc vv) (hn : s.ev.length ≤ 900000) (hm : s.made ≤ 800000)
    (k e : Int) (v : UInt8) (a : Option Addr) (n m : Nat) (ar : ByteArray) (hv : lett v) :
    Calls Try.prog 105 #[.pointer (some ⟨b, 0, none⟩), .agg #[.int .u8 43, .int .i64 k, .int .i64 e, .string ⟨#[v]⟩, .slice a n m, .string ar]] w (RnRuns w own b C ((s.destroy v).make v) none (.tuple #[])) := by
  obtain ⟨hf, oB, bB, hnB⟩ := boxed h #[.int .u8 43, .int .i64 k, .int .i64 e, .string ⟨#[v]⟩, .slice a n m, .string ar] 51
  have HD := Lib.hid (destroyM_any b C s none vv own _ hf.at_ hf.lt v hv (by omega) (by have := h.low v; omega))
  have HR : Hid (∀ own1 vv1 w1, Owns own own1 (w.alloc (.cells #[.int .u8 43, .int .i64 k, .int .i64 e, .string ⟨#[v]⟩, .slice a n m, .string ar] 51)) w1 → RnAt w1 own1 b C (s.destroy v) none vv1 →
      (w1.cell? ⟨b, 8, none⟩ = some (.int .i64 (s.made : Int)) ∧ w1.frozen? ⟨b, 8, none⟩ = false) ∧
      (w1.setCell ⟨b, 8, none⟩ (.int .i64 ((s.made : Int) + 1))).cell? ⟨w.heap.size, 3, none⟩ = some (.string ⟨#[v]⟩) ∧
      (w1.setCell ⟨b, 8, none⟩ (.int .i64 ((s.made : Int) + 1))).cell? ⟨b, 8, none⟩ = some (.int .i64 ((s.made : Int) + 1)) ∧
      (w1.setCell ⟨b, 8, none⟩ (.int .i64 ((s.made : Int) + 1))).frozen? ⟨b, slot v, none⟩ = false ∧ (∃ x, (w1.setCell ⟨b, 8, none⟩ (.int .i64 ((s.made : Int) + 1))).cell? ⟨b, slot v, none⟩ = some x) ∧
      Calls Try.prog 120 #[.pointer (some ⟨b, 0, none⟩), .string ⟨#[43]⟩, .int .i64 ((s.made : Int) + 1)] ((w1.setCell ⟨b, 8, none⟩ (.int .i64 ((s.made : Int) + 1))).setCell ⟨b, slot v, none⟩ (.int .i64 ((s.made : Int) + 1))).drew (RnRuns w own b C ((s.destroy v).make v) none (.tuple #[]))) := by
    intro own1 vv1 w1 ho hr
    obtain ⟨h1, h2, h3⟩ := makeM_ready hr ho.lt v hv (by have := (evs_destroy s v).ev; omega) (by rw [destroy_made]; omega)
    have e8 := hr.blk.cell 8
    rw [destroy_made] at h1 h2 h3 e8
    refine ⟨⟨e8, hr.blk.free 8⟩, (ho.trans h2).cells bB hnB 3, ?_, h1.blk.free _, ⟨_, (h1.blk.cell (slot v)).trans (rn_get hv _ _ _ _ _ _ _ _ _ _)⟩, h3.mono (fun e w' q => RnRuns.after (oB.trans ho) q)⟩
    exact h1.blk.cell 8
  generalize (s.destroy v).make v = t at HR ⊢
  generalize s.destroy v = s1 at HD HR
  have hslot : slot v < 8 := slot_lt hv
  have hv1 : (97 : Int) ≤ (v.toNat : Int) := by have := hv.1; omega
  have hv2 : (v.toNat : Int) ≤ 102 := by have := hv.2; omega
  unfold slot at HR hslot
  obtain ⟨sv, hsv⟩ : ∃ sv : ByteArray, sv = ⟨#[v]⟩ := ⟨_, rfl⟩
  rw [← hsv] at HR HD ⊢
  have h0 : 0 < sv.size := by rw [hsv]; exact Nat.zero_lt_one
  have h01 : (0 : Int) < (sv.size : Int) := by omega
  have hg : sv[0] = v := by subst hsv; rfl
  have hmw : (s.made : Int) + 1 ≤ 1000000 := by omega
  have hm0 : (0 : Int) ≤ (s.made : Int) := by omega
  generalize (s.made : Int) = mi at HR hmw hm0
  have hne1 : ¬ 2 + ((v.toNat : Int) - 97).toNat = 8 := by omega
  have hne2 : ¬ 8 = 2 + ((v.toNat : Int) - 97).toNat := by omega
  obtain ⟨vi, hvi⟩ : ∃ vi : Int, (v.toNat : Int) = vi := ⟨_, rfl⟩
  rw [hvi] at hv1 hv2 HR HD hslot hne1 hne2
  clear hsv h hf oB bB hnB hn hm hv
  go_enter Try.func105, Try.ntmps105
  go_wp2_with (go_at_call 119; refine HD.out.mono ?_; rintro e1 w1 ⟨own1, vv1, rfl, ho1, hr1⟩; have ⟨⟨y8, z8⟩, x3, x8, zj, ⟨xv, xj⟩, hcall⟩ := HR.out _ _ _ ho1 hr1; have HC := Lib.hid hcall; clear ho1 hr1 hcall)
  clear HD HR y8 z8
  generalize w1.setCell ⟨b, 8, none⟩ (.int .i64 (mi + 1)) = w2 at *
  go_region
  go_wp2_with (go_at_call 120; refine HC.out.mono ?_; rintro e1 w3 ⟨own3, vv3, rfl, ho3, hr3⟩; have HE := Lib.hid (And.intro ho3 hr3); clear ho3 hr3)
  go_end0
  exact ⟨own3, vv3, rfl, HE.out.1, HE.out.2⟩

set_option maxRecDepth 100000 in
set_option maxHeartbeats 2000000 in
theorem stepM_drop (b : Nat) (C : ByteArray) (s : St) (sc : List UInt8) (vv : Value) (own ok : Nat → Prop) (w : World) (h : Fine w own ok b C s sc vv) (hn : s.ev.length ≤ 900000) (hm : s.made ≤ 800000)
    (k e : Int) (v : UInt8) (a : Option Addr) (n m : Nat) (ar : ByteArray) (hv : lett v) :
    Calls Try.prog 105 #[.pointer (some ⟨b, 0, none⟩), .agg #[.int .u8 126, .int .i64 k, .int .i64 e, .string ⟨#[v]⟩, .slice a n m, .string ar]] w (RnRuns w own b C (s.destroy v) none (.tuple #[])) := by
  obtain ⟨hf, oB, bB, hnB⟩ := boxed h #[.int .u8 126, .int .i64 k, .int .i64 e, .string ⟨#[v]⟩, .slice a n m, .string ar] 51
  have HD := Lib.hid ((destroyM_any b C s none vv own _ hf.at_ hf.lt v hv (by omega) (by have := h.low v; omega)).mono (fun e w' hr => RnRuns.after oB hr))
  generalize s.destroy v = t at HD ⊢
  obtain ⟨sv, hsv⟩ : ∃ sv : ByteArray, sv = ⟨#[v]⟩ := ⟨_, rfl⟩
  rw [← hsv] at HD ⊢
  have h01 : (0 : Int) < (sv.size : Int) := by rw [hsv]; exact Int.one_pos
  have h0 : 0 < sv.size := by omega
  have hg : sv[0] = v := by subst hsv; rfl
  clear hsv h hf oB bB hnB hn hm hv
  go_enter Try.func105, Try.ntmps105
  go_wp2_with (go_at_call 119; refine HD.out.mono ?_; rintro e1 w3 ⟨own3, vv3, rfl, ho3, hr3⟩; have HE := Lib.hid (And.intro ho3 hr3); clear ho3 hr3)
  go_end0
  exact ⟨own3, vv3, rfl, HE.out.1, HE.out.2⟩

set_option maxRecDepth 100000 in
set_option maxHeartbeats 2000000 in
theorem stepM_use (b : Nat) (C : ByteArray) (s : St) (sc : List UInt8) (vv : Value) (own ok : Nat → Prop) (w : World) (h : Fine w own ok b C s sc vv) (hn : s.ev.length ≤ 900000) (hm : s.made ≤ 800000)
    (k : Nat) (e : Int) (v : UInt8) (a : Option Addr) (n m : Nat) (ar : ByteArray) (hv : lett v) :
    Calls Try.prog 105 #[.pointer (some ⟨b, 0, none⟩), .agg #[.int .u8 46, .int .i64 (k : Int), .int .i64 e, .string ⟨#[v]⟩, .slice a n m, .string ar]] w (RnDone w own b C (if s.val v = 0 then .stop (.fault k) s else .go (s.happen 46 (s.val v)))) := by
  obtain ⟨hf, oB, bB, hnB⟩ := boxed h #[.int .u8 46, .int .i64 (k : Int), .int .i64 e, .string ⟨#[v]⟩, .slice a n m, .string ar] 51
  have HV := Lib.hid (valueM_any b C s vv own _ (hf.at_.drew) hf.lt v hv k)
  have HEV := Lib.hid ((event_any b C s none vv own _ hf.at_.drew hf.lt 46 (s.val v) (by have := h.low v; omega) (by omega)).mono (fun e w' hr => RnRuns.after (owns_drew oB) hr))
  generalize s.val v = nn at HV HEV ⊢
  have HO := Lib.hid (owns_drew oB)
  have HB : Hid (∀ i : Nat, (w.alloc (.cells #[.int .u8 46, .int .i64 (k : Int), .int .i64 e, .string ⟨#[v]⟩, .slice a n m, .string ar] 51)).drew.cell? ⟨w.heap.size, i, none⟩ = #[.int .u8 46, .int .i64 (k : Int), .int .i64 e, .string ⟨#[v]⟩, .slice a n m, .string ar][i]?) := fun i => bB.cell i
  obtain ⟨sv, hsv⟩ : ∃ sv : ByteArray, sv = ⟨#[v]⟩ := ⟨_, rfl⟩
  rw [← hsv] at HV HEV HO HB ⊢
  have h01 : (0 : Int) < (sv.size : Int) := by rw [hsv]; exact Int.one_pos
  have h0 : 0 < sv.size := by omega
  have hg : sv[0] = v := by subst hsv; rfl
  clear hsv h hf oB bB hnB hn hm hv
  obtain ⟨kv, hkv⟩ : ∃ kv : Int, (k : Int) = kv := ⟨_, rfl⟩
  rw [hkv] at HV HEV HO HB ⊢
  by_cases hz : nn = 0
  · subst hz
    rw [if_pos rfl]
    go_enter Try.func105, Try.ntmps105
    go_wp2_with fail
    refine wp_region_still_tail 6 (by kernel_rfl) (by kernel_rfl) ?_
    simp only [List.take_succ_cons, List.take_zero, List.drop_succ_cons, List.drop_zero]
    change wpStill _ _ (World.drew _) (fun a' => wpList _ _ _ _ a' (World.drew _)) _ _
    have y1 : (w.alloc (.cells #[.int .u8 46, .int .i64 kv, .int .i64 e, .string sv, .slice a n m, .string ar] 51)).drew.cell? ⟨w.heap.size, 1, none⟩ = some (.int .i64 kv) := HB.out 1
    have y3 : (w.alloc (.cells #[.int .u8 46, .int .i64 kv, .int .i64 e, .string sv, .slice a n m, .string ar] 51)).drew.cell? ⟨w.heap.size, 3, none⟩ = some (.string sv) := HB.out 3
    generalize hw2 : (w.alloc (.cells #[.int .u8 46, .int .i64 kv, .int .i64 e, .string sv, .slice a n m, .string ar] 51)).drew = w2 at *
    still_step
    still_step
    still_step
    still_step
    still_step
    still_step
    refine wpStill_nil ?_
    go_wp2_with (go_at_call 121; refine HV.out.mono ?_; rintro e1 w3 hq; obtain ⟨own3, vv3, rfl, ho3, hr3⟩ := hq.1 rfl; have HE := Lib.hid (And.intro ho3 hr3); clear ho3 hr3 hq)
    go_end0
    exact ⟨own3, vv3, rfl, HO.out.trans HE.out.1, HE.out.2⟩
  · rw [if_neg hz]
    have hp : (0 : Int) < (nn : Int) := by omega
    go_enter Try.func105, Try.ntmps105
    go_wp2_with fail
    refine wp_region_still_tail 6 (by kernel_rfl) (by kernel_rfl) ?_
    simp only [List.take_succ_cons, List.take_zero, List.drop_succ_cons, List.drop_zero]
    change wpStill _ _ (World.drew _) (fun a' => wpList _ _ _ _ a' (World.drew _)) _ _
    have y1 : (w.alloc (.cells #[.int .u8 46, .int .i64 kv, .int .i64 e, .string sv, .slice a n m, .string ar] 51)).drew.cell? ⟨w.heap.size, 1, none⟩ = some (.int .i64 kv) := HB.out 1
    have y3 : (w.alloc (.cells #[.int .u8 46, .int .i64 kv, .int .i64 e, .string sv, .slice a n m, .string ar] 51)).drew.cell? ⟨w.heap.size, 3, none⟩ = some (.string sv) := HB.out 3
    generalize hw2 : (w.alloc (.cells #[.int .u8 46, .int .i64 kv, .int .i64 e, .string sv, .slice a n m, .string ar] 51)).drew = w2 at *
    still_step
    still_step
    still_step
    still_step
    still_step
    still_step
    refine wpStill_nil ?_
    go_wp2_with (first
      | (go_at_call 121; refine HV.out.mono ?_; rintro e1 w3 hq; obtain ⟨rfl, rfl⟩ := hq.2 hz; clear hq)
      | (go_at_call 120; refine HEV.out.mono ?_; rintro e1 w3 ⟨own3, vv3, rfl, ho3, hr3⟩; have HE := Lib.hid (And.intro ho3 hr3); clear ho3 hr3))
    go_end0
    exact ⟨own3, vv3, rfl, HE.out.1, HE.out.2⟩

set_option maxRecDepth 100000 in
set_option maxHeartbeats 2000000 in
theorem stepM_end (b : Nat) (C : ByteArray) (s : St) (sc : List UInt8) (vv : Value) (own ok : Nat → Prop) (w : World) (h : Fine w own ok b C s sc vv) (hn : s.ev.length ≤ 900000) (hm : s.made ≤ 800000)
    (k : Nat) (e : Int) (v : UInt8) (a : Option Addr) (n m : Nat) (ar : ByteArray) (hv : lett v) :
    Calls Try.prog 105 #[.pointer (some ⟨b, 0, none⟩), .agg #[.int .u8 45, .int .i64 (k : Int), .int .i64 e, .string ⟨#[v]⟩, .slice a n m, .string ar]] w (RnDone w own b C (if s.val v = 0 then .stop (.fault k) s else .go (s.destroy v))) := by
  obtain ⟨hf, oB, bB, hnB⟩ := boxed h #[.int .u8 45, .int .i64 (k : Int), .int .i64 e, .string ⟨#[v]⟩, .slice a n m, .string ar] 51
  have HV := Lib.hid (valueM_any b C s vv own _ (hf.at_.drew) hf.lt v hv k)
  have HEV : Hid (∀ y own1 vv1 w1, Owns own own1 (w.alloc (.cells #[.int .u8 45, .int .i64 (k : Int), .int .i64 e, .string ⟨#[v]⟩, .slice a n m, .string ar] 51)).drew w1 → RnAt w1 own1 b C s y vv1 →
      w1.cell? ⟨w.heap.size, 3, none⟩ = some (.string ⟨#[v]⟩) ∧ Calls Try.prog 119 #[.pointer (some ⟨b, 0, none⟩), .int .u8 (v.toNat : Int)] w1 (RnRuns w own b C (s.destroy v) y (.tuple #[]))) := fun y own1 vv1 w1 ho hr =>
    ⟨ho.cells (show Blk (w.alloc (.cells #[.int .u8 45, .int .i64 (k : Int), .int .i64 e, .string ⟨#[v]⟩, .slice a n m, .string ar] 51)).drew w.heap.size _ _ from bB) hnB 3, (destroyM_any b C s y vv1 own1 w1 hr ho.lt v hv (by omega) (by have := h.low v; omega)).mono (fun e w' hr => RnRuns.after ((owns_drew oB).trans ho) hr)⟩
  have HZ : Hid (s.val v = 0 → s.destroy v = s) := fun h0 => by unfold St.destroy; rw [if_pos h0]
  have HA := Lib.hid hf.at_.drew
  have HL : Hid (Owns own own (w.alloc (.cells #[.int .u8 45, .int .i64 (k : Int), .int .i64 e, .string ⟨#[v]⟩, .slice a n m, .string ar] 51)).drew (w.alloc (.cells #[.int .u8 45, .int .i64 (k : Int), .int .i64 e, .string ⟨#[v]⟩, .slice a n m, .string ar] 51)).drew) := Owns.refl hf.lt
  generalize s.destroy v = t at HEV HZ ⊢
  generalize s.val v = nn at HV HZ ⊢
  have HO := Lib.hid (owns_drew oB)
  have HB : Hid (∀ i : Nat, (w.alloc (.cells #[.int .u8 45, .int .i64 (k : Int), .int .i64 e, .string ⟨#[v]⟩, .slice a n m, .string ar] 51)).drew.cell? ⟨w.heap.size, i, none⟩ = #[.int .u8 45, .int .i64 (k : Int), .int .i64 e, .string ⟨#[v]⟩, .slice a n m, .string ar][i]?) := fun i => bB.cell i
  obtain ⟨sv, hsv⟩ : ∃ sv : ByteArray, sv = ⟨#[v]⟩ := ⟨_, rfl⟩
  rw [← hsv] at HV HEV HO HB HA HL ⊢
  have h01 : (0 : Int) < (sv.size : Int) := by rw [hsv]; exact Int.one_pos
  have h0 : 0 < sv.size := by omega
  have hg : sv[0] = v := by subst hsv; rfl
  clear hsv h hf oB bB hnB hn hm hv
  obtain ⟨kv, hkv⟩ : ∃ kv : Int, (k : Int) = kv := ⟨_, rfl⟩
  rw [hkv] at HV HEV HO HB HA HL ⊢
  by_cases hz : nn = 0
  · subst hz
    rw [if_pos rfl]
    go_enter Try.func105, Try.ntmps105
    go_wp2_with fail
    refine wp_region_still_tail 6 (by kernel_rfl) (by kernel_rfl) ?_
    simp only [List.take_succ_cons, List.take_zero, List.drop_succ_cons, List.drop_zero]
    change wpStill _ _ (World.drew _) (fun a' => wpList _ _ _ _ a' (World.drew _)) _ _
    have y1 : (w.alloc (.cells #[.int .u8 45, .int .i64 kv, .int .i64 e, .string sv, .slice a n m, .string ar] 51)).drew.cell? ⟨w.heap.size, 1, none⟩ = some (.int .i64 kv) := HB.out 1
    have y3 : (w.alloc (.cells #[.int .u8 45, .int .i64 kv, .int .i64 e, .string sv, .slice a n m, .string ar] 51)).drew.cell? ⟨w.heap.size, 3, none⟩ = some (.string sv) := HB.out 3
    generalize hw2 : (w.alloc (.cells #[.int .u8 45, .int .i64 kv, .int .i64 e, .string sv, .slice a n m, .string ar] 51)).drew = w2 at *
    still_step
    still_step
    still_step
    still_step
    still_step
    still_step
    refine wpStill_nil ?_
    go_wp2_with (first
      | (go_at_call 121; refine HV.out.mono ?_; rintro e1 w3 hq; obtain ⟨own3, vv3, rfl, ho3, hr3⟩ := hq.1 rfl; have ⟨z3, hc3⟩ := HEV.out _ _ _ _ ho3 hr3; have HD := Lib.hid hc3; clear ho3 hr3 hq hc3)
      | (go_at_call 119; refine HD.out.mono ?_; rintro e1 w4 ⟨own4, vv4, rfl, ho4, hr4⟩; have HE := Lib.hid (And.intro ho4 hr4); clear ho4 hr4))
    go_end0
    exact ⟨own4, vv4, rfl, HE.out.1, by rw [← HZ.out trivial]; exact HE.out.2⟩
  · rw [if_neg hz]
    have hp : (0 : Int) < (nn : Int) := by omega
    go_enter Try.func105, Try.ntmps105
    go_wp2_with fail
    refine wp_region_still_tail 6 (by kernel_rfl) (by kernel_rfl) ?_
    simp only [List.take_succ_cons, List.take_zero, List.drop_succ_cons, List.drop_zero]
    change wpStill _ _ (World.drew _) (fun a' => wpList _ _ _ _ a' (World.drew _)) _ _
    have y1 : (w.alloc (.cells #[.int .u8 45, .int .i64 kv, .int .i64 e, .string sv, .slice a n m, .string ar] 51)).drew.cell? ⟨w.heap.size, 1, none⟩ = some (.int .i64 kv) := HB.out 1
    have y3 : (w.alloc (.cells #[.int .u8 45, .int .i64 kv, .int .i64 e, .string sv, .slice a n m, .string ar] 51)).drew.cell? ⟨w.heap.size, 3, none⟩ = some (.string sv) := HB.out 3
    generalize hw2 : (w.alloc (.cells #[.int .u8 45, .int .i64 kv, .int .i64 e, .string sv, .slice a n m, .string ar] 51)).drew = w2 at *
    still_step
    still_step
    still_step
    still_step
    still_step
    still_step
    refine wpStill_nil ?_
    go_wp2_with (first
      | (go_at_call 121; refine HV.out.mono ?_; rintro e1 w3 hq; obtain ⟨rfl, rfl⟩ := hq.2 hz; have ⟨z3, hc3⟩ := HEV.out _ _ _ _ HL.out HA.out; have HD := Lib.hid hc3; clear hq hc3)
      | (go_at_call 119; refine HD.out.mono ?_; rintro e1 w4 ⟨own4, vv4, rfl, ho4, hr4⟩; have HE := Lib.hid (And.intro ho4 hr4); clear ho4 hr4))
    go_end0
    exact ⟨own4, vv4, rfl, HE.out.1, HE.out.2⟩

end Go.Proofs.Ytcohmhgmocdbfaa

namespace Go.Proofs.Ytcohmhgmocdbfaa
set_option linter.unusedVariables false
set_option linter.unusedSimpArgs false
open Go.RowKit

/-- What is known of the run, ahead of a value's moving: N: the node's block; w2: the world. -/
structure MoverM (w : World) (own : Nat → Prop) (b N k jv ju n : Nat) (kv ui : Int) (sv : ByteArray) (C : ByteArray) (t t2 : St) (w2 : World) : Prop where
  c1 : w2.cell? ⟨N, 1, none⟩ = some (.int .i64 kv)
  c3 : w2.cell? ⟨N, 3, none⟩ = some (.string sv)
  val : Calls Try.prog 121 #[.pointer (some ⟨b, 0, none⟩), .int .u8 ui, .int .i64 kv] w2 (fun e w3 => (n = 0 → RnRuns w own b C t (some (.fault k)) (.int .i64 0) e w3) ∧ (n ≠ 0 → e = .returned (.int .i64 (n : Int)) ∧ w3 = w2))
  fz : w2.frozen? ⟨b, jv, none⟩ = false
  cl : ∃ x, w2.cell? ⟨b, jv, none⟩ = some x
  c3' : (w2.setCell ⟨b, jv, none⟩ (.int .i64 (n : Int))).drew.cell? ⟨N, 3, none⟩ = some (.string sv)
  fz2 : (w2.setCell ⟨b, jv, none⟩ (.int .i64 (n : Int))).drew.frozen? ⟨b, ju, none⟩ = false
  cl2 : ∃ x, (w2.setCell ⟨b, jv, none⟩ (.int .i64 (n : Int))).drew.cell? ⟨b, ju, none⟩ = some x
  fine : RnRuns w own b C t2 none (.tuple #[]) (.returned (.tuple #[])) (((w2.setCell ⟨b, jv, none⟩ (.int .i64 (n : Int))).drew.setCell ⟨b, ju, none⟩ (.int .i64 0)).drew)

theorem moverM {w wB w1 : World} {own own1 : Nat → Prop} {b N : Nat} {C : ByteArray} {t : St} {vv : Value} {cs : Array Value} {k : Nat} {sv : ByteArray} (oB : Owns own own w wB) (ho : Owns own own1 wB w1) (h : RnAt w1 own1 b C t none vv)
    {v u : UInt8} (hv : lett v) (hu : lett u) (hN : Blk wB N cs 51) (hNo : ¬ own N) (h1 : cs[1]? = some (.int .i64 (k : Int))) (h3 : cs[3]? = some (.string sv)) :
    MoverM w own b N k (slot v) (slot u) (t.val u) (k : Int) (u.toNat : Int) sv C t (t.move v u) w1.drew := by
  have hd := h.drew
  have od := owns_drew ho
  have h2 := (hd.put hv (t.val u)).drew
  have o2 := owns_drew (owns_set h.mine od.lt (slot v) (i64 (t.val u)))
  have h4 := (h2.put hu 0).drew
  have o4 := owns_drew (owns_set h.mine o2.lt (slot u) (i64 0))
  exact {
    c1 := (od.cells hN hNo 1).trans h1
    c3 := (od.cells hN hNo 3).trans h3
    val := (valueM_any b C t vv own1 _ hd od.lt u hu k).mono (fun e w3 hq => ⟨fun h0 => RnRuns.after (oB.trans od) (hq.1 h0), hq.2⟩)
    fz := hd.blk.free _
    cl := ⟨_, (hd.blk.cell (slot v)).trans (rn_get hv _ _ _ _ _ _ _ _ _ _)⟩
    c3' := ((od.trans o2).cells hN hNo 3).trans h3
    fz2 := h2.blk.free _
    cl2 := ⟨_, (h2.blk.cell (slot u)).trans (rn_get hu _ _ _ _ _ _ _ _ _ _)⟩
    fine := ⟨own1, vv, rfl, (oB.trans od).trans (o2.trans o4), h4⟩ }

set_option maxRecDepth 100000 in
set_option maxHeartbeats 4000000 in
theorem stepM_move (b : Nat) (C : ByteArray) (s : St) (sc : List UInt8) (vv : Value) (own ok : Nat → Prop) (w : World) (h : Fine w own ok b C s sc vv) (hn : s.ev.length ≤ 900000) (hm : s.made ≤ 800000)
    (k : Nat) (e : Int) (v u : UInt8) (a : Option Addr) (n m : Nat) (ar : ByteArray) (hv : lett v) (hu : lett u) :
    Calls Try.prog 105 #[.pointer (some ⟨b, 0, none⟩), .agg #[.int .u8 61, .int .i64 (k : Int), .int .i64 e, .string ⟨#[v, u]⟩, .slice a n m, .string ar]] w (RnDone w own b C (s.two k v u)) := by
  obtain ⟨hf, oB, bB, hnB⟩ := boxed h #[.int .u8 61, .int .i64 (k : Int), .int .i64 e, .string ⟨#[v, u]⟩, .slice a n m, .string ar] 51
  have HD := Lib.hid (destroyM_any b C s none vv own _ hf.at_ hf.lt v hv (by omega) (by have := h.low v; omega))
  have HM : Hid (∀ own1 vv1 w1, Owns own own1 (w.alloc (.cells #[.int .u8 61, .int .i64 (k : Int), .int .i64 e, .string ⟨#[v, u]⟩, .slice a n m, .string ar] 51)) w1 → RnAt w1 own1 b C (s.destroy v) none vv1 →
      MoverM w own b w.heap.size k (slot v) (slot u) ((s.destroy v).val u) (k : Int) (u.toNat : Int) ⟨#[v, u]⟩ C (s.destroy v) ((s.destroy v).move v u) w1.drew) := fun own1 vv1 w1 ho hr =>
    moverM oB ho hr hv hu bB hnB rfl rfl
  have hs2 : s.two k v u = if (s.destroy v).val u = 0 then .stop (.fault k) (s.destroy v) else .go ((s.destroy v).move v u) := rfl
  rw [hs2]
  generalize (s.destroy v).move v u = t2 at HM ⊢
  generalize s.destroy v = t at HD HM ⊢
  generalize t.val u = nn at HM ⊢
  have hv1 : (97 : Int) ≤ (v.toNat : Int) := by have := hv.1; omega
  have hv2 : (v.toNat : Int) ≤ 102 := by have := hv.2; omega
  have hu1 : (97 : Int) ≤ (u.toNat : Int) := by have := hu.1; omega
  have hu2 : (u.toNat : Int) ≤ 102 := by have := hu.2; omega
  unfold slot at HM
  obtain ⟨sv, hsv⟩ : ∃ sv : ByteArray, sv = ⟨#[v, u]⟩ := ⟨_, rfl⟩
  rw [← hsv] at HD HM ⊢
  have hs : sv.size = 2 := by rw [hsv]; rfl
  have h01 : (0 : Int) < (sv.size : Int) := by omega
  have h11 : (1 : Int) < (sv.size : Int) := by omega
  have h0 : 0 < sv.size := by omega
  have h1 : 1 < sv.size := by omega
  have hg : sv[0] = v := by subst hsv; rfl
  have hg1 : sv[1] = u := by subst hsv; rfl
  obtain ⟨vi, hvi⟩ : ∃ vi : Int, (v.toNat : Int) = vi := ⟨_, rfl⟩
  obtain ⟨ui, hui⟩ : ∃ ui : Int, (u.toNat : Int) = ui := ⟨_, rfl⟩
  obtain ⟨kv, hkv⟩ : ∃ kv : Int, (k : Int) = kv := ⟨_, rfl⟩
  rw [hvi] at hv1 hv2 HD HM
  rw [hui] at hu1 hu2 HM
  rw [hkv] at HD HM ⊢
  clear hsv h hf oB bB hnB hn hm hv hu hs2 hs hkv
  by_cases hz : nn = 0
  · subst hz
    rw [if_pos rfl]
    go_enter Try.func105, Try.ntmps105
    go_wp2_with (go_at_call 119; refine HD.out.mono ?_; rintro e1 w1 ⟨own1, vv1, rfl, ho1, hr1⟩; have HE := Lib.hid (HM.out _ _ _ ho1 hr1); clear ho1 hr1)
    refine wp_region_still_tail 6 (by kernel_rfl) (by kernel_rfl) ?_
    simp only [List.take_succ_cons, List.take_zero, List.drop_succ_cons, List.drop_zero]
    change wpStill _ _ (World.drew _) (fun a' => wpList _ _ _ _ a' (World.drew _)) _ _
    generalize w1.drew = w2 at *
    have y1 := HE.out.c1
    have y3 := HE.out.c3
    have HV := Lib.hid HE.out.val
    clear HE HM HD
    still_step
    still_step
    still_step
    still_step
    still_step
    still_step
    refine wpStill_nil ?_
    go_wp2_with (go_at_call 121; refine HV.out.mono ?_; rintro e1 w3 ⟨hq, _⟩; obtain ⟨own3, vv3, rfl, ho3, hr3⟩ := hq rfl; have HE := Lib.hid (And.intro ho3 hr3); clear ho3 hr3 hq)
    go_end0
    exact ⟨own3, vv3, rfl, HE.out.1, HE.out.2⟩
  · rw [if_neg hz]
    have hp : (0 : Int) < (nn : Int) := by omega
    go_enter Try.func105, Try.ntmps105
    go_wp2_with (go_at_call 119; refine HD.out.mono ?_; rintro e1 w1 ⟨own1, vv1, rfl, ho1, hr1⟩; have HE := Lib.hid (HM.out _ _ _ ho1 hr1); clear ho1 hr1)
    refine wp_region_still_tail 6 (by kernel_rfl) (by kernel_rfl) ?_
    simp only [List.take_succ_cons, List.take_zero, List.drop_succ_cons, List.drop_zero]
    change wpStill _ _ (World.drew _) (fun a' => wpList _ _ _ _ a' (World.drew _)) _ _
    generalize w1.drew = w2 at *
    have y1 := HE.out.c1
    have y3 := HE.out.c3
    have HV := Lib.hid HE.out.val
    clear HM HD
    still_step
    still_step
    still_step
    still_step
    still_step
    still_step
    refine wpStill_nil ?_
    go_wp2_with (go_at_call 121; refine HV.out.mono ?_; rintro e1 w3 ⟨_, hq⟩; obtain ⟨rfl, rfl⟩ := hq hz; clear hq)
    have fz := HE.out.fz
    obtain ⟨xv, cl⟩ := HE.out.cl
    have y4 := HE.out.c3'
    have fz2 := HE.out.fz2
    obtain ⟨xv2, cl2⟩ := HE.out.cl2
    have HS := Lib.hid HE.out.fine
    clear HE HV y1
    go_region
    generalize (w3.setCell ⟨b, 2 + (vi - 97).toNat, none⟩ (.int .i64 (nn : Int))).drew = w5 at *
    clear y3 fz cl
    go_wp2_with fail
    go_region
    go_wp2_with fail
    go_end0
    exact HS.out

/-! ### leaving. -/
theorem rn_left {w : World} {own : Nat → Prop} {b : Nat} {C : ByteArray} {s : St} {vv : Value} (h : RnAt w own b C s none vv) (hlt : ∀ k, own k → k < w.heap.size) :
    RnRuns w own b C s (some .ret) (.tuple #[]) (.returned (.tuple #[])) (w.setCell ⟨b, 10, none⟩ (.int .i64 2)) ∧
    RnRuns w own b C s (some .fail) (.tuple #[]) (.returned (.tuple #[])) ((w.setCell ⟨b, 10, none⟩ (.int .i64 2)).setCell ⟨b, 10, none⟩ (.int .i64 3)) := by
  have kb : Keeps (oneB b) w (w.setCell ⟨b, 10, none⟩ (.int .i64 2)) := (Keeps.refl _ _).setCell (.inl (show oneB b b from rfl)) _
  have kb2 : Keeps (oneB b) w ((w.setCell ⟨b, 10, none⟩ (.int .i64 2)).setCell ⟨b, 10, none⟩ (.int .i64 3)) := kb.setCell (.inl (show oneB b b from rfl)) _
  constructor
  · refine ⟨own, vv, rfl, ⟨fun k e => .inl e, fun k e => Nat.lt_of_lt_of_le (hlt k e) kb.size, kb.mono (fun i (e : i = b) => e ▸ h.mine)⟩, ⟨?_, h.few, h.rest, h.txt, ?_, h.mine, h.ownV⟩⟩
    · exact h.blk.set 10 _
    · exact kb.ownsRow h.vis (fun g hg _ e => (h.ownV g hg).2 e)
  · refine ⟨own, vv, rfl, ⟨fun k e => .inl e, fun k e => Nat.lt_of_lt_of_le (hlt k e) kb2.size, kb2.mono (fun i (e : i = b) => e ▸ h.mine)⟩, ⟨?_, h.few, h.rest, h.txt, ?_, h.mine, h.ownV⟩⟩
    · exact (h.blk.set 10 _).set 10 _
    · exact kb2.ownsRow h.vis (fun g hg _ e => (h.ownV g hg).2 e)

set_option maxRecDepth 100000 in
set_option maxHeartbeats 2000000 in
theorem stepM_leave (b : Nat) (C : ByteArray) (s : St) (sc : List UInt8) (vv : Value) (own ok : Nat → Prop) (w : World) (h : Fine w own ok b C s sc vv) (hn : s.ev.length ≤ 900000) (hm : s.made ≤ 800000)
    (k e : Int) (c : UInt8) (vs : ByteArray) (a : Option Addr) (n m : Nat) (ar : List UInt8) (hc : c = 94 ∨ c = 33) (hl : ∀ v ∈ ar, lett v) (hll : ar.length ≤ 1000) :
    Calls Try.prog 105 #[.pointer (some ⟨b, 0, none⟩), .agg #[.int .u8 (c.toNat : Int), .int .i64 k, .int .i64 e, .string vs, .slice a n m, .string ⟨ar.toArray⟩]] w (RnDone w own b C (.stop (if c = 94 then .ret else .fail) (s.destroyAll ar))) := by
  obtain ⟨hf, oB, bB, hnB⟩ := boxed h #[.int .u8 (c.toNat : Int), .int .i64 k, .int .i64 e, .string vs, .slice a n m, .string ⟨ar.toArray⟩] 51
  have HD := Lib.hid (clear_any b C s none vv own _ hf.at_ hf.lt ar hl hll hn (by omega) h.low)
  have HF : Hid (∀ own1 vv1 w1, Owns own own1 (w.alloc (.cells #[.int .u8 (c.toNat : Int), .int .i64 k, .int .i64 e, .string vs, .slice a n m, .string ⟨ar.toArray⟩] 51)) w1 → RnAt w1 own1 b C (s.destroyAll ar) none vv1 →
      w1.frozen? ⟨b, 10, none⟩ = false ∧ w1.cell? ⟨b, 10, none⟩ = some (.int .i64 0) ∧ w1.cell? ⟨w.heap.size, 0, none⟩ = some (.int .u8 (c.toNat : Int)) ∧ ¬ w.heap.size = b ∧ ¬ b = w.heap.size ∧
      RnRuns w own b C (s.destroyAll ar) (some .ret) (.tuple #[]) (.returned (.tuple #[])) (w1.setCell ⟨b, 10, none⟩ (.int .i64 2)) ∧
      RnRuns w own b C (s.destroyAll ar) (some .fail) (.tuple #[]) (.returned (.tuple #[])) ((w1.setCell ⟨b, 10, none⟩ (.int .i64 2)).setCell ⟨b, 10, none⟩ (.int .i64 3))) := by
    intro own1 vv1 w1 ho hr
    obtain ⟨h1, h2⟩ := rn_left hr ho.lt
    have hbn : ¬ b = w.heap.size := fun e => hnB (e ▸ h.at_.mine)
    exact ⟨hr.blk.free 10, hr.blk.cell 10, ho.cells bB hnB 0, fun e => hbn e.symm, hbn, RnRuns.after (oB.trans ho) h1, RnRuns.after (oB.trans ho) h2⟩
  generalize s.destroyAll ar = t at HD HF ⊢
  obtain ⟨sv, hsv⟩ : ∃ sv : ByteArray, sv = ⟨ar.toArray⟩ := ⟨_, rfl⟩
  rw [← hsv] at HD HF ⊢
  clear h hf oB bB hnB hn hm hl hll hsv
  rcases hc with rfl | rfl
  all_goals
    go_enter Try.func105, Try.ntmps105
    go_wp2_with (go_at_call 122; refine HD.out.mono ?_; rintro e1 w1 ⟨own1, vv1, rfl, ho1, hr1⟩; have ⟨z10, y10, y0, hne, hne', hE1, hE2⟩ := HF.out _ _ _ ho1 hr1; have HE := Lib.hid (And.intro hE1 hE2); clear ho1 hr1 hE1 hE2)
    go_end0
    first
      | exact HE.out.1
      | exact HE.out.2

end Go.Proofs.Ytcohmhgmocdbfaa

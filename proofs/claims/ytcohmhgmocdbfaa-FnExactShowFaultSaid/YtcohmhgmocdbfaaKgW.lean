/-
  Walks of the program's run: value.
  Walks of the program's run: a value moves.
  Walks of the program's run: steps.
-/
import Derived.Test.YtcohmhgmocdbfaaKeW
import Derived.Test.YtcohmhgmocdbfaaIjW
import Derived.StillTailTactics
namespace Go.Proofs.Ytcohmhgmocdbfaa
set_option linter.unusedVariables false
set_option linter.unusedSimpArgs false
open Go.RowKit

/-- What lies in a block that the run doesn't turn. -/
theorem Owns.cells {own own' : Nat → Prop} {w w' : World} {g : Nat} {cs : Array Value} {t : TypeId} (ho : Owns own own' w w') (hg : Blk w g cs t) (hgo : ¬ own g) (i : Nat) : w'.cell? ⟨g, i, none⟩ = cs[i]? :=
  (ho.keeps.cell (p := ⟨g, i, none⟩) hg.lt hgo).trans (hg.cell i)

theorem made_set (ch ar : ByteArray) (f : UInt8 → Nat) (m : Nat) (ve vv : Value) (k : Nat) : (runCells ch ar f m ve vv).setIfInBounds 8 (i64 k) = runCells ch ar f k ve vv := rfl

theorem slot_lt {v : UInt8} (h : lett v) : slot v < 8 := by rcases lett_cases h with rfl | rfl | rfl | rfl | rfl | rfl <;> decide

theorem destroy_made (s : St) (v : UInt8) : (s.destroy v).made = s.made := (evs_destroy s v).made

theorem owns_drew {own own' : Nat → Prop} {w w' : World} (h : Owns own own' w w') : Owns own own' w w'.drew := ⟨h.more, h.lt, h.keeps.drew⟩
theorem RunAt.drew {w : World} {own : Nat → Prop} {b : Nat} {s : St} {ar : List UInt8} {ve vv : Value} (h : RunAt w own b s ar ve vv) : RunAt w.drew own b s ar ve vv := h.keeps (Keeps.refl noB w).drew (fun _ _ => id)

/-- A variable's making, behind the counting. -/
theorem make_ready {w : World} {own : Nat → Prop} {b : Nat} {s : St} {ar : List UInt8} {ve vv : Value} (h : RunAt w own b s ar ve vv) (hlt : ∀ k, own k → k < w.heap.size) (v : UInt8) (hv : lett v) (hn : s.ev.length ≤ 1000000) :
    RunAt (w.setCell ⟨b, 8, none⟩ (.int .i64 ((s.made : Int) + 1))).drew own b { s with made := s.made + 1 } ar ve vv ∧ Owns own own w (w.setCell ⟨b, 8, none⟩ (.int .i64 ((s.made : Int) + 1))).drew ∧
    Calls Try.prog 126 #[.pointer (some ⟨b, 0, none⟩), .int .u8 43, .int .i64 ((s.made : Int) + 1)] ((w.setCell ⟨b, 8, none⟩ (.int .i64 ((s.made : Int) + 1))).drew.setCell ⟨b, slot v, none⟩ (.int .i64 ((s.made : Int) + 1)))
      (Runs w own b (s.make v) ar (.tuple #[])) := by
  have h1 : RunAt (w.setCell ⟨b, 8, none⟩ (i64 (s.made + 1))).drew own b { s with made := s.made + 1 } ar ve vv := (h.stored (t := { s with made := s.made + 1 }) (ar' := ar) 8 (i64 (s.made + 1)) (made_set _ _ _ _ _ _ (s.made + 1)) rfl rfl).drew
  have h2 := h1.put hv (s.made + 1)
  have o1 := owns_drew (owns_set h.mine hlt 8 (i64 (s.made + 1)))
  have o2 := owns_set h.mine o1.lt (slot v) (i64 (s.made + 1))
  have e := happen_any b _ ar ve vv own _ h2 o2.lt 43 (s.made + 1) hn
  exact ⟨h1, o1, e.mono (fun e w' hr => Runs.after (o1.trans o2) hr)⟩

/-- What is known ahead of a variable's making. -/
def Ready (w : World) (own : Nat → Prop) (b g j : Nat) (vi mi : Int) (t : St) (ar : List UInt8) (w1 : World) : Prop :=
  (w1.setCell ⟨b, 8, none⟩ (.int .i64 (mi + 1))).drew.cell? ⟨g, 3, none⟩ = some (.int .u8 vi) ∧
  (w1.setCell ⟨b, 8, none⟩ (.int .i64 (mi + 1))).drew.cell? ⟨b, 8, none⟩ = some (.int .i64 (mi + 1)) ∧
  (w1.setCell ⟨b, 8, none⟩ (.int .i64 (mi + 1))).drew.frozen? ⟨b, j, none⟩ = false ∧
  (∃ x, (w1.setCell ⟨b, 8, none⟩ (.int .i64 (mi + 1))).drew.cell? ⟨b, j, none⟩ = some x) ∧
  ((w1.setCell ⟨b, 8, none⟩ (.int .i64 (mi + 1))).drew.setCell ⟨b, j, none⟩ (.int .i64 (mi + 1))).cell? ⟨b, 8, none⟩ = some (.int .i64 (mi + 1)) ∧
  Calls Try.prog 126 #[.pointer (some ⟨b, 0, none⟩), .int .u8 43, .int .i64 (mi + 1)] ((w1.setCell ⟨b, 8, none⟩ (.int .i64 (mi + 1))).drew.setCell ⟨b, j, none⟩ (.int .i64 (mi + 1))) (Runs w own b t ar (.tuple #[]))

set_option maxRecDepth 100000 in
set_option maxHeartbeats 2000000 in
theorem value_make (b : Nat) (s : St) (ar : List UInt8) (ve vv : Value) (own : Nat → Prop) (w : World) (h : RunAt w own b s ar ve vv) (hlt : ∀ k, own k → k < w.heap.size) (hn : s.ev.length ≤ 900000) (hm : s.made ≤ 900000)
    (g k e : Nat) (v u : UInt8) (hv : lett v) (hg : Blk w g #[i64 k, i64 e, u8 43, u8 v, u8 u] 175) (hgo : ¬ own g) :
    Calls Try.prog 107 #[.pointer (some ⟨b, 0, none⟩), .pointer (some ⟨g, 0, none⟩)] w (Runs w own b ((s.destroy v).make v) ar (.tuple #[])) := by
  have HD := Lib.hid (destroy_any b s ar ve vv own w h hlt v hv (by omega))
  have HO := Lib.hid (fun w => of_slot b v hv w)
  have r2 := hg.cell 2
  have r3 := hg.cell 3
  simp [u8] at r2 r3
  have HR : Hid (∀ own1 ve1 vv1 w1, Owns own own1 w w1 → RunAt w1 own1 b (s.destroy v) ar ve1 vv1 →
      w1.cell? ⟨g, 3, none⟩ = some (.int .u8 (v.toNat : Int)) ∧ w1.cell? ⟨b, 8, none⟩ = some (.int .i64 (s.made : Int)) ∧ w1.frozen? ⟨b, 8, none⟩ = false ∧
      Ready w own b g (slot v) (v.toNat : Int) (s.made : Int) ((s.destroy v).make v) ar w1) := fun own1 ve1 vv1 w1 ho hr => by
    obtain ⟨h1, h2, h3⟩ := make_ready hr ho.lt v hv (by have := (evs_destroy s v).ev; omega)
    have e := hr.blk.cell 8
    rw [destroy_made] at h1 h2 h3 e
    refine ⟨ho.cells hg hgo 3, e, hr.blk.free 8, (ho.trans h2).cells hg hgo 3, ?_, h1.blk.free _, ⟨_, (h1.blk.cell (slot v)).trans (slot_get hv _ _ _ _ _ _)⟩, ?_, h3.mono (fun e w' q => Runs.after ho q)⟩
    · exact h1.blk.cell 8
    · exact (h1.put hv (s.made + 1)).blk.cell 8
  generalize (s.destroy v).make v = t at HR
  generalize s.destroy v = s1 at HD HR
  generalize s.made = m at HR hm
  generalize slot v = j at HO HR
  clear h hg hv hn hlt
  have hmw : (m : Int) + 1 ≤ 1000000 := by omega
  have hm0 : 0 ≤ (m : Int) := by omega
  generalize (m : Int) = mi at HR hmw hm0
  have HH := Lib.hid hgo
  clear hgo
  go_enter Try.func107, Try.ntmps107
  go_wp2_with (go_at_call 124; refine HD.out.mono ?_; rintro e1 w1 ⟨own1, ve1, vv1, rfl, ho1, hr1⟩; have ⟨y3, y8, z8, hrd⟩ := HR.out _ _ _ _ ho1 hr1; have HE := Lib.hid hrd; clear ho1 hr1 hrd)
  refine wp_region_still_tail 12 (by kernel_rfl) (by kernel_rfl) ?_
  simp only [List.take_succ_cons, List.take_zero, List.drop_succ_cons, List.drop_zero]
  change wpStill _ _ (World.drew _) (fun a' => wpList _ _ _ _ a' (World.drew _)) _ _
  have ⟨x3, x8, xj, ⟨xv, xjj⟩, x9, hcall⟩ := HE.out
  have HC := Lib.hid hcall
  clear hcall HE y3 y8 z8
  generalize (w1.setCell ⟨b, 8, none⟩ (.int .i64 (mi + 1))).drew = w2 at *
  still_step
  still_step
  still_step
  still_step
  still_step
  still_step
  still_step
  still_call (HO.out _)
  still_step
  still_step
  still_step
  still_step
  refine wpStill_nil ?_
  go_wp2_with (go_at_call 126; refine HC.out.mono ?_; rintro e1 w3 ⟨own3, ve3, vv3, rfl, ho3, hr3⟩; have HE := Lib.hid (And.intro ho3 hr3); clear ho3 hr3)
  go_end0
  exact ⟨own3, ve3, vv3, rfl, HE.out.1, HE.out.2⟩

set_option maxRecDepth 100000 in
set_option maxHeartbeats 2000000 in
theorem value_use (b : Nat) (s : St) (ar : List UInt8) (ve vv : Value) (own : Nat → Prop) (w : World) (h : RunAt w own b s ar ve vv) (hlt : ∀ k, own k → k < w.heap.size) (hn : s.ev.length ≤ 900000)
    (g k e : Nat) (v u : UInt8) (hv : lett v) (hg : Blk w g #[i64 k, i64 e, u8 46, u8 v, u8 u] 175) :
    Calls Try.prog 107 #[.pointer (some ⟨b, 0, none⟩), .pointer (some ⟨g, 0, none⟩)] w (RunEnds w own b ar (if s.val v = 0 then .stop (.fault k) s else .go (s.happen 46 (s.val v)))) := by
  have HN := Lib.hid (need_any b s ar ve vv own w h v hv g k (hg.cell 0))
  have r2 := hg.cell 2
  have r3 := hg.cell 3
  simp [u8] at r2 r3
  have HH := Lib.hid h
  have HP := Lib.hid (happen_any b s ar ve vv own w h hlt 46 (s.val v) (by omega))
  have HL := Lib.hid hlt
  generalize s.val v = n at HN HP ⊢
  clear h hg hv hn hlt
  by_cases h0 : n = 0
  · subst h0
    rw [if_pos rfl]
    go_enter Try.func107, Try.ntmps107
    go_wp2_with (go_at_call 127; refine HN.out.mono ?_; rintro e1 w1 ⟨hq, rfl⟩; obtain rfl := hq.1 rfl; clear hq)
    exact ⟨rfl, rfl, own, ar, ve, vv, Owns.refl HL.out, HH.out⟩
  · rw [if_neg h0]
    go_enter Try.func107, Try.ntmps107
    go_wp2_with (first | (go_at_call 127; refine HN.out.mono ?_; rintro e1 w1 ⟨hq, rfl⟩; obtain rfl := hq.2 h0; clear hq) | (go_at_call 126; refine HP.out.mono ?_; rintro e1 w3 ⟨own3, ve3, vv3, rfl, ho3, hr3⟩; have HE := Lib.hid (And.intro ho3 hr3); clear ho3 hr3))
    go_end0
    exact ⟨own3, ve3, vv3, rfl, HE.out.1, HE.out.2⟩

set_option maxRecDepth 100000 in
set_option maxHeartbeats 2000000 in
theorem value_end (b : Nat) (s : St) (ar : List UInt8) (ve vv : Value) (own : Nat → Prop) (w : World) (h : RunAt w own b s ar ve vv) (hlt : ∀ k, own k → k < w.heap.size) (hn : s.ev.length ≤ 900000)
    (g k e : Nat) (v u : UInt8) (hv : lett v) (hg : Blk w g #[i64 k, i64 e, u8 45, u8 v, u8 u] 175) :
    Calls Try.prog 107 #[.pointer (some ⟨b, 0, none⟩), .pointer (some ⟨g, 0, none⟩)] w (RunEnds w own b ar (if s.val v = 0 then .stop (.fault k) s else .go (s.destroy v))) := by
  have HN := Lib.hid (need_any b s ar ve vv own w h v hv g k (hg.cell 0))
  have HD := Lib.hid (destroy_any b s ar ve vv own w h hlt v hv (by omega))
  have r2 := hg.cell 2
  have r3 := hg.cell 3
  simp [u8] at r2 r3
  have HH := Lib.hid h
  have HL := Lib.hid hlt
  generalize s.destroy v = t at HD ⊢
  generalize s.val v = n at HN ⊢
  clear h hg hv hn hlt
  by_cases h0 : n = 0
  · subst h0
    rw [if_pos rfl]
    go_enter Try.func107, Try.ntmps107
    go_wp2_with (go_at_call 127; refine HN.out.mono ?_; rintro e1 w1 ⟨hq, rfl⟩; obtain rfl := hq.1 rfl; clear hq)
    exact ⟨rfl, rfl, own, ar, ve, vv, Owns.refl HL.out, HH.out⟩
  · rw [if_neg h0]
    go_enter Try.func107, Try.ntmps107
    go_wp2_with (first | (go_at_call 127; refine HN.out.mono ?_; rintro e1 w1 ⟨hq, rfl⟩; obtain rfl := hq.2 h0; clear hq) | (go_at_call 124; refine HD.out.mono ?_; rintro e1 w3 ⟨own3, ve3, vv3, rfl, ho3, hr3⟩; have HE := Lib.hid (And.intro ho3 hr3); clear ho3 hr3))
    go_end0
    exact ⟨own3, ve3, vv3, rfl, HE.out.1, HE.out.2⟩

set_option maxRecDepth 100000 in
set_option maxHeartbeats 2000000 in
theorem value_drop (b : Nat) (s : St) (ar : List UInt8) (ve vv : Value) (own : Nat → Prop) (w : World) (h : RunAt w own b s ar ve vv) (hlt : ∀ k, own k → k < w.heap.size) (hn : s.ev.length ≤ 900000)
    (g k e : Nat) (v u : UInt8) (hv : lett v) (hg : Blk w g #[i64 k, i64 e, u8 126, u8 v, u8 u] 175) :
    Calls Try.prog 107 #[.pointer (some ⟨b, 0, none⟩), .pointer (some ⟨g, 0, none⟩)] w (Runs w own b (s.destroy v) ar (.tuple #[])) := by
  have HD := Lib.hid (destroy_any b s ar ve vv own w h hlt v hv (by omega))
  have r2 := hg.cell 2
  have r3 := hg.cell 3
  simp [u8] at r2 r3
  generalize s.destroy v = t at HD ⊢
  clear h hg hv hn hlt
  go_enter Try.func107, Try.ntmps107
  go_wp2_with (go_at_call 124; refine HD.out.mono ?_; rintro e1 w3 ⟨own3, ve3, vv3, rfl, ho3, hr3⟩; have HE := Lib.hid (And.intro ho3 hr3); clear ho3 hr3)
  go_end0
  exact ⟨own3, ve3, vv3, rfl, HE.out.1, HE.out.2⟩

end Go.Proofs.Ytcohmhgmocdbfaa

namespace Go.Proofs.Ytcohmhgmocdbfaa
set_option linter.unusedVariables false
set_option linter.unusedSimpArgs false
open Go.RowKit

/-- What is known of the run, ahead of a value's moving. -/
structure Mover (w : World) (own : Nat → Prop) (b g k jv ju n : Nat) (vi ui : Int) (t t2 : St) (ar : List UInt8) (w1 : World) : Prop where
  c2 : w1.cell? ⟨g, 3, none⟩ = some (.int .u8 vi)
  c3 : w1.cell? ⟨g, 4, none⟩ = some (.int .u8 ui)
  need : Calls Try.prog 127 #[.pointer (some ⟨b, 0, none⟩), .pointer (some ⟨g, 0, none⟩), .int .u8 ui] w1 (NeedPost w1 k n)
  fz : w1.frozen? ⟨b, jv, none⟩ = false
  cl : ∃ x, w1.cell? ⟨b, jv, none⟩ = some x
  two : (w1.setCell ⟨b, jv, none⟩ (.int .i64 (n : Int))).drew.cell? ⟨g, 4, none⟩ = some (.int .u8 ui)
  fz2 : (w1.setCell ⟨b, jv, none⟩ (.int .i64 (n : Int))).drew.frozen? ⟨b, ju, none⟩ = false
  cl2 : ∃ x, (w1.setCell ⟨b, jv, none⟩ (.int .i64 (n : Int))).drew.cell? ⟨b, ju, none⟩ = some x
  stop : n = 0 → RunEnds w own b ar (.stop (.fault k) t) (.panicked [{ v := .iface 82 (endV (.fault k)), recovered := false }]) w1
  fineD : Runs w own b t2 ar (.tuple #[]) (.returned (.tuple #[])) (((w1.setCell ⟨b, jv, none⟩ (.int .i64 (n : Int)))).drew.setCell ⟨b, ju, none⟩ (.int .i64 0))

theorem mover {w w1 : World} {own own1 : Nat → Prop} {b : Nat} {t : St} {ar : List UInt8} {ve vv : Value} (ho : Owns own own1 w w1) (h : RunAt w1 own1 b t ar ve vv)
    {g k e : Nat} {v u : UInt8} (hv : lett v) (hu : lett u) (hg : Blk w g #[i64 k, i64 e, u8 61, u8 v, u8 u] 175) (hgo : ¬ own g) (hb : own b) :
    Mover w own b g k (slot v) (slot u) (t.val u) (v.toNat : Int) (u.toNat : Int) t (t.move v u) ar w1 := by
  have h2 := h.put hv (t.val u)
  have o2 := owns_set h.mine ho.lt (slot v) (i64 (t.val u))
  have h3' := h2.drew.put hu 0
  have o3' := owns_set h.mine (owns_drew o2).lt (slot u) (i64 0)
  exact {
    c2 := ho.cells hg hgo 3
    c3 := ho.cells hg hgo 4
    need := need_any b t ar ve vv own1 w1 h u hu g k (ho.cells hg hgo 0)
    fz := h.blk.free _
    cl := ⟨_, (h.blk.cell (slot v)).trans (slot_get hv _ _ _ _ _ _)⟩
    two := (ho.trans (owns_drew o2)).cells hg hgo 4
    fz2 := h2.drew.blk.free _
    cl2 := ⟨_, (h2.drew.blk.cell (slot u)).trans (slot_get hu _ _ _ _ _ _)⟩
    stop := fun _ => ⟨rfl, own1, ar, ve, vv, ho, h⟩
    fineD := ⟨own1, ve, vv, rfl, (ho.trans (owns_drew o2)).trans o3', h3'⟩ }

set_option maxRecDepth 100000 in
set_option maxHeartbeats 2000000 in
theorem value_move (b : Nat) (s : St) (ar : List UInt8) (ve vv : Value) (own : Nat → Prop) (w : World) (h : RunAt w own b s ar ve vv) (hlt : ∀ k, own k → k < w.heap.size) (hn : s.ev.length ≤ 900000)
    (g k e : Nat) (v u : UInt8) (hv : lett v) (hu : lett u) (hg : Blk w g #[i64 k, i64 e, u8 61, u8 v, u8 u] 175) (hgo : ¬ own g) :
    Calls Try.prog 107 #[.pointer (some ⟨b, 0, none⟩), .pointer (some ⟨g, 0, none⟩)] w (RunEnds w own b ar (s.two k v u)) := by
  have HD := Lib.hid (destroy_any b s ar ve vv own w h hlt v hv (by omega))
  have HO := Lib.hid (fun w => of_slot b v hv w)
  have HU := Lib.hid (fun w => of_slot b u hu w)
  have r2 := hg.cell 2
  have r3 := hg.cell 3
  simp [u8] at r2 r3
  have HM : Hid (∀ own1 ve1 vv1 w1, Owns own own1 w w1 → RunAt w1 own1 b (s.destroy v) ar ve1 vv1 → Mover w own b g k (slot v) (slot u) ((s.destroy v).val u) (v.toNat : Int) (u.toNat : Int) (s.destroy v) ((s.destroy v).move v u) ar w1.drew) := fun own1 ve1 vv1 w1 ho hr =>
    mover (owns_drew ho) hr.drew hv hu hg hgo h.mine
  have hs2 : s.two k v u = if (s.destroy v).val u = 0 then .stop (.fault k) (s.destroy v) else .go ((s.destroy v).move v u) := rfl
  rw [hs2]
  generalize (s.destroy v).move v u = t2 at HM ⊢
  generalize s.destroy v = t at HD HM ⊢
  generalize t.val u = n at HM ⊢
  generalize slot v = jv at HO HM
  generalize slot u = ju at HU HM
  clear h hg hv hu hn hlt hs2
  generalize (u.toNat : Int) = ui at HU HM
  have HH := Lib.hid hgo
  clear hgo
  by_cases h0 : n = 0
  · subst h0
    rw [if_pos rfl]
    go_enter Try.func107, Try.ntmps107
    go_wp2_with (go_at_call 124; refine HD.out.mono ?_; rintro e1 w1 ⟨own1, ve1, vv1, rfl, ho1, hr1⟩; have HE := Lib.hid (HM.out _ _ _ _ ho1 hr1); clear ho1 hr1)
    refine wp_region_still_tail 14 (by kernel_rfl) (by kernel_rfl) ?_
    simp only [List.take_succ_cons, List.take_zero, List.drop_succ_cons, List.drop_zero]
    change wpStill _ _ (World.drew _) (fun a' => wpList _ _ _ _ a' (World.drew _)) _ _
    generalize w1.drew = w2 at *
    have HN := Lib.hid HE.out.need
    have c2 := HE.out.c2
    have c3 := HE.out.c3
    still_step
    still_step
    still_step
    still_step
    still_step
    still_step
    still_step
    still_call (HO.out _)
    still_step
    still_step
    still_step
    still_step
    still_step
    still_step
    refine wpStill_nil ?_
    have HS := Lib.hid (HE.out.stop rfl)
    clear HE
    go_wp2_with (go_at_call 127; refine HN.out.mono ?_; rintro e1 w3 ⟨hq, rfl⟩; obtain rfl := hq.1 rfl; clear hq)
    exact ⟨rfl, HS.out⟩
  · rw [if_neg h0]
    go_enter Try.func107, Try.ntmps107
    go_wp2_with (go_at_call 124; refine HD.out.mono ?_; rintro e1 w1 ⟨own1, ve1, vv1, rfl, ho1, hr1⟩; have HE := Lib.hid (HM.out _ _ _ _ ho1 hr1); clear ho1 hr1)
    refine wp_region_still_tail 14 (by kernel_rfl) (by kernel_rfl) ?_
    simp only [List.take_succ_cons, List.take_zero, List.drop_succ_cons, List.drop_zero]
    change wpStill _ _ (World.drew _) (fun a' => wpList _ _ _ _ a' (World.drew _)) _ _
    generalize w1.drew = w2 at *
    have HN := Lib.hid HE.out.need
    have c2 := HE.out.c2
    have c3 := HE.out.c3
    still_step
    still_step
    still_step
    still_step
    still_step
    still_step
    still_step
    still_call (HO.out _)
    still_step
    still_step
    still_step
    still_step
    still_step
    still_step
    refine wpStill_nil ?_
    have fz := HE.out.fz
    obtain ⟨xv, cl⟩ := HE.out.cl
    have y4 := HE.out.two
    have fz2 := HE.out.fz2
    obtain ⟨xv2, cl2⟩ := HE.out.cl2
    have HS := Lib.hid HE.out.fineD
    clear HE
    go_wp2_with (go_at_call 127; refine HN.out.mono ?_; rintro e1 w3 ⟨hq, rfl⟩; obtain rfl := hq.2 h0; clear hq)
    refine wp_region_still_tail 8 (by kernel_rfl) (by kernel_rfl) ?_
    simp only [List.take_succ_cons, List.take_zero, List.drop_succ_cons, List.drop_zero]
    change wpStill _ _ (World.drew _) (fun a' => wpList _ _ _ _ a' (World.drew _)) _ _
    generalize (w3.setCell ⟨b, jv, none⟩ (.int .i64 (n : Int))).drew = w5 at *
    still_step
    still_step
    still_step
    still_step
    still_step
    still_step
    still_step
    still_call (HU.out _)
    refine wpStill_nil ?_
    go_wp2_with fail
    go_end0
    exact HS.out

end Go.Proofs.Ytcohmhgmocdbfaa

namespace Go.Proofs.Ytcohmhgmocdbfaa
set_option linter.unusedVariables false
set_option linter.unusedSimpArgs false
open Go.RowKit

/-- Room for a run through n steps. -/
structure Room (n : Nat) (s : St) : Prop where
  vis : s.vis.length + 2 * n + 2 * (n * s.ch.length) ≤ 8000
  ev : s.ev.length ≤ 100 * s.vis.length
  made : s.made ≤ s.vis.length
  ch : s.ch.length ≤ 20

theorem Room.after {n m : Nat} {s t : St} (h : Room (n + m) s) (a : Adds n s t) : Room m t := by
  have h1 := h.vis
  have h2 := a.vis
  have c2 := Nat.mul_le_mul_left m a.ch
  rw [Nat.add_mul] at h1
  exact ⟨by omega, by have := a.ev; have := h.ev; omega, by have := a.made; have := h.made; omega, Nat.le_trans a.ch h.ch⟩

theorem Room.less {n m : Nat} {s : St} (h : Room n s) (hm : m ≤ n) : Room m s := by
  have h1 := h.vis
  have c2 := Nat.mul_le_mul_right s.ch.length hm
  exact ⟨by omega, h.ev, h.made, h.ch⟩

/-- What a step's walk says. -/
def StepC (x : Nd) : Prop :=
  ∀ (s : St) (w : World) (own ok : Nat → Prop) (b : Nat) (v ve vv : Value), RepI w ok x v → (∀ k, ok k → k < w.heap.size ∧ ¬ own k) → RunAt w own b s x.scope ve vv → (∀ k, own k → k < w.heap.size) → Room x.pre.len s →
    Calls Try.prog 87 #[.pointer (some ⟨b, 0, none⟩), v] w (RunEnds w own b x.scope (x.run s))

theorem ok_after {own own' ok : Nat → Prop} {w w' : World} (ho : Owns own own' w w') (h : ∀ k, ok k → k < w.heap.size ∧ ¬ own k) : ∀ k, ok k → k < w'.heap.size ∧ ¬ own' k :=
  fun k hk => ⟨Nat.lt_of_lt_of_le (h k hk).1 ho.keeps.size, fun e => (ho.more k e).elim (h k hk).2 (fun e => by have := (h k hk).1; omega)⟩

theorem hands_owns {own own' ok : Nat → Prop} {w w' : World} (ho : Owns own own' w w') (h : ∀ k, ok k → k < w.heap.size ∧ ¬ own k) : Hands w w' ok ok :=
  Hands.of_keeps ho.keeps (fun g hg _ => (h g hg).2) (fun g hg _ => hg)

/-- What the loop over the steps holds. -/
def StepsLoop (w : World) (own : Nat → Prop) (b : Nat) (sc : List UInt8) (x : Nds) (o : Out) (v8 : Value) (wr : World) : Prop :=
  ∃ (pre : List Nd) (rest : Nds) (t : St) (own' : Nat → Prop) (ve vv : Value), x.list = pre ++ rest.list ∧ v8 = .int .i64 (pre.length : Int) ∧ Nds.run rest t = o ∧ Owns own own' w wr ∧ RunAt wr own' b t sc ve vv ∧ Room rest.pre.len t

set_option maxRecDepth 100000 in
set_option maxHeartbeats 2000000 in
theorem steps_any (x : Nds) (s : St) (sc : List UInt8) (w : World) (own ok : Nat → Prop) (b n : Nat) (v ve vv : Value) (xs : List Value) (hrow : Row w ok 45 1 v n xs) (hrep : RepIL w ok x xs)
    (hok : ∀ k, ok k → k < w.heap.size ∧ ¬ own k) (h : RunAt w own b s sc ve vv) (hlt : ∀ k, own k → k < w.heap.size) (hroom : Room x.pre.len s) (hn : n ≤ 4000) (hnx : n = x.list.length)
    (hstep : ∀ z ∈ x.list, z.scope = sc ∧ StepC z ∧ ∀ s, Adds z.pre.len s (z.run s).st) :
    Calls Try.prog 110 #[.pointer (some ⟨b, 0, none⟩), v] w (RunEnds w own b sc (Nds.run x s)) := by
  obtain ⟨a, c, rfl⟩ := row_shape hrow
  obtain ⟨o, ho⟩ : ∃ o, Nds.run x s = o := ⟨_, rfl⟩
  rw [ho]
  have HP : Hid (StepsLoop w own b sc x o (.int .i64 0) w) := ⟨[], x, s, own, ve, vv, rfl, rfl, ho, Owns.refl hlt, h, hroom⟩
  have HG := Lib.hid (And.intro hrow (And.intro hrep (And.intro hok hstep)))
  have HNX := Lib.hid hnx
  clear hrow hrep hok h hlt hroom hnx hstep ho
  go_enter Try.func110, Try.ntmps110
  go_wp2_with fail
  go_loopw [8] (fun v8 wr => StepsLoop w own b sc x o v8 wr) (fun v8 _ => n - (intOf v8).toNat)
  case atStart => exact HP.out
  case round =>
    clear HP
    obtain ⟨pre, rest, t, own1, ve1, vv1, hpp, rfl, hrun, ho1, hr1, hroom⟩ := hrel
    have hpl := congrArg List.length hpp
    rw [List.length_append, ← HNX.out] at hpl
    cases rest with
    | nil =>
      have hd : ¬ pre.length < n := by simp [Nds.list] at hpl; omega
      have HF : Hid (RunEnds w own b sc o (.returned (.tuple #[])) wr) := by
        rw [← hrun]
        exact ⟨own1, ve1, vv1, rfl, ho1, hr1⟩
      clear hpp hrun ho1 hr1 hroom hpl
      go_wp2_with fail
      go_end0
      exact HF.out
    | cons z r =>
      obtain ⟨hrow, hrep, hok, hstep⟩ := HG.out
      have hd : pre.length < n := by simp [Nds.list] at hpl; omega
      have hrow1 := (hands_owns ho1 hok).row _ _ _ _ _ hrow
      have hrep1 := Hands.repIL (hands_owns ho1 hok) x xs hrep
      obtain ⟨g0, c0, hv, hg1, hg2, hcell⟩ := row_get hrow1 (by omega)
      obtain ⟨rfl, rfl⟩ : a = some ⟨g0, 0, none⟩ ∧ c = c0 := by simpa using hv
      obtain ⟨hll, hnth⟩ := RepIL.nth hrep1
      obtain ⟨u, hu, hzu⟩ := hnth pre.length z (by rw [hpp]; simp [Nds.list])
      have s0 := hcell _ _ hu
      obtain ⟨tz, gz, rfl⟩ := rep_iface _ _ _ _ hzu
      obtain ⟨hzs, hzc, hza⟩ := hstep z (by rw [hpp]; simp [Nds.list])
      have hlen : (Nds.cons z r).pre.len = z.pre.len + r.pre.len := by simp [Nds.pre, Nds.len_app]
      rw [hlen] at hroom
      have HC := hzc t wr own1 ok b _ ve1 vv1 hzu (ok_after ho1 hok) (by rw [hzs]; exact hr1) ho1.lt (hroom.less (by omega))
      rw [hzs] at HC
      have hrun' : (z.run t).andThen (fun t => Nds.run r t) = o := hrun
      have hza' := hza t
      cases hz : z.run t with
      | stop y t2 =>
        rw [hz] at hrun' HC
        have hoe : o = .stop y t2 := hrun'.symm
        have HS := Lib.hid HC
        have HO := Lib.hid ho1
        subst hoe
        clear hrow hrep hok hstep hpp hrun ho1 hr1 hroom hpl hrow1 hrep1 hcell hnth hu hzu hzs hzc hza hza' hlen HC hrun' hz HG hv hll
        unfold ptr at HS s0
        go_wp2_with (go_at_call 87; refine HS.out.mono ?_; rintro e3 w3 ⟨hth, own3, ar3, ve3, vv3, ho3, hr3⟩; obtain rfl := hth; have HE := Lib.hid (And.intro ho3 hr3); clear ho3 hr3)
        exact ⟨rfl, rfl, own3, ar3, ve3, vv3, HO.out.trans HE.out.1, HE.out.2⟩
      | go t2 =>
        rw [hz] at hrun' HC hza'
        have HS := Lib.hid HC
        have HN : Hid (∀ own3 ve3 vv3 w3, Owns own1 own3 wr w3 → RunAt w3 own3 b t2 sc ve3 vv3 → StepsLoop w own b sc x o (.int .i64 ((pre.length : Int) + 1)) w3) := by
          intro own3 ve3 vv3 w3 ho3 hr3
          exact ⟨pre ++ [z], r, t2, own3, ve3, vv3, by rw [hpp]; simp [Nds.list], by simp, hrun', ho1.trans ho3, hr3, hroom.after hza'⟩
        clear hrow hrep hok hstep hpp hrun ho1 hr1 hroom hpl hrow1 hrep1 hcell hnth hu hzu hzs hzc hza hza' hlen HC hrun' hz HG hv hll
        unfold ptr at HS s0
        go_wp2_with (go_at_call 87; refine HS.out.mono ?_; rintro e3 w3 ⟨own3, ve3, vv3, rfl, ho3, hr3⟩; have HE := Lib.hid (HN.out _ _ _ _ ho3 hr3); clear ho3 hr3)
        go_roundw
        case rel => exact HE.out
        case measure => simp [intOf]; omega

end Go.Proofs.Ytcohmhgmocdbfaa

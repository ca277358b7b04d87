/-
  Walks of the program's run: destroy, need.
-/
import Derived.Test.YtcohmhgmocdbfaaKa
namespace Go.Proofs.Ytcohmhgmocdbfaa
set_option linter.unusedVariables false
set_option linter.unusedSimpArgs false
open Go.RowKit

theorem lett_cases {v : UInt8} (h : lett v) : v = 97 ∨ v = 98 ∨ v = 99 ∨ v = 100 ∨ v = 101 ∨ v = 102 := by
  obtain ⟨h1, h2⟩ := h
  have : v.toNat = 97 ∨ v.toNat = 98 ∨ v.toNat = 99 ∨ v.toNat = 100 ∨ v.toNat = 101 ∨ v.toNat = 102 := by omega
  rcases this with e | e | e | e | e | e
  · exact .inl (UInt8.toNat_inj.1 e)
  · exact .inr (.inl (UInt8.toNat_inj.1 e))
  · exact .inr (.inr (.inl (UInt8.toNat_inj.1 e)))
  · exact .inr (.inr (.inr (.inl (UInt8.toNat_inj.1 e))))
  · exact .inr (.inr (.inr (.inr (.inl (UInt8.toNat_inj.1 e)))))
  · exact .inr (.inr (.inr (.inr (.inr (UInt8.toNat_inj.1 e)))))

/-- The cell of a variable. -/
def slot (v : UInt8) : Nat := 2 + ((v.toNat : Int) - 97).toNat

theorem slot_get {v : UInt8} (h : lett v) (ch ar : ByteArray) (f : UInt8 → Nat) (m : Nat) (ve vv : Value) : (runCells ch ar f m ve vv)[slot v]? = some (i64 (f v)) := by
  rcases lett_cases h with rfl | rfl | rfl | rfl | rfl | rfl <;> rfl

theorem slot_set {v : UInt8} (h : lett v) (ch ar : ByteArray) (f : UInt8 → Nat) (m : Nat) (ve vv : Value) (k : Nat) :
    (runCells ch ar f m ve vv).setIfInBounds (slot v) (i64 k) = runCells ch ar (fun u => if u = v then k else f u) m ve vv := by
  rcases lett_cases h with rfl | rfl | rfl | rfl | rfl | rfl <;> rfl

/-- A store into the run's own block: what the two lists are stays. -/
theorem RunAt.stored {w : World} {own : Nat → Prop} {b : Nat} {s t : St} {ar ar' : List UInt8} {ve vv : Value} (h : RunAt w own b s ar ve vv) (j : Nat) (u : Value)
    (hc : (runCells ⟨s.ch.toArray⟩ ⟨ar.toArray⟩ s.val s.made ve vv).setIfInBounds j u = runCells ⟨t.ch.toArray⟩ ⟨ar'.toArray⟩ t.val t.made ve vv) (he : t.ev = s.ev) (hv : t.vis = s.vis) : RunAt (w.setCell ⟨b, j, none⟩ u) own b t ar' ve vv := by
  have kb : Keeps (oneB b) w (w.setCell ⟨b, j, none⟩ u) := (Keeps.refl _ _).setCell (.inl (show oneB b b from rfl)) _
  refine ⟨?_, ?_, ?_, h.mine, h.ownE, h.ownV⟩
  · rw [← hc]; exact h.blk.set j u
  · rw [he]; exact kb.ownsRow h.ev (fun g hg _ e => (h.ownE g hg).2.1 e)
  · rw [hv]; exact kb.ownsRow h.vis (fun g hg _ e => (h.ownV g hg).2 e)

theorem RunAt.put {w : World} {own : Nat → Prop} {b : Nat} {s : St} {ar : List UInt8} {ve vv : Value} (h : RunAt w own b s ar ve vv) {v : UInt8} (hv : lett v) (k : Nat) : RunAt (w.setCell ⟨b, slot v, none⟩ (i64 k)) own b (s.put v k) ar ve vv :=
  h.stored (slot v) (i64 k) (slot_set hv _ _ _ _ _ _ k) rfl rfl

theorem owns_set {own : Nat → Prop} {w : World} {b : Nat} (hb : own b) (hlt : ∀ k, own k → k < w.heap.size) (j : Nat) (u : Value) : Owns own own w (w.setCell ⟨b, j, none⟩ u) :=
  ⟨fun k e => .inl e, fun k e => by simpa [World.setCell] using hlt k e, (Keeps.refl _ _).setCell (.inl hb) _⟩

theorem Runs.after {w w1 : World} {own own1 : Nat → Prop} {b : Nat} {t : St} {ar : List UInt8} {v : Value} {e : Ending} {w' : World} (ho : Owns own own1 w w1) (h : Runs w1 own1 b t ar v e w') : Runs w own b t ar v e w' := by
  obtain ⟨own', ve, vv, he, hO, hR⟩ := h
  exact ⟨own', ve, vv, he, ho.trans hO, hR⟩

theorem of_slot (b : Nat) (v : UInt8) (hv : lett v) (w : World) : Calls Try.prog 125 #[.pointer (some ⟨b, 2, none⟩), .int .u8 (v.toNat : Int)] w (fun e w' => e = .returned (.pointer (some ⟨b, slot v, none⟩)) ∧ w' = w) :=
  of_any b 2 (v.toNat : Int) (by have := hv.1; omega) (by have := hv.2; omega) w

set_option maxHeartbeats 1000000 in
theorem destroy_any (b : Nat) (s : St) (ar : List UInt8) (ve vv : Value) (own : Nat → Prop) (w : World) (h : RunAt w own b s ar ve vv) (hlt : ∀ k, own k → k < w.heap.size) (v : UInt8) (hv : lett v) (hn : s.ev.length ≤ 1000000) :
    Calls Try.prog 124 #[.pointer (some ⟨b, 0, none⟩), .int .u8 (v.toNat : Int)] w (Runs w own b (s.destroy v) ar (.tuple #[])) := by
  have HO := Lib.hid (fun w => of_slot b v hv w)
  have r := (h.blk.cell (slot v)).trans (slot_get hv _ _ _ _ _ _)
  have z := h.blk.free (slot v)
  have HP := Lib.hid (h.put hv 0)
  have HS := Lib.hid (owns_set h.mine hlt (slot v) (i64 0))
  have HH := Lib.hid h
  have HR : Hid (∀ k : Nat, s.val v = k → k ≠ 0 → Calls Try.prog 126 #[.pointer (some ⟨b, 0, none⟩), .int .u8 45, .int .i64 (k : Int)] (w.setCell ⟨b, slot v, none⟩ (i64 0)) (Runs w own b (s.destroy v) ar (.tuple #[]))) := by
    intro k hk h0
    have e : s.destroy v = (s.put v 0).happen 45 k := by unfold St.destroy; rw [if_neg (by omega), hk]
    rw [e]
    exact (happen_any b (s.put v 0) ar ve vv own _ HP.out (fun k e => by simpa [World.setCell] using hlt k e) 45 k hn).mono (fun e w' hr => Runs.after HS.out hr)
  have HZ : Hid (s.val v = 0 → s.destroy v = s) := fun h0 => by unfold St.destroy; rw [if_pos h0]
  obtain ⟨k, hk⟩ : ∃ k, s.val v = k := ⟨_, rfl⟩
  rw [hk] at r
  unfold i64 at r
  have HK := Lib.hid hk
  clear h hk HP HS
  obtain ⟨j, hj⟩ : ∃ j, slot v = j := ⟨_, rfl⟩
  rw [hj] at r z HO HR
  clear hj
  by_cases h0 : k = 0
  · subst h0
    go_enter Try.func124, Try.ntmps124
    go_wp2_with (go_at_call 125; refine (HO.out _).mono ?_; rintro e w' ⟨rfl, rfl⟩)
    go_end0
    exact ⟨own, ve, vv, rfl, Owns.refl hlt, by rw [HZ.out HK.out]; exact HH.out⟩
  · have hkn : ((k : Int) != 0) = true := by rw [bne_iff_ne]; omega
    have hk0 : ¬ (k : Int) = 0 := by omega
    go_enter Try.func124, Try.ntmps124
    go_wp2_with (go_at_call 125; refine (HO.out _).mono ?_; rintro e w' ⟨rfl, rfl⟩)
    refine (HR.out k HK.out h0).mono ?_
    rintro e w' hr
    have hre := hr
    obtain ⟨_, _, _, rfl, _⟩ := hr
    have HE := Lib.hid hre
    clear hre
    go_wp2_with fail
    go_end0
    exact HE.out

/-- What a run ends with ahead of its program's end. -/
def endV : Why → Value
  | .ret => .agg #[.int .i64 2, .int .i64 (-1), .string ⟨#[]⟩]
  | .fail => .agg #[.int .i64 3, .int .i64 (-1), .string ⟨#[]⟩]
  | .fault k => .agg #[.int .i64 4, .int .i64 (k : Int), .string ⟨#[]⟩]
  | .stuck true => .agg #[.int .i64 0, .int .i64 (-1), .string ⟨#[108, 114]⟩]
  | .stuck false => .agg #[.int .i64 0, .int .i64 (-1), .string ⟨#[101, 109]⟩]

def Thrown (y : Why) (e : Ending) : Prop := e = .panicked [{ v := .iface 82 (endV y), recovered := false }]

def NeedPost (w : World) (k n : Nat) (e : Ending) (w' : World) : Prop := ((n = 0 → Thrown (.fault k) e) ∧ (n ≠ 0 → e = .returned (.int .i64 (n : Int)))) ∧ w' = w

theorem span_begin (g : Nat) (k : Int) (w : World) (hc : w.cell? ⟨g, 0, none⟩ = some (.int .i64 k)) : Calls Try.prog 132 #[.pointer (some ⟨g, 0, none⟩)] w (fun e w' => e = .returned (.int .i64 k) ∧ w' = w) := by
  go_enter Try.func132, Try.ntmps132
  go_wp2
  go_ret
  exact ⟨rfl, rfl⟩

set_option maxHeartbeats 1000000 in
theorem need_any (b : Nat) (s : St) (ar : List UInt8) (ve vv : Value) (own : Nat → Prop) (w : World) (h : RunAt w own b s ar ve vv) (v : UInt8) (hv : lett v) (g k : Nat) (hg : w.cell? ⟨g, 0, none⟩ = some (.int .i64 (k : Int))) :
    Calls Try.prog 127 #[.pointer (some ⟨b, 0, none⟩), .pointer (some ⟨g, 0, none⟩), .int .u8 (v.toNat : Int)] w (NeedPost w k (s.val v)) := by
  have HO := Lib.hid (fun w => of_slot b v hv w)
  have r := (h.blk.cell (slot v)).trans (slot_get hv _ _ _ _ _ _)
  have HB := Lib.hid (span_begin g (k : Int) w hg)
  obtain ⟨n, hn⟩ : ∃ n, s.val v = n := ⟨_, rfl⟩
  rw [hn] at r ⊢
  unfold i64 at r
  obtain ⟨j, hj⟩ : ∃ j, slot v = j := ⟨_, rfl⟩
  rw [hj] at r HO
  clear hj hn h
  by_cases h0 : n = 0
  · subst h0
    go_enter Try.func127, Try.ntmps127
    go_wp2_with (first | (go_at_call 125; refine (HO.out _).mono ?_; rintro e w' ⟨rfl, rfl⟩) | (go_at_call 132; refine HB.out.mono ?_; rintro e w' ⟨rfl, rfl⟩))
    exact ⟨rfl, ⟨fun _ => rfl, fun h => (h rfl).elim⟩, rfl⟩
  · have hkn : ((n : Int) == 0) = false := by rw [beq_eq_false_iff_ne]; omega
    have hk0 : ¬ (n : Int) = 0 := by omega
    go_enter Try.func127, Try.ntmps127
    go_wp2_with (go_at_call 125; refine (HO.out _).mono ?_; rintro e w' ⟨rfl, rfl⟩)
    go_ret
    exact ⟨⟨fun h => (h0 h).elim, fun _ => rfl⟩, rfl⟩

end Go.Proofs.Ytcohmhgmocdbfaa

/-
  Walks of the program's run: comeBy, choose.
  Walks of the program's run: choose.
-/
import Derived.Test.YtcohmhgmocdbfaaKb
import Derived.Test.YtcohmhgmocdbfaaScW
import Derived.Test.YtcohmhgmocdbfaaIaW
namespace Go.Proofs.Ytcohmhgmocdbfaa
set_option linter.unusedVariables false
set_option linter.unusedSimpArgs false
open Go.RowKit

theorem Try.zero188 : (Try.prog.info? 188).map (fun i => (i.zero, i.size, i.bytes)) = some (some (.agg #[.int .i64 0, .int .i64 0, .int .i64 0, .int .i64 0, .int .i64 0, .int .i64 0, .int .i64 0]), 7, 56) := by kernel_rfl

theorem visCells_len (l : List (Nat × (UInt8 → Nat))) : (visCells l).length = l.length * 7 := by
  induction l with
  | nil => rfl
  | cons p r ih => simp only [visCells, six6, List.flatMap_cons, List.length_append, List.length_cons, List.length_nil] at *; omega

theorem visCells_snoc (l : List (Nat × (UInt8 → Nat))) (k : Nat) (f : UInt8 → Nat) : visCells (l ++ [(k, f)]) = visCells l ++ (i64 k :: six6 f) := by simp [visCells]

/-- The run behind a visit more. -/
theorem vis_grown {w wA w' : World} {own : Nat → Prop} {b : Nat} {s : St} {ar : List UInt8} {av a' : Option Addr} {cv c' : Nat} {ve : Value} {k : Nat} (h : RunAt w own b s ar ve (.slice av s.vis.length cv)) (hlt : ∀ k, own k → k < w.heap.size)
    (qA : Keeps noB w wA) (ho : w'.ownsRow 0 188 7 (.slice a' (s.vis.length + 1) c') (s.vis.length + 1) (visCells s.vis ++ (i64 k :: six6 s.val)))
    (hg : wA.grownBy w' (Value.slice av s.vis.length cv).ownBlock) (hf : Fresh wA (.slice av s.vis.length cv) (.slice a' (s.vis.length + 1) c')) :
    Runs w own b (s.comeBy k) ar (.tuple #[]) (.returned (.tuple #[])) (w'.setCell ⟨b, 10, none⟩ (.slice a' (s.vis.length + 1) c')) := by
  have hO := grow_own (u := .slice a' (s.vis.length + 1) c') (i := 10) hlt qA hg hf (fun g e => (h.ownV g e).1) h.mine ho
  have hkA : Keeps (fun g => (Value.slice av s.vis.length cv).ownBlock = some g) w w' := (qA.mono (fun _ e => e.elim)).grown hg (fun k e => .inl e)
  have b1 := hkA.blk h.blk (fun e => (h.ownV b e).2 rfl)
  have hfb : ∀ g, (Value.slice a' (s.vis.length + 1) c').ownBlock = some g → g ≠ b ∧ ve.ownBlock ≠ some g := by
    intro g e
    rcases hf with hf | hf
    · have := h.ownV g (hf.symm.trans e); exact ⟨this.2, fun e2 => (h.ownE g e2).2.2 (hf.symm.trans e)⟩
    · have h1 := hf g e
      have h2 := qA.size
      exact ⟨fun e2 => by have := h.blk.lt; omega, fun e2 => by have := (h.ev.lt g e2).2; omega⟩
  have kb : Keeps (oneB b) w' (w'.setCell ⟨b, 10, none⟩ (.slice a' (s.vis.length + 1) c')) := (Keeps.refl _ _).setCell (.inl (show oneB b b from rfl)) _
  refine ⟨_, ve, .slice a' (s.vis.length + 1) c', rfl, hO, ⟨?_, ?_, ?_, .inl h.mine, fun g e => ⟨.inl (h.ownE g e).1, (h.ownE g e).2.1, fun e2 => (hfb g e2).2 e⟩, fun g e => ⟨.inr e, (hfb g e).1⟩⟩⟩
  · have e := b1.set 10 (.slice a' (s.vis.length + 1) c')
    simpa [runCells, St.comeBy] using e
  · have e1 := hkA.ownsRow h.ev (fun g hg _ e => (h.ownE g hg).2.2 e)
    exact kb.ownsRow e1 (fun g hg _ e => (h.ownE g hg).2.1 e)
  · have e := kb.ownsRow ho (fun g hg _ e => (hfb g hg).1 e)
    simpa [St.comeBy, visCells_snoc] using e

set_option maxRecDepth 100000 in
set_option maxHeartbeats 2000000 in
theorem comeBy_any (b : Nat) (s : St) (ar : List UInt8) (ve vv : Value) (own : Nat → Prop) (w : World) (h : RunAt w own b s ar ve vv) (hlt : ∀ k, own k → k < w.heap.size) (k : Nat) (hn : s.vis.length ≤ 1000000) :
    Calls Try.prog 106 #[.pointer (some ⟨b, 0, none⟩), .int .i64 (k : Int)] w (Runs w own b (s.comeBy k) ar (.tuple #[])) := by
  obtain ⟨i0, hi, hz0, hz1, hz2⟩ := info_parts Try.zero188
  obtain ⟨_, av, cv, rfl⟩ := h.shape
  have hbl := h.blk.lt
  have r2 := h.blk.cell 2
  have r3 := h.blk.cell 3
  have r4 := h.blk.cell 4
  have r5 := h.blk.cell 5
  have r6 := h.blk.cell 6
  have r7 := h.blk.cell 7
  have r10 := h.blk.cell 10
  simp [runCells, i64] at r2 r3 r4 r5 r6 r7 r10
  have HH := Lib.hid h
  have HC : Hid (∀ j u, (i64 k :: six6 s.val)[j]? = some u → (w.alloc (.cells #[.int .i64 (k : Int), .int .i64 (s.val 97 : Int), .int .i64 (s.val 98 : Int), .int .i64 (s.val 99 : Int), .int .i64 (s.val 100 : Int), .int .i64 (s.val 101 : Int), .int .i64 (s.val 102 : Int)] 188)).drew.cell? ((⟨w.heap.size, 0, none⟩ : Addr).add j) = some u) := by
    intro j u hu
    have hadd : (⟨w.heap.size, 0, none⟩ : Addr).add j = ⟨w.heap.size, j, none⟩ := by unfold Addr.add; split <;> simp_all
    rw [hadd]
    have := (Blk.new w #[.int .i64 (k : Int), .int .i64 (s.val 97 : Int), .int .i64 (s.val 98 : Int), .int .i64 (s.val 99 : Int), .int .i64 (s.val 100 : Int), .int .i64 (s.val 101 : Int), .int .i64 (s.val 102 : Int)] 188).cell j
    exact this.trans (by simpa [i64, six6] using hu)
  have HO : Hid (∀ u ∈ i64 k :: six6 s.val, u.oneCell' = true) := by
    intro u hu
    simp [six6] at hu
    rcases hu with rfl | rfl | rfl | rfl | rfl | rfl | rfl <;> rfl
  clear h
  go_enter Try.func106, Try.ntmps106
  go_wp2_with fail
  go_region_law (first
    | (refine step_append_fresh rfl (.tmp 8) (.tmp 15) 114 rfl 188 i0 (.agg #[.int .i64 0, .int .i64 0, .int .i64 0, .int .i64 0, .int .i64 0, .int .i64 0, .int .i64 0]) 7 56 Try.underlying114 hi hz0 hz1 hz2 rfl (by decide) (.slice av s.vis.length cv) s.vis.length (visCells s.vis) (by simp [Act.eval, Act.put]) (((Keeps.refl noB w).alloc _).drew.ownsRow HH.out.vis (fun _ _ _ => id)) ⟨w.heap.size, 0, none⟩ 1 1 (i64 k :: six6 s.val) (by simp [Act.eval, Act.put]) rfl HC.out HO.out (by unfold maxLen; omega) (by omega) ?_
       intro v' w' ho hg hf
       obtain ⟨a', c', rfl⟩ := row_shape (ok := fun _ => True) ⟨ho, fun _ _ => trivial⟩
       have HE : Hid (Runs w own b (s.comeBy k) ar (.tuple #[]) (.returned (.tuple #[])) (w'.setCell ⟨b, 10, none⟩ (.slice a' (s.vis.length + 1) c'))) := vis_grown HH.out hlt (((Keeps.refl noB w).alloc _).drew) ho hg hf
       have b1 : Blk w' b _ _ := ((((Keeps.refl (fun g => (Value.slice av s.vis.length cv).ownBlock = some g) w).alloc _).drew).grown hg (fun k e => .inl e)).blk HH.out.blk (fun e => (HH.out.ownV b e).2 rfl)
       have y10 := b1.cell 10
       have z10 := b1.free 10
       simp [runCells] at y10
       clear ho hg hf b1))
  all_goals
    go_wp2_with fail
    go_end0
    exact HE.out

end Go.Proofs.Ytcohmhgmocdbfaa

namespace Go.Proofs.Ytcohmhgmocdbfaa
set_option linter.unusedVariables false
set_option linter.unusedSimpArgs false
open Go.RowKit

def firstOf (br : Bool) : UInt8 := if br then 108 else 101
def otherOf (br : Bool) : UInt8 := if br then 114 else 109
def betweenOf (br : Bool) : ByteArray := ⟨#[firstOf br, otherOf br]⟩

def ChoosePost (w : World) (own : Nat → Prop) (b : Nat) (s : St) (ar : List UInt8) (br : Bool) (e : Ending) (w' : World) : Prop :=
  match s.choose (firstOf br) (otherOf br) with
  | none => Thrown (.stuck br) e ∧ w' = w
  | some (c, s') => Runs w own b s' ar (.int .u8 (c.toNat : Int)) e w'

theorem endV_stuck (br : Bool) : endV (.stuck br) = .agg #[.int .i64 0, .int .i64 (-1), .string (betweenOf br)] := by cases br <;> rfl

set_option maxHeartbeats 1000000 in
theorem choose_none (b : Nat) (s : St) (ar : List UInt8) (ve vv : Value) (own : Nat → Prop) (w : World) (h : RunAt w own b s ar ve vv) (br : Bool) (hc : s.choose (firstOf br) (otherOf br) = none) (hl : s.ch.length ≤ 1000) :
    Calls Try.prog 109 #[.pointer (some ⟨b, 0, none⟩), .string (betweenOf br)] w (fun e w' => Thrown (.stuck br) e ∧ w' = w) := by
  have r0 := h.blk.cell 0
  simp [runCells] at r0
  have HE := Lib.hid (endV_stuck br)
  unfold St.choose at hc
  cases hch : s.ch with
  | nil =>
    rw [hch] at r0
    have he : (⟨([] : List UInt8).toArray⟩ : ByteArray) = ⟨#[]⟩ := rfl
    rw [he] at r0
    clear hc hch he h
    generalize betweenOf br = bt at *
    go_enter Try.func109, Try.ntmps109
    go_wp2_with fail
    exact ⟨rfl, by unfold Thrown; rw [HE.out], rfl⟩
  | cons c r =>
    rw [hch] at hc r0 hl
    simp only at hc
    have hno : ¬ c ∈ (betweenOf br).data.toList := by
      intro e
      simp [betweenOf] at e
      rw [if_pos e] at hc
      cases hc
    have HI := Lib.hid (fun w => index_out (betweenOf br) c w hno)
    obtain ⟨cs, hcs⟩ : ∃ cs : ByteArray, cs = ⟨(c :: r).toArray⟩ := ⟨_, rfl⟩
    rw [← hcs] at r0
    have h0 : 0 < cs.size := by rw [hcs]; simp [ByteArray.size]
    have hg : cs[0] = c := by subst hcs; rfl
    have hem : cs.toList.isEmpty = false := by rw [hcs, Go.ByteArray.toList_eq]; rfl
    have hsz : (cs.size : Int) ≤ 1000 := by rw [hcs]; simp only [ByteArray.size, List.size_toArray]; omega
    clear hc hch h hno hcs
    generalize betweenOf br = bt at *
    go_enter Try.func109, Try.ntmps109
    go_wp2_with (go_at_call 97; refine (HI.out _).mono ?_; rintro e w' ⟨n, rfl, hn, rfl⟩)
    exact ⟨rfl, by unfold Thrown; rw [HE.out], rfl⟩

theorem extract_tail (c : UInt8) (r : List UInt8) : (⟨(c :: r).toArray⟩ : ByteArray).extract 1 (⟨(c :: r).toArray⟩ : ByteArray).size = ⟨r.toArray⟩ := by
  apply ByteArray.ext
  rw [ByteArray.data_extract]
  apply Array.ext'
  simp [ByteArray.size]

set_option maxHeartbeats 1000000 in
theorem choose_ok (b : Nat) (s : St) (ar : List UInt8) (ve vv : Value) (own : Nat → Prop) (w : World) (h : RunAt w own b s ar ve vv) (hlt : ∀ k, own k → k < w.heap.size) (br : Bool) (c : UInt8) (s' : St) (hc : s.choose (firstOf br) (otherOf br) = some (c, s')) (hl : s.ch.length ≤ 1000) :
    Calls Try.prog 109 #[.pointer (some ⟨b, 0, none⟩), .string (betweenOf br)] w (Runs w own b s' ar (.int .u8 (c.toNat : Int))) := by
  obtain ⟨h1, h2, h3⟩ := choose_some hc
  have r0 := h.blk.cell 0
  have z0 := h.blk.free 0
  simp [runCells] at r0
  have hin : c ∈ (betweenOf br).data.toList := by simp [betweenOf]; exact h2
  have HI := Lib.hid (fun w => index_in (betweenOf br) c w hin)
  obtain ⟨cs, hcs⟩ : ∃ cs : ByteArray, cs = ⟨(c :: s'.ch).toArray⟩ := ⟨_, rfl⟩
  rw [h1, ← hcs] at r0
  have h0 : 0 < cs.size := by rw [hcs]; simp [ByteArray.size]
  have hg : cs[0] = c := by subst hcs; rfl
  have hem : cs.toList.isEmpty = false := by rw [hcs, Go.ByteArray.toList_eq]; rfl
  have hsz : (cs.size : Int) ≤ 1000 := by have := congrArg List.length h1; rw [hcs]; simp only [ByteArray.size, List.size_toArray, List.length_cons] at *; omega
  have h01 : (1 : Int) ≤ (cs.size : Int) := by omega
  have HE : Hid (Runs w own b s' ar (.int .u8 (c.toNat : Int)) (.returned (.int .u8 (c.toNat : Int))) (w.setCell ⟨b, 0, none⟩ (.string (cs.extract 1 cs.size)))) := by
    have e : cs.extract 1 cs.size = ⟨s'.ch.toArray⟩ := by rw [hcs]; exact extract_tail c s'.ch
    rw [e]
    refine ⟨own, ve, vv, rfl, owns_set h.mine hlt 0 _, h.stored 0 _ ?_ (by rw [h3]) (by rw [h3])⟩
    rw [h3]
    rfl
  clear hc h h1 h2 h3 hin hcs hlt
  generalize betweenOf br = bt at *
  go_enter Try.func109, Try.ntmps109
  go_wp2_with (go_at_call 97; refine (HI.out _).mono ?_; rintro e w' ⟨n, rfl, hn, rfl⟩)
  go_ret
  exact HE.out

end Go.Proofs.Ytcohmhgmocdbfaa

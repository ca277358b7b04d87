/-
  The library's sort at six bytes: less, the insertion sort, the sort. What it leaves: an order of the bytes in which none is less than one ahead of it.
-/
import Derived.Test.YtkfcgamdlckncaaMemW
import Derived.Test.YtkfcgamdlckncaaShelfL
import Derived.Test.YtkfcgamdlckncaaProg
import Derived.Lib.Hide
import Derived.Sort.WalkA
import Derived.Sort.LotA
import Derived.WalkKit
import Derived.BigGuard
import Derived.BigCall
import Derived.CellFam
import Derived.LoopN
import Derived.Deep.Draws
import Derived.Deep.QuietTactic
import Derived.BigQuiet
namespace Go.Proofs.Ytkfcgamdlckncaa
set_option linter.unusedVariables false
set_option linter.unusedSimpArgs false
open Go.RowKit Go.Sort

def ltB (x y : UInt8) : Bool := decide ((x.toNat : Int) < (y.toNat : Int))

theorem swo_ltB : SWO ltB where
  irrefl x := by simp [ltB]
  trans x y z h1 h2 := by simp [ltB] at *; omega
  ntrans x y z h1 h2 := by simp [ltB] at *; omega

set_option maxHeartbeats 1000000 in
theorem isNaN_B (x : Int) (w : World) : Calls Try.prog 125 #[.int .u8 x] w fun e w' => e = .returned (.bool false) ∧ w' = w := by
  go_enter Try.func125, Try.ntmps125
  go_wp2
  go_ret
  exact ⟨by simp, rfl⟩

set_option maxHeartbeats 1000000 in
theorem less_B (x y : UInt8) (w : World) : Calls Try.prog 97 #[.int .u8 (x.toNat : Int), .int .u8 (y.toNat : Int)] w fun e w' => e = .returned (.bool (ltB x y)) ∧ w' = w := by
  unfold ltB
  generalize (x.toNat : Int) = a
  generalize (y.toNat : Int) = b
  go_enter Try.func97, Try.ntmps97
  go_wp2_with (go_at_call 125; refine (isNaN_B _ _).mono ?_; rintro e w' ⟨rfl, rfl⟩)
  go_ret
  exact ⟨rfl, rfl⟩

set_option maxRecDepth 100000 in
set_option maxHeartbeats 4000000 in
/-- The insertion sort over a row of bytes. -/
theorem insert_B (blk cap n : Nat) (d : Array UInt8) (w : World) (hn : d.size = n) (hH : Holds u8 w blk 0 d) (hsz : n ≤ 12) (h0 : 0 < n) :
    Calls Try.prog 91 #[.slice (some ⟨blk, 0, none⟩) n cap, .int .i64 0, .int .i64 n] w fun e w' =>
      e = .returned (.tuple #[]) ∧ ∃ m, w' = putRow u8 (Sort.ahead w m) blk 0 (Sort.insertionSort ltB d 0 n) := by
  go_enter Try.func91, Try.ntmps91
  go_wp2
  go_loopw [6] (fun vi wr => ∃ (i k : Nat) (dk : Array UInt8), vi = .int .i64 i ∧ 0 < i ∧ i ≤ n + 1 ∧ dk.size = n ∧ wr = putRow u8 (Sort.ahead w k) blk 0 dk ∧
      insOuter ltB 0 n i dk = insOuter ltB 0 n 1 d) (fun vi _ => n + 1 - (intOf vi).toNat)
  case atStart => exact ⟨1, 0, d, by go_num, by omega, by omega, hn, (putRow_self _ _ _ _ _ hH).symm, rfl⟩
  case round =>
    obtain ⟨i, k, dk, rfl, hai, hib, hsk, hwr, hO⟩ := hrel
    have HO := Lib.hid hO
    clear hO
    go_wp2
    · have hlt : i < n := by omega
      go_loopw [7] (fun vj wr2 => ∃ (j m : Nat) (dj : Array UInt8), vj = .int .i64 j ∧ j ≤ i ∧ dj.size = n ∧ wr2 = putRow u8 (Sort.ahead w m) blk 0 dj ∧
          insInner ltB 0 j dj = insInner ltB 0 i dk) (fun vj _ => (intOf vj).toNat)
      case atStart => exact ⟨i, k, dk, rfl, Nat.le_refl _, hsk, rfl, rfl⟩
      case round =>
        obtain ⟨j, m, dj, rfl, hji, hsj, hw2, hI⟩ := hrel
        obtain ⟨G, hG⟩ : ∃ G : Nat → UInt8, ∀ t, G t = dj[t]! := ⟨fun t => dj[t]!, fun _ => rfl⟩
        have hcw : ∀ t, t < n → wr.cell? ⟨blk, t, none⟩ = some (.int .u8 ((G t).toNat : Int)) := fun t ht => by
          have := cell?_putRow u8 (Sort.ahead w m) blk 0 d dj (holds_ahead _ _ _ _ _ _ hH) (by omega) t (by omega)
          rw [Nat.zero_add] at this
          rw [hw2, hG]; exact this
        have hfw : ∀ t, t < n → wr.frozen? ⟨blk, t, none⟩ = false := fun t ht => by
          have := ((holds_ahead _ _ m _ _ _ hH) t (by omega)).2
          rw [Nat.zero_add] at this
          rw [hw2, frozen?_putRow]; exact this
        have HW := Lib.hid hw2
        have HG := Lib.hid hG
        have HI := Lib.hid hI
        have OUT : Hid ((j = 0 ∨ ltB (G j) (G (j - 1)) = false) → ∀ q, ∃ i' n' dk', Value.int .i64 ((i : Int) + 1) = .int .i64 (i' : Nat) ∧ 0 < i' ∧ i' ≤ n + 1 ∧ dk'.size = n ∧
            wr.drewN q = putRow u8 (Sort.ahead w n') blk 0 dk' ∧ insOuter ltB 0 n i' dk' = insOuter ltB 0 n 1 d) := Lib.hid (fun hs q =>
          ⟨i + 1, m + q, dj, by go_num, by omega, by omega, hsj, by rw [hw2]; exact putRow_drewN _ _ _ _ _ _ _,
            by rw [← HO.out, insOuter_go _ _ _ _ _ hlt, ← hI, insInner_stop _ _ _ _ (hs.imp (by omega) (by rw [hG, hG]; exact id))]⟩)
        have STEP : Hid (0 < j → ltB (G j) (G (j - 1)) = true → ∀ q, ∃ j' m' dj', Value.int .i64 ((j : Int) - 1) = .int .i64 (j' : Nat) ∧ j' ≤ i ∧ dj'.size = n ∧
            ((wr.drewN q).setCell ⟨blk, j, none⟩ (.int .u8 ((G (j - 1)).toNat : Int))).setCell ⟨blk, j - 1, none⟩ (.int .u8 ((G j).toNat : Int)) = putRow u8 (Sort.ahead w m') blk 0 dj' ∧ insInner ltB 0 j' dj' = insInner ltB 0 i dk) := Lib.hid (fun hj0 hl q =>
          ⟨j - 1, m + q, swp dj j (j - 1), by congr 1; omega, by omega, by rw [size_swp]; exact hsj, by
            have := swap_worldA u8 w m q blk 0 dj j (j - 1) (by omega) (by omega)
            rw [Nat.zero_add, Nat.zero_add, ← hw2, ← hG, ← hG] at this
            exact this,
            by rw [← hI, insInner_go ltB 0 j dj hj0 (by rw [← hG, ← hG]; exact hl)]⟩)
        clear hw2 hG hI hH HW HG HI
        go_wp2
        by_cases hja : 0 < j
        · have hjn : j < n := by omega
          have hj1 : (j : Int) < (n : Int) := by omega
          have hj2 : (j : Int) - 1 < (n : Int) := by omega
          have hj3 : (0 : Int) ≤ (j : Int) - 1 := by omega
          have hw1 : IntKind.i64.wrap ((j : Int) - 1) = (j : Int) - 1 := by rw [IntKind.wrap]; simp [IntKind.signed, IntKind.bits]; omega
          have hj4 : ((j : Int) - 1).toNat = j - 1 := by omega
          have hc1 := hcw j hjn
          have hc2 := hcw (j - 1) (by omega)
          have hf1 := hfw j hjn
          have hf2 := hfw (j - 1) (by omega)
          go_quiet (first | (go_at_call 97; refine Calls.quiet_of_same (less_B _ _ _)))
          go_wp2
          · have hl : ltB (G j) (G (j - 1)) = true := by assumption
            go_region
            all_goals go_wp2
            go_roundw
            case rel => exact STEP.out hja hl _
            case measure => simp [intOf]; omega
          · have hl : ltB (G j) (G (j - 1)) = false := by assumption
            go_roundw
            case rel => exact OUT.out (Or.inr hl) nq
            case measure => simp [intOf]; omega
        · go_quiet (first | (go_at_call 97; refine Calls.quiet_of_same (less_B _ _ _)))
          go_wp2
          go_roundw
          case rel => exact OUT.out (Or.inl (by omega)) nq
          case measure => simp [intOf]; omega
    · have hge : ¬ i < n := by omega
      go_end0
      exact ⟨rfl, k, by unfold Sort.insertionSort; rw [← HO.out, insOuter_stop _ _ _ _ _ hge]⟩

set_option maxRecDepth 100000 in
set_option maxHeartbeats 2000000 in
theorem pdq_B (blk cap n : Nat) (lim : Int) (d : Array UInt8) (w : World) (hn : d.size = n) (hH : Holds u8 w blk 0 d) (hsz : n ≤ 12) (h0 : 0 < n) :
    Calls Try.prog 67 #[.slice (some ⟨blk, 0, none⟩) n cap, .int .i64 0, .int .i64 n, .int .i64 lim] w fun e w' =>
      e = .returned (.tuple #[]) ∧ ∃ m, w' = putRow u8 (Sort.ahead w m) blk 0 (Sort.insertionSort ltB d 0 n) := by
  have HI := Lib.hid (insert_B blk cap n d w hn hH hsz h0)
  clear hH hn
  go_enter Try.func67, Try.ntmps67
  go_wp2
  refine wp_loop_rounds 1 ?_
  rw [rounds_succ]
  go_wp2_with (go_at_call 91; refine HI.out.mono ?_; rintro e w' ⟨rfl, m, rfl⟩)
  (try simp only [Exit.inBlock, Exit.then]); refine bodyPost_ret (results_none rfl _ _ _) rfl ?_
  exact ⟨rfl, m, rfl⟩

theorem ahead_keeps (w : World) (m : Nat) : Keeps noB w (Sort.ahead w m) := ⟨rfl, rfl, rfl, Nat.le_refl _, fun _ _ _ => rfl⟩

theorem putRow_keeps (w : World) (b : Nat) (d : Array UInt8) : Keeps (oneB b) w (putRow u8 w b 0 d) := by
  refine ⟨rfl, rfl, rfl, by simp [putRow, mapBlock], fun i hi hm => ?_⟩
  simp only [putRow, mapBlock, Array.getElem?_modify]
  rw [if_neg (fun e => hm e.symm)]

theorem putRow_blk {w : World} {b : Nat} {cs : Array Value} {t : TypeId} (h : Blk w b cs t) (d : Array UInt8) (hs : cs.size = d.size) : Blk (putRow u8 w b 0 d) b (d.map u8) t := by
  show (w.heap.modify b _)[b]? = _
  rw [Array.getElem?_modify, if_pos rfl]
  have h2 : w.heap[b]? = some (.cells cs t (0, 0)) := h
  rw [h2]
  simp only [Option.map_some, onCells]
  congr 2
  apply Array.ext_getElem?
  intro k
  simp only [putCells, Array.getElem?_mapIdx, Array.getElem?_map]
  by_cases hk : k < d.size
  · rw [Array.getElem?_eq_getElem (by omega), Array.getElem?_eq_getElem hk]
    simp only [Option.map_some]
    rw [if_pos ⟨by omega, by omega⟩, Nat.sub_zero, getElem!_pos d k hk]
  · rw [Array.getElem?_eq_none (by omega), Array.getElem?_eq_none (by omega)]; rfl

theorem holds_blk {w : World} {b : Nat} {d : Array UInt8} {t : TypeId} (h : Blk w b (d.map u8) t) : Holds u8 w b 0 d := fun j hj => by
  rw [Nat.zero_add]
  refine ⟨?_, h.free j⟩
  rw [h.cell j, Array.getElem?_map, Array.getElem?_eq_getElem hj, getElem!_pos d j hj]
  rfl

/-- What a sort leaves: an order of the bytes in which none is less than one ahead of it. -/
def SortsTo (l l' : List UInt8) : Prop := l'.Perm l ∧ l'.Pairwise (fun x y => x.toNat ≤ y.toNat)

theorem SortsTo.len {l l' : List UInt8} (h : SortsTo l l') : l'.length = l.length := h.1.length_eq

theorem SortsTo.same {l l' m m' : List UInt8} (h : SortsTo l l') (k : SortsTo m m') : l' = m' ↔ l.Perm m := by
  constructor
  · intro e; exact h.1.symm.trans (e ▸ k.1)
  · intro e
    refine List.Perm.eq_of_pairwise (le := fun x y => x.toNat ≤ y.toNat) (fun a b _ _ h1 h2 => UInt8.toNat_inj.1 (by omega)) h.2 k.2 (h.1.trans (e.trans k.1.symm))

theorem sortsTo_ins (d : Array UInt8) : SortsTo d.toList (Sort.insertionSort ltB d 0 d.size).toList := by
  obtain ⟨⟨h1, h2, h3⟩, h4⟩ := (insertionSort_holds (lt := ltB)) swo_ltB d 0 d.size (Nat.zero_le _) (Nat.le_refl _)
  generalize Sort.insertionSort ltB d 0 d.size = d' at h1 h2 h3 h4 ⊢
  refine ⟨?_, ?_⟩
  · have e1 : d'.extract 0 d.size = d' := by rw [← h1]; simp
    have e2 : d.extract 0 d.size = d := by simp
    rw [e1, e2] at h3
    exact h3
  · rw [List.pairwise_iff_getElem]
    intro i j hi hj hij
    simp only [Array.length_toList] at hi hj
    have := h4 i j (Nat.zero_le _) hij (by omega)
    simp only [ltB, decide_eq_false_iff_not] at this
    rw [getElem!_pos d' i hi, getElem!_pos d' j hj] at this
    simp only [Array.getElem_toList]
    omega

set_option maxRecDepth 100000 in
set_option maxHeartbeats 2000000 in
/-- slices.Sort over a whole block of bytes. -/
theorem sort_B (b cap n : Nat) (l : List UInt8) (t : TypeId) (w : World) (hn : l.length = n) (hb : Blk w b (l.toArray.map u8) t) (hsz : n ≤ 12) (h0 : 0 < n) :
    Calls Try.prog 43 #[.slice (some ⟨b, 0, none⟩) n cap] w fun e w' =>
      e = .returned (.tuple #[]) ∧ ∃ l', SortsTo l l' ∧ Blk w' b (l'.toArray.map u8) t ∧ Keeps (oneB b) w w' := by
  have HP := Lib.hid (fun lim w (h : Holds u8 w b 0 l.toArray) => pdq_B b cap n lim l.toArray w (by simpa using hn) h hsz h0)
  have HB := Lib.hid (And.intro hn hb)
  have HL := Lib.hid (fun w => Try.bits_Len (n : Int) w (by omega) (by omega))
  clear hb
  go_enter Try.func43, Try.ntmps43
  go_wp2_with (first
    | (go_at_call 68; refine (HL.out _).mono ?_; rintro e w' ⟨rfl, rfl⟩)
    | (go_at_call 67; refine (HP.out _ _ (holds_blk HB.out.2)).mono ?_; rintro e w' ⟨rfl, m, rfl⟩))
  go_end0
  have hs := sortsTo_ins l.toArray
  have hz : l.toArray.size = n := by simpa using HB.out.1
  rw [hz] at hs
  have hl := hs.len
  refine ⟨rfl, (Sort.insertionSort ltB l.toArray 0 n).toList, hs, ?_, ?_⟩
  · exact putRow_blk (cs := l.toArray.map u8) HB.out.2 _ (by simp at hl ⊢; omega)
  · exact ((ahead_keeps _ m).mono (fun _ e => e.elim)).trans (putRow_keeps _ _ _)

end Go.Proofs.Ytkfcgamdlckncaa

/-
  CellsFor, StackCells, CountCells and CountStack, on both sides.
-/
import Derived.Test.YthgocacabadflaaDoorUp
namespace Go.Proofs.YthgocacabadflaaDoor
set_option linter.unusedVariables false
set_option linter.unusedSimpArgs false
open Go.RowKit

def cellsK (pick : List Nat → Nat) (r : Option (List Ev)) : List Int := (cellsV pick r).map (fun k : Nat => (k : Int))
theorem cells_open {pick : List Nat → Nat} {w w' : World} {r : Option (List Ev)} {e : Ending} (h : NumsOfP w (cellsV pick r) r.isSome e w') :
    ∃ a c, e = .returned (.tuple #[.slice a (cellsK pick r).length c, .bool r.isSome]) ∧ IntRow w' (.slice a (cellsK pick r).length c) (cellsK pick r).length (cellsK pick r) ∧ (∀ g, (Value.slice a (cellsK pick r).length c).ownBlock = some g → w.heap.size ≤ g) ∧ Keeps noB w w' := numsOf_open h
theorem cellsO_len {pick : List Nat → Nat} (hp : Picks pick) {l : List Ev} (hg : Good l) (hl : l.length ≤ 600) : (cellsS pick l).O.length ≤ 600 ∧ ∀ c ∈ (cellsS pick l).O, c ≤ 600 := by
  have h := cs_bounds hp hg hl l.length
  rw [List.take_length] at h
  exact ⟨h.2.1, h.2.2.2⟩
theorem cellsK_len {pick : List Nat → Nat} (hp : Picks pick) (s : ByteArray) : (cellsK pick (readP s)).length ≤ 600 := by
  unfold cellsK
  rw [List.length_map]
  cases hr : readP s with
  | none => simp [cellsV]
  | some l =>
    obtain ⟨hg, hl⟩ := readP_good hr
    exact (cellsO_len hp hg hl).1
theorem freeK_len (s : ByteArray) : (cellsK freeN (readP s)).length ≤ 600 := cellsK_len picks_free s
theorem stackK_len (s : ByteArray) : (cellsK cntN (readP s)).length ≤ 600 := cellsK_len picks_cnt s
theorem cellsV_bnd {pick : List Nat → Nat} (hp : Picks pick) (s : ByteArray) : (cellsV pick (readP s)).length ≤ 600 ∧ ∀ c ∈ cellsV pick (readP s), c ≤ 600 := by
  cases hr : readP s with
  | none => exact ⟨by simp [cellsV], fun c hc => by cases hc⟩
  | some l =>
    obtain ⟨hg, hl⟩ := readP_good hr
    exact cellsO_len hp hg hl

def countV (pick : List Nat → Nat) : Option (List Ev) → Int
  | none => -1
  | some l => (cntN (cellsS pick l).O : Int)
def CountP (w : World) (v : Int) (e : Ending) (w' : World) : Prop := e = .returned (.int .i64 v) ∧ Keeps noB w w'

theorem free0 (W : World) (Z : Array Value) (hZ : Z = #[.slice none 0 0, .int .i64 0]) : FreeK W.heap.size (W.alloc (.cells Z 56)) (fun k => k = W.heap.size) [] := by
  subst hZ
  exact ⟨[], 0, .slice none 0 0, ⟨Blk.new W _ _, ⟨rfl, .inl ⟨rfl, rfl⟩⟩, rfl, fun g hg => by simp [Value.ownBlock] at hg⟩, HeapL.nil, List.Perm.refl _, by omega⟩
theorem stack0 (W : World) (Z : Array Value) (hZ : Z = Array.replicate 600 (.bool false) ++ #[.int .i64 0]) : StackK W.heap.size (W.alloc (.cells Z 67)) (fun k => k = W.heap.size) [] := by
  refine ⟨Z, ⟨Blk.new W _ _, fun i hi => ?_, ?_⟩, rfl, fun c hc => by cases hc⟩
  · rw [hZ, Array.getElem?_append_left (by simp; omega)]
    simp [hi]
  · rw [hZ, Array.getElem?_append_right (by simp)]
    simp
    rfl

set_option maxRecDepth 100000 in
set_option maxHeartbeats 4000000 in
theorem countUp_any (v : Value) (L : List Nat) (b : Bool) (w : World) (h : NRow w v L) (hl : L.length ≤ 1000) (hb : ∀ c ∈ L, c ≤ 1000000) : Calls Tryd.prog 40 #[v, .bool b] w (CountP w (if b = true then (cntN L : Int) else -1)) := by
  obtain ⟨a, c, rfl⟩ := h.shape
  obtain ⟨N, hN⟩ : ∃ N, N = L.length := ⟨_, rfl⟩
  have HR : Hid (∀ i, i < N → ∃ g m, a = some ⟨g, 0, none⟩ ∧ N ≤ c ∧ L[i]? = some m ∧ w.cell? ⟨g, i, none⟩ = some (.int .i64 (m : Int))) := fun i hi => by
    obtain ⟨g, d, e, hc, hg, hh⟩ := h.get (by omega)
    simp only [Value.slice.injEq, true_and] at e
    obtain ⟨rfl, rfl⟩ := e
    have hm := List.getElem?_eq_getElem (l := L) (i := i) (by omega)
    exact ⟨g, _, rfl, by omega, hm, (hh i _ hm).1⟩
  have HN := Lib.hid hN
  have HB := Lib.hid hb
  rw [← hN] at hl ⊢
  clear h hN hb
  cases b with
  | false =>
    go_enter Tryd.func40, Tryd.ntmps40
    go_wp2_with fail
    go_ret
    exact ⟨rfl, Keeps.refl _ _⟩
  | true =>
    show Calls _ _ _ _ (CountP w (cntN L : Int))
    go_enter Tryd.func40, Tryd.ntmps40
    go_wp2_with fail
    go_loop [5, 12] (fun vo vi => ∃ i : Nat, i ≤ N ∧ vi = .int .i64 (i : Int) ∧ vo = .int .i64 (cntN (L.take i) : Int)) (fun _ vi => N - (intOf vi).toNat)
    case atStart => exact ⟨0, Nat.zero_le _, rfl, rfl⟩
    case round =>
      obtain ⟨i, hin, rfl, rfl⟩ := hrel
      obtain ⟨S, hS⟩ : ∃ S, S = cntN (L.take i) := ⟨_, rfl⟩
      have hSb : S ≤ 1000001 := by rw [hS]; exact cntN_le.2 (fun c hc => by have := HB.out c (List.mem_of_mem_take hc); omega)
      rw [← hS]
      by_cases hlt : i < N
      · obtain ⟨g, m, rfl, hc, hm, r1⟩ := HR.out i hlt
        have hi1 : (i : Int) < (N : Int) := by omega
        have hmb := HB.out m (List.mem_of_getElem? hm)
        have HE : Hid (cntN (L.take (i + 1)) = max S (m + 1)) := Lib.hid (by rw [List.take_add_one, hm]; show cntN (L.take i ++ [m]) = _; rw [cntN_snoc, hS])
        have hmx : ((max S (m + 1) : Nat) : Int) = if (S : Int) < (m : Int) + 1 then (m : Int) + 1 else (S : Int) := by split <;> omega
        have HMX := Lib.hid hmx
        clear hS hm hmx
        go_wp2_with fail
        go_round
        case rel => exact ⟨i + 1, hlt, by go_num, by rw [HE.out]; congr 1; omega⟩
        case measure => simp [intOf]; omega
      · have HE : Hid (cntN L = S) := by
          rw [List.take_of_length_le (by have := HN.out; omega)] at hS; exact Lib.hid hS.symm
        have hi1 : ¬ (i : Int) < (N : Int) := by omega
        clear hS
        go_wp2_with fail
        go_ret
        rw [HE.out]; exact ⟨rfl, Keeps.refl _ _⟩

end Go.Proofs.YthgocacabadflaaDoor

/-
  Walks of the law's own helpers on lists of numbers: eqIntS, markIntS, heldIntS.
-/
import Derived.Test.YtkfcgamdlckncaaIuW
import Derived.BigQuiet
import Derived.Deep.QuietTactic
namespace Go.Proofs.Ytkfcgamdlckncaa
set_option linter.unusedVariables false
set_option linter.unusedSimpArgs false
open Go.RowKit

/-- A row of numbers. -/
def IntRow (w : World) (v : Value) (n : Nat) (ks : List Int) : Prop := w.ownsRow 0 3 1 v n (ks.map (Value.int .i64))

theorem IntRow.keeps {may : Nat → Prop} {w w' : World} {v : Value} {n : Nat} {ks : List Int} (h : IntRow w v n ks) (q : Keeps may w w') (hm : ∀ g, v.ownBlock = some g → ¬ may g) : IntRow w' v n ks :=
  q.ownsRow h (fun g hg _ => hm g hg)

theorem IntRow.len {w : World} {v : Value} {n : Nat} {ks : List Int} (h : IntRow w v n ks) : ks.length = n := by
  have := h.1; simpa using this

theorem IntRow.get {w : World} {v : Value} {n : Nat} {ks : List Int} (h : IntRow w v n ks) (hn : 0 < n) :
    ∃ g c, v = .slice (some ⟨g, 0, none⟩) n c ∧ n ≤ c ∧ g < w.heap.size ∧ ∀ i (hi : i < n), w.cell? ⟨g, i, none⟩ = some (.int .i64 (ks.getD i 0)) ∧ w.frozen? ⟨g, i, none⟩ = false := by
  have hl := h.len
  obtain ⟨g, c, rfl, _, hg, hc⟩ := row_get (ok := fun _ => True) ⟨h, fun _ _ => trivial⟩ hn
  rcases h.2 with ⟨e, _⟩ | ⟨g', c', cur, e, _, hh, hnc, _⟩
  · cases e
  · simp only [Value.slice.injEq, Option.some.injEq, Addr.mk.injEq, and_true, true_and] at e
    obtain ⟨rfl, rfl⟩ := e
    refine ⟨g, c, rfl, hnc, hg, fun i hi => ⟨hc i _ ?_, (show Blk w g cur 3 from hh).free i⟩⟩
    have hi' : i < ks.length := by omega
    simp [List.getD, hi']

theorem IntRow.set {w : World} {g n c : Nat} {ks : List Int} (h : IntRow w (.slice (some ⟨g, 0, none⟩) n c) n ks) (i : Nat) (hi : i < n) (k : Int) :
    IntRow (w.setCell ⟨g, i, none⟩ (.int .i64 k)) (.slice (some ⟨g, 0, none⟩) n c) n (ks.set i k) := by
  obtain ⟨h1, h2⟩ := h
  refine ⟨by simpa using h1, ?_⟩
  rcases h2 with ⟨e, _⟩ | ⟨g', c', cur, e, hb, hh, hnc, hcm, hcs, htk⟩
  · cases e
  · simp only [Value.slice.injEq, Option.some.injEq, Addr.mk.injEq, and_true, true_and] at e
    obtain ⟨rfl, rfl⟩ := e
    refine .inr ⟨g, c, cur.setIfInBounds i (.int .i64 k), rfl, hb, (show Blk w g cur 3 from hh).set i _, hnc, hcm, by simpa using hcs, ?_⟩
    rw [Array.toList_setIfInBounds, List.take_set, htk, List.map_set]

theorem eqInt_same (a1 a2 : Option Addr) (c1 c2 n : Nat) (ks : List Int) (w : World) (h1 : IntRow w (.slice a1 n c1) n ks) (h2 : IntRow w (.slice a2 n c2) n ks) (hn : n ≤ 1000) :
    Calls Try.prog 35 #[.slice a1 n c1, .slice a2 n c2] w (fun e w' => e = .returned (.bool true) ∧ Keeps noB w w') := by
  have HR : Hid (∀ i, i < n → ∃ g1 g2, a1 = some ⟨g1, 0, none⟩ ∧ a2 = some ⟨g2, 0, none⟩ ∧ n ≤ c1 ∧ n ≤ c2 ∧ ∀ wr, Keeps noB w wr → wr.cell? ⟨g1, i, none⟩ = some (.int .i64 (ks.getD i 0)) ∧ wr.cell? ⟨g2, i, none⟩ = some (.int .i64 (ks.getD i 0))) := by
    intro i hi
    obtain ⟨g1, d1, e1, hc1, hg1, hh1⟩ := h1.get (by omega)
    obtain ⟨g2, d2, e2, hc2, hg2, hh2⟩ := h2.get (by omega)
    simp only [Value.slice.injEq, true_and] at e1 e2
    obtain ⟨rfl, rfl⟩ := e1
    obtain ⟨rfl, rfl⟩ := e2
    exact ⟨g1, g2, rfl, rfl, hc1, hc2, fun wr q => ⟨(q.cell (p := ⟨g1, i, none⟩) hg1 id).trans (hh1 i hi).1, (q.cell (p := ⟨g2, i, none⟩) hg2 id).trans (hh2 i hi).1⟩⟩
  clear h1 h2
  have hnn : ((n : Int) != (n : Int)) = false := by simp
  go_enter Try.func35, Try.ntmps35
  go_wp2_with fail
  go_loopw [5] (fun v5 wr => ∃ i : Nat, i ≤ n ∧ v5 = .int .i64 (i : Int) ∧ Keeps noB w wr) (fun v5 _ => n - (intOf v5).toNat)
  case atStart => exact ⟨0, Nat.zero_le _, rfl, Keeps.refl _ _⟩
  case round =>
    obtain ⟨i, hin, rfl, q⟩ := hrel
    by_cases hlt : i < n
    · obtain ⟨g1, g2, rfl, rfl, hc1, hc2, hcell⟩ := HR.out i hlt
      obtain ⟨r1, r2⟩ := hcell _ q
      have HQ := Lib.hid q
      have hkk : (ks.getD i 0 != ks.getD i 0) = false := by simp
      obtain ⟨kv, hkv⟩ : ∃ kv, ks.getD i 0 = kv := ⟨_, rfl⟩
      rw [hkv] at r1 r2 hkk
      clear hcell q hkv
      have hi1 : (i : Int) < (n : Int) := by omega
      go_wp2_with fail
      go_quiet (fail)
      go_wp2_with fail
      go_roundw
      case rel => exact ⟨i + 1, by omega, by go_num, HQ.out.drewN _⟩
      case measure => simp [intOf]; omega
    · have HQ := Lib.hid q
      clear q
      go_wp2_with fail
      go_ret
      exact ⟨rfl, HQ.out⟩

def marks (k : Int) (n : Nat) : List Int := (List.range n).map (fun i : Nat => k + (i : Int))

theorem marks_step (k : Int) (i n : Nat) (ks : List Int) (hl : ks.length = n) (hi : i < n) : (marks k i ++ ks.drop i).set i (k + (i : Int)) = marks k (i + 1) ++ ks.drop (i + 1) := by
  have hm : (marks k i).length = i := by simp [marks]
  rw [List.set_append_right _ _ (by omega), hm, Nat.sub_self, List.drop_eq_getElem_cons (by omega)]
  simp [marks, List.range_succ, List.set]

def MarkPost (w : World) (v : Value) (n : Nat) (k : Int) (e : Ending) (w' : World) : Prop :=
  e = .returned (.int .i64 (k + n)) ∧ IntRow w' v n (marks k n) ∧ Keeps (fun b => v.ownBlock = some b) w w'

theorem mark_int (a : Option Addr) (c n : Nat) (ks : List Int) (k : Int) (w : World) (h : IntRow w (.slice a n c) n ks) (hn : n ≤ 1000) (hk : 0 ≤ k) (hk2 : k ≤ 1000000) :
    Calls Try.prog 36 #[.slice a n c, .int .i64 k] w (MarkPost w (.slice a n c) n k) := by
  have hl := h.len
  have HL := Lib.hid hl
  have HH := Lib.hid h
  clear h hl
  go_enter Try.func36, Try.ntmps36
  go_wp2_with fail
  go_loopw [1, 5] (fun v1 v5 wr => ∃ i : Nat, i ≤ n ∧ v1 = .int .i64 (k + (i : Int)) ∧ v5 = .int .i64 (i : Int) ∧ IntRow wr (.slice a n c) n (marks k i ++ ks.drop i) ∧ Keeps (fun b => (Value.slice a n c).ownBlock = some b) w wr) (fun _ v5 _ => n - (intOf v5).toNat)
  case atStart => exact ⟨0, Nat.zero_le _, by simp, rfl, by simpa [marks] using HH.out, Keeps.refl _ _⟩
  case round =>
    obtain ⟨i, hin, rfl, rfl, hrow, q⟩ := hrel
    by_cases hlt : i < n
    · obtain ⟨g, d, e, hc, hg, hcell⟩ := hrow.get (by omega)
      simp only [Value.slice.injEq, true_and] at e
      obtain ⟨rfl, rfl⟩ := e
      obtain ⟨r1, z1⟩ := hcell i hlt
      have HE : Hid (IntRow (wr.setCell ⟨g, i, none⟩ (.int .i64 (k + (i : Int)))) (.slice (some ⟨g, 0, none⟩) n c) n (marks k (i + 1) ++ ks.drop (i + 1)) ∧ Keeps (fun b => (Value.slice (some ⟨g, 0, none⟩) n c).ownBlock = some b) w (wr.setCell ⟨g, i, none⟩ (.int .i64 (k + (i : Int))))) := by
        have := hrow.set i hlt (k + (i : Int))
        rw [marks_step k i n ks HL.out hlt] at this
        exact ⟨this, q.setCell (.inl (by simp [Value.ownBlock])) _⟩
      have hi1 : (i : Int) < (n : Int) := by omega
      have hi2 : (i : Int) ≤ 1000 := by omega
      clear hcell hrow q HH
      go_wp2_with fail
      go_roundw
      case rel => exact ⟨i + 1, by omega, by go_num, by go_num, HE.out⟩
      case measure => simp [intOf]; omega
    · have hie : i = n := by omega
      have HE : Hid (MarkPost w (.slice a n c) n k (.returned (.int .i64 (k + (i : Int)))) wr) := by
        subst hie
        rw [List.drop_of_length_le (by have := HL.out; omega), List.append_nil] at hrow
        exact ⟨rfl, hrow, q⟩
      clear hrow q hie HH
      go_wp2_with fail
      go_ret
      exact HE.out

theorem held_int (a : Option Addr) (c n : Nat) (k : Int) (w : World) (h : IntRow w (.slice a n c) n (marks k n)) (hn : n ≤ 1000) (hk : 0 ≤ k) (hk2 : k ≤ 1000000) :
    Calls Try.prog 37 #[.slice a n c, .int .i64 k] w (fun e w' => e = .returned (.int .i64 (k + n)) ∧ w' = w) := by
  have HR : Hid (∀ i, i < n → ∃ g, a = some ⟨g, 0, none⟩ ∧ n ≤ c ∧ w.cell? ⟨g, i, none⟩ = some (.int .i64 (k + (i : Int)))) := by
    intro i hi
    obtain ⟨g, d, e, hc, hg, hh⟩ := h.get (by omega)
    simp only [Value.slice.injEq, true_and] at e
    obtain ⟨rfl, rfl⟩ := e
    refine ⟨g, rfl, hc, ?_⟩
    rw [(hh i hi).1]
    simp [marks, List.getD, hi]
  clear h
  go_enter Try.func37, Try.ntmps37
  go_wp2_with fail
  go_loop [1, 5] (fun v1 v5 => ∃ i : Nat, i ≤ n ∧ v1 = .int .i64 (k + (i : Int)) ∧ v5 = .int .i64 (i : Int)) (fun _ v5 => n - (intOf v5).toNat)
  case atStart => exact ⟨0, Nat.zero_le _, by simp, rfl⟩
  case round =>
    obtain ⟨i, hin, rfl, rfl⟩ := hrel
    by_cases hlt : i < n
    · obtain ⟨g, rfl, hc, r1⟩ := HR.out i hlt
      have hi1 : (i : Int) < (n : Int) := by omega
      have hi2 : (i : Int) ≤ 1000 := by omega
      have hkk : (k + (i : Int) != k + (i : Int)) = false := by simp
      go_wp2_with fail
      go_round
      case rel => exact ⟨i + 1, by omega, by go_num, by go_num⟩
      case measure => simp [intOf]; omega
    · have hie : i = n := by omega
      have HE : Hid (k + (i : Int) = k + (n : Int)) := Lib.hid (by rw [hie])
      clear hie
      go_wp2_with fail
      go_ret
      exact ⟨congrArg (fun z => Ending.returned (.int .i64 z)) HE.out, rfl⟩

end Go.Proofs.Ytkfcgamdlckncaa

/-
  Walks of the law's own helpers on lists of visits: markVisitS, heldVisitS.
-/
import Derived.Test.YtfnaikopogojbaaMv
import Derived.Deep.RegionWith
namespace Go.Proofs.Ytfnaikopogojbaa
set_option linter.unusedVariables false
set_option linter.unusedSimpArgs false
open Go.RowKit

/-- The i-th mark of a list of visits. -/
def markV (k i : Nat) : Int × ByteArray := (((k + 2 * i : Nat) : Int), ⟨(markT (k + 2 * i + 1)).toArray⟩)
def marksV (k n : Nat) : List (Int × ByteArray) := (List.range n).map (markV k)

theorem marksV_step (k i n : Nat) (l : List (Int × ByteArray)) (hl : l.length = n) (hi : i < n) : (marksV k i ++ l.drop i).set i (markV k i) = marksV k (i + 1) ++ l.drop (i + 1) := by
  have hm : (marksV k i).length = i := by simp [marksV]
  rw [List.set_append_right _ _ (by omega), hm, Nat.sub_self, List.drop_eq_getElem_cons (by omega)]
  simp [marksV, List.range_succ, List.set]

def MarkVPost (w : World) (v : Value) (n k : Nat) (e : Ending) (w' : World) : Prop :=
  e = .returned (.int .i64 ((k + 2 * n : Nat) : Int)) ∧ VRow w' v n (marksV k n) ∧ Keeps (fun b => v.ownBlock = some b) w w'

/-- What the loop of markVisitS holds. -/
def MarkVAt (w : World) (a : Option Addr) (n c k : Nat) (l : List (Int × ByteArray)) (v1 v5 : Value) (wr : World) : Prop :=
  ∃ (i kk : Nat), i ≤ n ∧ kk = k + 2 * i ∧ v1 = .int .i64 (kk : Int) ∧ v5 = .int .i64 (i : Int) ∧ VRow wr (.slice a n c) n (marksV k i ++ l.drop i) ∧ Keeps (fun b => (Value.slice a n c).ownBlock = some b) w wr

set_option maxRecDepth 100000 in
set_option maxHeartbeats 2000000 in
theorem mark_visits (a : Option Addr) (c n : Nat) (l : List (Int × ByteArray)) (k : Nat) (w : World) (h : VRow w (.slice a n c) n l) (hn : n ≤ 10000) (hk : k ≤ 1000) :
    Calls Try.prog 50 #[.slice a n c, .int .i64 (k : Int)] w (MarkVPost w (.slice a n c) n k) := by
  have HL := Lib.hid h.len
  have HP : Hid (MarkVAt w a n c k l (.int .i64 (k : Int)) (.int .i64 0) w) := ⟨0, k, Nat.zero_le _, rfl, rfl, rfl, h, Keeps.refl _ _⟩
  clear h
  go_enter Try.func50, Try.ntmps50
  go_wp2_with fail
  go_loopw [1, 5] (fun v1 v5 wr => MarkVAt w a n c k l v1 v5 wr) (fun _ v5 _ => n - (intOf v5).toNat)
  case atStart => exact HP.out
  case round =>
    clear HP
    obtain ⟨i, kk, hin, hkk, rfl, rfl, hrow, q⟩ := hrel
    by_cases hlt : i < n
    · obtain ⟨g, d, e, hc, hg, hcell⟩ := hrow.get (by omega)
      simp only [Value.slice.injEq, true_and] at e
      obtain ⟨rfl, rfl⟩ := e
      have hil : i < (marksV k i ++ l.drop i).length := by rw [hrow.len]; exact hlt
      obtain ⟨p, hp⟩ : ∃ p, (marksV k i ++ l.drop i)[i]? = some p := ⟨_, List.getElem?_eq_getElem hil⟩
      obtain ⟨r1, r2, z1, z2⟩ := hcell i p hp
      have HT : Hid (∀ w, Calls Try.prog 83 #[.int .i64 ((kk : Int) + 1)] w (fun e w' => e = .returned (str (markT (kk + 1))) ∧ Keeps noB w w')) := fun w => by
        have := markText_any (kk + 1) (by omega) (by omega) w
        rw [show ((kk + 1 : Nat) : Int) = (kk : Int) + 1 by omega] at this
        exact this
      have HX : Hid (∀ w2, Keeps noB (wr.setCell ⟨g, i * 2, none⟩ (.int .i64 (kk : Int))) w2 → w2.frozen? ⟨g, i * 2 + 1, none⟩ = false ∧ (∃ x, w2.cell? ⟨g, i * 2 + 1, none⟩ = some x) ∧
          MarkVAt w (some ⟨g, 0, none⟩) n c k l (.int .i64 ((kk : Int) + 1 + 1)) (.int .i64 ((i : Int) + 1)) (w2.setCell ⟨g, i * 2 + 1, none⟩ (.string ⟨(markT (kk + 1)).toArray⟩))) := by
        intro w2 q2
        have h1 := (hrow.set hp (kk : Int) ⟨#[]⟩).1
        have h2 := h1.keeps q2 (fun _ _ e => e)
        have hp2 : ((marksV k i ++ l.drop i).set i ((kk : Int), p.2))[i]? = some ((kk : Int), p.2) := List.getElem?_set_self hil
        have h3 := (h2.set hp2 0 ⟨(markT (kk + 1)).toArray⟩).2
        obtain ⟨g', d', e', _, _, hc2⟩ := h2.get (by omega)
        simp only [Value.slice.injEq, Option.some.injEq, Addr.mk.injEq, and_true, true_and] at e'
        obtain ⟨rfl, rfl⟩ := e'
        obtain ⟨_, x2, _, y2⟩ := hc2 i _ hp2
        refine ⟨y2, ⟨_, x2⟩, i + 1, kk + 2, by omega, by omega, by simp; omega, by simp, ?_, ?_⟩
        · have e3 : ((marksV k i ++ l.drop i).set i ((kk : Int), p.2)).set i ((kk : Int), ⟨(markT (kk + 1)).toArray⟩) = marksV k (i + 1) ++ l.drop (i + 1) := by
            rw [List.set_set, ← marksV_step k i n l HL.out hlt, hkk]
            rfl
          rw [← e3]
          exact h3
        · exact ((q.setCell (p := ⟨g, i * 2, none⟩) (.inl (show (Value.slice (some ⟨g, 0, none⟩) n c).ownBlock = some g from rfl)) (.int .i64 (kk : Int))).trans (q2.mono (fun _ e => e.elim))).setCell (p := ⟨g, i * 2 + 1, none⟩) (.inl (show (Value.slice (some ⟨g, 0, none⟩) n c).ownBlock = some g from rfl)) _
      have hi1 : (i : Int) < (n : Int) := by omega
      have hi0 : (0 : Int) ≤ (i : Int) := by omega
      have hi2 : (i : Int) ≤ 10000 := by omega
      have hk1 : (kk : Int) ≤ 100000 := by omega
      have hk0 : (0 : Int) ≤ (kk : Int) := by omega
      have hcn : (n : Int) ≤ (c : Int) := by omega
      generalize markT (kk + 1) = mt at HT HX
      unfold str at HT
      clear hcell hrow q hp hkk hil
      generalize (kk : Int) = kv at *
      go_wp2_with (go_at_call 83; refine (HT.out _).mono ?_; rintro e w2 ⟨rfl, q2⟩; have ⟨y2, ⟨x2, hx2⟩, hE⟩ := HX.out _ q2; have HE := Lib.hid hE; clear q2 hE)
      go_roundw
      case rel => exact HE.out
      case measure => simp [intOf]; omega
    · have hie : i = n := by omega
      have HE : Hid (MarkVPost w (.slice a n c) n k (.returned (.int .i64 (kk : Int))) wr) := by
        subst hie
        rw [List.drop_of_length_le (by have := HL.out; omega), List.append_nil] at hrow
        exact ⟨by rw [hkk], hrow, q⟩
      clear hrow q hie hkk
      go_wp2_with fail
      go_ret
      exact HE.out

/-- What the loop of heldVisitS holds. -/
def HeldVAt (w : World) (n k : Nat) (v1 v5 : Value) (wr : World) : Prop := ∃ i kk : Nat, i ≤ n ∧ kk = k + 2 * i ∧ v1 = .int .i64 (kk : Int) ∧ v5 = .int .i64 (i : Int) ∧ Keeps noB w wr

set_option maxRecDepth 100000 in
set_option maxHeartbeats 2000000 in
theorem held_visits (a : Option Addr) (c n k : Nat) (w : World) (h : VRow w (.slice a n c) n (marksV k n)) (hn : n ≤ 10000) (hk : k ≤ 1000) :
    Calls Try.prog 51 #[.slice a n c, .int .i64 (k : Int)] w (fun e w' => e = .returned (.int .i64 ((k + 2 * n : Nat) : Int)) ∧ Keeps noB w w') := by
  have HR : Hid (∀ i, i < n → ∃ g, a = some ⟨g, 0, none⟩ ∧ n ≤ c ∧ ∀ wr, Keeps noB w wr → wr.cell? ⟨g, i * 2, none⟩ = some (.int .i64 ((k + 2 * i : Nat) : Int)) ∧ wr.cell? ⟨g, i * 2 + 1, none⟩ = some (.string ⟨(markT (k + 2 * i + 1)).toArray⟩)) := by
    intro i hi
    obtain ⟨g, d, e, hc, hg, hh⟩ := h.get (by omega)
    simp only [Value.slice.injEq, true_and] at e
    obtain ⟨rfl, rfl⟩ := e
    have hp : (marksV k n)[i]? = some (markV k i) := by simp [marksV, hi]
    obtain ⟨r1, r2, _⟩ := hh i _ hp
    exact ⟨g, rfl, hc, fun wr q => ⟨(q.cell (p := ⟨g, i * 2, none⟩) hg id).trans r1, (q.cell (p := ⟨g, i * 2 + 1, none⟩) hg id).trans r2⟩⟩
  clear h
  go_enter Try.func51, Try.ntmps51
  go_wp2_with fail
  go_loopw [1, 5] (fun v1 v5 wr => HeldVAt w n k v1 v5 wr) (fun _ v5 _ => n - (intOf v5).toNat)
  case atStart => exact ⟨0, k, Nat.zero_le _, rfl, rfl, rfl, Keeps.refl _ _⟩
  case round =>
    obtain ⟨i, kk, hin, hkk, rfl, rfl, q⟩ := hrel
    by_cases hlt : i < n
    · obtain ⟨g, rfl, hc, hcell⟩ := HR.out i hlt
      rw [← hkk] at hcell
      have r1 := (hcell wr q).1
      have HT : Hid (∀ w, Calls Try.prog 83 #[.int .i64 ((kk : Int) + 1)] w (fun e w' => e = .returned (str (markT (kk + 1))) ∧ Keeps noB w w')) := fun w => by
        have := markText_any (kk + 1) (by omega) (by omega) w
        rw [show ((kk + 1 : Nat) : Int) = (kk : Int) + 1 by omega] at this
        exact this
      have HX : Hid (∀ w2, Keeps noB wr w2 → w2.cell? ⟨g, i * 2 + 1, none⟩ = some (.string ⟨(markT (kk + 1)).toArray⟩) ∧ Keeps noB w w2) := fun w2 q2 => ⟨(hcell w2 (q.trans q2)).2, q.trans q2⟩
      have hi1 : (i : Int) < (n : Int) := by omega
      have hi0 : (0 : Int) ≤ (i : Int) := by omega
      have hi2 : (i : Int) ≤ 10000 := by omega
      have hk1 : (kk : Int) ≤ 100000 := by omega
      have hk0 : (0 : Int) ≤ (kk : Int) := by omega
      have hcn : (n : Int) ≤ (c : Int) := by omega
      have hkb : ((kk : Int) != (kk : Int)) = false := by simp
      have HKK : Hid (kk + 2 = k + 2 * (i + 1)) := Lib.hid (by omega)
      generalize markT (kk + 1) = mt at HT HX
      unfold str at HT
      obtain ⟨mb, hmb⟩ : ∃ mb : ByteArray, mb = ⟨mt.toArray⟩ := ⟨_, rfl⟩
      rw [← hmb] at HT HX
      have hbb : (mb.toList != mb.toList) = false := by simp
      have ry := (HX.out wr (Keeps.refl _ _)).1
      clear hcell q hkk hmb
      go_wp2_with fail
      go_region_with (go_at_call 83; refine (HT.out _).mono ?_; rintro e w2 ⟨rfl, q2⟩; have ⟨y2, hE⟩ := HX.out _ ((Keeps.refl noB wr).drew.trans q2); have HE := Lib.hid hE; clear q2 hE)
      all_goals
        go_wp2_with fail
      all_goals
        exact ⟨⟨i + 1, kk + 2, hlt, HKK.out, by simp; omega, by simp, HE.out⟩, by simp [intOf]; omega⟩
    · have hie : i = n := by omega
      subst hie
      have HE : Hid ((kk : Int) = ((k + 2 * i : Nat) : Int) ∧ Keeps noB w wr) := ⟨by rw [hkk], q⟩
      clear q hkk
      go_wp2_with fail
      go_ret
      exact ⟨congrArg (fun z => Ending.returned (.int .i64 z)) HE.out.1, HE.out.2⟩

end Go.Proofs.Ytfnaikopogojbaa

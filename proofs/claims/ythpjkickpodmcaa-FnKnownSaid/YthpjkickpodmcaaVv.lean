/-
  The model's UnsureAt.
-/
import Derived.Test.YthpjkickpodmcaaVs
namespace Go.Proofs.Ythpjkickpodmcaa
set_option linter.unusedVariables false
set_option linter.unusedSimpArgs false
open Go.RowKit

theorem lets_strikes (s t : Nat) : (lets s).filter (fun u => !(lets t).contains u) = lets (strike s t) := by
  unfold lets
  rw [List.filter_filter]
  refine filter_abc fun v hv => ?_
  have e := lets_contains (s := t) hv
  unfold lets at e
  rw [e, hasV_strike hv, Bool.and_comm]

theorem unsure_at (s : ByteArray) (at_ : Int) : unsureT (knownP s at_) = ⟨((mayL ((atK s at_).getD Kn.no)).filter (fun u => !(mustL ((atK s at_).getD Kn.no)).contains u)).toArray⟩ := by
  rw [known_at]
  cases h : atK s at_ with
  | none => simp only [seenK, unsureT, Option.getD]; rw [mayL_no]; rfl
  | some k =>
    simp only [seenK, Option.getD]
    by_cases hn : k = Kn.no
    · rw [if_pos hn, hn]; simp only [unsureT]; rw [mayL_no]; rfl
    · rw [if_neg hn]; simp only [unsureT]; rw [mustL_live hn]; unfold mayL; rw [lets_strikes]

theorem resUnsureS (W : World) (x : ByteArray) (v : Bool) (tmps : Array Value) (h1 : tmps.getD 4 undef = .string x) (h2 : tmps.getD 5 undef = .bool v) : (results Try.f30 tmps).run Try.prog W = .ok (.tuple #[.string x, .bool v]) W := by
  have h1' : tmps[4]?.getD undef = .string x := by simpa using h1
  have h2' : tmps[5]?.getD undef = .bool v := by simpa using h2
  simp [results, Try.results30, go_sem, h1', h2']

/-- What the loop of UnsureAt holds. -/
def UnAt (w : World) (may must : List UInt8) (vo vi : Value) (wr : World) : Prop :=
  ∃ (i : Nat) (out : List UInt8), i ≤ must.length ∧ vi = .int .i64 (i : Int) ∧ vo = .string ⟨out.toArray⟩ ∧ out = may.filter (fun u => !(must.take i).contains u) ∧ wr = w

set_option maxRecDepth 100000 in
set_option maxHeartbeats 2000000 in
theorem sunsureAt_any (s : ByteArray) (hs : s.size ≤ 1048576) (at_ : Int) (w : World) : Calls Try.prog 30 #[.string s, .int .i64 at_] w (fun e w' => e = .returned (.tuple #[.string (unsureT (knownP s at_)), .bool (knownP s at_).isSome]) ∧ Keeps noB w w') := by
  have HC := Lib.hid (fun w => slat_any s hs at_ w)
  rw [unsure_at, some_at]
  rw [stV_eq] at HC
  generalize (atK s at_).getD Kn.no = r at *
  generalize (atK s at_).isSome = bv at *
  have hm6 := mayL_len r
  have hu6 := mustL_len r
  have e1 : mayB r = ⟨(mayL r).toArray⟩ := rfl
  have e2 : mustB r = ⟨(mustL r).toArray⟩ := rfl
  rw [e1, e2] at HC
  clear e1 e2
  generalize liveK r = c0 at *
  generalize mayL r = ml at *
  generalize mustL r = ul at *
  obtain ⟨sv, hsv⟩ : ∃ sv : ByteArray, sv = ⟨ul.toArray⟩ := ⟨_, rfl⟩
  rw [← hsv] at HC
  have hsz : sv.size = ul.length := by rw [hsv]; exact size_arr ul
  have hget : ∀ (i : Nat) (hi : i < sv.size), ul[i]? = some sv[i] := by
    intro i hi
    subst hsv
    rw [List.getElem?_eq_getElem (by omega)]
    rfl
  have HX : Hid (∀ (i : Nat) (hi : i < sv.size), ml.filter (fun u => !(ul.take (i + 1)).contains u) = (ml.filter (fun u => !(ul.take i).contains u)).filter (fun u => u != sv[i])) := fun i hi => by
    rw [List.filter_filter, List.take_add_one, hget i hi]
    refine List.filter_congr fun u _ => ?_
    rw [List.contains_append]
    by_cases h : u = sv[i] <;> cases (ul.take i).contains u <;> simp [h]
  have HS := Lib.hid (And.intro hsz (And.intro hm6 hu6))
  have hsz1 : (sv.size : Int) ≤ 6 := by omega
  have HW : Hid (∀ (l : List UInt8) (hl : l.length ≤ 6) (v : UInt8) (w : World), Calls Try.prog 53 #[.string ⟨l.toArray⟩, .int .u8 (v.toNat : Int)] w (fun e w' => e = .returned (.string ⟨(l.filter (fun u => u != v)).toArray⟩) ∧ w' = w)) := fun l hl v w => swithout_any l hl v w
  have HP : Hid (∀ W, UnAt W ml ul (.string ⟨ml.toArray⟩) (.int .i64 0) W) := fun W => ⟨0, ml, Nat.zero_le _, rfl, rfl, (List.filter_eq_self.2 (by simp)).symm, rfl⟩
  clear hsv hget hsz hm6 hu6
  cases bv
  all_goals
    go_enter Try.func30, Try.ntmps30
    go_wp2_with (go_at_call 52; refine (HC.out _).mono ?_; rintro e1 w1 ⟨rfl, q1⟩)
    have HQ := Lib.hid (q1.alloc (.cells #[.string ⟨ml.toArray⟩, .string sv, .bool c0] 86))
    have b1 := Blk.new w1 #[.string ⟨ml.toArray⟩, .string sv, .bool c0] 86
    have HB1 := Lib.hid b1
    clear q1 b1
    generalize w1.alloc (.cells #[.string ⟨ml.toArray⟩, .string sv, .bool c0] 86) = w2 at *
    have r1 : w2.cell? ⟨w1.heap.size, 1, none⟩ = some (.string sv) := (HB1.out.cell 1).trans rfl
    have r2 : w2.cell? ⟨w1.heap.size, 2, none⟩ = some (.bool c0) := (HB1.out.cell 2).trans rfl
    go_loopw [8, 21] (fun vo vi wr => UnAt w2 ml ul vo vi wr) (fun _ vi _ => sv.size - (intOf vi).toNat)
    case atStart => exact HP.out _
    case round =>
      obtain ⟨i, out, hil, rfl, rfl, hout, rfl⟩ := hrel
      by_cases hi : i < sv.size
      · have hnx := HX.out i hi
        have hol : out.length ≤ 6 := by rw [hout]; exact Nat.le_trans (List.length_filter_le _ _) HS.out.2.1
        have HWo := Lib.hid (HW.out out hol sv[i])
        have HN : Hid (UnAt wr ml ul (.string ⟨(out.filter (fun u => u != sv[i])).toArray⟩) (.int .i64 ((i : Int) + 1)) wr) := ⟨i + 1, _, by have := HS.out.1; omega, by simp, rfl, by rw [hnx, hout], rfl⟩
        have hi0 : (0 : Int) ≤ (i : Int) := by omega
        have hi1 : (i : Int) < (sv.size : Int) := by omega
        have h3 : ((i : Int) + 1).toNat = i + 1 := by omega
        clear hnx hout hol HP HX hil
        go_wp2_with (go_at_call 53; refine (HWo.out _).mono ?_; rintro e2 w3 ⟨rfl, rfl⟩)
        exact ⟨HN.out, by simp [intOf]; omega⟩
      · have hie : i = ul.length := by have := HS.out.1; omega
        have HE : Hid (out = ml.filter (fun u => !ul.contains u)) := Lib.hid (by rw [hout, hie, List.take_length])
        have hi1 : ¬ (i : Int) < (sv.size : Int) := by omega
        clear hout hie HX HP hil
        go_wp2_with fail
        go_quiet (fail)
        all_goals
          go_wp2_with fail
          exact bodyPost_ret (resUnsureS _ _ _ _ rfl rfl) rfl ⟨by have e := HE.out; subst e; rfl, HQ.out.drewN _⟩

end Go.Proofs.Ythpjkickpodmcaa

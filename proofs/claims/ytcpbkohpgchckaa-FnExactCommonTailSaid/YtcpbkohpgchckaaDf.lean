/-
  The model's faces of exits: ExitsOf, l9At and CleanupOf, CountAlone.
-/
import Derived.Test.YtcpbkohpgchckaaDe
namespace Go.Proofs.Ytcpbkohpgchckaa
set_option linter.unusedVariables false
set_option linter.unusedSimpArgs false
open Go.RowKit

/-! ### ExitsOf -/
theorem resSExits (W : World) (v b : Value) (tmps : Array Value) (h2 : tmps.getD 2 undef = v) (h3 : tmps.getD 3 undef = b) : (results Try.f30 tmps).run Try.prog W = .ok (.tuple #[v, b]) W := by
  have h2' : tmps[2]?.getD undef = v := by simpa using h2
  have h3' : tmps[3]?.getD undef = b := by simpa using h3
  simp [results, Try.results30, go_sem, h2', h3']

set_option maxRecDepth 100000 in
set_option maxHeartbeats 4000000 in
theorem sexitsOf_any (s : ByteArray) (hs : s.size ≤ 1048576) (w : World) : Calls Try.prog 30 #[.string s] w (NumsPost w ((exitsP s).map (fun l => l.map Prod.fst))) := by
  have H := Lib.hid (sexits_any s hs w)
  generalize exitsP s = res at *
  go_enter Try.func30, Try.ntmps30
  go_wp2_with fail
  refine H.out.mono ?_
  rintro e w1 ⟨v1, v2, rfl, hr1, hr2, q1⟩
  obtain ⟨a1, k1, rfl⟩ := row_shape hr1
  obtain ⟨a2, k2, rfl⟩ := row_shape hr2
  have HX := Lib.hid (And.intro hr1 q1)
  clear hr1 hr2 q1
  obtain ⟨n, hn⟩ : ∃ n, (res.getD []).length = n := ⟨_, rfl⟩
  have HN := Lib.hid hn
  rw [hn]
  rw [hn] at HX
  clear hn
  obtain ⟨bv, hbv⟩ : ∃ bv, res.isSome = bv := ⟨_, rfl⟩
  have HBV := Lib.hid hbv
  rw [hbv]
  clear hbv
  go_wp2_with fail
  refine bodyPost_ret (resSExits _ (.slice a1 n k1) (.bool bv) _ rfl rfl) rfl ?_
  have hl : (begC (res.getD [])).length = n := by rw [← HN.out]; unfold begC; rw [List.length_map]
  refine ⟨_, _, begC (res.getD []), rfl, by rw [hl]; exact HX.out.1, HX.out.2, ?_, ?_⟩
  · rw [← HBV.out]; cases res <;> rfl
  · cases res with
    | none => rfl
    | some l => show begC l = (l.map Prod.fst).map (fun k => i64 k); unfold begC; rw [List.map_map]; rfl

/-! ### l9At, CleanupOf -/
def findC (l : List Pt) (at_ : Int) : Option (List UInt8) := (l.find? (fun q => (q.1 : Int) == at_)).map Prod.snd
theorem cleanupP_find (s : ByteArray) (at_ : Int) : cleanupP s at_ = findC ((exitsP s).getD []) at_ := by
  unfold cleanupP findC exitsP
  cases progP s <;> rfl

theorem resL9At (W : World) (v b : Value) (tmps : Array Value) (h4 : tmps.getD 4 undef = v) (h5 : tmps.getD 5 undef = b) : (results Try.f68 tmps).run Try.prog W = .ok (.tuple #[v, b]) W := by
  have h4' : tmps[4]?.getD undef = v := by simpa using h4
  have h5' : tmps[5]?.getD undef = b := by simpa using h5
  simp [results, Try.results68, go_sem, h4', h5']

/-- What the loop of l9At holds. -/
def L9At (w2 : World) (l : List Pt) (at_ : Int) (vi : Value) (wr : World) : Prop :=
  ∃ (done todo : List Pt), l = done ++ todo ∧ vi = .int .i64 done.length ∧ wr = w2 ∧ ∀ q ∈ done, ((q.1 : Int) == at_) = false

theorem findC_none {l : List Pt} {at_ : Int} (h : ∀ q ∈ l, ((q.1 : Int) == at_) = false) : findC l at_ = none := by
  unfold findC
  rw [List.find?_eq_none.2 (fun q hq => by rw [h q hq]; decide)]; rfl
theorem findC_some {l : List Pt} {at_ : Int} {pre post : List Pt} {q : Pt} (hall : l = pre ++ q :: post) (h : ∀ q ∈ pre, ((q.1 : Int) == at_) = false) (hq : ((q.1 : Int) == at_) = true) : findC l at_ = some q.2 := by
  unfold findC
  rw [hall, List.find?_append, List.find?_eq_none.2 (fun q hq => by rw [h q hq]; decide), List.find?_cons_of_pos (by simpa using hq)]; rfl

def CleanEnds (w : World) (r : Option (List UInt8)) (e : Ending) (w' : World) : Prop := e = .returned (.tuple #[.string ⟨(r.getD []).toArray⟩, .bool r.isSome]) ∧ Keeps noB w w'

theorem exitsP_few (s : ByteArray) : ((exitsP s).getD []).length ≤ 80 := by
  unfold exitsP
  cases hp : progP s with
  | none => exact Nat.zero_le _
  | some x => exact exits_few hp

set_option maxRecDepth 100000 in
set_option maxHeartbeats 4000000 in
theorem l9At_any (s : ByteArray) (hs : s.size ≤ 1048576) (at_ : Int) (w : World) : Calls Try.prog 68 #[.string s, .int .i64 at_] w (CleanEnds w (cleanupP s at_)) := by
  rw [cleanupP_find]
  have H := Lib.hid (sexits_any s hs w)
  have hfew := exitsP_few s
  generalize exitsP s = res at *
  obtain ⟨l, hl⟩ : ∃ l, res.getD [] = l := ⟨_, rfl⟩
  unfold ExitsPostS at H
  rw [hl] at hfew H ⊢
  obtain ⟨n, hn⟩ : ∃ n, n = l.length := ⟨_, rfl⟩
  rw [← hn] at H hfew
  have HN := Lib.hid hn
  have hn80 : n ≤ 80 := hfew
  rcases Nat.eq_zero_or_pos n with h0 | hpos
  · have HNO : Hid (findC l at_ = none) := Lib.hid (by
      have : l = [] := List.length_eq_zero_iff.1 (by omega)
      rw [this]; rfl)
    subst h0
    clear hn hl hfew
    go_enter Try.func68, Try.ntmps68
    go_wp2_with fail
    refine H.out.mono ?_
    rintro e w2 ⟨v1, v2, rfl, hr1, hr2, q2⟩
    obtain ⟨a1, k1, rfl⟩ := row_shape hr1
    obtain ⟨a2, k2, rfl⟩ := row_shape hr2
    have HQ := Lib.hid q2
    clear hr1 hr2 q2
    generalize res.isSome = bv at *
    go_upto_region 3 with fail
    go_loopw [19] (fun vi wr => vi = .int .i64 0 ∧ wr = w2) (fun _ _ => 0)
    case atStart => exact ⟨rfl, rfl⟩
    case round =>
      obtain ⟨rfl, rfl⟩ := hrel
      go_wp2_with fail
      refine bodyPost_ret (resL9At _ (.string ⟨#[]⟩) (.bool false) _ rfl rfl) rfl ?_
      rw [HNO.out]
      exact ⟨rfl, HQ.out⟩
  · obtain ⟨RES, hRES⟩ : ∃ RES, findC l at_ = RES := ⟨_, rfl⟩
    rw [hRES]
    have HRES := Lib.hid hRES
    clear hn hl hfew hRES
    go_enter Try.func68, Try.ntmps68
    go_wp2_with fail
    refine H.out.mono ?_
    rintro e w2 ⟨v1, v2, rfl, hr1, hr2, q2⟩
    obtain ⟨g1, k1, rfl, hb1, hg1, hcell1⟩ := row_get hr1 hpos
    obtain ⟨g2, k2, rfl, hb2, hg2, hcell2⟩ := row_get hr2 hpos
    have HW : Hid (Keeps noB w w2 ∧ n = l.length ∧ (∀ j u, (begC l)[j]? = some u → w2.cell? ⟨g1, j, none⟩ = some u) ∧ (∀ j u, (clnC l)[j]? = some u → w2.cell? ⟨g2, j, none⟩ = some u)) := ⟨q2, HN.out, hcell1, hcell2⟩
    clear hr1 hr2 q2 hcell1 hcell2 hg1 hg2 hb1 hb2
    generalize res.isSome = bv at *
    go_upto_region 3 with fail
    go_loopw [19] (fun vi wr => L9At w2 l at_ vi wr) (fun vi _ => n - (intOf vi).toNat)
    case atStart => exact ⟨[], l, rfl, rfl, rfl, fun p hp => by cases hp⟩
    case round =>
      obtain ⟨done, todo, hpt, rfl, rfl, hno0⟩ := hrel
      have hno := Lib.hid hno0
      clear hno0
      have hpl := congrArg List.length hpt
      rw [List.length_append, ← HW.out.2.1] at hpl
      cases todo with
      | nil =>
        have hd : ¬ done.length < n := by simp at hpl; omega
        rw [List.append_nil] at hpt
        have HR : Hid (RES = none) := Lib.hid (by rw [← HRES.out]; exact findC_none (by rw [hpt]; exact hno.out))
        clear hpt hpl hno
        go_wp2_with fail
        refine bodyPost_ret (resL9At _ (.string ⟨#[]⟩) (.bool false) _ rfl rfl) rfl ?_
        rw [HR.out]
        exact ⟨rfl, HW.out.1⟩
      | cons p todo =>
        have hd : done.length < n := by simp at hpl; omega
        have s1 := HW.out.2.2.1 done.length (.int .i64 (p.1 : Int)) (by rw [hpt]; simp [begC, i64])
        have s2 := HW.out.2.2.2 done.length (.string ⟨p.2.toArray⟩) (by rw [hpt]; simp [clnC])
        have HNX : Hid ((((p.1 : Int) == at_)) = false → L9At wr l at_ (.int .i64 ((done.length : Int) + 1)) wr) := fun h => by
          refine ⟨done ++ [p], todo, by rw [hpt]; simp, by simp, rfl, fun q hq => ?_⟩
          rcases List.mem_append.1 hq with hq | hq
          · exact hno.out q hq
          · simp at hq; subst hq; exact h
        have HH : Hid (((p.1 : Int) == at_) = true → RES = some p.2) := fun h1 => by rw [← HRES.out]; exact findC_some hpt hno.out h1
        clear hpt hpl hno
        cases hkk : ((p.1 : Int) == at_) with
        | true =>
          have HR := Lib.hid (HH.out hkk)
          clear HNX HH
          go_wp2_with fail
          refine bodyPost_ret (resL9At _ (.string ⟨p.2.toArray⟩) (.bool true) _ rfl rfl) rfl ?_
          rw [HR.out]
          exact ⟨rfl, HW.out.1⟩
        | false =>
          have HN := Lib.hid (HNX.out hkk)
          clear HNX HH
          go_wp2_with fail
          go_roundw
          case rel => exact HN.out
          case measure => simp [intOf]; omega

theorem resSClean (W : World) (v b : Value) (tmps : Array Value) (h4 : tmps.getD 4 undef = v) (h5 : tmps.getD 5 undef = b) : (results Try.f35 tmps).run Try.prog W = .ok (.tuple #[v, b]) W := by
  have h4' : tmps[4]?.getD undef = v := by simpa using h4
  have h5' : tmps[5]?.getD undef = b := by simpa using h5
  simp [results, Try.results35, go_sem, h4', h5']

theorem scleanup_any (s : ByteArray) (hs : s.size ≤ 1048576) (at_ : Int) (w : World) : Calls Try.prog 35 #[.string s, .int .i64 at_] w (fun e w' => e = .returned (.tuple #[.string ⟨((cleanupP s at_).getD []).toArray⟩, .bool (cleanupP s at_).isSome]) ∧ Keeps noB w w') := by
  have H := Lib.hid (l9At_any s hs at_ w)
  unfold CleanEnds at H
  generalize ((cleanupP s at_).getD []).toArray = tx at *
  generalize (cleanupP s at_).isSome = bv at *
  go_enter Try.func35, Try.ntmps35
  go_wp2_with fail
  refine H.out.mono ?_
  rintro e w2 ⟨rfl, q2⟩
  go_wp2_with fail
  refine bodyPost_ret (resSClean _ (.string ⟨tx⟩) (.bool bv) _ rfl rfl) rfl ?_
  exact ⟨rfl, q2⟩

/-! ### CountAlone -/
/-- What the loop of CountAlone holds. -/
def AloneAt (w2 : World) (l : List Pt) (vo vi : Value) (wr : World) : Prop :=
  ∃ (done todo : List Pt), l = done ++ todo ∧ vi = .int .i64 done.length ∧ vo = .int .i64 (aloneU done : Int) ∧ wr = w2

set_option maxRecDepth 100000 in
set_option maxHeartbeats 4000000 in
theorem salone_any (s : ByteArray) (hs : s.size ≤ 1048576) (w : World) : Calls Try.prog 37 #[.string s] w (fun e w' => e = .returned (.int .i64 (aloneP s)) ∧ Keeps noB w w') := by
  have H := Lib.hid (sexits_any s hs w)
  cases hp : progP s with
  | none =>
    have e : aloneP s = -1 := by unfold aloneP; rw [hp]
    have e2 : exitsP s = none := by unfold exitsP; rw [hp]
    rw [e]
    rw [e2] at H
    clear hp e e2
    go_enter Try.func37, Try.ntmps37
    go_wp2_with fail
    refine H.out.mono ?_
    rintro e w2 ⟨v1, v2, rfl, hr1, hr2, q2⟩
    go_wp2_with fail
    go_ret
    exact ⟨rfl, q2⟩
  | some x =>
    have e : aloneP s = (aloneU (exitsL x) : Int) := by unfold aloneP; rw [hp]
    have e2 : exitsP s = some (exitsL x) := by unfold exitsP; rw [hp]
    have hfew := exits_few hp
    have HS : Hid (∀ q ∈ exitsL x, q.2.length ≤ 160) := fun q hq => (exits_fit hp hq).2.1
    rw [e]
    rw [e2] at H
    unfold ExitsPostS at H
    have e3 : (some (exitsL x)).getD [] = exitsL x := rfl
    rw [e3] at H
    generalize exitsL x = l at *
    obtain ⟨n, hn⟩ : ∃ n, n = l.length := ⟨_, rfl⟩
    rw [← hn] at H hfew
    have HN := Lib.hid hn
    have hn80 : n ≤ 80 := hfew
    clear hp e e2 e3 hfew hn
    rcases Nat.eq_zero_or_pos n with h0 | hpos
    · have HNO : Hid (aloneU l = 0) := Lib.hid (by
        have : l = [] := List.length_eq_zero_iff.1 (by have := HN.out; omega)
        rw [this]; rfl)
      subst h0
      go_enter Try.func37, Try.ntmps37
      go_wp2_with fail
      refine H.out.mono ?_
      rintro e w2 ⟨v1, v2, rfl, hr1, hr2, q2⟩
      obtain ⟨a1, k1, rfl⟩ := row_shape hr1
      obtain ⟨a2, k2, rfl⟩ := row_shape hr2
      have HQ := Lib.hid q2
      clear hr1 hr2 q2
      go_upto_region 6 with fail
      go_loopw [6, 19] (fun vo vi wr => vo = .int .i64 0 ∧ vi = .int .i64 0 ∧ wr = w2) (fun _ _ _ => 0)
      case atStart => exact ⟨rfl, rfl, rfl⟩
      case round =>
        obtain ⟨rfl, rfl, rfl⟩ := hrel
        go_wp2_with fail
        go_ret
        rw [HNO.out]
        exact ⟨rfl, HQ.out⟩
    · go_enter Try.func37, Try.ntmps37
      go_wp2_with fail
      refine H.out.mono ?_
      rintro e w2 ⟨v1, v2, rfl, hr1, hr2, q2⟩
      obtain ⟨a1, k1, rfl⟩ := row_shape hr1
      obtain ⟨g2, k2, rfl, hb2, hg2, hcell2⟩ := row_get hr2 hpos
      have HW : Hid (Keeps noB w w2 ∧ n = l.length ∧ (∀ j u, (clnC l)[j]? = some u → w2.cell? ⟨g2, j, none⟩ = some u)) := ⟨q2, HN.out, hcell2⟩
      clear hr1 hr2 q2 hcell2 hg2 hb2
      go_upto_region 6 with fail
      go_loopw [6, 19] (fun vo vi wr => AloneAt w2 l vo vi wr) (fun _ vi _ => n - (intOf vi).toNat)
      case atStart => exact ⟨[], l, rfl, rfl, rfl, rfl⟩
      case round =>
        obtain ⟨done, todo, hpt, rfl, rfl, rfl⟩ := hrel
        have hpl := congrArg List.length hpt
        rw [List.length_append, ← HW.out.2.1] at hpl
        have hle := aloneU_le done (fun q hq => HS.out q (by rw [hpt]; exact List.mem_append_left _ hq))
        cases todo with
        | nil =>
          have hd : ¬ done.length < n := by simp at hpl; omega
          rw [List.append_nil] at hpt
          have HPT := Lib.hid hpt
          clear hpt hpl hle
          generalize hA : aloneU done = A at *
          have HA := Lib.hid hA
          clear hA
          go_wp2_with fail
          go_ret
          refine ⟨?_, HW.out.1⟩
          rw [HPT.out, HA.out]
          rfl
        | cons p todo =>
          have hd : done.length < n := by simp at hpl; omega
          have hd80 : done.length ≤ 80 := by omega
          obtain ⟨P2, hP2⟩ : ∃ P2 : ByteArray, ⟨p.2.toArray⟩ = P2 := ⟨_, rfl⟩
          have hP2s : P2.size = p.2.length := by rw [← hP2]; simp [ByteArray.size]
          have hp2 : p.2.length ≤ 160 := HS.out p (by rw [hpt]; simp)
          have s2 := HW.out.2.2 done.length (.string ⟨p.2.toArray⟩) (by rw [hpt]; simp [clnC])
          rw [hP2] at s2
          have hsz : P2.size ≤ 160 := by omega
          obtain ⟨A, hA⟩ : ∃ A, aloneU done = A := ⟨_, rfl⟩
          rw [hA] at hle ⊢
          have HN2 : Hid (AloneAt wr l (.int .i64 ((A : Int) + ((P2.size : Int)).tdiv 2)) (.int .i64 ((done.length : Int) + 1)) wr) := by
            refine ⟨done ++ [p], todo, by rw [hpt]; simp, by simp, ?_, rfl⟩
            rw [aloneU_snoc, hA, ← hP2s]
            congr 1
          have hdv : ((P2.size : Int)).tdiv 2 = ((P2.size / 2 : Nat) : Int) := by rw [Int.tdiv_eq_ediv_of_nonneg (by omega)]; omega
          rw [hdv] at HN2
          have hA80 : A ≤ 6400 := by omega
          have hhalf : P2.size / 2 ≤ 80 := by omega
          clear hpt hpl hle hP2 hP2s hp2 hA
          go_wp2_with fail
          go_roundw
          case rel => exact HN2.out
          case measure => simp [intOf]; omega

end Go.Proofs.Ytcpbkohpgchckaa

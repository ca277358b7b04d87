/-
  The model's PointsOf.
-/
import Derived.Test.YtkfcgamdlckncaaZc
import Derived.Test.YtkfcgamdlckncaaEbW
import Derived.Test.YtkfcgamdlckncaaIjW
import Derived.WalkArith
namespace Go.Proofs.Ytkfcgamdlckncaa
set_option linter.unusedVariables false
set_option linter.unusedSimpArgs false
open Go.RowKit

theorem resPts3 (W : World) (v u : Value) (tmps : Array Value) (h : tmps.getD 2 undef = v) (h2 : tmps.getD 3 undef = u) : (results Try.f33 tmps).run Try.prog W = .ok (.tuple #[v, u]) W := by
  have h' : tmps[2]?.getD undef = v := by simpa using h
  have h2' : tmps[3]?.getD undef = u := by simpa using h2
  simp [results, Try.results33, go_sem, h', h2']

theorem d3cap_ok {w : World} {ok : Nat → Prop} {e : TypeId} {size : Nat} {g n c : Nat} {xs : List Value} (h : Row w ok e size (.slice (some ⟨g, 0, none⟩) n c) n xs) : n ≤ c := by
  rcases h.1.2 with ⟨e1, _⟩ | ⟨g', c', cur, e1, _, hh, hnc, _⟩
  · cases e1
  · simp only [Value.slice.injEq, Option.some.injEq, Addr.mk.injEq, and_true, true_and] at e1
    obtain ⟨rfl, rfl⟩ := e1
    exact hnc

def PtsPost (w : World) (res : Option Nd) (e : Ending) (w' : World) : Prop :=
  ∃ v b xs, e = .returned (.tuple #[v, .bool b]) ∧ Row w' (fromB w.heap.size) 3 1 v xs.length xs ∧ Keeps noB w w' ∧ b = res.isSome ∧
    xs = match res with | none => [] | some x => (x.pts.map Prod.fst).map fun k => i64 k

set_option maxRecDepth 100000 in
set_option maxHeartbeats 4000000 in
theorem sptsOf_any (s : ByteArray) (hs : s.size ≤ 1048576) (w : World) : Calls Try.prog 33 #[.string s] w (PtsPost w (progP s)) := by
  have H := Lib.hid (sread_any s hs w)
  cases hp : progP s with
  | none =>
    rw [hp] at H
    clear hp
    go_enter Try.func33, Try.ntmps33
    go_wp2_with fail
    refine H.out.mono ?_
    rintro e w1 ⟨⟨x0, x1, x2, x3, x4, x5, x6, x7, rfl⟩, q1⟩
    have hnv : nodeV x0 x1 x2 x3 x4 x5 x6 x7 = .agg #[.int .u8 x0, .int .i64 x1, .int .i64 x2, .string x3, .slice x4 x5 x6, .string x7] := rfl
    go_wp2_with fail
    refine bodyPost_ret (resPts3 _ _ _ _ rfl rfl) rfl ?_
    refine ⟨_, _, [], rfl, ⟨?_, ?_⟩, (q1.alloc _).alloc _, rfl, rfl⟩
    · have hs1 : (w1.alloc (.cells #[.int .u8 x0, .int .i64 x1, .int .i64 x2, .string x3, .slice x4 x5 x6, .string x7] 57)).heap.size = w1.heap.size + 1 := by simp
      show World.ownsRow _ 0 3 1 (.slice (some ⟨w1.heap.size + 1, 0, none⟩) 0 0) 0 []
      rw [← hs1]
      exact World.ownsRow_made _ #[] 0 (Nat.zero_le _) (by simp [maxLen]) rfl
    · intro g hg
      have := q1.size
      simp [Value.ownBlock] at hg
      simp [fromB]
      omega
  | some x =>
    rw [hp] at H
    have HPT := Lib.hid (fun w ok hok x0 x1 x2 x3 x7 x4 x5 x6 hrep => spoints_any hp w ok hok x0 x1 x2 x3 x7 x4 x5 x6 hrep)
    clear hp
    go_enter Try.func33, Try.ntmps33
    go_wp2_with fail
    refine H.out.mono ?_
    rintro e w1 ⟨x0, x1, x2, x3, x4, x5, x6, x7, rfl, hx, q1⟩
    have hnv : nodeV x0 x1 x2 x3 x4 x5 x6 x7 = .agg #[.int .u8 x0, .int .i64 x1, .int .i64 x2, .string x3, .slice x4 x5 x6, .string x7] := rfl
    have hh := Lib.hid (HPT.out (w1.alloc (.cells #[.int .u8 x0, .int .i64 x1, .int .i64 x2, .string x3, .slice x4 x5 x6, .string x7] 57)) (fun i => i < (w1.alloc (.cells #[.int .u8 x0, .int .i64 x1, .int .i64 x2, .string x3, .slice x4 x5 x6, .string x7] 57)).heap.size) (fun _ h => h) x0 x1 x2 x3 x7 x4 x5 x6
      ((Hands.of_keeps (ok := fromB w.heap.size) ((Keeps.refl noB w1).alloc _) (fun _ _ _ e => e.elim) (fun i _ hl => Nat.lt_of_lt_of_le hl ((Keeps.refl noB w1).alloc _).size)).repS x _ hx))
    have HQ := Lib.hid q1
    clear hx q1 HPT
    go_wp2_with fail
    refine hh.out.mono ?_
    rintro e w2 ⟨v, rfl, hrow, q2⟩
    have HE : Hid (PtsPost w (some x) (.returned (.tuple #[v, .bool true])) w2) := Lib.hid ⟨v, true, _, rfl, ⟨by rw [List.length_map]; exact hrow.1, fun g hg => by
      have h1 := hrow.2 g hg
      have h2 := (HQ.out.alloc (.cells #[.int .u8 x0, .int .i64 x1, .int .i64 x2, .string x3, .slice x4 x5 x6, .string x7] 57)).size
      exact Nat.le_trans h2 h1⟩, (HQ.out.alloc _).trans q2, rfl, rfl⟩
    clear hrow q2 hh
    go_wp2_with fail
    exact bodyPost_ret (resPts3 _ v (.bool true) _ rfl rfl) rfl HE.out

end Go.Proofs.Ytkfcgamdlckncaa

/-
  Walks of the program's run: runWith.
-/
import Derived.Test.YtcohmhgmocdbfaaKoW
import Derived.BigRegion
namespace Go.Proofs.Ytcohmhgmocdbfaa
set_option linter.unusedVariables false
set_option linter.unusedSimpArgs false
open Go.RowKit

def WithPost (w : World) (o : Out) (e : Ending) (w' : World) : Prop :=
  ∃ b own' ar' ve vv, e = .returned (.tuple #[.pointer (some ⟨b, 0, none⟩), endOf o, .bool o.right]) ∧ Keeps noB w w' ∧ RunAt w' own' b o.st ar' ve vv ∧ (∀ k, own' k → w.heap.size ≤ k ∧ k < w'.heap.size)

theorem start_at (w : World) (ch : ByteArray) : RunAt (w.alloc (.cells #[.string ch, .string ⟨#[]⟩, .int .i64 0, .int .i64 0, .int .i64 0, .int .i64 0, .int .i64 0, .int .i64 0, .int .i64 0, .slice none 0 0, .slice none 0 0] 116)) (oneB w.heap.size) w.heap.size (St.start ch.data.toList) [] (.slice none 0 0) (.slice none 0 0) := by
  refine ⟨?_, ⟨rfl, .inl ⟨rfl, rfl⟩⟩, ⟨rfl, .inl ⟨rfl, rfl⟩⟩, rfl, fun g e => by simp [Value.ownBlock] at e, fun g e => by simp [Value.ownBlock] at e⟩
  exact Blk.new w #[.string ch, .string ⟨#[]⟩, .int .i64 0, .int .i64 0, .int .i64 0, .int .i64 0, .int .i64 0, .int .i64 0, .int .i64 0, .slice none 0 0, .slice none 0 0] _

theorem endOf_parts (o : Out) : ∃ yi zs, endOf o = .agg #[.int .i64 o.exit, .int .i64 yi, .string zs] := by
  cases o with
  | go t => exact ⟨_, _, rfl⟩
  | stop y t =>
    cases y with
    | ret => exact ⟨_, _, rfl⟩
    | fail => exact ⟨_, _, rfl⟩
    | fault k => exact ⟨_, _, rfl⟩
    | stuck br => cases br <;> exact ⟨_, _, rfl⟩

theorem resWith (W : World) (N : Nat) (ex yi : Int) (zs : ByteArray) (p v : Value) (tmps : Array Value) (h4 : tmps.getD 4 undef = p) (h5 : tmps.getD 5 undef = .pointer (some ⟨N, 0, none⟩)) (h6 : tmps.getD 6 undef = v)
    (hb : Blk W N #[.int .i64 ex, .int .i64 yi, .string zs] 82) : (results Try.f44 tmps).run Try.prog W = .ok (.tuple #[p, .agg #[.int .i64 ex, .int .i64 yi, .string zs], v]) W := by
  have q0 := hb.cell 0
  have q1 := hb.cell 1
  have q2 := hb.cell 2
  simp at q0 q1 q2
  have h4' : tmps[4]?.getD undef = p := by simpa using h4
  have h5' : tmps[5]?.getD undef = .pointer (some ⟨N, 0, none⟩) := by simpa using h5
  have h6' : tmps[6]?.getD undef = v := by simpa using h6
  simp [results, Try.results44, go_sem, h4', h5', h6', q0, q1, q2]

/-- What is known behind 'through'. -/
structure Through (w : World) (o : Out) (yi : Int) (zs : ByteArray) (w1 : World) : Prop where
  c0 : ∃ x, w1.cell? ⟨w.heap.size, 0, none⟩ = some x
  c1 : ∃ x, w1.cell? ⟨w.heap.size, 1, none⟩ = some x
  c2 : ∃ x, w1.cell? ⟨w.heap.size, 2, none⟩ = some x
  f0 : w1.frozen? ⟨w.heap.size, 0, none⟩ = false
  f1 : w1.frozen? ⟨w.heap.size, 1, none⟩ = false
  f2 : w1.frozen? ⟨w.heap.size, 2, none⟩ = false
  run : (((w1.setCell ⟨w.heap.size, 0, none⟩ (.int .i64 o.exit)).setCell ⟨w.heap.size, 1, none⟩ (.int .i64 yi)).setCell ⟨w.heap.size, 2, none⟩ (.string zs)).drew.cell? ⟨w.heap.size + 1, 0, none⟩ = some (.string ⟨o.st.ch.toArray⟩)
  res : Blk (((w1.setCell ⟨w.heap.size, 0, none⟩ (.int .i64 o.exit)).setCell ⟨w.heap.size, 1, none⟩ (.int .i64 yi)).setCell ⟨w.heap.size, 2, none⟩ (.string zs)).drew w.heap.size #[.int .i64 o.exit, .int .i64 yi, .string zs] 82
  fin : ∀ W, Keeps (oneB w.heap.size) (((w1.setCell ⟨w.heap.size, 0, none⟩ (.int .i64 o.exit)).setCell ⟨w.heap.size, 1, none⟩ (.int .i64 yi)).setCell ⟨w.heap.size, 2, none⟩ (.string zs)).drew W → ∃ own' ar' ve vv, Keeps noB w W ∧ RunAt W own' (w.heap.size + 1) o.st ar' ve vv ∧ (∀ k, own' k → w.heap.size ≤ k ∧ k < W.heap.size)

theorem through_known (w : World) (ch : ByteArray) (o : Out) (yi : Int) (zs : ByteArray) (w1 : World) (own1 : Nat → Prop) (ar1 : List UInt8) (ve1 vv1 : Value)
    (ho : Owns (oneB (w.heap.size + 1)) own1 ((w.alloc (.cells #[.int .i64 0, .int .i64 0, .string ⟨#[]⟩] 82)).alloc (.cells #[.string ch, .string ⟨#[]⟩, .int .i64 0, .int .i64 0, .int .i64 0, .int .i64 0, .int .i64 0, .int .i64 0, .int .i64 0, .slice none 0 0, .slice none 0 0] 116)) w1)
    (hr : RunAt w1 own1 (w.heap.size + 1) o.st ar1 ve1 vv1) : Through w o yi zs w1 := by
  have hs : ((w.alloc (.cells #[.int .i64 0, .int .i64 0, .string ⟨#[]⟩] 82)).alloc (.cells #[.string ch, .string ⟨#[]⟩, .int .i64 0, .int .i64 0, .int .i64 0, .int .i64 0, .int .i64 0, .int .i64 0, .int .i64 0, .slice none 0 0, .slice none 0 0] 116)).heap.size = w.heap.size + 1 + 1 := by simp
  have b0 := ho.keeps.blk ((Blk.new w #[.int .i64 0, .int .i64 0, .string ⟨#[]⟩] 82).alloc (.cells #[.string ch, .string ⟨#[]⟩, .int .i64 0, .int .i64 0, .int .i64 0, .int .i64 0, .int .i64 0, .int .i64 0, .int .i64 0, .slice none 0 0, .slice none 0 0] 116)) (fun e => by simp only [oneB] at e; omega)
  have hn : ∀ k, own1 k → k ≠ w.heap.size := fun k hk e => by
    rcases ho.more k hk with h | h
    · simp only [oneB] at h; omega
    · rw [hs] at h; omega
  have qN : Keeps (oneB w.heap.size) w1 (((w1.setCell ⟨w.heap.size, 0, none⟩ (.int .i64 o.exit)).setCell ⟨w.heap.size, 1, none⟩ (.int .i64 yi)).setCell ⟨w.heap.size, 2, none⟩ (.string zs)).drew :=
    ((((Keeps.refl _ w1).setCell (.inl (show oneB w.heap.size w.heap.size from rfl)) _).setCell (.inl (show oneB w.heap.size w.heap.size from rfl)) _).setCell (.inl (show oneB w.heap.size w.heap.size from rfl)) _).drew
  have hr2 := hr.keeps qN (fun g hg e => hn g hg e)
  have b1 := (((b0.set 0 (.int .i64 o.exit)).set 1 (.int .i64 yi)).set 2 (.string zs)).drew
  have q0 : Keeps noB w ((w.alloc (.cells #[.int .i64 0, .int .i64 0, .string ⟨#[]⟩] 82)).alloc (.cells #[.string ch, .string ⟨#[]⟩, .int .i64 0, .int .i64 0, .int .i64 0, .int .i64 0, .int .i64 0, .int .i64 0, .int .i64 0, .slice none 0 0, .slice none 0 0] 116)) := ((Keeps.refl _ _).alloc _).alloc _
  have q1 : Keeps noB w w1 := q0.transNew ho.keeps (fun i hi e => by simp only [oneB] at e; omega)
  refine ⟨⟨_, b0.cell 0⟩, ⟨_, b0.cell 1⟩, ⟨_, b0.cell 2⟩, b0.free 0, b0.free 1, b0.free 2, hr2.blk.cell 0, b1, fun W q => ?_⟩
  have qW := qN.trans q
  refine ⟨own1, ar1, ve1, vv1, q1.transNew qW (fun i hi e => by simp only [oneB] at e; omega), hr.keeps qW (fun g hg e => hn g hg e), fun k hk => ⟨?_, Nat.lt_of_lt_of_le (ho.lt k hk) qW.size⟩⟩
  rcases ho.more k hk with h | h
  · simp only [oneB] at h; omega
  · rw [hs] at h; omega

theorem back_blk {w2 : World} {N : Nat} {ex yi : Int} {zs : ByteArray} (h : Blk w2.drew N #[.int .i64 ex, .int .i64 yi, .string zs] 82) :
    Blk (((w2.setCell ⟨N, 0, none⟩ (.int .i64 ex)).setCell ⟨N, 1, none⟩ (.int .i64 yi)).setCell ⟨N, 2, none⟩ (.string zs)).drew N #[.int .i64 ex, .int .i64 yi, .string zs] 82 :=
  (((show Blk w2 N _ _ from h).set 0 (.int .i64 ex)).set 1 (.int .i64 yi)).set 2 (.string zs)
theorem back_keeps (w2 : World) (N : Nat) (a b c : Value) : Keeps (oneB N) w2.drew (((w2.setCell ⟨N, 0, none⟩ a).setCell ⟨N, 1, none⟩ b).setCell ⟨N, 2, none⟩ c).drew :=
  (((Keeps.refl _ w2.drew).setCell (p := ⟨N, 0, none⟩) (.inl (show oneB N N from rfl)) a).setCell (p := ⟨N, 1, none⟩) (.inl (show oneB N N from rfl)) b).setCell (p := ⟨N, 2, none⟩) (.inl (show oneB N N from rfl)) c

theorem isEmpty_arr (l : List UInt8) : (⟨l.toArray⟩ : ByteArray).toList.isEmpty = l.isEmpty := by rw [Go.ByteArray.toList_eq]

set_option maxRecDepth 100000 in
set_option maxHeartbeats 2000000 in
theorem runWith_any (x : Nd) (hx : StepC x) (hsc : x.scope = []) (w : World) (ok : Nat → Prop) (g : Nat) (ch : ByteArray) (hrep : RepI w ok x (.iface 56 (ptr g))) (hok : ∀ k, ok k → k < w.heap.size)
    (hroom : Room x.pre.len (St.start ch.data.toList)) :
    Calls Try.prog 44 #[.pointer (some ⟨g, 0, none⟩), .string ch] w (WithPost w (x.run (St.start ch.data.toList))) := by
  have hs1 : (w.alloc (.cells #[.int .i64 0, .int .i64 0, .string ⟨#[]⟩] 82)).heap.size = w.heap.size + 1 := by simp
  have hs2 : ((w.alloc (.cells #[.int .i64 0, .int .i64 0, .string ⟨#[]⟩] 82)).alloc (.cells #[.string ch, .string ⟨#[]⟩, .int .i64 0, .int .i64 0, .int .i64 0, .int .i64 0, .int .i64 0, .int .i64 0, .int .i64 0, .slice none 0 0, .slice none 0 0] 116)).heap.size = w.heap.size + 1 + 1 := by simp
  have q0 : Keeps noB w ((w.alloc (.cells #[.int .i64 0, .int .i64 0, .string ⟨#[]⟩] 82)).alloc (.cells #[.string ch, .string ⟨#[]⟩, .int .i64 0, .int .i64 0, .int .i64 0, .int .i64 0, .int .i64 0, .int .i64 0, .int .i64 0, .slice none 0 0, .slice none 0 0] 116)) := ((Keeps.refl _ _).alloc _).alloc _
  have hst := start_at (w.alloc (.cells #[.int .i64 0, .int .i64 0, .string ⟨#[]⟩] 82)) ch
  rw [hs1] at hst
  have HS := Lib.hid (through_any x hx (St.start ch.data.toList) _ (oneB (w.heap.size + 1)) ok (w.heap.size + 1) g _ _ ((Hands.of_keeps (ok := ok) (ok' := ok) q0 (fun _ _ _ e => e) (fun _ hg _ => hg)).repI x _ hrep)
    (fun k hk => ⟨by rw [hs2]; have := hok k hk; omega, fun (e : k = w.heap.size + 1) => by have := hok k hk; omega⟩) (by rw [hsc]; exact hst) (fun k (e : k = w.heap.size + 1) => by rw [hs2]; omega) hroom)
  have HK := Lib.hid (fun o yi zs w1 own1 ar1 ve1 vv1 => through_known w ch o yi zs w1 own1 ar1 ve1 vv1)
  clear hrep hok hroom hx hs1 hs2 q0 hst hsc
  generalize x.run (St.start ch.data.toList) = o at HS ⊢
  obtain ⟨yi, zs, hy⟩ := endOf_parts o
  have HY := Lib.hid hy
  have HI := Lib.hid (isEmpty_arr o.st.ch)
  have HRT : Hid (o.right = (o.exit != 0 && o.st.ch.isEmpty)) := rfl
  clear hy
  go_enter Try.func44, Try.ntmps44
  go_wp2_with (go_at_call 61; refine HS.out.mono ?_; rintro e1 w1 ⟨rfl, own1, ar1, ve1, vv1, ho1, hr1⟩; rw [HY.out]; have HE := Lib.hid (HK.out _ yi zs _ _ _ _ _ ho1 hr1); clear ho1 hr1; have ⟨k0, hk0⟩ := HE.out.c0; have ⟨k1, hk1⟩ := HE.out.c1; have ⟨k2, hk2⟩ := HE.out.c2; have f0 := HE.out.f0; have f1 := HE.out.f1; have f2 := HE.out.f2)
  have cr := HE.out.run
  have cb := HE.out.res
  have HN := Lib.hid HE.out.fin
  have hrt := HRT.out
  have hie := HI.out
  generalize (⟨o.st.ch.toArray⟩ : ByteArray) = cs at cr hie
  generalize o.st.ch.isEmpty = em at hie hrt
  have HYY := Lib.hid HY.out
  generalize o.exit = ex at *
  clear HE hk0 hk1 hk2 f0 f1 f2 HS HK HI HRT HY
  have cr' : (((w1.setCell ⟨w.heap.size, 0, none⟩ (.int .i64 ex)).setCell ⟨w.heap.size, 1, none⟩ (.int .i64 yi)).setCell ⟨w.heap.size, 2, none⟩ (.string zs)).cell? ⟨w.heap.size + 1, 0, none⟩ = some (.string cs) := cr
  have cb' : Blk (((w1.setCell ⟨w.heap.size, 0, none⟩ (.int .i64 ex)).setCell ⟨w.heap.size, 1, none⟩ (.int .i64 yi)).setCell ⟨w.heap.size, 2, none⟩ (.string zs)) w.heap.size #[.int .i64 ex, .int .i64 yi, .string zs] 82 := cb
  generalize ((w1.setCell ⟨w.heap.size, 0, none⟩ (.int .i64 ex)).setCell ⟨w.heap.size, 1, none⟩ (.int .i64 yi)).setCell ⟨w.heap.size, 2, none⟩ (.string zs) = w2 at *
  have r0 := cb'.cell 0
  have r1 := cb'.cell 1
  have r2 := cb'.cell 2
  have z0 := cb'.free 0
  have z1 := cb'.free 1
  have z2 := cb'.free 2
  simp at r0 r1 r2
  have HB := Lib.hid cb
  clear cb cb' cr
  by_cases h0 : ex = 0
  · subst h0
    have hx0 : ((0 : Int) != 0) = false := rfl
    have hR : o.right = false := by rw [hrt]; rfl
    have HR := Lib.hid hR
    clear hrt hR
    go_region
    go_wp2_with fail
    refine bodyPost_ret (resWith _ w.heap.size 0 yi zs (.pointer (some ⟨w.heap.size + 1, 0, none⟩)) (.bool false) _ rfl rfl rfl (back_blk HB.out)) rfl ?_
    obtain ⟨own', ar', ve, vv, q, h1, h2⟩ := HN.out _ (back_keeps w2 w.heap.size _ _ _)
    exact ⟨_, own', ar', ve, vv, by rw [HYY.out, HR.out], q, h1, h2⟩
  · have hx0 : (ex != 0) = true := by rw [bne_iff_ne]; exact h0
    have hR : o.right = em := by rw [hrt, hx0]; rfl
    have HR := Lib.hid hR
    clear hrt hR
    go_region
    go_wp2_with fail
    refine bodyPost_ret (resWith _ w.heap.size ex yi zs (.pointer (some ⟨w.heap.size + 1, 0, none⟩)) (.bool em) _ rfl rfl rfl (back_blk HB.out)) rfl ?_
    obtain ⟨own', ar', ve, vv, q, h1, h2⟩ := HN.out _ (back_keeps w2 w.heap.size _ _ _)
    exact ⟨_, own', ar', ve, vv, by rw [HYY.out, HR.out], q, h1, h2⟩

theorem room_start {x : Nd} {s ch : ByteArray} (hp : progP s = some x) (hc : ch.size ≤ 20) : Room x.pre.len (St.start ch.data.toList) := by
  have h1 := (progP_few hp).1
  have h2 := (progP_few hp).2
  have hn : x.pre.len ≤ 80 := by omega
  have hl : ch.data.toList.length ≤ 20 := by simpa using hc
  have hm := Nat.mul_le_mul hn hl
  refine ⟨?_, Nat.zero_le _, Nat.zero_le _, hl⟩
  show 0 + 2 * x.pre.len + 2 * (x.pre.len * ch.data.toList.length) ≤ 8000
  omega

end Go.Proofs.Ytcohmhgmocdbfaa

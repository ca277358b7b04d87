/-
  What is known at a point of a text, as the program finds it: knownAt.
-/
import Derived.Test.YthpjkickpodmcaaVb
import Derived.Test.YthpjkickpodmcaaMemW
import Derived.Test.YthpjkickpodmcaaScW
import Derived.Test.YthpjkickpodmcaaIjW
import Derived.Test.YthpjkickpodmcaaVoW
namespace Go.Proofs.Ythpjkickpodmcaa
set_option linter.unusedVariables false
set_option linter.unusedSimpArgs false
open Go.RowKit

theorem zeroKn (w : World) : (zeroValue 80).run Try.prog w = .ok (.agg #[.int .u8 0, .int .u8 0]) w := by kernel_rfl

/-- Two results: what is known in a box, and whether. -/
theorem resKA (W : World) (N : Nat) (a b : Int) (v : Bool) (tmps : Array Value) (h4 : tmps.getD 4 undef = .pointer (some ⟨N, 0, none⟩)) (h5 : tmps.getD 5 undef = .bool v)
    (c0 : W.cell? ⟨N, 0, none⟩ = some (.int .u8 a)) (c1 : W.cell? ⟨N, 1, none⟩ = some (.int .u8 b)) : (results Try.f49 tmps).run Try.prog W = .ok (.tuple #[.agg #[.int .u8 a, .int .u8 b], .bool v]) W := by
  have h4' : tmps[4]?.getD undef = .pointer (some ⟨N, 0, none⟩) := by simpa using h4
  have h5' : tmps[5]?.getD undef = .bool v := by simpa using h5
  simp [results, Try.results49, go_sem, h4', h5', c0, c1]

/-- The box of the answer, wherever it stands. -/
structure KBox (w w1 : World) (a b : Int) : Prop where
  q : Keeps noB w w1
  b : Blk w1 w.heap.size #[.int .u8 a, .int .u8 b] 80
theorem KBox.start {w w1 : World} {a b : Int} (q : Keeps noB (w.alloc (.cells #[.int .u8 a, .int .u8 b] 80)) w1) : KBox w w1 a b :=
  ⟨((Keeps.refl _ _).alloc _).trans q, q.blk (Blk.new _ _ _) id⟩
theorem KBox.keeps {w w1 w2 : World} {a b : Int} (h : KBox w w1 a b) (q : Keeps noB w1 w2) : KBox w w2 a b := ⟨h.q.trans q, q.blk h.b id⟩
theorem KBox.cells {w w1 : World} {a b : Int} (h : KBox w w1 a b) : w1.cell? ⟨w.heap.size, 0, none⟩ = some (.int .u8 a) ∧ w1.cell? ⟨w.heap.size, 1, none⟩ = some (.int .u8 b) ∧ w1.frozen? ⟨w.heap.size, 0, none⟩ = false ∧ w1.frozen? ⟨w.heap.size, 1, none⟩ = false :=
  ⟨(h.b.cell 0).trans rfl, (h.b.cell 1).trans rfl, h.b.free 0, h.b.free 1⟩
theorem KBox.store {w w1 : World} {a b : Int} (h : KBox w w1 a b) (x y : Int) : KBox w ((w1.setCell ⟨w.heap.size, 0, none⟩ (.int .u8 x)).setCell ⟨w.heap.size, 1, none⟩ (.int .u8 y)) x y :=
  ⟨(h.q.setCell (p := ⟨w.heap.size, 0, none⟩) (.inr (Nat.le_refl _)) _).setCell (p := ⟨w.heap.size, 1, none⟩) (.inr (Nat.le_refl _)) _, (h.b.set 0 _).set 1 _⟩

def KnownPost (w : World) (r : Option Kn) (e : Ending) (w' : World) : Prop :=
  e = .returned (.tuple #[knV (knO r), .bool r.isSome]) ∧ Keeps noB w w'

set_option maxRecDepth 100000 in
set_option maxHeartbeats 4000000 in
theorem knownAt_none (s : ByteArray) (hs : s.size ≤ 1048576) (at_ : Int) (hp : progP s = none) (w : World) : Calls Try.prog 49 #[.string s, .int .i64 at_] w (KnownPost w none) := by
  have HR := Lib.hid (fun w => read_any s hs w)
  rw [hp] at HR
  have HB := Lib.hid (fun w1 q => KBox.start (w := w) (w1 := w1) (a := 0) (b := 0) q)
  clear hp
  go_enter Try.func49, Try.ntmps49
  go_wp2_with (go_at_call 41; refine (HR.out _).mono ?_; rintro e1 w1 ⟨rfl, q1⟩; have hb := HB.out w1 q1; have ⟨c0, c1, z0, z1⟩ := hb.cells; have HX := Lib.hid (hb.store 0 0); clear q1 hb)
  have ⟨c0', c1', _⟩ := HX.out.cells
  refine bodyPost_ret (resKA _ (w.heap.size) 0 0 false _ rfl rfl c0' c1') rfl ⟨rfl, HX.out.q⟩

set_option maxRecDepth 100000 in
set_option maxHeartbeats 4000000 in
theorem knownAt_some (s : ByteArray) (hs : s.size ≤ 1048576) (at_ : Int) (ha : (Lit.int .i64 at_).wf = true) (x : Nd) (hp : progP s = some x) (w : World) : Calls Try.prog 49 #[.string s, .int .i64 at_] w (KnownPost w (seenK (noteI (notesP x) at_))) := by
  have HR := Lib.hid (fun w => read_any s hs w)
  rw [hp] at HR
  have HB := Lib.hid (fun w1 q => KBox.start (w := w) (w1 := w1) (a := 0) (b := 0) q)
  have HV := Lib.hid (fun w ok g hr => surveyed_any hp w ok g hr)
  have HA := Lib.hid ha
  cases hn : noteI (notesP x) at_ with
  | none =>
    have HL : Hid (∀ w m, MapAt Try.prog 3 w m (notesP x) → (Instr.lookup 109 (.map (some m)) (.int .i64 at_) true).run Try.prog w = .ok (.tuple #[.agg #[.int .u8 0, .int .u8 0], .bool false]) w) := fun w m hm => by
      have := hm.look_ok Try.underlying3 Try.underlying109 (zeroKn w) HA.out
      rw [hn] at this
      exact this
    clear hp ha hn HA
    go_enter Try.func49, Try.ntmps49
    go_wp2_with (first
      | (go_at_call 41; refine (HR.out _).mono ?_; rintro e1 w1 ⟨g, rfl, hr, q1⟩; have hb := HB.out w1 q1; have HB1 := Lib.hid hb; have HS := Lib.hid (HV.out w1 _ g hr); clear q1 hb hr; unfold ptr at *)
      | (go_at_call 68; refine HS.out.mono ?_; rintro e2 w2 ⟨m, rfl, hm, q2, _⟩; have hb := HB1.out.keeps q2; have ⟨c0, c1, z0, z1⟩ := hb.cells; have hlk := HL.out w2 m hm; have HX := Lib.hid ((hb.store 0 0).store 0 0); clear hm q2 hb))
    have ⟨c0', c1', _⟩ := HX.out.cells
    exact bodyPost_ret (resKA _ (w.heap.size) 0 0 false _ rfl rfl c0' c1') rfl ⟨rfl, HX.out.q⟩
  | some k =>
    have HL : Hid (∀ w m, MapAt Try.prog 3 w m (notesP x) → (Instr.lookup 109 (.map (some m)) (.int .i64 at_) true).run Try.prog w = .ok (.tuple #[.agg #[.int .u8 (k.may : Int), .int .u8 (k.must : Int)], .bool true]) w) := fun w m hm => by
      have := hm.look_ok Try.underlying3 Try.underlying109 (zeroKn w) HA.out
      rw [hn] at this
      exact this
    by_cases hk : k = Kn.no
    · have HI := Lib.hid (fun w => isReached_no w)
      have e1 : seenK (some k) = none := by simp [seenK, hk]
      rw [e1]
      rw [← hk] at HI
      obtain ⟨km, ku⟩ := k
      simp only at HL
      unfold knV at HI
      simp only at HI
      clear hp ha hn HA hk e1
      go_enter Try.func49, Try.ntmps49
      go_wp2_with (first
        | (go_at_call 41; refine (HR.out _).mono ?_; rintro e1 w1 ⟨g, rfl, hr, q1⟩; have hb := HB.out w1 q1; have HB1 := Lib.hid hb; have HS := Lib.hid (HV.out w1 _ g hr); clear q1 hb hr; unfold ptr at *)
        | (go_at_call 68; refine HS.out.mono ?_; rintro e2 w2 ⟨m, rfl, hm, q2, _⟩; have hb := HB1.out.keeps q2; have ⟨c0, c1, z0, z1⟩ := hb.cells; have hlk := HL.out w2 m hm; have HX := Lib.hid (hb.store (km : Int) (ku : Int)); clear hm q2 hb)
        | (go_at_call 69; refine (HI.out _).mono ?_; rintro e3 w3 ⟨rfl, q3⟩; have hb := HX.out.keeps q3; have ⟨d0, d1, y0, y1⟩ := hb.cells; have HY := Lib.hid (hb.store 0 0); clear q3 hb))
      have ⟨c0', c1', _⟩ := HY.out.cells
      exact bodyPost_ret (resKA _ (w.heap.size) 0 0 false _ rfl rfl c0' c1') rfl ⟨rfl, HY.out.q⟩
    · have HI := Lib.hid (fun w => isReached_yes hk w)
      have e1 : seenK (some k) = some k := by simp [seenK, hk]
      rw [e1]
      obtain ⟨km, ku⟩ := k
      simp only at HL
      unfold knV at HI
      simp only at HI
      clear hp ha hn HA hk e1
      go_enter Try.func49, Try.ntmps49
      go_wp2_with (first
        | (go_at_call 41; refine (HR.out _).mono ?_; rintro e1 w1 ⟨g, rfl, hr, q1⟩; have hb := HB.out w1 q1; have HB1 := Lib.hid hb; have HS := Lib.hid (HV.out w1 _ g hr); clear q1 hb hr; unfold ptr at *)
        | (go_at_call 68; refine HS.out.mono ?_; rintro e2 w2 ⟨m, rfl, hm, q2, _⟩; have hb := HB1.out.keeps q2; have ⟨c0, c1, z0, z1⟩ := hb.cells; have hlk := HL.out w2 m hm; have HX := Lib.hid (hb.store (km : Int) (ku : Int)); clear hm q2 hb)
        | (go_at_call 69; refine (HI.out _).mono ?_; rintro e3 w3 ⟨rfl, q3⟩; have hb := HX.out.keeps q3; have ⟨d0, d1, y0, y1⟩ := hb.cells; have HY := Lib.hid (hb.store (km : Int) (ku : Int)); clear q3 hb))
      have ⟨c0', c1', _⟩ := HY.out.cells
      exact bodyPost_ret (resKA _ (w.heap.size) (km : Int) (ku : Int) true _ rfl rfl c0' c1') rfl ⟨rfl, HY.out.q⟩

theorem knownAt_any (s : ByteArray) (hs : s.size ≤ 1048576) (at_ : Int) (ha : (Lit.int .i64 at_).wf = true) (w : World) : Calls Try.prog 49 #[.string s, .int .i64 at_] w (KnownPost w (knownP s at_)) := by
  unfold knownP
  cases hp : progP s with
  | none => exact knownAt_none s hs at_ hp w
  | some x => exact knownAt_some s hs at_ ha x hp w

end Go.Proofs.Ythpjkickpodmcaa

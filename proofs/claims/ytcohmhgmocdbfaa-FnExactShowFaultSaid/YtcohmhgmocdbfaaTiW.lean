/-
  Walks of the model's run: branches and scopes.
  Walks of the model's run: loops.
  Walks of the model's run: every step of a program.
-/
import Derived.Test.YtcohmhgmocdbfaaTgW
import Derived.Test.YtcohmhgmocdbfaaKoW
namespace Go.Proofs.Ytcohmhgmocdbfaa
set_option linter.unusedVariables false
set_option linter.unusedSimpArgs false
open Go.RowKit

/-- A step that 'within' does. -/
theorem stepM_in (b : Nat) (C : ByteArray) (s : St) (sc : List UInt8) (vv : Value) (own ok : Nat → Prop) (w : World) (h : Fine w own ok b C s sc vv) (k e : Int) (c : UInt8) (vs : ByteArray) (a : Option Addr) (n m : Nat) (ar : ByteArray) (o : Out) (hc : c = 63 ∨ c = 42 ∨ c = 123)
    (hin : ∀ wB, Owns own own w wB → Fine wB own ok b C s sc vv → Calls Try.prog 123 #[.pointer (some ⟨b, 0, none⟩), .agg #[.int .u8 (c.toNat : Int), .int .i64 k, .int .i64 e, .string vs, .slice a n m, .string ar]] wB (RnDone wB own b C o)) :
    Calls Try.prog 105 #[.pointer (some ⟨b, 0, none⟩), .agg #[.int .u8 (c.toNat : Int), .int .i64 k, .int .i64 e, .string vs, .slice a n m, .string ar]] w (RnDone w own b C o) := by
  obtain ⟨hf, oB, bB, hnB⟩ := boxed h #[.int .u8 (c.toNat : Int), .int .i64 k, .int .i64 e, .string vs, .slice a n m, .string ar] 51
  have HW := Lib.hid ((hin _ oB hf).mono (fun e w' hr => RnRuns.after oB hr))
  clear hf oB bB hnB h hin
  rcases hc with rfl | rfl | rfl
  all_goals
    go_enter Try.func105, Try.ntmps105
    go_wp2_with (go_at_call 123; refine HW.out.mono ?_; rintro e1 w1 ⟨own1, vv1, rfl, ho1, hr1⟩; have HE := Lib.hid (And.intro ho1 hr1); clear ho1 hr1)
    go_end0
    exact ⟨own1, vv1, rfl, HE.out.1, HE.out.2⟩

/-- What a body's walk says, from whatever the run has come to. -/
def BodyDoes (w : World) (own : Nat → Prop) (b : Nat) (C : ByteArray) (sc : List UInt8) (vx : Value) (P : St → Prop) (body : St → Out) : Prop :=
  ∀ (t : St) (own1 : Nat → Prop) (vv1 : Value) (w1 : World), P t → Owns own own1 w w1 → RnAt w1 own1 b C t none vv1 →
    Calls Try.prog 85 #[.pointer (some ⟨b, 0, none⟩), vx] w1 (RnDone w1 own1 b C (body t))

theorem BodyDoes.after {w w1 : World} {own own1 : Nat → Prop} {b : Nat} {C : ByteArray} {sc : List UInt8} {vx : Value} {P : St → Prop} {body : St → Out} (h : BodyDoes w own b C sc vx P body) (ho : Owns own own1 w w1) : BodyDoes w1 own1 b C sc vx P body :=
  fun t own2 vv2 w2 hp ho2 hr => h t own2 vv2 w2 hp (ho.trans ho2) hr

set_option maxRecDepth 100000 in
set_option maxHeartbeats 2000000 in
theorem within_branch (b : Nat) (C : ByteArray) (s : St) (sc : List UInt8) (vv : Value) (own ok : Nat → Prop) (w : World) (h : Fine w own ok b C s sc vv) (k e : Int) (vs : ByteArray) (gb nb cb : Nat) (ar : ByteArray)
    (hgb : ok gb) (hnb : 2 ≤ nb) (hcb : nb ≤ cb) (x0 x1 : Option Addr) (n0 n1 c0 c1 : Nat) (h0 : w.cell? ⟨gb, 0, none⟩ = some (.slice x0 n0 c0)) (h1 : w.cell? ⟨gb, 1, none⟩ = some (.slice x1 n1 c1)) (P : St → Prop) (hP : ∀ c s', s.choose 108 114 = some (c, s') → P s') (f0 f1 : St → Out)
    (hin0 : BodyDoes w own b C sc (.slice x0 n0 c0) P f0) (hin1 : BodyDoes w own b C sc (.slice x1 n1 c1) P f1) :
    Calls Try.prog 123 #[.pointer (some ⟨b, 0, none⟩), .agg #[.int .u8 63, .int .i64 k, .int .i64 e, .string vs, .slice (some ⟨gb, 0, none⟩) nb cb, .string ar]] w
      (RnDone w own b C (match s.choose 108 114 with | none => .stop (.stuck true) s | some (c', s') => if c' = 108 then f0 s' else f1 s')) := by
  obtain ⟨hf, oB, bB, hnB⟩ := boxed h #[.int .u8 63, .int .i64 k, .int .i64 e, .string vs, .slice (some ⟨gb, 0, none⟩) nb cb, .string ar] 51
  have hgl := h.ok gb hgb
  have hbt : betweenOf true = ⟨#[108, 114]⟩ := rfl
  have HCL : Hid (∀ own1 w1, Owns own own1 (w.alloc (.cells #[.int .u8 63, .int .i64 k, .int .i64 e, .string vs, .slice (some ⟨gb, 0, none⟩) nb cb, .string ar] 51)) w1 →
      w1.cell? ⟨w.heap.size, 4, none⟩ = some (.slice (some ⟨gb, 0, none⟩) nb cb) ∧ w1.cell? ⟨gb, 0, none⟩ = some (.slice x0 n0 c0) ∧ w1.cell? ⟨gb, 1, none⟩ = some (.slice x1 n1 c1)) := fun own1 w1 ho =>
    ⟨ho.cells bB hnB 4, ((oB.trans ho).keeps.cell (p := ⟨gb, 0, none⟩) hgl.1 hgl.2).trans h0, ((oB.trans ho).keeps.cell (p := ⟨gb, 1, none⟩) hgl.1 hgl.2).trans h1⟩
  have hn0 : (0 : Int) < (nb : Int) := by omega
  have hn1 : (1 : Int) < (nb : Int) := by omega
  cases hc : s.choose 108 114 with
  | none =>
    have HT := Lib.hid ((takeM_none b C s vv own _ hf.at_ hf.lt h.size true hc).mono (fun e w' hr => RnRuns.after oB hr))
    rw [hbt] at HT
    clear hf oB bB hnB h hin0 hin1 hc h0 h1 hbt HCL
    go_enter Try.func123, Try.ntmps123
    go_wp2_with (go_at_call 131; refine HT.out.mono ?_; rintro e1 w1 ⟨own1, vv1, rfl, ho1, hr1⟩; have HE := Lib.hid (And.intro ho1 hr1); clear ho1 hr1)
    go_end0
    exact ⟨own1, vv1, rfl, HE.out.1, HE.out.2⟩
  | some p =>
    obtain ⟨c', s'⟩ := p
    obtain ⟨_, hcc, _⟩ := choose_some hc
    have HT := Lib.hid (takeM_ok b C s s' vv own _ hf.at_ hf.lt h.size true c' hc)
    rw [hbt] at HT
    have hps := hP _ _ hc
    have HB0 := Lib.hid (fun own1 vv1 w1 ho hr => (hin0.after oB) s' own1 vv1 w1 hps ho hr)
    have HB1 := Lib.hid (fun own1 vv1 w1 ho hr => (hin1.after oB) s' own1 vv1 w1 hps ho hr)
    have HO := Lib.hid oB
    clear hf oB bB hnB h hin0 hin1 hc h0 h1 hbt hP
    simp only
    by_cases h8 : c' = 108
    · subst h8
      rw [if_pos rfl]
      generalize f0 s' = o at HB0 ⊢
      go_enter Try.func123, Try.ntmps123
      go_wp2_with (first
        | (go_at_call 131; refine HT.out.mono ?_; rintro e1 w1 ⟨own1, vv1, rfl, ho1, hr1⟩; have ⟨y4, y0, y1⟩ := HCL.out _ _ ho1; have HS := Lib.hid (HB0.out _ _ _ ho1 hr1); have HE := Lib.hid ho1; clear ho1 hr1)
        | (go_at_call 85; refine HS.out.mono ?_; rintro e2 w2 ⟨own2, vv2, rfl, ho2, hr2⟩; have HF := Lib.hid (And.intro ho2 hr2); clear ho2 hr2))
      go_end0
      exact ⟨own2, vv2, rfl, (HO.out.trans HE.out).trans HF.out.1, HF.out.2⟩
    · have h9 : c' = 114 := by rcases hcc with h | h; exact absurd h h8; exact h
      subst h9
      rw [if_neg h8]
      generalize f1 s' = o at HB1 ⊢
      go_enter Try.func123, Try.ntmps123
      go_wp2_with (first
        | (go_at_call 131; refine HT.out.mono ?_; rintro e1 w1 ⟨own1, vv1, rfl, ho1, hr1⟩; have ⟨y4, y0, y1⟩ := HCL.out _ _ ho1; have HS := Lib.hid (HB1.out _ _ _ ho1 hr1); have HE := Lib.hid ho1; clear ho1 hr1)
        | (go_at_call 85; refine HS.out.mono ?_; rintro e2 w2 ⟨own2, vv2, rfl, ho2, hr2⟩; have HF := Lib.hid (And.intro ho2 hr2); clear ho2 hr2))
      go_end0
      exact ⟨own2, vv2, rfl, (HO.out.trans HE.out).trans HF.out.1, HF.out.2⟩

theorem cat_eq (a l : List UInt8) : (⟨a.toArray⟩ : ByteArray) ++ ⟨l.toArray⟩ = ⟨(a ++ l).toArray⟩ := by
  apply ByteArray.ext
  apply Array.ext'
  simp [ByteArray.data_append]

set_option maxRecDepth 100000 in
set_option maxHeartbeats 2000000 in
theorem within_scope (b : Nat) (C : ByteArray) (s : St) (sc : List UInt8) (vv : Value) (own ok : Nat → Prop) (w : World) (h : Fine w own ok b C s sc vv) (k : Int) (e : Nat) (vs ar : List UInt8) (gb nb cb : Nat)
    (hgb : ok gb) (hnb : 1 ≤ nb) (hcb : nb ≤ cb) (x0 : Option Addr) (n0 c0 : Nat) (h0 : w.cell? ⟨gb, 0, none⟩ = some (.slice x0 n0 c0)) (f0 : St → Out)
    (hin0 : BodyDoes w own b C (ar ++ vs) (.slice x0 n0 c0) (fun t => t = s) f0) (he : 1 ≤ e) (he2 : e ≤ 1000) (hl : ∀ v ∈ ar ++ vs, lett v) (hll : (ar ++ vs).length ≤ 1000)
    (hgo : ∀ t, f0 s = .go t → Held t (ar ++ vs) ∧ Below0 t ∧ t.vis.length ≤ 8000 ∧ t.ev.length ≤ 850000 ∧ t.made ≤ 8000) :
    Calls Try.prog 123 #[.pointer (some ⟨b, 0, none⟩), .agg #[.int .u8 123, .int .i64 k, .int .i64 (e : Int), .string ⟨vs.toArray⟩, .slice (some ⟨gb, 0, none⟩) nb cb, .string ⟨ar.toArray⟩]] w
      (RnDone w own b C ((f0 s).andThen (fun t => .go ((t.comeBy (e - 1)).destroyAll vs)))) := by
  obtain ⟨hf, oB, bB, hnB⟩ := boxed h #[.int .u8 123, .int .i64 k, .int .i64 (e : Int), .string ⟨vs.toArray⟩, .slice (some ⟨gb, 0, none⟩) nb cb, .string ⟨ar.toArray⟩] 51
  have hgl := h.ok gb hgb
  have hn0 : (0 : Int) < (nb : Int) := by omega
  have yg := (oB.keeps.cell (p := ⟨gb, 0, none⟩) hgl.1 hgl.2).trans h0
  have HB0 := Lib.hid ((hin0.after oB) s own vv _ rfl (Owns.refl hf.lt) hf.at_)
  have HO := Lib.hid oB
  have HCL : Hid (∀ own1 w1, Owns own own1 (w.alloc (.cells #[.int .u8 123, .int .i64 k, .int .i64 (e : Int), .string ⟨vs.toArray⟩, .slice (some ⟨gb, 0, none⟩) nb cb, .string ⟨ar.toArray⟩] 51)) w1 →
      w1.cell? ⟨w.heap.size, 2, none⟩ = some (.int .i64 (e : Int)) ∧ w1.cell? ⟨w.heap.size, 3, none⟩ = some (.string ⟨vs.toArray⟩) ∧ w1.cell? ⟨w.heap.size, 5, none⟩ = some (.string ⟨ar.toArray⟩)) := fun own1 w1 ho =>
    ⟨ho.cells bB hnB 2, ho.cells bB hnB 3, ho.cells bB hnB 5⟩
  have HEN := Lib.hid (fun y s1 vv1 own1 w1 => ends_any b C s1 y vv1 own1 w1)
  have hcat := cat_eq ar vs
  have hsz : (⟨ar.toArray⟩ : ByteArray).size + (⟨vs.toArray⟩ : ByteArray).size ≤ 1000 := by simp [ByteArray.size] at hll ⊢; omega
  have HV : Hid (∀ t own1 vv1 w1, f0 s = .go t → RnAt w1 own1 b C t none vv1 → (∀ k, own1 k → k < w1.heap.size) → Calls Try.prog 104 #[.pointer (some ⟨b, 0, none⟩), .int .i64 ((e : Int) - 1), .string (⟨ar.toArray⟩ ++ ⟨vs.toArray⟩)] w1 (RnRuns w1 own1 b C (t.comeBy (e - 1)) none (.tuple #[]))) := fun t own1 vv1 w1 hgt hr hlt => by
    obtain ⟨g1, g2, g3, g4, g5⟩ := hgo t hgt
    have := visit_any b C t none vv1 own1 w1 hr hlt (e - 1) (ar ++ vs) hl hll (by omega) g1
    rw [show ((e - 1 : Nat) : Int) = (e : Int) - 1 by omega, ← hcat] at this
    exact this
  have HC : Hid (∀ t own1 vv1 w1, f0 s = .go t → RnAt w1 own1 b C (t.comeBy (e - 1)) none vv1 → (∀ k, own1 k → k < w1.heap.size) → Calls Try.prog 122 #[.pointer (some ⟨b, 0, none⟩), .string ⟨vs.toArray⟩] w1 (RnRuns w1 own1 b C ((t.comeBy (e - 1)).destroyAll vs) none (.tuple #[]))) := fun t own1 vv1 w1 hgt hr hlt => by
    obtain ⟨g1, g2, g3, g4, g5⟩ := hgo t hgt
    obtain ⟨c1, c2, c3, c4⟩ := comeBy_adds t (e - 1)
    exact clear_any b C _ none vv1 own1 w1 hr hlt vs (fun v hv => hl v (List.mem_append_right _ hv)) (by simp at hll; omega) (by rw [c3]; omega) (by rw [c4]; omega) (show Below0 (t.comeBy (e - 1)) from g2)
  have he1 : (1 : Int) ≤ (e : Int) := by omega
  have he3 : (e : Int) ≤ 1000 := by omega
  generalize (⟨ar.toArray⟩ : ByteArray) = sa at *
  generalize (⟨vs.toArray⟩ : ByteArray) = sv at *
  clear hf oB bB hnB h hin0 h0 hgo hcat hl hll he he2
  obtain ⟨ei, hei⟩ : ∃ ei : Int, (e : Int) = ei := ⟨_, rfl⟩
  rw [hei] at HB0 HO HCL HV he1 he3 yg ⊢
  clear hei
  have hsz2 : sa.size + sv.size ≤ 9223372036854775807 := by omega
  cases ho0 : f0 s with
  | stop y t =>
    rw [ho0] at HB0
    show Calls _ _ _ _ (RnDone w own b C (.stop y t))
    clear HV HC ho0
    go_enter Try.func123, Try.ntmps123
    go_wp2_with (first
      | (go_at_call 85; refine HB0.out.mono ?_; rintro e2 w2 ⟨own2, vv2, rfl, ho2, hr2⟩; have HS := Lib.hid (HEN.out _ _ _ _ _ hr2); have HF := Lib.hid (And.intro ho2 hr2); clear ho2 hr2)
      | (go_at_call 103; refine HS.out.mono ?_; rintro e3 w3 ⟨rfl, rfl⟩; simp only [Out.why, Option.isSome]))
    go_end0
    exact ⟨own2, vv2, rfl, HO.out.trans HF.out.1, HF.out.2⟩
  | go t =>
    have HV := Lib.hid (fun own1 vv1 w1 hr hlt => HV.out t own1 vv1 w1 ho0 hr hlt)
    have HC := Lib.hid (fun own1 vv1 w1 hr hlt => HC.out t own1 vv1 w1 ho0 hr hlt)
    rw [ho0] at HB0
    show Calls _ _ _ _ (RnDone w own b C (.go ((t.comeBy (e - 1)).destroyAll vs)))
    clear ho0
    generalize (t.comeBy (e - 1)).destroyAll vs = t2 at HC ⊢
    generalize t.comeBy (e - 1) = t1 at HC HV
    go_enter Try.func123, Try.ntmps123
    go_wp2_with (first
      | (go_at_call 85; refine HB0.out.mono ?_; rintro e2 w2 ⟨own2, vv2, rfl, ho2, hr2⟩; have HS := Lib.hid (HEN.out _ _ _ _ _ hr2); have HVV := Lib.hid (HV.out _ _ _ hr2 ho2.lt); have ⟨y2, y3, y5⟩ := HCL.out _ _ ho2; have HF := Lib.hid ho2; clear ho2 hr2)
      | (go_at_call 103; refine HS.out.mono ?_; rintro e3 w3 ⟨rfl, rfl⟩; simp only [Out.why, Option.isSome])
      | (go_at_call 104; refine HVV.out.mono ?_; rintro e4 w4 ⟨own4, vv4, rfl, ho4, hr4⟩; have HCC := Lib.hid (HC.out _ _ _ hr4 ho4.lt); have ⟨z2, z3, z5⟩ := HCL.out _ _ (HF.out.trans ho4); have HF2 := Lib.hid (HF.out.trans ho4); clear ho4 hr4)
      | (go_at_call 122; refine HCC.out.mono ?_; rintro e5 w5 ⟨own5, vv5, rfl, ho5, hr5⟩; have HE := Lib.hid (And.intro ho5 hr5); clear ho5 hr5))
    go_end0
    exact ⟨own5, vv5, rfl, (HO.out.trans HF2.out).trans HE.out.1, HE.out.2⟩

end Go.Proofs.Ytcohmhgmocdbfaa

namespace Go.Proofs.Ytcohmhgmocdbfaa
set_option linter.unusedVariables false
set_option linter.unusedSimpArgs false
open Go.RowKit

/-- What the loop over the rounds holds. -/
def LoopRelM (w : World) (own : Nat → Prop) (b m : Nat) (C : ByteArray) (Q : St → Prop) (body : St → Out) (o : Out) (wr : World) : Prop :=
  ∃ (own1 : Nat → Prop) (vv : Value), Owns own own1 w wr ∧
    ((∃ (n : Nat) (t : St), loopRun body n t = o ∧ t.ch.length < n ∧ RnAt wr own1 b C t none vv ∧ RoomL m t ∧ Q t) ∨ (o.why.isSome ∧ RnAt wr own1 b C o.st o.why vv))

/-- How many choices are left. -/
def leftM (b : Nat) (C : ByteArray) (wr : World) : Nat := match wr.cell? ⟨b, 1, none⟩ with | some (.int .i64 k) => C.size - k.toNat | _ => 0

theorem RnAt.left {w : World} {own : Nat → Prop} {b : Nat} {C : ByteArray} {s : St} {y : Option Why} {vv : Value} (h : RnAt w own b C s y vv) : leftM b C w = s.ch.length := by
  have e : w.cell? ⟨b, 1, none⟩ = some (.int .i64 ((C.size - s.ch.length : Nat) : Int)) := h.blk.cell 1
  have := h.few
  unfold leftM
  rw [e]
  simp
  omega

set_option maxRecDepth 100000 in
set_option maxHeartbeats 4000000 in
theorem within_loop (b : Nat) (C : ByteArray) (s : St) (sc : List UInt8) (vv : Value) (own ok : Nat → Prop) (w : World) (h : Fine w own ok b C s sc vv) (k e : Int) (vs : ByteArray) (gb nb cb mm : Nat) (ar : ByteArray)
    (hgb : ok gb) (hnb : 1 ≤ nb) (hcb : nb ≤ cb) (x0 : Option Addr) (n0 c0 : Nat) (h0 : w.cell? ⟨gb, 0, none⟩ = some (.slice x0 n0 c0)) (Q : St → Prop) (body : St → Out) (hroom : RoomL mm s) (hQ : Q s) (hadds : ∀ t, Adds mm t (body t).st)
    (hstep : ∀ t t', Q t → t' = { t with ch := t'.ch } → Q t') (hgo : ∀ t t2, Q t → body t = .go t2 → Q t2)
    (hin0 : BodyDoes w own b C sc (.slice x0 n0 c0) (fun t => Q t ∧ Room mm t) body) :
    Calls Try.prog 123 #[.pointer (some ⟨b, 0, none⟩), .agg #[.int .u8 42, .int .i64 k, .int .i64 e, .string vs, .slice (some ⟨gb, 0, none⟩) nb cb, .string ar]] w
      (RnDone w own b C (loopRun body (s.ch.length + 1) s)) := by
  obtain ⟨hf, oB, bB, hnB⟩ := boxed h #[.int .u8 42, .int .i64 k, .int .i64 e, .string vs, .slice (some ⟨gb, 0, none⟩) nb cb, .string ar] 51
  have hgl := h.ok gb hgb
  have hn0 : (0 : Int) < (nb : Int) := by omega
  have hbt : betweenOf false = ⟨#[101, 109]⟩ := rfl
  obtain ⟨o, ho⟩ : ∃ o, loopRun body (s.ch.length + 1) s = o := ⟨_, rfl⟩
  rw [ho]
  have HP : Hid (LoopRelM (w.alloc (.cells #[.int .u8 42, .int .i64 k, .int .i64 e, .string vs, .slice (some ⟨gb, 0, none⟩) nb cb, .string ar] 51)) own b mm C Q body o (w.alloc (.cells #[.int .u8 42, .int .i64 k, .int .i64 e, .string vs, .slice (some ⟨gb, 0, none⟩) nb cb, .string ar] 51))) :=
    ⟨own, vv, Owns.refl hf.lt, .inl ⟨_, s, ho, Nat.lt_succ_self _, hf.at_, hroom, hQ⟩⟩
  have HCL : Hid (∀ own1 w1, Owns own own1 (w.alloc (.cells #[.int .u8 42, .int .i64 k, .int .i64 e, .string vs, .slice (some ⟨gb, 0, none⟩) nb cb, .string ar] 51)) w1 →
      w1.cell? ⟨w.heap.size, 4, none⟩ = some (.slice (some ⟨gb, 0, none⟩) nb cb) ∧ w1.cell? ⟨gb, 0, none⟩ = some (.slice x0 n0 c0)) := fun own1 w1 ho =>
    ⟨ho.cells bB hnB 4, ((oB.trans ho).keeps.cell (p := ⟨gb, 0, none⟩) hgl.1 hgl.2).trans h0⟩
  have HEN := Lib.hid (fun y s1 vv1 own1 w1 => ends_any b C s1 y vv1 own1 w1)
  have HO := Lib.hid oB
  have HB := Lib.hid (hin0.after oB)
  have HC := Lib.hid h.size
  have HA := Lib.hid hadds
  have HS := Lib.hid (And.intro hstep hgo)
  clear hf oB bB hnB h hin0 h0 ho hroom hadds hstep hgo hQ
  generalize hwB : w.alloc (.cells #[.int .u8 42, .int .i64 k, .int .i64 e, .string vs, .slice (some ⟨gb, 0, none⟩) nb cb, .string ar] 51) = wB at *
  subst hwB
  go_enter Try.func123, Try.ntmps123
  go_wp2_with fail
  go_loopw [] (fun wr => LoopRelM (w.alloc (.cells #[.int .u8 42, .int .i64 k, .int .i64 e, .string vs, .slice (some ⟨gb, 0, none⟩) nb cb, .string ar] 51)) own b mm C Q body o wr) (fun wr => leftM b C wr)
  case atStart => exact HP.out
  case round =>
    clear HP
    obtain ⟨own1, vv1, ho1, hcase⟩ := hrel
    rcases hcase with ⟨n, t, hrun, hlt, hr1, hrm, hq⟩ | ⟨hend, hr1⟩
    · have hmes := hr1.left
      have HE1 := Lib.hid (HEN.out _ _ _ _ _ hr1)
      cases n with
      | zero => exact absurd hlt (Nat.not_lt_zero _)
      | succ n =>
        rw [loopRun] at hrun
        cases hc : t.choose 101 109 with
        | none =>
          rw [hc] at hrun
          simp only at hrun
          have HN := Lib.hid (takeM_none b C t vv1 own1 wr hr1 ho1.lt HC.out false hc)
          rw [hbt] at HN
          have HQ := Lib.hid ho1
          subst hrun
          clear hmes hlt ho1 hr1 hrm hc hbt
          go_wp2_with (first
            | (go_at_call 103; refine HE1.out.mono ?_; rintro e3 w3 ⟨rfl, rfl⟩; simp only [Option.isSome])
            | (go_at_call 131; refine HN.out.mono ?_; rintro e3 w3 ⟨own3, vv3, rfl, ho3, hr3⟩; have HE := Lib.hid (And.intro ho3 hr3); clear ho3 hr3))
          go_end0
          exact ⟨own3, vv3, rfl, (HO.out.trans HQ.out).trans HE.out.1, HE.out.2⟩
        | some p =>
          obtain ⟨c, s'⟩ := p
          rw [hc] at hrun
          simp only at hrun
          have HN := Lib.hid (takeM_ok b C t s' vv1 own1 wr hr1 ho1.lt HC.out false c hc)
          rw [hbt] at HN
          have hrd := hrm.round hc
          obtain ⟨hch, hcc, hsh⟩ := choose_some hc
          have hlen : t.ch.length = s'.ch.length + 1 := by rw [hch]; simp
          have hqs := HS.out.1 t s' hq hsh
          have HQ := Lib.hid ho1
          by_cases hc9 : c = 109
          · subst hc9
            rw [if_pos rfl] at hrun
            have HBB : Hid (∀ own3 vv3 w3, Owns own1 own3 wr w3 → RnAt w3 own3 b C s' none vv3 → w3.cell? ⟨w.heap.size, 4, none⟩ = some (.slice (some ⟨gb, 0, none⟩) nb cb) ∧ w3.cell? ⟨gb, 0, none⟩ = some (.slice x0 n0 c0) ∧
                Calls Try.prog 85 #[.pointer (some ⟨b, 0, none⟩), .slice x0 n0 c0] w3 (fun e' w4 => e' = .returned (.tuple #[]) ∧ LoopRelM (w.alloc (.cells #[.int .u8 42, .int .i64 k, .int .i64 e, .string vs, .slice (some ⟨gb, 0, none⟩) nb cb, .string ar] 51)) own b mm C Q body o w4 ∧ leftM b C w4 < t.ch.length)) := by
              intro own3 vv3 w3 ho3 hr3
              have hoo := ho1.trans ho3
              obtain ⟨z4, z0⟩ := HCL.out _ _ hoo
              refine ⟨z4, z0, (HB.out s' own3 vv3 w3 ⟨hqs, hrd⟩ hoo hr3).mono ?_⟩
              rintro e' w4 ⟨own4, vv4, rfl, ho4, hr4⟩
              have hal := hoo.trans ho4
              refine ⟨rfl, ?_⟩
              have ha := HA.out s'
              cases hb : body s' with
              | stop y t2 =>
                rw [hb] at hrun hr4 ha
                have hoe : o = .stop y t2 := hrun.symm
                subst hoe
                have := ha.ch
                simp only [Out.st] at this
                refine ⟨⟨own4, vv4, hal, .inr ⟨rfl, hr4⟩⟩, ?_⟩
                rw [hr4.left]
                show t2.ch.length < _
                omega
              | go t2 =>
                rw [hb] at hrun hr4 ha
                have := ha.ch
                simp only [Out.st] at this
                refine ⟨⟨own4, vv4, hal, .inl ⟨n, t2, hrun, by omega, hr4, hrd.behind ha, HS.out.2 s' t2 hqs hb⟩⟩, ?_⟩
                rw [hr4.left]
                show t2.ch.length < _
                omega
            clear hlt ho1 hr1 hrm hc hbt hrd hch hcc hsh hlen hqs hq hrun
            go_wp2_with (first
              | (go_at_call 103; refine HE1.out.mono ?_; rintro e3 w3 ⟨rfl, rfl⟩; simp only [Option.isSome])
              | (go_at_call 131; refine HN.out.mono ?_; rintro e3 w3 ⟨own3, vv3, rfl, ho3, hr3⟩; have ⟨y4, y0, hcall⟩ := HBB.out _ _ _ ho3 hr3; have HX := Lib.hid hcall; clear ho3 hr3 hcall)
              | (go_at_call 85; refine HX.out.mono ?_; rintro e4 w4 ⟨rfl, hrel⟩; have HE := Lib.hid hrel; clear hrel))
            go_roundw
            case rel => exact HE.out.1
            case measure => rw [hmes]; exact HE.out.2
          · rw [if_neg hc9] at hrun
            have hc1 : c = 101 := by rcases hcc with h | h; exact h; exact absurd h hc9
            subst hc1
            subst hrun
            clear hmes hlt ho1 hr1 hrm hc hbt hrd hch hcc hsh hlen hqs hq hc9
            go_wp2_with (first
              | (go_at_call 103; refine HE1.out.mono ?_; rintro e3 w3 ⟨rfl, rfl⟩; simp only [Option.isSome])
              | (go_at_call 131; refine HN.out.mono ?_; rintro e3 w3 ⟨own3, vv3, rfl, ho3, hr3⟩; have HE := Lib.hid (And.intro ho3 hr3); clear ho3 hr3))
            go_end0
            exact ⟨own3, vv3, rfl, (HO.out.trans HQ.out).trans HE.out.1, HE.out.2⟩
    · have HE1 := Lib.hid (HEN.out _ _ _ _ _ hr1)
      rw [hend] at HE1
      have HF := Lib.hid (And.intro ho1 hr1)
      clear ho1 hr1 hend
      go_wp2_with (go_at_call 103; refine HE1.out.mono ?_; rintro e3 w3 ⟨rfl, rfl⟩)
      go_end0
      exact ⟨own1, vv1, rfl, HO.out.trans HF.out.1, HF.out.2⟩

end Go.Proofs.Ytcohmhgmocdbfaa

namespace Go.Proofs.Ytcohmhgmocdbfaa
set_option linter.unusedVariables false
set_option linter.unusedSimpArgs false
open Go.RowKit

theorem row_cap {w : World} {ok : Nat → Prop} {e : TypeId} {size : Nat} {g n c : Nat} {xs : List Value} (h : Row w ok e size (.slice (some ⟨g, 0, none⟩) n c) n xs) : n ≤ c := by
  rcases h.1.2 with ⟨e1, _⟩ | ⟨g', c', cur, e1, _, hh, hnc, _⟩
  · cases e1
  · simp only [Value.slice.injEq, Option.some.injEq, Addr.mk.injEq, and_true, true_and] at e1
    obtain ⟨rfl, rfl⟩ := e1
    exact hnc

theorem BodyDoes.less {w : World} {own : Nat → Prop} {b : Nat} {C : ByteArray} {sc : List UInt8} {vx : Value} {P P' : St → Prop} {body : St → Out} (h : BodyDoes w own b C sc vx P body) (e : ∀ t, P' t → P t) : BodyDoes w own b C sc vx P' body :=
  fun t own1 vv1 w1 hp ho hr => h t own1 vv1 w1 (e t hp) ho hr

theorem bodyC {txt : ByteArray} (htxt : txt.size ≤ 80) (x : Nds) (sc : List UInt8) (d : Nat) (hx : x.Ok txt sc d) (hfit : x.Fit) (hc : ∀ z ∈ x.list, SStepC z) (hscl : ∀ v ∈ sc, lett v) (hsl : sc.length ≤ 1000)
    {w : World} {own ok : Nat → Prop} {b : Nat} {C : ByteArray} {n : Nat} {v : Value} {cs : List Value} (hrow : Row w ok 51 6 v n cs) (hrep : RepSL w ok x cs) (hok : ∀ k, ok k → k < w.heap.size ∧ ¬ own k) (hC : C.size ≤ 1000) :
    BodyDoes w own b C sc v (fun t => (Held t sc ∧ Below0 t) ∧ Room x.pre.len t) (fun t => Nds.run x t) := by
  rintro t own1 vv1 w1 ⟨⟨hh, hb⟩, hr⟩ ho hat
  have hnx : n = x.list.length := by
    have h1 := repSL_len _ _ hrep
    have h2 := hrow.1.1
    rw [Nds.list_len]
    omega
  have hf := Nds.few x
  have hv := hr.vis
  refine sbodyM_any x t sc C w1 own1 ok b n v vv1 cs ((hands_owns ho hok).row _ _ _ _ _ hrow) ((hands_owns ho hok).repSL x cs hrep) ⟨hat, hC, hh, hb, ok_after ho hok, ho.lt⟩ hr (by omega) hnx hscl hsl (fun z hz => ?_)
  obtain ⟨hzs, hzo⟩ := Nds.Ok.mem hx z hz
  refine ⟨hzs, hc z hz, fun s => ⟨Nd.adds htxt z d s hzo, fun t' hh' hgo => ?_⟩⟩
  have := Nd.held z d s t' hzo (fit_mem hfit z hz) (by rw [hzs]; exact hh') hgo
  rwa [hzs] at this
where
  fit_mem : ∀ {x : Nds}, x.Fit → ∀ z ∈ x.list, z.Fit
    | .nil, _, z, hz => by cases hz
    | .cons y r, h, z, hz => by
      simp only [Nds.Fit] at h
      rcases List.mem_cons.1 hz with e | hz
      · rw [e]; exact h.1
      · exact fit_mem h.2 z hz

theorem one_act (s : St) (k e : Nat) (c v : UInt8) (ar : List UInt8) (hc : c = 43 ∨ c = 46 ∨ c = 45 ∨ c = 126) : (Nd.mk c k e [v] ar .nil).act s = s.one k c v := by
  rw [Nd.act, if_neg (by rcases hc with h | h | h | h <;> rw [h] <;> decide), if_neg (by rcases hc with h | h | h | h <;> rw [h] <;> decide)]

set_option maxRecDepth 100000 in
theorem stepM_one (b : Nat) (C : ByteArray) (s : St) (sc : List UInt8) (vv : Value) (own ok : Nat → Prop) (w : World) (h : Fine w own ok b C s sc vv) (hn : s.ev.length ≤ 900000) (hm : s.made ≤ 800000)
    (k e : Nat) (c v : UInt8) (a : Option Addr) (n m : Nat) (ar : ByteArray) (hv : lett v) (hc : c = 43 ∨ c = 46 ∨ c = 45 ∨ c = 126) :
    Calls Try.prog 105 #[.pointer (some ⟨b, 0, none⟩), .agg #[u8 c, i64 k, i64 e, str [v], .slice a n m, .string ar]] w (RnDone w own b C (s.one k c v)) := by
  rcases hc with rfl | rfl | rfl | rfl
  · exact stepM_make b C s sc vv own ok w h hn hm k e v a n m ar hv
  · exact stepM_use b C s sc vv own ok w h hn hm k e v a n m ar hv
  · exact stepM_end b C s sc vv own ok w h hn hm k e v a n m ar hv
  · exact stepM_drop b C s sc vv own ok w h hn hm k e v a n m ar hv

mutual
theorem Nd.sstepC {txt : ByteArray} (htxt : txt.size ≤ 80) : ∀ (x : Nd) (d : Nat), x.Ok txt d → x.Lett → x.Fit → SStepC x
  | .mk c k e vs ar .nil, d, hx, hl, hfit => by
    intro s C w own ok b vv vb hf hrep hroom
    have hr0 := hroom.vis
    have hr1 := hroom.ev
    have hr2 := hroom.made
    have hgd := hx.good
    have hgr := hgd.room
    have hge := hgd.le
    simp only [Nd.scope, Nd.vars, Nd.fin] at hgr hge
    simp only [Nd.Lett] at hl
    obtain ⟨hl1, hl2, _⟩ := hl
    simp only [Nd.Fit] at hfit
    simp only [RepS, nodeCells] at hrep
    obtain ⟨vb', n, xs, he, hrow, hb⟩ := hrep
    obtain ⟨a, m, hvb'⟩ := row_slice hrow
    have hvb : vb = .slice a n m := by
      simp only [Nd.kind, Nd.beg, Nd.fin, Nd.vars, Nd.scope, List.cons.injEq, true_and, and_true] at he
      rw [he, hvb']
    subst hvb
    show Calls _ _ #[_, .agg #[u8 c, i64 k, i64 e, str vs, .slice a n m, str ar]] w _
    rcases hfit with ⟨hc, t, rfl, ht⟩ | ⟨rfl, t, u, rfl, ht, hu⟩ | ⟨hc, rfl⟩
    · rw [one_act s k e c t ar hc]
      exact stepM_one b C s _ vv own ok w hf (by omega) (by omega) k e c t a n m _ (hl1 t (by simp)) hc
    · exact stepM_move b C s _ vv own ok w hf (by omega) (by omega) k e t u a n m _ (hl1 t (by simp)) (hl1 u (by simp))
    · have hact : (Nd.mk c k e [] ar .nil).act s = .stop (if c = 94 then .ret else .fail) (s.destroyAll ar) := by
        rcases hc with rfl | rfl <;> rfl
      rw [hact]
      exact stepM_leave b C s _ vv own ok w hf (by omega) (by omega) k e c _ a n m ar hc hl2 (by omega)
  | .mk c k e vs ar (.cons x .nil), d, hx, hl, hfit => by
    intro s C w own ok b vv vb hf hrep hroom
    have hlen : (Nd.mk c k e vs ar (.cons x .nil)).pre.len - 1 = x.pre.len := by simp [Nd.pre, Bds.pre, Nds.len, Nds.len_app]
    rw [hlen] at hroom
    have hgd := hx.good
    have hgr := hgd.room
    have hge := hgd.le
    have hgl := hgd.lt
    simp only [Nd.scope, Nd.vars, Nd.fin, Nd.beg] at hgr hge hgl
    have hx' := hx
    simp only [Nd.Ok, Bds.Ok] at hx'
    have hxx := hx'.2.2.2.2.2.2.2.2.1
    simp only [Nd.Lett, Bds.Lett] at hl
    obtain ⟨hl1, hl2, hl3, _⟩ := hl
    simp only [Nd.Fit] at hfit
    obtain ⟨hkind, hfx⟩ := hfit
    have ih := Nds.sstepC htxt x _ _ hxx hl3 hfx
    simp only [RepS, nodeCells] at hrep
    obtain ⟨vb', n, xs, he, hrow, hb⟩ := hrep
    simp only [RepSB] at hb
    obtain ⟨v1, vr, n1, cs, rfl, ⟨hrow1, hrep1⟩, rfl⟩ := hb
    have hn1 : n = 1 := by have := hrow.1.1; simp at this; omega
    subst hn1
    obtain ⟨gb, cb, hvb', hgb, hgbl, hcell⟩ := row_get hrow (by omega)
    have hvb : vb = .slice (some ⟨gb, 0, none⟩) 1 cb := by
      simp only [Nd.kind, Nd.beg, Nd.fin, Nd.vars, Nd.scope, List.cons.injEq, true_and, and_true] at he
      rw [he, hvb']
    subst hvb hvb'
    have hcap := row_cap hrow
    have hc0 := hcell 0 _ rfl
    obtain ⟨x0, c0, rfl⟩ := row_slice hrow1
    show Calls _ _ #[_, .agg #[u8 c, i64 k, i64 e, str vs, .slice (some ⟨gb, 0, none⟩) 1 cb, str ar]] w _
    have hh : Held s ar := hf.held
    rcases hkind with ⟨rfl, rfl⟩ | rfl
    · rw [List.append_nil] at hxx
      have hact : (Nd.mk 42 k e [] ar (.cons x .nil)).act s = loopRun (fun t => Nds.run x t) (s.ch.length + 1) s := rfl
      rw [hact]
      refine stepM_in b C s _ vv own ok w hf k e 42 _ _ _ _ _ _ (by simp) (fun wB hoB hfB => ?_)
      have hBo := bodyC (b := b) (C := C) htxt x ar _ hxx hfx ih hl2 (by omega) ((hands_owns hoB hf.ok).row _ _ _ _ _ hrow1) ((hands_owns hoB hf.ok).repSL x cs hrep1) hfB.ok hfB.size
      exact within_loop b C s _ vv own ok wB hfB k e _ gb 1 cb x.pre.len _ hgb (by omega) hcap x0 n1 c0 ((hoB.keeps.cell (p := ⟨gb, 0, none⟩) hgbl (hf.ok gb hgb).2).trans hc0) (fun t => Held t ar ∧ Below0 t) (fun t => Nds.run x t) hroom.loop ⟨hh, hf.low⟩ (fun t => Nds.adds htxt x ar _ t hxx)
        (fun t t' hq e => by rw [e]; exact hq) (fun t t2 hq hgo => ⟨Nds.held x ar _ t t2 hxx hfx hq.1 hgo, Nds.below0 x t t2 hq.2 hgo⟩) hBo
    · have hact : (Nd.mk 123 k e vs ar (.cons x .nil)).act s = (Nds.run x s).andThen (fun t => .go ((t.comeBy (e - 1)).destroyAll vs)) := rfl
      rw [hact]
      have hlall : ∀ v ∈ ar ++ vs, lett v := fun v hv => by
        rcases List.mem_append.1 hv with h | h
        · exact hl2 v h
        · exact hl1 v h
      have hall : (ar ++ vs).length ≤ 1000 := by rw [List.length_append]; omega
      have hh2 : Held s (ar ++ vs) := hh.more (fun v hv => List.mem_append_left _ hv)
      refine stepM_in b C s _ vv own ok w hf k e 123 _ _ _ _ _ _ (by simp) (fun wB hoB hfB => ?_)
      have hBo := bodyC (b := b) (C := C) htxt x (ar ++ vs) _ hxx hfx ih hlall hall ((hands_owns hoB hf.ok).row _ _ _ _ _ hrow1) ((hands_owns hoB hf.ok).repSL x cs hrep1) hfB.ok hfB.size
      refine within_scope b C s _ vv own ok wB hfB k e vs ar gb 1 cb hgb (by omega) hcap x0 n1 c0 ((hoB.keeps.cell (p := ⟨gb, 0, none⟩) hgbl (hf.ok gb hgb).2).trans hc0) (fun t => Nds.run x t) (hBo.less (fun t e => by rw [e]; exact ⟨⟨hh2, hf.low⟩, hroom⟩)) (by omega) (by omega) hlall hall (fun t hgo => ?_)
      have hbe := hroom.behind (Nds.adds htxt x _ _ s hxx)
      have hgo' : Nds.run x s = .go t := hgo
      rw [hgo'] at hbe
      have q1 := hbe.vis
      have q2 := hbe.ev
      have q3 := hbe.made
      simp only [Out.st] at q1 q2 q3
      exact ⟨Nds.held x _ _ s t hxx hfx hh2 hgo, Nds.below0 x s t hf.low hgo, by omega, by omega, by omega⟩
  | .mk c k e vs ar (.cons x (.cons y .nil)), d, hx, hl, hfit => by
    intro s C w own ok b vv vb hf hrep hroom
    have hlen : (Nd.mk c k e vs ar (.cons x (.cons y .nil))).pre.len - 1 = x.pre.len + y.pre.len := by simp [Nd.pre, Bds.pre, Nds.len, Nds.len_app]
    rw [hlen] at hroom
    have hgd := hx.good
    have hgr := hgd.room
    have hge := hgd.le
    have hgl := hgd.lt
    simp only [Nd.scope, Nd.vars, Nd.fin, Nd.beg] at hgr hge hgl
    have hx' := hx
    simp only [Nd.Ok, Bds.Ok] at hx'
    have hxx := hx'.2.2.2.2.2.2.2.2.1
    have hyy := hx'.2.2.2.2.2.2.2.2.2.1
    simp only [Nd.Lett, Bds.Lett] at hl
    obtain ⟨hl1, hl2, hl3, hl4, _⟩ := hl
    simp only [Nd.Fit] at hfit
    obtain ⟨rfl, rfl, hfx, hfy⟩ := hfit
    rw [List.append_nil] at hxx hyy
    have ihx := Nds.sstepC htxt x _ _ hxx hl3 hfx
    have ihy := Nds.sstepC htxt y _ _ hyy hl4 hfy
    simp only [RepS, nodeCells] at hrep
    obtain ⟨vb', n, xs, he, hrow, hb⟩ := hrep
    simp only [RepSB] at hb
    obtain ⟨v1, vr, n1, cs1, rfl, ⟨hrow1, hrep1⟩, ⟨v2, vr2, n2, cs2, rfl, ⟨hrow2, hrep2⟩, rfl⟩⟩ := hb
    have hn2 : n = 2 := by have := hrow.1.1; simp at this; omega
    subst hn2
    obtain ⟨gb, cb, hvb', hgb, hgbl, hcell⟩ := row_get hrow (by omega)
    have hvb : vb = .slice (some ⟨gb, 0, none⟩) 2 cb := by
      simp only [Nd.kind, Nd.beg, Nd.fin, Nd.vars, Nd.scope, List.cons.injEq, true_and, and_true] at he
      rw [he, hvb']
    subst hvb hvb'
    have hcap := row_cap hrow
    have hc0 := hcell 0 _ rfl
    have hc1 := hcell 1 _ rfl
    obtain ⟨x0, c0, rfl⟩ := row_slice hrow1
    obtain ⟨x1, c1, rfl⟩ := row_slice hrow2
    show Calls _ _ #[_, .agg #[u8 63, i64 k, i64 e, str [], .slice (some ⟨gb, 0, none⟩) 2 cb, str ar]] w _
    have hh : Held s ar := hf.held
    have hact : (Nd.mk 63 k e [] ar (.cons x (.cons y .nil))).act s = (match s.choose 108 114 with | none => .stop (.stuck true) s | some (c', s') => if c' = 108 then Nds.run x s' else Nds.run y s') := rfl
    rw [hact]
    refine stepM_in b C s _ vv own ok w hf k e 63 _ _ _ _ _ _ (by simp) (fun wB hoB hfB => ?_)
    have hBx := bodyC (b := b) (C := C) htxt x ar _ hxx hfx ihx hl2 (by omega) ((hands_owns hoB hf.ok).row _ _ _ _ _ hrow1) ((hands_owns hoB hf.ok).repSL x cs1 hrep1) hfB.ok hfB.size
    have hBy := bodyC (b := b) (C := C) htxt y ar _ hyy hfy ihy hl2 (by omega) ((hands_owns hoB hf.ok).row _ _ _ _ _ hrow2) ((hands_owns hoB hf.ok).repSL y cs2 hrep2) hfB.ok hfB.size
    exact within_branch b C s _ vv own ok wB hfB k e _ gb 2 cb _ hgb (by omega) hcap x0 x1 n1 n2 c0 c1 ((hoB.keeps.cell (p := ⟨gb, 0, none⟩) hgbl (hf.ok gb hgb).2).trans hc0) ((hoB.keeps.cell (p := ⟨gb, 1, none⟩) hgbl (hf.ok gb hgb).2).trans hc1)
      (fun t => (Held t ar ∧ Below0 t) ∧ Room (x.pre.len + y.pre.len) t) (fun c s' hc => by
        obtain ⟨_, _, h3⟩ := choose_some hc
        exact ⟨by rw [h3]; exact ⟨hh, hf.low⟩, hroom.chosen hc⟩) (fun t => Nds.run x t) (fun t => Nds.run y t) (hBx.less (fun t ht => ⟨ht.1, ht.2.less (by omega)⟩)) (hBy.less (fun t ht => ⟨ht.1, ht.2.less (by omega)⟩))
  | .mk _ _ _ _ _ (.cons _ (.cons _ (.cons _ _))), _, _, _, hfit => by simp only [Nd.Fit] at hfit
theorem Nds.sstepC {txt : ByteArray} (htxt : txt.size ≤ 80) : ∀ (x : Nds) (sc : List UInt8) (d : Nat), x.Ok txt sc d → x.Lett → x.Fit → ∀ z ∈ x.list, SStepC z
  | .nil, _, _, _, _, _ => fun z hz => by cases hz
  | .cons x r, sc, d, hx, hl, hfit => by
    simp only [Nds.Ok] at hx
    simp only [Nds.Lett] at hl
    simp only [Nds.Fit] at hfit
    have h1 := Nd.sstepC htxt x d hx.2.1 hl.1 hfit.1
    have h2 := Nds.sstepC htxt r sc d hx.2.2 hl.2 hfit.2
    intro z hz
    rcases List.mem_cons.1 hz with e | hz
    · rw [e]; exact h1
    · exact h2 z hz
end

/-- What a whole program's step does. -/
theorem sroot_any {txt : ByteArray} {x : Nd} (hp : progP txt = some x) : SStepC x := by
  obtain ⟨_, h2, _, _, _, h6⟩ := progP_ok hp
  exact Nd.sstepC h6 x 0 h2 (progP_lett hp) (progP_fit hp)

end Go.Proofs.Ytcohmhgmocdbfaa

/-
  What the program's visitors have in common: the function that tells what is known at a point, the copier's methods, the text of a step with a variable.
  The program's tidier: what becomes of a step with a variable.
  The program's tidier and pruner as visitors; TidyFlags and DropDead of the program.
-/
import Derived.Test.YtccpmhjffcceeaaHfW
import Derived.Test.YtccpmhjffcceeaaYaW
import Derived.Test.YtccpmhjffcceeaaVoW
import Derived.StillTailTactics
import Derived.Test.YtccpmhjffcceeaaWqfW
import Derived.Test.YtccpmhjffcceeaaDa
import Derived.Test.YtccpmhjffcceeaaIfW
namespace Go.Proofs.Ytccpmhjffcceeaa
set_option linter.unusedVariables false
set_option linter.unusedSimpArgs false
open Go.RowKit Go.Shelf

theorem zeroKnH (w : World) : (zeroValue 141).run Try.prog w = .ok (.agg #[.int .u8 0, .int .u8 0]) w := by kernel_rfl

/-- The map of what is known, and the box that the function keeps it in. -/
def KnowsAt (W : World) (x : Nd) (P : Nat) : Prop := ∃ m, MapAt Try.prog 3 W m (notesP x) ∧ Blk W P #[.map (some m)] 138
theorem KnowsAt.quiet {W W' : World} {x : Nd} {P : Nat} (h : KnowsAt W x P) (q : Keeps noB W W') : KnowsAt W' x P := by
  obtain ⟨m, h1, h2⟩ := h
  exact ⟨m, h1.keeps q id, q.blk h2 id⟩
/-- The function that tells it. -/
def knowsF (P : Nat) : Value := .func (.func 86) #[] #[.pointer (some ⟨P, 0, none⟩)]

set_option maxRecDepth 100000 in
set_option maxHeartbeats 2000000 in
theorem knowing_any {s : ByteArray} {x : Nd} (hp : progP s = some x) (w : World) (ok : Nat → Prop) (g : Nat) (hr : RepI w ok x (.iface 57 (ptr g))) :
    Calls Try.prog 56 #[.pointer (some ⟨g, 0, none⟩)] w (fun e w' => ∃ P, e = .returned (knowsF P) ∧ KnowsAt w' x P ∧ Keeps noB w w') := by
  have HV := Lib.hid (surveyed_any hp w ok g hr)
  unfold ptr at HV
  clear hr hp
  go_enter Try.func56, Try.ntmps56
  go_wp2_with fail
  refine HV.out.mono ?_
  rintro e w1 ⟨m, rfl, hm, q1, hnew⟩
  have HE : Hid (KnowsAt (w1.alloc (.cells #[.map (some m)] 138)) x w1.heap.size ∧ Keeps noB w (w1.alloc (.cells #[.map (some m)] 138))) :=
    ⟨⟨m, hm.keeps ((Keeps.refl noB w1).alloc _) id, Blk.new _ _ _⟩, q1.alloc _⟩
  clear hm q1 hnew
  go_wp2_with fail
  go_ret
  exact ⟨_, rfl, HE.out.1, HE.out.2⟩

theorem resKnows (W : World) (N : Nat) (a b : Int) (tmps : Array Value) (h3 : tmps.getD 3 undef = .pointer (some ⟨N, 0, none⟩))
    (c0 : W.cell? ⟨N, 0, none⟩ = some (.int .u8 a)) (c1 : W.cell? ⟨N, 1, none⟩ = some (.int .u8 b)) : (results Try.f86 tmps).run Try.prog W = .ok (.agg #[.int .u8 a, .int .u8 b]) W := by
  have h3' : tmps[3]?.getD undef = .pointer (some ⟨N, 0, none⟩) := by simpa using h3
  simp [results, Try.results86, go_sem, h3', c0, c1]

set_option maxRecDepth 100000 in
set_option maxHeartbeats 2000000 in
theorem knows_any {x : Nd} {P : Nat} {w : World} (h : KnowsAt w x P) (at_ : Int) (ha : (Lit.int .i64 at_).wf = true) :
    Calls Try.prog 86 #[.int .i64 at_, .pointer (some ⟨P, 0, none⟩)] w (fun e w' => e = .returned (knV (knO (noteI (notesP x) at_))) ∧ Keeps noB w w') := by
  obtain ⟨m, hm, hP⟩ := h
  obtain ⟨w1, hw1⟩ : ∃ w1, w1 = w.alloc (.cells #[.int .u8 0, .int .u8 0] 141) := ⟨_, rfl⟩
  have q1 : Keeps noB w w1 := by rw [hw1]; exact (Keeps.refl _ _).alloc _
  have b1 : Blk w1 w.heap.size #[.int .u8 0, .int .u8 0] 141 := by rw [hw1]; exact Blk.new _ _ _
  have p1 := q1.blk hP id
  have r0 := p1.cell 0
  simp at r0
  have hl := (hm.keeps q1 id).look Try.underlying3 Try.underlying138 (zeroKnH w1) ha
  obtain ⟨k, hk⟩ : ∃ k, knO (noteI (notesP x) at_) = k := ⟨_, rfl⟩
  rw [hk] at hl ⊢
  unfold knV at *
  obtain ⟨km, ku⟩ := k
  simp only at hl ⊢
  have c0 := b1.cell 0
  have c1 := b1.cell 1
  have z0 := b1.free 0
  have z1 := b1.free 1
  simp at c0 c1
  have HE : Hid (Keeps noB w (w.alloc (.cells #[.int .u8 (km : Int), .int .u8 (ku : Int)] 141))) := (Keeps.refl _ _).alloc _
  have HB := Lib.hid (Blk.new w #[.int .u8 (km : Int), .int .u8 (ku : Int)] 141)
  clear hm hP q1 b1 p1 hk ha
  subst hw1
  go_enter Try.func86, Try.ntmps86
  go_wp2_with fail
  have e0 := (HB.out.cell 0).trans rfl
  have e1 := (HB.out.cell 1).trans rfl
  refine bodyPost_ret (resKnows _ w.heap.size (km : Int) (ku : Int) _ rfl e0 e1) rfl ⟨rfl, HE.out⟩

/-! ### the copier -/
set_option maxHeartbeats 1000000 in
theorem copKeeps_any (u : Value) (ss : ByteArray) (d : Int) (hu : ∃ t g, u = .iface t (ptr g)) (w : World) : Calls Try.prog 190 #[.agg #[], .agg #[u, .string ss, .int .i64 d]] w (fun e w' => e = .returned (.bool true) ∧ Keeps noB w w') := by
  obtain ⟨t, g, rfl⟩ := hu
  unfold ptr
  go_enter Try.func190, Try.ntmps190
  go_wp2_with fail
  go_ret
  exact ⟨rfl, ((Keeps.refl _ _).alloc _).alloc _⟩

set_option maxHeartbeats 1000000 in
theorem copAhead_any (u : Value) (ss : ByteArray) (d : Int) (hu : ∃ t g, u = .iface t (ptr g)) (w : World) : Calls Try.prog 187 #[.agg #[], .agg #[u, .string ss, .int .i64 d]] w (fun e w' => e = .returned (.string ⟨#[]⟩) ∧ Keeps noB w w') := by
  obtain ⟨t, g, rfl⟩ := hu
  unfold ptr
  go_enter Try.func187, Try.ntmps187
  go_wp2_with fail
  go_ret
  exact ⟨rfl, ((Keeps.refl _ _).alloc _).alloc _⟩

set_option maxHeartbeats 1000000 in
theorem copEnd_any (g : Nat) (w : World) : Calls Try.prog 188 #[.agg #[], .pointer (some ⟨g, 0, none⟩)] w (fun e w' => e = .returned (.string ⟨#[]⟩) ∧ Keeps noB w w') := by
  go_enter Try.func188, Try.ntmps188
  go_wp2_with fail
  go_ret
  exact ⟨rfl, (Keeps.refl _ _).alloc _⟩

set_option maxHeartbeats 1000000 in
theorem copDecl_any (g : Nat) (sv : ByteArray) (w : World) (h2 : w.cell? ⟨g, 2, none⟩ = some (.string sv)) (hg : g < w.heap.size) : Calls Try.prog 189 #[.agg #[], .pointer (some ⟨g, 0, none⟩)] w (fun e w' => e = .returned (.string sv) ∧ Keeps noB w w') := by
  have hne : ¬ g = w.heap.size := by omega
  go_enter Try.func189, Try.ntmps189
  go_wp2_with fail
  go_ret
  exact ⟨rfl, (Keeps.refl _ _).alloc _⟩

/-- The bytes of a new row as a text. -/
theorem conv_newP (w : World) (l : List UInt8) (h0 : 0 < l.length) (h1 : l.length ≤ 1000) : (convert 22 9 (.slice (some ⟨w.heap.size, 0, none⟩) l.length l.length)).run Try.prog (w.alloc (.cells (l.map byteP).toArray 5)).drew = .ok (.string ⟨l.toArray⟩) (w.alloc (.cells (l.map byteP).toArray 5)).drew := by
  refine conv_bytesP _ _ l ⟨by simp, .inr ⟨w.heap.size, l.length, (l.map byteP).toArray, rfl, Nat.zero_le _, (Blk.new w (l.map byteP).toArray 5).drew, Nat.le_refl _, by unfold maxLen; omega, by simp, ?_⟩⟩
  simp only [List.toList_toArray, Nat.mul_one]
  exact List.take_of_length_le (by simp)

theorem toNat_ne {c : UInt8} (h : ¬ c = 61) : ¬ (c.toNat : Int) = 61 := fun e => h (UInt8.toNat_inj.1 (show c.toNat = 61 by omega))

/-- What a step with a variable is as a text. -/
def valueText (c t u : UInt8) : List UInt8 := if c = 61 then [c, t, u] else [c, t]

set_option maxRecDepth 100000 in
set_option maxHeartbeats 2000000 in
theorem vtext_any (g : Nat) (c t u : UInt8) (w : World) (h2 : w.cell? ⟨g, 2, none⟩ = some (.int .u8 (c.toNat : Int))) (h3 : w.cell? ⟨g, 3, none⟩ = some (.int .u8 (t.toNat : Int))) (h4 : w.cell? ⟨g, 4, none⟩ = some (.int .u8 (u.toNat : Int))) :
    Calls Try.prog 95 #[.pointer (some ⟨g, 0, none⟩)] w (fun e w' => e = .returned (.string ⟨(valueText c t u).toArray⟩) ∧ Keeps noB w w') := by
  have mixed : Try.prog.follows .mixedOrders = true := by kernel_rfl
  have d2 : w.drew.cell? ⟨g, 2, none⟩ = _ := h2
  have d3 : w.drew.cell? ⟨g, 3, none⟩ = _ := h3
  have d4 : w.drew.cell? ⟨g, 4, none⟩ = _ := h4
  by_cases hc : c = 61
  · have hcv := conv_newP w [c, t, u] (by simp) (by simp)
    have HT : Hid (valueText c t u = [c, t, u]) := by unfold valueText; rw [if_pos hc]; exact rfl
    have HQ : Hid (Keeps noB w (w.alloc (.cells #[byteP c, byteP t, byteP u] 5)).drew) := ((Keeps.refl noB w).alloc _).drew
    simp only [List.map_cons, List.map_nil, List.length_cons, List.length_nil, Nat.zero_add, Nat.reduceAdd] at hcv
    subst hc
    unfold byteP at *
    have e61 : (((61 : UInt8).toNat : Nat) : Int) = 61 := rfl
    rw [e61] at hcv
    go_enter Try.func95, Try.ntmps95
    go_wp2_with fail
    go_still_tail 12, mixed
    go_wp2_with fail
    go_ret
    exact ⟨by rw [HT.out]; rfl, HQ.out⟩
  · have hcv := conv_newP w [c, t] (by simp) (by simp)
    have HT : Hid (valueText c t u = [c, t]) := by unfold valueText; rw [if_neg hc]; exact rfl
    have HQ : Hid (Keeps noB w (w.alloc (.cells #[byteP c, byteP t] 5)).drew) := ((Keeps.refl noB w).alloc _).drew
    simp only [List.map_cons, List.map_nil, List.length_cons, List.length_nil, Nat.zero_add, Nat.reduceAdd] at hcv
    have hce := toNat_ne hc
    unfold byteP at *
    clear hc
    go_enter Try.func95, Try.ntmps95
    go_wp2_with fail
    go_still_tail 8, mixed
    go_wp2_with fail
    go_ret
    exact ⟨by rw [HT.out]; rfl, HQ.out⟩

end Go.Proofs.Ytccpmhjffcceeaa

namespace Go.Proofs.Ytccpmhjffcceeaa
set_option linter.unusedVariables false
set_option linter.unusedSimpArgs false
open Go.RowKit

/-- What becomes of a step with a variable, where k is known. -/
def tidyT (k : Kn) (c t u : UInt8) : List UInt8 := if c = 126 ∧ k ≠ Kn.no then planK k [t] else valueText c t u

/-- What the tidier reads. -/
structure TSeen (w : World) (x : Nd) (P N g : Nat) (bg : Int) (c t u : UInt8) (W : World) : Prop where
  q : Keeps noB w W
  kn : KnowsAt W x P
  n0 : W.cell? ⟨N, 0, none⟩ = some (.func (.func 86) #[] #[.pointer (some ⟨P, 0, none⟩)])
  g0 : W.cell? ⟨g, 0, none⟩ = some (.int .i64 bg)
  g2 : W.cell? ⟨g, 2, none⟩ = some (.int .u8 (c.toNat : Int))
  g3 : W.cell? ⟨g, 3, none⟩ = some (.int .u8 (t.toNat : Int))
  g4 : W.cell? ⟨g, 4, none⟩ = some (.int .u8 (u.toNat : Int))
  nl : N < W.heap.size
  gl : g < W.heap.size

theorem TSeen.quiet {w : World} {x : Nd} {P N g : Nat} {bg : Int} {c t u : UInt8} {W W' : World} (h : TSeen w x P N g bg c t u W) (q : Keeps noB W W') : TSeen w x P N g bg c t u W' :=
  ⟨h.q.trans q, h.kn.quiet q, (q.cell (p := ⟨N, 0, none⟩) h.nl id).trans h.n0, (q.cell (p := ⟨g, 0, none⟩) h.gl id).trans h.g0, (q.cell (p := ⟨g, 2, none⟩) h.gl id).trans h.g2, (q.cell (p := ⟨g, 3, none⟩) h.gl id).trans h.g3, (q.cell (p := ⟨g, 4, none⟩) h.gl id).trans h.g4, Nat.lt_of_lt_of_le h.nl q.size, Nat.lt_of_lt_of_le h.gl q.size⟩

/-- .. and the box of what is known. -/
def TBox (w : World) (x : Nd) (P N g : Nat) (bg : Int) (c t u : UInt8) (a b : Int) (A : Nat) (W : World) : Prop :=
  TSeen w x P N g bg c t u W ∧ Blk W A #[.int .u8 a, .int .u8 b] 141

theorem TBox.quiet {w : World} {x : Nd} {P N g : Nat} {bg : Int} {c t u : UInt8} {a b : Int} {A : Nat} {W W' : World} (h : TBox w x P N g bg c t u a b A W) (q : Keeps noB W W') : TBox w x P N g bg c t u a b A W' := ⟨h.1.quiet q, q.blk h.2 id⟩

theorem TBox.store {w : World} {x : Nd} {P N g : Nat} {bg : Int} {c t u : UInt8} {a b : Int} {A : Nat} {W : World} (h : TBox w x P N g bg c t u a b A W) (hA : w.heap.size ≤ A) (hAN : ¬ A = N) (hP : P < w.heap.size) (hg : g < w.heap.size) (a' b' : Int) : TBox w x P N g bg c t u a' b' A ((W.setCell ⟨A, 0, none⟩ (.int .u8 a')).setCell ⟨A, 1, none⟩ (.int .u8 b')) := by
  have q : Keeps (oneB A) W ((W.setCell ⟨A, 0, none⟩ (.int .u8 a')).setCell ⟨A, 1, none⟩ (.int .u8 b')) := ((Keeps.refl _ W).setCell (p := ⟨A, 0, none⟩) (.inl (show oneB A A from rfl)) _).setCell (p := ⟨A, 1, none⟩) (.inl (show oneB A A from rfl)) _
  obtain ⟨⟨hq, ⟨m, hm, hPb⟩, n0, g0, g2, g3, g4, nl, gl⟩, hb⟩ := h
  have hA0 : ∀ k, ¬ k = A → ¬ oneB A k := fun k h e => h e
  have hmA : ¬ m = A := by
    intro e
    subst e
    obtain ⟨D, hD, _⟩ := hm
    exact absurd hD (by unfold World.ownsMap; rw [hb]; simp)
  refine ⟨⟨hq.transNew q (fun i hi e => by have : i = A := e; omega), ⟨m, hm.keeps q (hA0 m hmA), q.blk hPb (hA0 P (by omega))⟩, (q.cell (p := ⟨N, 0, none⟩) nl (hA0 N (fun e => hAN e.symm))).trans n0, (q.cell (p := ⟨g, 0, none⟩) gl (hA0 g (by omega))).trans g0, (q.cell (p := ⟨g, 2, none⟩) gl (hA0 g (by omega))).trans g2, (q.cell (p := ⟨g, 3, none⟩) gl (hA0 g (by omega))).trans g3, (q.cell (p := ⟨g, 4, none⟩) gl (hA0 g (by omega))).trans g4, Nat.lt_of_lt_of_le nl q.size, Nat.lt_of_lt_of_le gl q.size⟩, (hb.set 0 _).set 1 _⟩

theorem execOp_conv {P : Program} {a : Act} {o : Oper} {W : World} {t1 t2 : TypeId} {x : Operand} (ho : o.op = .convert t1 t2 x) (vx : Value) (hx : a.eval x = vx) (v : Value) (hr : (convert t1 t2 vx).run P W = .ok v W) : (execOp a.eval o).run P W = .ok (.value v) W := by
  unfold execOp
  simp only [ho, hx, Sem.run_bind, Sem.run_pure, hr, Result.andThen_ok]
theorem resTidy (W : World) (v : Value) (tmps : Array Value) (h2 : tmps.getD 4 undef = v) : (results Try.f192 tmps).run Try.prog W = .ok v W := by
  have h' : tmps[4]?.getD undef = v := by simpa using h2
  simp [results, Try.results192, go_sem, h']
theorem lit_small {n : Nat} (h : n < 1000) : (Lit.int .i64 (n : Int)).wf = true := by
  simp [Lit.wf, IntKind.min, IntKind.max, IntKind.signed, IntKind.bits]
  omega

set_option maxRecDepth 100000 in
set_option maxHeartbeats 4000000 in
theorem tidyVal_any {x : Nd} {P g : Nat} {w : World} (hk : KnowsAt w x P) (bg : Nat) (c t u : UInt8) (hbg : bg < 1000) (ht : ltr t) (hwf : (knO (noteI (notesP x) (bg : Int))).Wf)
    (h0 : w.cell? ⟨g, 0, none⟩ = some (.int .i64 (bg : Int))) (h2 : w.cell? ⟨g, 2, none⟩ = some (.int .u8 (c.toNat : Int))) (h3 : w.cell? ⟨g, 3, none⟩ = some (.int .u8 (t.toNat : Int))) (h4 : w.cell? ⟨g, 4, none⟩ = some (.int .u8 (u.toNat : Int))) (hg : g < w.heap.size) :
    Calls Try.prog 192 #[.agg #[.func (.func 86) #[] #[.pointer (some ⟨P, 0, none⟩)]], .pointer (some ⟨g, 0, none⟩)] w (fun e w' => e = .returned (.string ⟨(tidyT (knO (noteI (notesP x) (bg : Int))) c t u).toArray⟩) ∧ Keeps noB w w') := by
  refine (callsIn_wide (n := 9)).1 ?_
  obtain ⟨F, hF⟩ : ∃ F, F = Fence.wide := ⟨_, rfl⟩
  have hFf : ∀ f, F.fn f := by subst hF; exact fun _ => trivial
  have hdd : ∀ k : Nat, (F.depth.isSome = true → 1 ≤ k) := by subst hF; intro k h; simp [Fence.wide] at h
  have hro : F.round = none := by subst hF; rfl
  have hds : F.depth.isSome = false := by subst hF; rfl
  have hPl : P < w.heap.size := by obtain ⟨m, _, hb⟩ := hk; exact hb.lt
  obtain ⟨k, hkk⟩ : ∃ k, knO (noteI (notesP x) (bg : Int)) = k := ⟨_, rfl⟩
  have haw : (Lit.int .i64 (bg : Int)).wf = true := lit_small hbg
  have HKN : Hid (∀ n W, KnowsAt W x P → CallsIn F n Try.prog 86 #[.int .i64 (bg : Int), .pointer (some ⟨P, 0, none⟩)] W (fun e w' => e = .returned (.agg #[.int .u8 (k.may : Int), .int .u8 (k.must : Int)]) ∧ Keeps noB W w')) := fun n W h => by
    rw [hF]; have := knows_any h (bg : Int) haw; rw [hkk] at this; exact callsIn_wide.2 this
  have HBG : Hid (∀ n W, W.cell? ⟨g, 0, none⟩ = some (.int .i64 (bg : Int)) → CallsIn F n Try.prog 186 #[.pointer (some ⟨g, 0, none⟩)] W (fun e w' => e = .returned (.int .i64 (bg : Int)) ∧ w' = W)) := fun n W h => by rw [hF]; exact callsIn_wide.2 (begin_any g _ W h)
  have HIR : Hid (∀ n W, CallsIn F n Try.prog 169 #[.agg #[.int .u8 (k.may : Int), .int .u8 (k.must : Int)]] W (fun e w' => e = .returned (.bool (decide (k ≠ Kn.no))) ∧ Keeps noB W w')) := fun n W => by rw [hF]; exact callsIn_wide.2 (isReached_any k W)
  have HPL : Hid (∀ n W, CallsIn F n Try.prog 193 #[.agg #[.int .u8 (k.may : Int), .int .u8 (k.must : Int)]] W (fun e w' => e = .returned (.func (.func 194) #[] #[.pointer (some ⟨W.heap.size, 0, none⟩)]) ∧ w' = W.alloc (.cells #[.int .u8 (k.may : Int), .int .u8 (k.must : Int)] 141))) := fun n W => by rw [hF]; exact callsIn_wide.2 (planner_any k W)
  have HPA : Hid (∀ n W K, Blk W K #[.int .u8 (k.may : Int), .int .u8 (k.must : Int)] 141 → CallsIn F n Try.prog 194 #[.string ⟨#[t]⟩, .pointer (some ⟨K, 0, none⟩)] W (fun e w' => e = .returned (.string ⟨(planK k [t]).toArray⟩) ∧ Keeps noB W w')) := fun n W K h => by
    rw [hF]; rw [hkk] at hwf; exact callsIn_wide.2 (plan_any k hwf [t] (fun v hv => by simp at hv; rw [hv]; exact ht) (by simp) K W h)
  have HTX : Hid (∀ n W, W.cell? ⟨g, 2, none⟩ = some (.int .u8 (c.toNat : Int)) → W.cell? ⟨g, 3, none⟩ = some (.int .u8 (t.toNat : Int)) → W.cell? ⟨g, 4, none⟩ = some (.int .u8 (u.toNat : Int)) → CallsIn F n Try.prog 95 #[.pointer (some ⟨g, 0, none⟩)] W (fun e w' => e = .returned (.string ⟨(valueText c t u).toArray⟩) ∧ Keeps noB W w')) := fun n W a b d => by rw [hF]; exact callsIn_wide.2 (vtext_any g c t u W a b d)
  have hcv := fun W => conv_letter W ht
  unfold str at hcv
  have HCV := Lib.hid hcv
  rw [hkk]
  obtain ⟨w1, hw1⟩ : ∃ w1, w1 = w.alloc (.cells #[.func (.func 86) #[] #[.pointer (some ⟨P, 0, none⟩)]] 87) := ⟨_, rfl⟩
  have q1 : Keeps noB w w1 := by rw [hw1]; exact (Keeps.refl _ _).alloc _
  have b1 : Blk w1 w.heap.size #[.func (.func 86) #[] #[.pointer (some ⟨P, 0, none⟩)]] 87 := by rw [hw1]; exact Blk.new _ _ _
  have HS1 : Hid (TSeen w x P w.heap.size g (bg : Int) c t u w1) := ⟨q1, hk.quiet q1, (b1.cell 0).trans rfl, (q1.cell (p := ⟨g, 0, none⟩) hg id).trans h0, (q1.cell (p := ⟨g, 2, none⟩) hg id).trans h2, (q1.cell (p := ⟨g, 3, none⟩) hg id).trans h3, (q1.cell (p := ⟨g, 4, none⟩) hg id).trans h4, b1.lt, Nat.lt_of_lt_of_le hg q1.size⟩
  rw [← hF]
  have HF := Lib.hid hF
  clear hF hk h0 h2 h3 h4 haw hkk hwf q1 b1 hcv ht
  refine callsIn_of_wp_marks Try.func192 rfl (hFf _) ?_ hro
  simp only [Try.ntmps192, List.size_toArray, List.length_cons, List.length_nil, Nat.reduceAdd, Nat.reduceSub, Array.replicate_succ, Array.replicate_zero, List.push_toArray, List.append_toArray, List.nil_append, List.cons_append]
  gi_wp2
  rw [← hw1]
  clear hw1
  obtain ⟨N, hN⟩ : ∃ N, N = w.heap.size := ⟨_, rfl⟩
  rw [← hN] at HS1 ⊢
  have HNN := Lib.hid hN
  clear hN
  refine wpIn_meet (fun a' w' => ∃ A, a' = ⟨#[.agg #[.func (.func 86) #[] #[.pointer (some ⟨P, 0, none⟩)]], .pointer (some ⟨g, 0, none⟩), .pointer (some ⟨N, 0, none⟩), undef, .string ⟨#[]⟩, .pointer (some ⟨A, 0, none⟩), .pointer (some ⟨N, 0, none⟩), .func (.func 86) #[] #[.pointer (some ⟨P, 0, none⟩)], .pointer (some ⟨g, 0, none⟩), .pointer (some ⟨g, 0, none⟩), .pointer (some ⟨g, 0, none⟩), .int .i64 (bg : Int), .agg #[.int .u8 (k.may : Int), .int .u8 (k.must : Int)], undef, undef, undef, undef, undef, undef, undef, undef, undef, undef, undef, undef, undef, undef, undef, undef, undef, undef, undef], []⟩ ∧ TBox w x P N g (bg : Int) c t u (k.may : Int) (k.must : Int) A w') ?_ ?_
  · refine wpIn_region_ord (TSeen w x P N g (bg : Int) c t u) (.read 0 (.read 1 (.read 2 (.read 3 (.read 4 (.fork 5 (.fork 6 (.loud 7 (.loud 8 .fin)) 7 (.loud 6 (.loud 8 .fin))) 7 (.loud 5 (.loud 6 (.loud 8 .fin))))))))) hro hFf (by kernel_rfl) (by kernel_rfl) rfl (by kernel_rfl) (HS1.out.quiet ((Keeps.refl noB w1).drew)) ?_
    refine ord_read (.pointer (some ⟨N, 0, none⟩)) rfl rfl (fun W4 q4 => by obtain ⟨f0, f1, f2, f3, f4, f5, f6, f7, f8⟩ := q4; go_simp) (fun K hK => ?_)
    go_simp
    refine hK _ ?_
    clear hK K
    refine ord_read (.func (.func 86) #[] #[.pointer (some ⟨P, 0, none⟩)]) rfl rfl (fun W4 q4 => by obtain ⟨f0, f1, f2, f3, f4, f5, f6, f7, f8⟩ := q4; go_simp) (fun K hK => ?_)
    go_simp
    refine hK _ ?_
    clear hK K
    refine ord_read (.pointer (some ⟨g, 0, none⟩)) rfl rfl (fun W4 q4 => by obtain ⟨f0, f1, f2, f3, f4, f5, f6, f7, f8⟩ := q4; go_simp) (fun K hK => ?_)
    go_simp
    refine hK _ ?_
    clear hK K
    refine ord_read (.pointer (some ⟨g, 0, none⟩)) rfl rfl (fun W4 q4 => by obtain ⟨f0, f1, f2, f3, f4, f5, f6, f7, f8⟩ := q4; go_simp) (fun K hK => ?_)
    go_simp
    refine hK _ ?_
    clear hK K
    refine ord_read (.pointer (some ⟨g, 0, none⟩)) rfl rfl (fun W4 q4 => by obtain ⟨f0, f1, f2, f3, f4, f5, f6, f7, f8⟩ := q4; go_simp) (fun K hK => ?_)
    go_simp
    refine hK _ ?_
    clear hK K
    have HS2 := Lib.hid (HS1.out.quiet ((Keeps.refl noB w1).drew))
    have hNw : N = w.heap.size := HNN.out
    have hstore : Hid (∀ (W4 w5 : World) (A : Nat), TSeen w x P N g (bg : Int) c t u W4 → W4.heap.size = A → Keeps noB (W4.alloc (.cells #[.int .u8 0, .int .u8 0] 141)) w5 → TSeen w x P N g (bg : Int) c t u w5 ∧ w5.frozen? ⟨A, 0, none⟩ = false ∧ w5.frozen? ⟨A, 1, none⟩ = false ∧ w5.cell? ⟨A, 0, none⟩ = some (.int .u8 0) ∧ w5.cell? ⟨A, 1, none⟩ = some (.int .u8 0) ∧ TBox w x P N g (bg : Int) c t u (k.may : Int) (k.must : Int) A ((w5.setCell ⟨A, 0, none⟩ (.int .u8 (k.may : Int))).setCell ⟨A, 1, none⟩ (.int .u8 (k.must : Int)))) := by
      intro W4 w5 A h hA q
      have h1 := h.quiet ((Keeps.refl noB W4).alloc (.cells #[.int .u8 0, .int .u8 0] 141))
      have hb := q.blk (Blk.new W4 #[.int .u8 0, .int .u8 0] 141) id
      rw [hA] at hb
      have h5 := h1.quiet q
      have hnl := h.nl
      have hws := h.q.size
      exact ⟨h5, hb.free 0, hb.free 1, (hb.cell 0).trans rfl, (hb.cell 1).trans rfl, TBox.store ⟨h5, hb⟩ (by omega) (by omega) hPl hg _ _⟩
    clear hNw HS1
    refine ord_fork ?_ ?_
    · refine ord_loud rfl (fun K hK => ?_)
      gi_wp2
      refine CallsIn.mono (HBG.out _ _ HS2.out.g0) ?_
      rintro e w2 ⟨rfl, rfl⟩
      gi_wp2
      refine hK _ _ HS2.out ?_
      clear hK K
      refine ord_fork ?_ ?_
      · refine ord_loud rfl (fun K hK => ?_)
        gi_wp2
        refine CallsIn.mono (HKN.out _ _ HS2.out.kn) ?_
        rintro e w3 ⟨rfl, q3⟩
        have HS3 := Lib.hid (HS2.out.quiet q3)
        clear q3
        gi_wp2
        refine hK _ _ HS3.out ?_
        clear hK K
        refine ord_loud rfl (fun K hK => ?_)
        gi_wp2
        refine hK _ _ (HS3.out.quiet ((Keeps.refl noB w3).alloc _)) ?_
        clear hK K
        refine ord_loud rfl (fun K hK => ?_)
        gi_wp2
        refine hK _ _ (HS3.out.quiet ((Keeps.refl noB w3).alloc _)) ?_
        clear hK K
        simp only [wpOrd, noPanic]
        exact ⟨w3.heap.size, rfl, HS3.out.quiet ((Keeps.refl noB w3).alloc _), Blk.new _ _ _⟩
      · refine ord_loud rfl (fun K hK => ?_)
        gi_wp2
        refine hK _ _ (HS2.out.quiet ((Keeps.refl noB _).alloc _)) ?_
        clear hK K
        refine ord_loud rfl (fun K hK => ?_)
        gi_wp2
        refine CallsIn.mono (HKN.out _ _ (HS2.out.kn.quiet ((Keeps.refl noB _).alloc _))) ?_
        rintro e w3 ⟨rfl, q3⟩
        obtain ⟨h3, z0, z1, c0, c1, hst⟩ := hstore.out _ _ w1.heap.size HS2.out rfl q3
        have HS3 := Lib.hid (And.intro h3 hst)
        clear q3 h3 hst
        gi_wp2
        refine hK _ _ HS3.out.1 ?_
        clear hK K
        refine ord_loud rfl (fun K hK => ?_)
        gi_wp2
        refine hK _ _ HS3.out.2.1 ?_
        clear hK K
        simp only [wpOrd, noPanic]
        exact ⟨w1.heap.size, rfl, HS3.out.2⟩
    · refine ord_loud rfl (fun K hK => ?_)
      gi_wp2
      refine hK _ _ (HS2.out.quiet ((Keeps.refl noB _).alloc _)) ?_
      clear hK K
      refine ord_loud rfl (fun K hK => ?_)
      gi_wp2
      refine CallsIn.mono (HBG.out _ _ (HS2.out.quiet ((Keeps.refl noB _).alloc _)).g0) ?_
      rintro e w2 ⟨rfl, rfl⟩
      gi_wp2
      refine hK _ _ (HS2.out.quiet ((Keeps.refl noB _).alloc _)) ?_
      clear hK K
      refine ord_loud rfl (fun K hK => ?_)
      gi_wp2
      refine CallsIn.mono (HKN.out _ _ (HS2.out.kn.quiet ((Keeps.refl noB _).alloc _))) ?_
      rintro e w3 ⟨rfl, q3⟩
      obtain ⟨h3, z0, z1, c0, c1, hst⟩ := hstore.out _ _ w1.heap.size HS2.out rfl q3
      have HS3 := Lib.hid (And.intro h3 hst)
      clear q3 h3 hst
      gi_wp2
      refine hK _ _ HS3.out.1 ?_
      clear hK K
      refine ord_loud rfl (fun K hK => ?_)
      gi_wp2
      refine hK _ _ HS3.out.2.1 ?_
      clear hK K
      simp only [wpOrd, noPanic]
      exact ⟨w1.heap.size, rfl, HS3.out.2⟩
  · rintro a' w' ⟨A, rfl, hT⟩
    have HT := Lib.hid hT
    have a0 := (hT.2.cell 0).trans rfl
    have a1 := (hT.2.cell 1).trans rfl
    have g2 := hT.1.g2
    have g3 := hT.1.g3
    clear hT
    by_cases hc : c = 126
    · by_cases hno : k = Kn.no
      · have hd : decide (k ≠ Kn.no) = false := by simp [hno]
        rw [hd] at HIR
        have HR : Hid (tidyT k c t u = valueText c t u) := Lib.hid (by unfold tidyT; rw [if_neg (fun h => h.2 hno)])
        have hce : (c.toNat : Int) = 126 := by rw [hc]; rfl
        clear hd hno hc
        gi_wp2
        refine CallsIn.mono (HIR.out _ _) ?_
        rintro e w3 ⟨rfl, q3⟩
        have HT3 := Lib.hid (HT.out.quiet q3)
        clear q3
        gi_wp2
        refine CallsIn.mono (HTX.out _ _ HT3.out.1.g2 HT3.out.1.g3 HT3.out.1.g4) ?_
        rintro e w4 ⟨rfl, q4⟩
        have HE := Lib.hid (Keeps.trans HT3.out.1.q q4)
        clear q4
        gi_wp2
        refine leaves_marks [] _ List.nodup_nil (fun _ h => by cases h) (fun W' q _ => ?_)
        exact ⟨_, resTidy W' _ _ rfl, by rw [HR.out]; rfl, HE.out.trans (q.mono (fun _ e => by cases e))⟩
      · have hd : decide (k ≠ Kn.no) = true := by simp [hno]
        rw [hd] at HIR
        have HR : Hid (tidyT k c t u = planK k [t]) := Lib.hid (by unfold tidyT; rw [if_pos ⟨hc, hno⟩])
        have hce : (c.toNat : Int) = 126 := by rw [hc]; rfl
        clear hd hno hc
        gi_wp2
        refine CallsIn.mono (HIR.out _ _) ?_
        rintro e w3 ⟨rfl, q3⟩
        have HT3 := Lib.hid (HT.out.quiet q3)
        clear q3 a0 a1 g2 g3
        gi_wp2
        refine wpIn_region_ord (TBox w x P N g (bg : Int) c t u (k.may : Int) (k.must : Int) A) (.read 0 (.read 2 (.read 3 (.read 4 (.read 5 (.read 6 (.loud 1 (.loud 7 (.read 8 .fin))))))))) hro hFf (by kernel_rfl) (by kernel_rfl) rfl (by kernel_rfl) (HT3.out.quiet ((Keeps.refl noB w3).drew)) ?_
        refine ord_read (.agg #[.int .u8 (k.may : Int), .int .u8 (k.must : Int)]) rfl rfl (fun W4 q4 => by obtain ⟨⟨f0, f1, f2, f3, f4, f5, f6, f7, f8⟩, fb⟩ := q4; have b0 : W4.cell? ⟨A, 0, none⟩ = some (.int .u8 (k.may : Int)) := (fb.cell 0).trans rfl; have b1 : W4.cell? ⟨A, 1, none⟩ = some (.int .u8 (k.must : Int)) := (fb.cell 1).trans rfl; clear fb; go_simp) (fun K hK => ?_)
        go_simp
        refine hK _ ?_
        clear hK K
        refine ord_read (.pointer (some ⟨g, 0, none⟩)) rfl rfl (fun W4 q4 => by obtain ⟨⟨f0, f1, f2, f3, f4, f5, f6, f7, f8⟩, fb⟩ := q4; have b0 : W4.cell? ⟨A, 0, none⟩ = some (.int .u8 (k.may : Int)) := (fb.cell 0).trans rfl; have b1 : W4.cell? ⟨A, 1, none⟩ = some (.int .u8 (k.must : Int)) := (fb.cell 1).trans rfl; clear fb; go_simp) (fun K hK => ?_)
        go_simp
        refine hK _ ?_
        clear hK K
        refine ord_read (.pointer (some ⟨g, 0, none⟩)) rfl rfl (fun W4 q4 => by obtain ⟨⟨f0, f1, f2, f3, f4, f5, f6, f7, f8⟩, fb⟩ := q4; have b0 : W4.cell? ⟨A, 0, none⟩ = some (.int .u8 (k.may : Int)) := (fb.cell 0).trans rfl; have b1 : W4.cell? ⟨A, 1, none⟩ = some (.int .u8 (k.must : Int)) := (fb.cell 1).trans rfl; clear fb; go_simp) (fun K hK => ?_)
        go_simp
        refine hK _ ?_
        clear hK K
        refine ord_read (.pointer (some ⟨g, 3, none⟩)) rfl rfl (fun W4 q4 => by obtain ⟨⟨f0, f1, f2, f3, f4, f5, f6, f7, f8⟩, fb⟩ := q4; have b0 : W4.cell? ⟨A, 0, none⟩ = some (.int .u8 (k.may : Int)) := (fb.cell 0).trans rfl; have b1 : W4.cell? ⟨A, 1, none⟩ = some (.int .u8 (k.must : Int)) := (fb.cell 1).trans rfl; clear fb; go_simp) (fun K hK => ?_)
        go_simp
        refine hK _ ?_
        clear hK K
        refine ord_read (.int .u8 (t.toNat : Int)) rfl rfl (fun W4 q4 => by obtain ⟨⟨f0, f1, f2, f3, f4, f5, f6, f7, f8⟩, fb⟩ := q4; have b0 : W4.cell? ⟨A, 0, none⟩ = some (.int .u8 (k.may : Int)) := (fb.cell 0).trans rfl; have b1 : W4.cell? ⟨A, 1, none⟩ = some (.int .u8 (k.must : Int)) := (fb.cell 1).trans rfl; clear fb; go_simp) (fun K hK => ?_)
        go_simp
        refine hK _ ?_
        clear hK K
        refine ord_read (.string ⟨[t].toArray⟩) rfl rfl (fun W4 q4 => execOp_conv rfl _ rfl _ (HCV.out W4)) (fun K hK => ?_)
        go_simp
        refine hK _ ?_
        clear hK K
        refine ord_loud rfl (fun K hK => ?_)
        gi_wp2
        refine CallsIn.mono (HPL.out _ _) ?_
        rintro e w4 ⟨rfl, rfl⟩
        have HT4 := Lib.hid ((HT3.out.quiet ((Keeps.refl noB w3).drew)).quiet ((Keeps.refl noB _).alloc (.cells #[.int .u8 (k.may : Int), .int .u8 (k.must : Int)] 141)))
        gi_wp2
        refine hK _ _ HT4.out ?_
        clear hK K
        refine ord_loud rfl (fun K hK => ?_)
        gi_wp2
        refine CallsIn.mono (HPA.out _ _ _ (Blk.new _ _ _)) ?_
        rintro e w5 ⟨rfl, q5⟩
        have HT5 := Lib.hid (HT4.out.quiet q5)
        clear q5
        gi_wp2
        refine hK _ _ HT5.out ?_
        clear hK K
        refine ord_read (.string ⟨(planK k [t]).toArray⟩) rfl rfl (fun W4 q4 => by go_simp) (fun K hK => ?_)
        go_simp
        refine hK _ ?_
        clear hK K
        simp only [wpOrd, noPanic]
        gi_wp2
        refine leaves_marks [] _ List.nodup_nil (fun _ h => by cases h) (fun W' q _ => ?_)
        exact ⟨_, resTidy W' _ _ rfl, by rw [HR.out]; rfl, HT5.out.1.q.trans (q.mono (fun _ e => by cases e))⟩
    · have hce : ¬ (c.toNat : Int) = 126 := fun e => hc (UInt8.toNat_inj.1 (show c.toNat = 126 by omega))
      have HR : Hid (tidyT k c t u = valueText c t u) := Lib.hid (by unfold tidyT; rw [if_neg (fun h => hc h.1)])
      clear hc
      gi_wp2
      refine CallsIn.mono (HTX.out _ _ HT.out.1.g2 HT.out.1.g3 HT.out.1.g4) ?_
      rintro e w4 ⟨rfl, q4⟩
      have HE := Lib.hid (Keeps.trans HT.out.1.q q4)
      clear q4
      gi_wp2
      refine leaves_marks [] _ List.nodup_nil (fun _ h => by cases h) (fun W' q _ => ?_)
      exact ⟨_, resTidy W' _ _ rfl, by rw [HR.out]; rfl, HE.out.trans (q.mono (fun _ e => by cases e))⟩

end Go.Proofs.Ytccpmhjffcceeaa

namespace Go.Proofs.Ytccpmhjffcceeaa
set_option linter.unusedVariables false
set_option linter.unusedSimpArgs false
open Go.RowKit Go.Shelf

theorem pre_ok {s : ByteArray} {x z : Nd} (hp : progP s = some x) (hz : z ∈ x.pre.list) : ∃ d, z.Ok s d := by
  have h := (progP_ok hp).2.1
  rw [← Nd.preD_fst x 0] at hz
  obtain ⟨p, hp1, rfl⟩ := List.mem_map.1 hz
  exact ⟨p.2, Nd.Ok.all x 0 h p hp1⟩

theorem pre_vars {s : ByteArray} {x z : Nd} (hp : progP s = some x) (hz : z ∈ x.pre.list) : z.vars.length ≤ 80 := by
  obtain ⟨d, h⟩ := pre_ok hp hz
  have h1 := h.good.room
  have h2 := h.good.le
  have h3 := (progP_ok hp).2.2.2.2.2
  omega

theorem known_at {s : ByteArray} {x z : Nd} (hp : progP s = some x) (hz : z ∈ x.pre.list) : knO (noteI (notesP x) (z.beg : Int)) = knownJ x z.beg := by
  rw [noteI_nat, (step_fit hp hz).noted]
  rfl

/-- A step as it stands. -/
def plainN (z : Nd) : List UInt8 := z.kind :: z.vars
/-- What the tidier makes of a step with a variable. -/
def tidyN (x z : Nd) : List UInt8 := if z.kind = 126 ∧ knownJ x z.beg ≠ Kn.no then planK (knownJ x z.beg) z.vars else plainN z

def tidyV (x : Nd) : Vis := ⟨fun _ => true, fun _ => [], tidyN x, fun z => z.vars, fun _ => []⟩
def pruneV (x : Nd) : Vis := ⟨fun z => liveK (knownJ x z.beg), fun _ => [], plainN, fun z => z.vars, fun _ => []⟩

theorem tidyN_len {s : ByteArray} {x z : Nd} (hp : progP s = some x) (hz : z ∈ x.pre.list) : (tidyN x z).length ≤ 200 := by
  have h := pre_vars hp hz
  unfold tidyN
  split
  · have := planK_len (knownJ x z.beg) z.vars; omega
  · unfold plainN; rw [List.length_cons]; omega
theorem plainN_len {s : ByteArray} {x z : Nd} (hp : progP s = some x) (hz : z ∈ x.pre.list) : (plainN z).length ≤ 200 := by
  have h := pre_vars hp hz
  unfold plainN; rw [List.length_cons]; omega

theorem tidy_short {s : ByteArray} {x z : Nd} (hp : progP s = some x) (hz : z ∈ x.pre.list) : ShortAt (tidyV x) z :=
  ⟨by simp [tidyV], tidyN_len hp hz, by have := pre_vars hp hz; show z.vars.length ≤ 200; omega, by simp [tidyV]⟩
theorem prune_short {s : ByteArray} {x z : Nd} (hp : progP s = some x) (hz : z ∈ x.pre.list) : ShortAt (pruneV x) z :=
  ⟨by simp [pruneV], plainN_len hp hz, by have := pre_vars hp hz; show z.vars.length ≤ 200; omega, by simp [pruneV]⟩

theorem valueText_plain {W : World} {z : Nd} {g : Nat} {c t u : UInt8} (hk : z.kind = c) (hv : ((c = 43 ∨ c = 46 ∨ c = 45 ∨ c = 126) ∧ z.vars = [t]) ∨ (c = 61 ∧ z.vars = [t, u])) : valueText c t u = plainN z := by
  unfold valueText plainN
  rw [hk]
  rcases hv with ⟨hc, hv⟩ | ⟨hc, hv⟩
  · rw [if_neg (by rcases hc with rfl | rfl | rfl | rfl <;> decide), hv]
  · rw [if_pos hc, hv]

theorem tidyT_eq {x z : Nd} {c t u : UInt8} (hk : z.kind = c) (hv : ((c = 43 ∨ c = 46 ∨ c = 45 ∨ c = 126) ∧ z.vars = [t]) ∨ (c = 61 ∧ z.vars = [t, u])) : tidyT (knownJ x z.beg) c t u = tidyN x z := by
  unfold tidyT tidyN
  rw [hk, valueText_plain (W := ⟨#[], default, default, default, default⟩) (g := 0) hk hv]
  by_cases h : c = 126 ∧ knownJ x z.beg ≠ Kn.no
  · rw [if_pos h, if_pos h]
    rcases hv with ⟨hc, hv⟩ | ⟨hc, hv⟩
    · rw [hv]
    · rw [h.1] at hc; exact absurd hc (by decide)
  · rw [if_neg h, if_neg h]

/-! ### what the visitors have of the copier -/
theorem cop_keeps (w0 : World) (ok : Nat → Prop) : ∀ z d v W, RepI w0 ok z v → Keeps noB w0 W → Calls Try.prog 190 #[.agg #[], placeV v z.scope d] W (fun e w' => e = .returned (.bool true) ∧ Keeps noB W w') :=
  fun z d v W hr _ => copKeeps_any v ⟨z.scope.toArray⟩ (d : Int) (rep_iface z w0 ok v hr) W
theorem cop_ahead (w0 : World) (ok : Nat → Prop) : ∀ z d v W, RepI w0 ok z v → Keeps noB w0 W → Calls Try.prog 187 #[.agg #[], placeV v z.scope d] W (fun e w' => e = .returned (str []) ∧ Keeps noB W w') :=
  fun z d v W hr _ => copAhead_any v ⟨z.scope.toArray⟩ (d : Int) (rep_iface z w0 ok v hr) W
theorem cop_ends (w0 : World) (ok : Nat → Prop) : ∀ z g W, RepI w0 ok z (.iface 57 (ptr g)) → Keeps noB w0 W → Calls Try.prog 188 #[.agg #[], ptr g] W (fun e w' => e = .returned (str []) ∧ Keeps noB W w') :=
  fun z g W _ _ => copEnd_any g W

theorem scope_cells {w : World} {ok : Nat → Prop} {z : Nd} {g : Nat} (h : RepI w ok z (.iface 57 (ptr g))) : w.cell? ⟨g, 2, none⟩ = some (str z.vars) ∧ w.cell? ⟨g, 0, none⟩ = some (.int .i64 (z.beg : Int)) ∧ w.cell? ⟨g, 1, none⟩ = some (.int .i64 (z.fin : Int)) ∧ g < w.heap.size ∧ z.kind = 123 := by
  obtain ⟨h1, h2, h3, h4⟩ := rep_step z w ok _ g h
  rcases h2 with ⟨e, _⟩ | ⟨e, _⟩ | ⟨e, _⟩ | ⟨_, hk, h⟩ | ⟨e, _⟩
  · exact absurd e (by decide)
  · exact absurd e (by decide)
  · exact absurd e (by decide)
  · exact ⟨h, h1.c0, h1.c1, h4, hk⟩
  · exact absurd e (by decide)

theorem cop_decls (w0 : World) (ok : Nat → Prop) : ∀ z g W, RepI w0 ok z (.iface 57 (ptr g)) → Keeps noB w0 W → Calls Try.prog 189 #[.agg #[], ptr g] W (fun e w' => e = .returned (str z.vars) ∧ Keeps noB W w') :=
  fun z g W hr q => by
    obtain ⟨h1, _, _, hg, _⟩ := scope_cells hr
    exact copDecl_any g ⟨z.vars.toArray⟩ W ((q.cell (p := ⟨g, 2, none⟩) hg id).trans h1) (Nat.lt_of_lt_of_le hg q.size)

set_option maxHeartbeats 1000000 in
theorem copValue_any (g : Nat) (c t u : UInt8) (w : World) (h2 : w.cell? ⟨g, 2, none⟩ = some (.int .u8 (c.toNat : Int))) (h3 : w.cell? ⟨g, 3, none⟩ = some (.int .u8 (t.toNat : Int))) (h4 : w.cell? ⟨g, 4, none⟩ = some (.int .u8 (u.toNat : Int))) (hg : g < w.heap.size) :
    Calls Try.prog 191 #[.agg #[], .pointer (some ⟨g, 0, none⟩)] w (fun e w' => e = .returned (.string ⟨(valueText c t u).toArray⟩) ∧ Keeps noB w w') := by
  have q1 : Keeps noB w (w.alloc (.cells #[] 85)) := (Keeps.refl _ _).alloc _
  have HC := Lib.hid (vtext_any g c t u (w.alloc (.cells #[] 85)) ((q1.cell (p := ⟨g, 2, none⟩) hg id).trans h2) ((q1.cell (p := ⟨g, 3, none⟩) hg id).trans h3) ((q1.cell (p := ⟨g, 4, none⟩) hg id).trans h4))
  have HQ := Lib.hid q1
  clear q1 h2 h3 h4
  go_enter Try.func191, Try.ntmps191
  go_wp2_with fail
  refine HC.out.mono ?_
  rintro e w2 ⟨rfl, q2⟩
  have HE := Lib.hid (HQ.out.trans q2)
  clear q2
  go_wp2_with fail
  go_ret
  exact ⟨rfl, HE.out⟩

theorem cop_value (w0 : World) (ok : Nat → Prop) : ∀ z g W, RepI w0 ok z (.iface 149 (ptr g)) → Keeps noB w0 W → Calls Try.prog 191 #[.agg #[], ptr g] W (fun e w' => e = .returned (str (plainN z)) ∧ Keeps noB W w') :=
  fun z g W hr q => by
    obtain ⟨h1, _, _, hg⟩ := rep_step z w0 ok _ g hr
    obtain ⟨c, t, u, hk, h2, h3, h4, hv⟩ := h1.val rfl
    rw [← valueText_plain (W := W) (g := g) hk hv]
    exact copValue_any g c t u W ((q.cell (p := ⟨g, 2, none⟩) hg id).trans h2) ((q.cell (p := ⟨g, 3, none⟩) hg id).trans h3) ((q.cell (p := ⟨g, 4, none⟩) hg id).trans h4) (Nat.lt_of_lt_of_le hg q.size)

/-! ### the tidier -/
theorem tidier_vis {s : ByteArray} {x : Nd} (hp : progP s = some x) (w0 : World) (ok : Nat → Prop) (P : Nat) (hk : KnowsAt w0 x P) : VisAt w0 ok (tidyV x) (fun z => z ∈ x.pre.list) (.iface 87 (.agg #[knowsF P])) where
  keeps := ⟨190, .agg #[], fun W a => by kernel_rfl, fun z d v W _ hr q => cop_keeps w0 ok z d v W hr q⟩
  ahead := ⟨187, .agg #[], fun W a => by kernel_rfl, fun z d v W _ hr q => cop_ahead w0 ok z d v W hr q⟩
  value := ⟨192, .agg #[knowsF P], fun W a => by kernel_rfl, fun z g W hz hr q => by
    obtain ⟨h1, _, _, hg⟩ := rep_step z w0 ok _ g hr
    obtain ⟨c, t, u, hkd, h2, h3, h4, hv⟩ := h1.val rfl
    have hf := step_fit hp hz
    have ht : ltr t := hf.vars t (by rcases hv with ⟨_, hv⟩ | ⟨_, hv⟩ <;> rw [hv] <;> simp)
    have hC := tidyVal_any (hk.quiet q) z.beg c t u (by have := hf.beg; omega) ht (by rw [known_at hp hz]; exact hf.wf) ((q.cell (p := ⟨g, 0, none⟩) hg id).trans h1.c0) ((q.cell (p := ⟨g, 2, none⟩) hg id).trans h2) ((q.cell (p := ⟨g, 3, none⟩) hg id).trans h3) ((q.cell (p := ⟨g, 4, none⟩) hg id).trans h4) (Nat.lt_of_lt_of_le hg q.size)
    rw [known_at hp hz, tidyT_eq hkd hv] at hC
    exact hC⟩
  decls := ⟨189, .agg #[], fun W a => by kernel_rfl, fun z g W _ hr q => cop_decls w0 ok z g W hr q⟩
  ends := ⟨188, .agg #[], fun W a => by kernel_rfl, fun z g W _ hr q => cop_ends w0 ok z g W hr q⟩

/-- A text that becomes of a program, and whether it is one. -/
def RewritePost (w : World) (r : Option (List UInt8)) (e : Ending) (w' : World) : Prop := e = .returned (.tuple #[.string ⟨(r.getD []).toArray⟩, .bool r.isSome]) ∧ Keeps noB w w'
def tidyP (s : ByteArray) : Option (List UInt8) := (progP s).map (fun x => x.wr (tidyV x))
def dropDeadP (s : ByteArray) : Option (List UInt8) := (progP s).map (fun x => x.wr (pruneV x))

set_option maxRecDepth 100000 in
set_option maxHeartbeats 2000000 in
theorem tidyFlags_any (s : ByteArray) (hs : s.size ≤ 1048576) (w : World) : Calls Try.prog 29 #[.string s] w (RewritePost w (tidyP s)) := by
  have HR := Lib.hid (fun w => read_any s hs w)
  unfold tidyP
  cases hp : progP s with
  | none =>
    rw [hp] at HR
    clear hp
    go_enter Try.func29, Try.ntmps29
    go_wp2_with fail
    refine (HR.out _).mono ?_
    rintro e w1 ⟨rfl, q1⟩
    have HQ := Lib.hid q1
    clear q1
    go_wp2_with fail
    go_ret2
    exact ⟨rfl, HQ.out⟩
  | some x =>
    rw [hp] at HR
    have HK : Hid (∀ w ok g, RepI w ok x (.iface 57 (ptr g)) → Calls Try.prog 56 #[.pointer (some ⟨g, 0, none⟩)] w (fun e w' => ∃ P, e = .returned (knowsF P) ∧ KnowsAt w' x P ∧ Keeps noB w w')) := fun w ok g hr => knowing_any hp w ok g hr
    obtain ⟨hsc, hok, hkd, hb0, hfn, hsz⟩ := progP_ok hp
    have hfew := progP_few hp
    have HWR : Hid (∀ (w : World) (B g P : Nat), RepI w (fun i => B ≤ i ∧ i < w.heap.size) x (.iface 57 (ptr g)) → KnowsAt w x P → Calls Try.prog 55 #[.iface 87 (.agg #[knowsF P]), .agg #[.iface 57 (ptr g), .string ⟨#[]⟩, .int .i64 0]] w (fun e w' => e = .returned (.string ⟨(x.wr (tidyV x)).toArray⟩) ∧ Keeps noB w w')) := by
      intro w B g P hr hk
      have h := wrote_any (d := 0) ⟨tidier_vis hp w (fun i => B ≤ i ∧ i < w.heap.size) P hk, fun i h => h.2, fun z hz => tidy_short hp hz, hsz⟩ x (progP_fit hp) (fun z hz => hz) (by omega) hok _ hr
      rw [hsc] at h
      exact h
    clear hp hsc hok hkd hb0 hfn hsz hfew
    unfold knowsF at HK HWR
    go_enter Try.func29, Try.ntmps29
    go_wp2_with fail
    refine (HR.out _).mono ?_
    rintro e w1 ⟨g, rfl, hr, q1⟩
    have HA := Lib.hid (And.intro hr q1)
    have HK1 := Lib.hid (HK.out w1 _ g hr)
    clear hr q1
    unfold ptr
    go_wp2_with fail
    refine HK1.out.mono ?_
    rintro e w2 ⟨P, rfl, hk, q2⟩
    have HC : Hid (Calls Try.prog 55 #[.iface 87 (.agg #[.func (.func 86) #[] #[.pointer (some ⟨P, 0, none⟩)]]), .agg #[.iface 57 (.pointer (some ⟨g, 0, none⟩)), .string ⟨#[]⟩, .int .i64 0]] w2 (fun e w' => e = .returned (.string ⟨(x.wr (tidyV x)).toArray⟩) ∧ Keeps noB w w')) := by
      obtain ⟨hr, q1⟩ := HA.out
      refine (HWR.out w2 w.heap.size g P ((Hands.of_keeps q2 (fun _ _ _ e => e) (fun i hi hl => ⟨hi, Nat.lt_of_lt_of_le hl q2.size⟩)).repI _ _ hr) hk).mono (fun e w' h => ⟨h.1, (q1.trans q2).trans h.2⟩)
    clear hk q2
    go_wp2_with fail
    refine HC.out.mono ?_
    rintro e w3 ⟨rfl, q3⟩
    have HE := Lib.hid q3
    clear q3
    go_wp2_with fail
    go_ret2
    exact ⟨rfl, HE.out⟩

end Go.Proofs.Ytccpmhjffcceeaa

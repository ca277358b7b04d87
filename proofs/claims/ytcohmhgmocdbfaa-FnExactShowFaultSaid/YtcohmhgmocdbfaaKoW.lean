/-
  The variables of every program are letters.
  Walks of the program's run: through, whose deferred function recovers the ending.
  Walks of the program's run: through.
-/
import Derived.Test.YtcohmhgmocdbfaaKjW
import Derived.Test.YtcohmhgmocdbfaaIfW
namespace Go.Proofs.Ytcohmhgmocdbfaa
set_option linter.unusedVariables false
set_option linter.unusedSimpArgs false
open Go.RowKit

theorem declP_lett {s : ByteArray} : ∀ (n : Nat) (ar out : List UInt8) (k : Nat) (vs : List UInt8) (k1 : Nat), declP s n ar out k = some (vs, k1) → (∀ v ∈ out, lett v) → ∀ v ∈ vs, lett v
  | 0, _, _, _, _, _, h, _ => by simp [declP] at h
  | n + 1, ar, out, k, vs, k1, h, ho => by
    rw [declP] at h
    split at h
    · cases h
    · rename_i c hc
      split at h
      · simp only [Option.some.injEq, Prod.mk.injEq] at h
        rw [← h.1]; exact ho
      · split at h
        · rename_i hcc
          refine declP_lett n ar (out ++ [c]) (k + 1) vs k1 h ?_
          intro v hv
          rcases List.mem_append.1 hv with hv | hv
          · exact ho v hv
          · rw [List.mem_singleton.1 hv]
            exact ⟨UInt8.le_iff_toNat_le.1 hcc.1, UInt8.le_iff_toNat_le.1 hcc.2.1⟩
        · cases h

/-- Every reader reads steps whose variables are letters. -/
structure ReadsL (s : ByteArray) (n : Nat) : Prop where
  step : ∀ ar d k x k2, (∀ v ∈ ar, lett v) → stepP s n ar d k = some (x, k2) → x.Lett
  scope : ∀ ar d k x k2, (∀ v ∈ ar, lett v) → scopeP s n ar d k = some (x, k2) → x.Lett
  brack : ∀ ar d k x k2, (∀ v ∈ ar, lett v) → brackP s n ar d k = some (x, k2) → x.Lett
  steps : ∀ ar d e k x k2, (∀ v ∈ ar, lett v) → stepsP s n ar d e k = some (x, k2) → x.Lett

theorem readsL (s : ByteArray) : ∀ n, ReadsL s n
  | 0 => ⟨fun _ _ _ _ _ _ h => by simp [stepP] at h, fun _ _ _ _ _ _ h => by simp [scopeP] at h, fun _ _ _ _ _ _ h => by simp [brackP] at h, fun _ _ _ _ _ _ _ h => by simp [stepsP] at h⟩
  | n + 1 => by
    have ih := readsL s n
    constructor
    · intro ar d k x k2 ha h
      rw [stepP] at h
      cases hc : at? s k with
      | none => rw [hc] at h; cases h
      | some c =>
        simp only [hc] at h
        split at h
        · split at h
          · cases h
          · rename_i v k1 hv
            obtain ⟨_, _, hm⟩ := varP_some hv
            simp only [Option.some.injEq, Prod.mk.injEq] at h
            rw [← h.1]
            simp only [Nd.Lett, Bds.Lett, and_true]
            exact ⟨fun z hz => by rw [List.mem_singleton.1 hz]; exact ha v hm, ha⟩
        split at h
        · split at h
          · cases h
          · rename_i v u k1 hv
            obtain ⟨k0, h1, h2, _⟩ := moveP_some hv
            obtain ⟨_, _, hm1⟩ := varP_some h1
            obtain ⟨_, _, hm2⟩ := varP_some h2
            simp only [Option.some.injEq, Prod.mk.injEq] at h
            rw [← h.1]
            simp only [Nd.Lett, Bds.Lett, and_true]
            refine ⟨fun z hz => ?_, ha⟩
            simp only [List.mem_cons, List.not_mem_nil, or_false] at hz
            rcases hz with rfl | rfl
            · exact ha _ hm1
            · exact ha _ hm2
        split at h
        · simp only [Option.some.injEq, Prod.mk.injEq] at h
          rw [← h.1]
          simp only [Nd.Lett, Bds.Lett, and_true]
          exact ⟨(fun z hz => by cases hz), ha⟩
        split at h
        · split at h
          · cases h
          · rename_i x1 k1 h1
            split at h
            · cases h
            · rename_i x2 k2' h2
              have i1 := ih.brack _ _ _ _ _ ha h1
              have i2 := ih.brack _ _ _ _ _ ha h2
              simp only [Option.some.injEq, Prod.mk.injEq] at h
              rw [← h.1]
              simp only [Nd.Lett, Bds.Lett, and_true]
              exact ⟨(fun z hz => by cases hz), ha, i1, i2⟩
        split at h
        · split at h
          · cases h
          · rename_i x1 k1 h1
            have i1 := ih.brack _ _ _ _ _ ha h1
            simp only [Option.some.injEq, Prod.mk.injEq] at h
            rw [← h.1]
            simp only [Nd.Lett, Bds.Lett, and_true]
            exact ⟨(fun z hz => by cases hz), ha, i1⟩
        split at h
        · exact ih.scope _ _ _ _ _ ha h
        · cases h
    · intro ar d k x k2 ha h
      rw [scopeP] at h
      split at h
      · cases h
      · split at h
        · cases h
        · rename_i vs k1 h1
          have hv := declP_lett _ _ _ _ _ _ h1 (fun v hv => by cases hv)
          split at h
          · cases h
          · rename_i x1 k2' h2
            have i2 := ih.steps _ _ _ _ _ _ (fun v hv' => by
              rcases List.mem_append.1 hv' with e | e
              · exact ha v e
              · exact hv v e) h2
            simp only [Option.some.injEq, Prod.mk.injEq] at h
            rw [← h.1]
            simp only [Nd.Lett, Bds.Lett, and_true]
            exact ⟨hv, ha, i2⟩
    · intro ar d k x k2 ha h
      rw [brackP] at h
      split at h
      · cases h
      · exact ih.steps _ _ _ _ _ _ ha h
    · intro ar d e k x k2 ha h
      rw [stepsP] at h
      split at h
      · simp only [Option.some.injEq, Prod.mk.injEq] at h
        rw [← h.1]
        trivial
      · split at h
        · cases h
        · rename_i x1 k1 h1
          have i1 := ih.step _ _ _ _ _ ha h1
          split at h
          · cases h
          · rename_i r k2' h2
            have i2 := ih.steps _ _ _ _ _ _ ha h2
            simp only [Option.some.injEq, Prod.mk.injEq] at h
            rw [← h.1]
            exact ⟨i1, i2⟩

theorem progP_lett {s : ByteArray} {x : Nd} (h : progP s = some x) : x.Lett := by
  unfold progP at h
  split at h
  · cases h
  · split at h
    · split at h
      · cases h
      · rename_i y k hy
        split at h
        · have e := Option.some.inj h
          rw [← e]
          exact (readsL s (8 * s.size + 8)).scope _ _ _ _ _ (fun v hv => by cases hv) hy
        · cases h
    · cases h

/-- What a whole program's step does. -/
theorem root_any {txt : ByteArray} {x : Nd} (hp : progP txt = some x) : StepC x := by
  obtain ⟨_, h2, _, _, _, h6⟩ := progP_ok hp
  exact Nd.stepC h6 x 0 h2 (progP_lett hp)

end Go.Proofs.Ytcohmhgmocdbfaa

namespace Go.Proofs.Ytcohmhgmocdbfaa
set_option linter.unusedVariables false
set_option linter.unusedSimpArgs false
open Go.RowKit

theorem asE (v : Value) (w : World) : (Instr.typeAssert (.iface 82 v) 20 82 true).run Try.prog w = .ok (.tuple #[v, .bool true]) w := by kernel_rfl
theorem asN (w : World) : (Instr.typeAssert .nilIface 20 82 true).run Try.prog w = .ok (.tuple #[.agg #[.int .i64 0, .int .i64 0, .string ⟨#[]⟩], .bool false]) w := by kernel_rfl

theorem catchE_idle (p : Addr) (w : World) :
    CallsD Try.prog 86 #[.pointer (some p)] .returning w fun e u' w' => e = .returned (.tuple #[]) ∧ u' = .returning ∧ Keeps noB w w' := by
  refine callsD_of_wpS Try.func86 rfl fun c₀ cs hu => ?_
  simp only [Try.ntmps86, List.size_toArray, List.length_cons, List.length_nil, Nat.reduceAdd, Nat.reduceSub, Array.replicate_succ, Array.replicate_zero, List.push_toArray, List.append_toArray, List.nil_append, List.cons_append]
  apply wpS_seq
  apply wpS_region
  simp [wpOpsS, go_sem, recoverD, hu, asN, Exit.thenS]
  apply wpS_seq
  apply wpS_region
  simp [wpOpsS, go_sem, Exit.thenS]
  refine wpS_cond (t := false) (by simp [Act.eval]) ?_
  simp only [Bool.false_eq_true, if_false]
  refine wpS_of_wp (wp_skip ?_)
  cases c₀
  simp_all [bodyPostS, results, Try.results86]
  exact (Keeps.refl noB w).alloc _

theorem catchE_panicking (n : Nat) (xi yi : Int) (zs : ByteArray) (x0 y0 z0 : Value) (t : TypeId) (older : List PanicEntry) (w : World) (hb : Blk w n #[x0, y0, z0] t) :
    CallsD Try.prog 86 #[.pointer (some ⟨n, 0, none⟩)] (.panicking ({ v := .iface 82 (.agg #[.int .i64 xi, .int .i64 yi, .string zs]), recovered := false } :: older)) w fun e u' w' =>
      e = .returned (.tuple #[]) ∧ u' = .panicking ({ v := .iface 82 (.agg #[.int .i64 xi, .int .i64 yi, .string zs]), recovered := true } :: older) ∧ Keeps (oneB n) w w' ∧ Blk w' n #[.int .i64 xi, .int .i64 yi, .string zs] t := by
  refine callsD_of_wpS Try.func86 rfl fun c₀ cs hu => ?_
  simp only [Try.ntmps86, List.size_toArray, List.length_cons, List.length_nil, Nat.reduceAdd, Nat.reduceSub, Array.replicate_succ, Array.replicate_zero, List.push_toArray, List.append_toArray, List.nil_append, List.cons_append]
  apply wpS_seq
  apply wpS_region
  have hl := hb.lt
  have hne : ¬ n = w.heap.size := by omega
  have hne' : ¬ w.heap.size = n := by omega
  have k0 := hb.cell 0
  have k1 := hb.cell 1
  have k2 := hb.cell 2
  have f0 := hb.free 0
  have f1 := hb.free 1
  have f2 := hb.free 2
  simp at k0 k1 k2
  simp [wpOpsS, go_sem, recoverD, hu, asE, Exit.thenS]
  apply wpS_seq
  apply wpS_region
  simp [wpOpsS, go_sem, Exit.thenS]
  refine wpS_cond (t := true) (by simp [Act.eval]) ?_
  simp only [if_true]
  apply wpS_region
  simp [wpOpsS, go_sem, hl, hne, hne', k0, k1, k2, f0, f1, f2, bodyPostS, results, Try.results86]
  refine ⟨((((Keeps.refl _ w).setCell (.inl (show oneB n n from rfl)) _).setCell (.inl (show oneB n n from rfl)) _).setCell (.inl (show oneB n n from rfl)) _).alloc _, ?_⟩
  exact (((hb.set 0 (.int .i64 xi)).set 1 (.int .i64 yi)).set 2 (.string zs)).alloc _

end Go.Proofs.Ytcohmhgmocdbfaa

namespace Go.Proofs.Ytcohmhgmocdbfaa
set_option linter.unusedVariables false
set_option linter.unusedSimpArgs false
open Go.RowKit

/-- What a run comes to. -/
def endOf : Out → Value
  | .go _ => .agg #[.int .i64 1, .int .i64 (-1), .string ⟨#[]⟩]
  | .stop y _ => endV y

def ThroughPost (w : World) (own : Nat → Prop) (b : Nat) (o : Out) (e : Ending) (w' : World) : Prop :=
  e = .returned (endOf o) ∧ ∃ own' ar' ve vv, Owns own own' w w' ∧ RunAt w' own' b o.st ar' ve vv

theorem endV_parts (y : Why) : ∃ xi yi zs, endV y = .agg #[.int .i64 xi, .int .i64 yi, .string zs] := by
  cases y with
  | ret => exact ⟨_, _, _, rfl⟩
  | fail => exact ⟨_, _, _, rfl⟩
  | fault k => exact ⟨_, _, _, rfl⟩
  | stuck br => cases br <;> exact ⟨_, _, _, rfl⟩

set_option maxRecDepth 100000 in
set_option maxHeartbeats 2000000 in
theorem through_any (x : Nd) (hx : StepC x) (s : St) (w : World) (own ok : Nat → Prop) (b g : Nat) (ve vv : Value) (hrep : RepI w ok x (.iface 56 (ptr g))) (hok : ∀ k, ok k → k < w.heap.size ∧ ¬ own k)
    (h : RunAt w own b s x.scope ve vv) (hlt : ∀ k, own k → k < w.heap.size) (hroom : Room x.pre.len s) :
    Calls Try.prog 61 #[.pointer (some ⟨b, 0, none⟩), .pointer (some ⟨g, 0, none⟩)] w (ThroughPost w own b (x.run s)) := by
  have hmf : ∀ (fn : Fn) (first cap : Array Value) (w : World), (Instr.makeFunc fn first cap).run Try.prog w = .ok (.func fn first cap) w := fun _ _ _ _ => rfl
  have q0 : Keeps noB w (w.alloc (.cells #[.int .i64 0, .int .i64 0, .string ⟨#[]⟩] 82)) := (Keeps.refl _ _).alloc _
  have b0 := Blk.new w #[.int .i64 0, .int .i64 0, .string ⟨#[]⟩] 82
  have hs0 : (w.alloc (.cells #[.int .i64 0, .int .i64 0, .string ⟨#[]⟩] 82)).heap.size = w.heap.size + 1 := by simp
  have HS := Lib.hid (hx s _ own ok b _ ve vv ((Hands.of_keeps (ok := ok) (ok' := ok) q0 (fun _ _ _ e => e) (fun _ hg _ => hg)).repI x _ hrep) (fun k hk => ⟨by rw [hs0]; have := (hok k hk).1; omega, (hok k hk).2⟩) (h.keeps q0 (fun _ _ e => e)) (fun k hk => by rw [hs0]; have := hlt k hk; omega) hroom)
  have hEo : ¬ own w.heap.size := fun e => by have := hlt _ e; omega
  have HB : Hid (∀ own1 w1, Owns own own1 (w.alloc (.cells #[.int .i64 0, .int .i64 0, .string ⟨#[]⟩] 82)) w1 → Blk w1 w.heap.size #[.int .i64 0, .int .i64 0, .string ⟨#[]⟩] 82 ∧ ¬ own1 w.heap.size ∧ Owns own own1 w w1) := fun own1 w1 ho =>
    ⟨ho.keeps.blk b0 hEo, fun e => (ho.more _ e).elim hEo (fun e => by rw [hs0] at e; omega), Owns.behind q0 ho⟩
  clear hrep hok h hlt hroom hx q0 b0 hs0 hEo
  unfold ptr at HS
  generalize x.run s = o at HS ⊢
  cases o with
  | stop y t =>
    obtain ⟨xi, yi, zs, hy⟩ := endV_parts y
    have HY := Lib.hid hy
    go_enter_defers Try.func61, Try.ntmps61
    go_wp2_with (go_at_call 87; refine HS.out.mono ?_; rintro e3 w3 ⟨hth, own3, ar3, ve3, vv3, ho3, hr3⟩; obtain rfl := hth; have HE := Lib.hid (And.intro ho3 hr3); clear ho3 hr3)
    obtain ⟨be, hne, how⟩ := HB.out _ _ HE.out.1
    refine leaves_cons (f := 86) (args := #[.pointer (some ⟨w.heap.size, 0, none⟩)]) (by simp) (by simp [go_sem]) ?_
    refine (catchE_panicking w.heap.size xi yi zs _ _ _ _ [] _ be).mono ?_
    rintro e u' w'' ⟨rfl, rfl, qk, bE⟩
    have c0 := bE.cell 0
    have c1 := bE.cell 1
    have c2 := bE.cell 2
    simp at c0 c1 c2
    simp [Leaves, settle, results, Try.results61, go_sem, c0, c1, c2]
    exact ⟨by show _ = Ending.returned (endV y); rw [hy], own3, ar3, ve3, vv3, how.ahead qk (fun i (e : i = w.heap.size) => by omega), HE.out.2.keeps qk (fun g hg (e : g = w.heap.size) => hne (e ▸ hg))⟩
  | go t =>
    go_enter_defers Try.func61, Try.ntmps61
    go_wp2_with (go_at_call 87; refine HS.out.mono ?_; rintro e3 w3 ⟨own3, ve3, vv3, rfl, ho3, hr3⟩; have ⟨be, hne, how⟩ := HB.out _ _ ho3; have k0 := be.cell 0; have k1 := be.cell 1; have k2 := be.cell 2; have f0 := be.free 0; have f1 := be.free 1; have f2 := be.free 2; simp at k0 k1 k2; have HE := Lib.hid (And.intro ho3 (And.intro hr3 (And.intro be (And.intro hne how)))); clear ho3 hr3 be hne how)
    refine leaves_cons (f := 86) (args := #[.pointer (some ⟨w.heap.size, 0, none⟩)]) (by simp) (by simp [go_sem]) ?_
    refine (catchE_idle ⟨w.heap.size, 0, none⟩ _).mono ?_
    rintro e u' w'' ⟨rfl, rfl, qk⟩
    obtain ⟨ho3, hr3, be, hne, how⟩ := HE.out
    have bE := (qk.blk (((be.set 0 (.int .i64 1)).set 1 (.int .i64 (-1))).set 2 (.string ⟨#[]⟩)) id)
    have c0 := bE.cell 0
    have c1 := bE.cell 1
    have c2 := bE.cell 2
    simp at c0 c1 c2
    simp [Leaves, settle, results, Try.results61, go_sem, c0, c1, c2]
    have qq : Keeps (oneB w.heap.size) w3 w'' := ((((Keeps.refl _ w3).setCell (.inl (show oneB w.heap.size w.heap.size from rfl)) _).setCell (.inl (show oneB w.heap.size w.heap.size from rfl)) _).setCell (.inl (show oneB w.heap.size w.heap.size from rfl)) _).trans (qk.mono (fun _ e => e.elim))
    exact ⟨rfl, own3, _, ve3, vv3, how.ahead qq (fun i (e : i = w.heap.size) => by omega), hr3.keeps qq (fun g hg (e : g = w.heap.size) => hne (e ▸ hg))⟩

end Go.Proofs.Ytcohmhgmocdbfaa

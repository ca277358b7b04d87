/-
  A letter as a text (for a seat that lacks chapter 3).
  What a step of the program needs.
  Faults of steps, as plain functions of a program's tree. Nothing is walked here.
-/
import Derived.Test.YtgpaplhbjhbfjaaPkWm
import Derived.Test.YtgpaplhbjhbfjaaMemWm
import Derived.Test.YtgpaplhbjhbfjaaProg
import Derived.WalkKit
import Derived.Test.YtgpaplhbjhbfjaaJdWm
import Derived.Test.YtgpaplhbjhbfjaaIjWm
namespace Go.Proofs.Ytgpaplhbjhbfjaa
set_option linter.unusedVariables false
set_option linter.unusedSimpArgs false
open Go.RowKit

theorem six_ltr {v : UInt8} (h : ltr v) : v = 97 ∨ v = 98 ∨ v = 99 ∨ v = 100 ∨ v = 101 ∨ v = 102 := by
  obtain ⟨h1, h2⟩ := h
  have h3 : v.toNat = 97 ∨ v.toNat = 98 ∨ v.toNat = 99 ∨ v.toNat = 100 ∨ v.toNat = 101 ∨ v.toNat = 102 := by omega
  rcases h3 with h3 | h3 | h3 | h3 | h3 | h3
  · exact .inl (UInt8.toNat_inj.mp h3)
  · exact .inr (.inl (UInt8.toNat_inj.mp h3))
  · exact .inr (.inr (.inl (UInt8.toNat_inj.mp h3)))
  · exact .inr (.inr (.inr (.inl (UInt8.toNat_inj.mp h3))))
  · exact .inr (.inr (.inr (.inr (.inl (UInt8.toNat_inj.mp h3)))))
  · exact .inr (.inr (.inr (.inr (.inr (UInt8.toNat_inj.mp h3)))))

/-- A letter as a text. -/
theorem conv_ltr (w : World) {v : UInt8} (h : ltr v) : (convert 5 9 (.int .u8 (v.toNat : Int))).run Try.prog w = .ok (str [v]) w := by
  rcases six_ltr h with rfl | rfl | rfl | rfl | rfl | rfl <;>
    simp [convert, go_sem, run_underlying Try.underlying5, run_underlying Try.underlying9] <;> rfl

end Go.Proofs.Ytgpaplhbjhbfjaa

namespace Go.Proofs.Ytgpaplhbjhbfjaa
set_option linter.unusedVariables false
set_option linter.unusedSimpArgs false
open Go.RowKit

/-- The variable that a step needs. -/
def needK (z : Nd) : Option UInt8 := if z.kind = 61 then z.vars[1]? else if z.kind = 46 ∨ z.kind = 45 then z.vars[0]? else none
def needP (s : ByteArray) (at_ : Int) : Option UInt8 := match (placeP s at_).map Prod.fst with | none => none | some z => needK z
def needT (r : Option UInt8) : ByteArray := match r with | none => ⟨#[]⟩ | some v => ⟨#[v]⟩

mutual
theorem Nd.fs_pre : ∀ (x : Nd), x.Sp → x.Fit → ∀ z ∈ x.pre.list, z.Sp ∧ z.Fit
  | .mk c b e vs ar .nil, h, hf, z, hz => by
    simp [Nd.pre, Bds.pre, Nds.list] at hz
    rw [hz]; exact ⟨h, hf⟩
  | .mk c b e vs ar (.cons x .nil), h, hf, z, hz => by
    simp [Nd.pre, Bds.pre, Nds.list, Nds.list_app] at hz
    rcases hz with hz | hz
    · rw [hz]; exact ⟨h, hf⟩
    · simp only [Nd.Sp] at h
      simp only [Nd.Fit] at hf
      exact Nds.fs_pre x _ _ h.2.2 hf.2 z hz
  | .mk c b e vs ar (.cons x (.cons y .nil)), h, hf, z, hz => by
    simp [Nd.pre, Bds.pre, Nds.list, Nds.list_app] at hz
    have h0 := h
    have hf0 := hf
    simp only [Nd.Sp] at h
    simp only [Nd.Fit] at hf
    obtain ⟨m, h1, h2, h3, h4, h5⟩ := h
    rcases hz with hz | hz | hz
    · rw [hz]; exact ⟨h0, hf0⟩
    · exact Nds.fs_pre x _ _ h4 hf.2.2.1 z hz
    · exact Nds.fs_pre y _ _ h5 hf.2.2.2 z hz
  | .mk c b e vs ar (.cons x (.cons y (.cons u r))), h, hf, z, hz => by simp only [Nd.Fit] at hf
theorem Nds.fs_pre : ∀ (x : Nds) (lo hi : Nat), x.Sp lo hi → x.Fit → ∀ z ∈ x.pre.list, z.Sp ∧ z.Fit
  | .nil, _, _, _, _, z, hz => by simp [Nds.pre, Nds.list] at hz
  | .cons x r, _, _, h, hf, z, hz => by
    simp [Nds.pre, Nds.list_app] at hz
    simp only [Nds.Sp] at h
    simp only [Nds.Fit] at hf
    rcases hz with hz | hz
    · exact Nd.fs_pre x h.2.1 hf.1 z hz
    · exact Nds.fs_pre r _ _ h.2.2 hf.2 z hz
end

theorem need_ltr {z : Nd} (hs : z.Sp) (hf : z.Fit) {v : UInt8} (h : needK z = some v) : ltr v := by
  obtain ⟨c, b, e, vs, ar, bs⟩ := z
  have hm : v ∈ vs := by
    have h : (if c = 61 then vs[1]? else if c = 46 ∨ c = 45 then vs[0]? else none) = some v := h
    by_cases h1 : c = 61
    · rw [if_pos h1] at h; exact List.mem_of_getElem? h
    · rw [if_neg h1] at h
      by_cases h2 : c = 46 ∨ c = 45
      · rw [if_pos h2] at h; exact List.mem_of_getElem? h
      · rw [if_neg h2] at h; cases h
  cases bs with
  | nil => simp only [Nd.Sp] at hs; exact hs.2 v hm
  | cons x r =>
    cases r with
    | nil =>
      simp only [Nd.Fit] at hf
      have h : (if c = 61 then vs[1]? else if c = 46 ∨ c = 45 then vs[0]? else none) = some v := h
      rcases hf.1 with ⟨rfl, rfl⟩ | rfl
      · simp at h
      · simp at h
    | cons y r =>
      cases r with
      | nil =>
        simp only [Nd.Fit] at hf
        rw [hf.2.1] at hm; cases hm
      | cons u r => simp only [Nd.Fit] at hf

theorem place_fs {s : ByteArray} {at_ : Int} {z : Nd} (h : (placeP s at_).map Prod.fst = some z) : z.Sp ∧ z.Fit := by
  unfold placeP at h
  cases hp : progP s with
  | none => rw [hp] at h; cases h
  | some x =>
    rw [hp] at h
    simp only at h
    cases hf : (x.preD 0).find? (fun p => (p.1.beg : Int) == at_) with
    | none => rw [hf] at h; cases h
    | some p =>
      rw [hf] at h
      have e := Option.some.inj h
      have hm := List.mem_of_find?_eq_some hf
      have hm2 : p.1 ∈ (x.preD 0).map Prod.fst := List.mem_map_of_mem hm
      rw [Nd.preD_fst] at hm2
      rw [← e]
      exact Nd.fs_pre x (progP_sp hp) (progP_fit hp) _ hm2

theorem needP_ltr {s : ByteArray} {at_ : Int} {v : UInt8} (h : needP s at_ = some v) : ltr v := by
  unfold needP at h
  cases hz : (placeP s at_).map Prod.fst with
  | none => rw [hz] at h; cases h
  | some z =>
    rw [hz] at h
    obtain ⟨h1, h2⟩ := place_fs hz
    exact need_ltr h1 h2 h

/-- What neededBy answers. -/
def needV (r : Option UInt8) : Value := match r with | none => .tuple #[.int .u8 0, .bool false] | some v => .tuple #[.int .u8 (v.toNat : Int), .bool true]

theorem resNd (W : World) (x v : Value) (tmps : Array Value) (h1 : tmps.getD 2 undef = x) (h2 : tmps.getD 3 undef = v) : (results Try.f116 tmps).run Try.prog W = .ok (.tuple #[x, v]) W := by
  have h1' : tmps[2]?.getD undef = x := by simpa using h1
  have h2' : tmps[3]?.getD undef = v := by simpa using h2
  simp [results, Try.results116, go_sem, h1', h2']

set_option maxRecDepth 100000 in
set_option maxHeartbeats 4000000 in
theorem needed_val (g : Nat) (c t u : UInt8) (w : World) (h2 : w.cell? ⟨g, 2, none⟩ = some (.int .u8 (c.toNat : Int))) (h3 : w.cell? ⟨g, 3, none⟩ = some (.int .u8 (t.toNat : Int))) (h4 : w.cell? ⟨g, 4, none⟩ = some (.int .u8 (u.toNat : Int))) (r : Option UInt8)
    (hc : (c = 43 ∧ r = none) ∨ (c = 126 ∧ r = none) ∨ (c = 46 ∧ r = some t) ∨ (c = 45 ∧ r = some t) ∨ (c = 61 ∧ r = some u)) :
    Calls Try.prog 116 #[.iface 164 (.pointer (some ⟨g, 0, none⟩))] w (fun e w' => e = .returned (needV r) ∧ Keeps noB w w') := by
  have a0 := isVV (.pointer (some ⟨g, 0, none⟩))
  rcases hc with ⟨rfl, rfl⟩ | ⟨rfl, rfl⟩ | ⟨rfl, rfl⟩ | ⟨rfl, rfl⟩ | ⟨rfl, rfl⟩
  all_goals
    unfold needV
    simp only
    go_enter Try.func116, Try.ntmps116
    go_wp2_with fail
    exact bodyPost_ret (resNd _ _ _ _ rfl rfl) rfl ⟨rfl, Keeps.refl _ _⟩

set_option maxRecDepth 100000 in
set_option maxHeartbeats 4000000 in
theorem needed_oth (g : Nat) (ty : TypeId) (w : World) (ht : ty = 166 ∨ ty = 72 ∨ ty = 60 ∨ ty = 71) :
    Calls Try.prog 116 #[.iface ty (.pointer (some ⟨g, 0, none⟩))] w (fun e w' => e = .returned (needV none) ∧ Keeps noB w w') := by
  have a0 := isLV (.pointer (some ⟨g, 0, none⟩))
  have a1 := isOV (.pointer (some ⟨g, 0, none⟩))
  have a2 := isSV (.pointer (some ⟨g, 0, none⟩))
  have a3 := isBV (.pointer (some ⟨g, 0, none⟩))
  rcases ht with rfl | rfl | rfl | rfl
  all_goals
    unfold needV
    simp only
    go_enter Try.func116, Try.ntmps116
    go_wp2_with fail
    exact bodyPost_ret (resNd _ _ _ _ rfl rfl) rfl ⟨rfl, Keeps.refl _ _⟩

theorem needed_any {W : World} {z : Nd} {ty : TypeId} {g : Nat} (h : StepIs W z ty g) : Calls Try.prog 116 #[.iface ty (.pointer (some ⟨g, 0, none⟩))] W (fun e w' => e = .returned (needV (needK z)) ∧ Keeps noB W w') := by
  rcases h.tys with rfl | ⟨ht, hk⟩ | ⟨ht, hk⟩ | ⟨ht, hk⟩ | ⟨ht, hk⟩
  · obtain ⟨c, t, u, hk, h2, h3, h4, hv⟩ := h.val rfl
    refine needed_val g c t u W h2 h3 h4 _ ?_
    unfold needK
    rw [hk]
    rcases hv with ⟨rfl | rfl | rfl | rfl, hv⟩ | ⟨rfl, hv⟩ <;> rw [hv] <;> simp
  · have e : needK z = none := by unfold needK; rcases hk with hk | hk <;> rw [hk] <;> simp
    rw [e]; exact needed_oth g ty W (.inl ht)
  · have e : needK z = none := by unfold needK; rw [hk]; simp
    rw [e]; exact needed_oth g ty W (.inr (.inl ht))
  · have e : needK z = none := by unfold needK; rw [hk]; simp
    rw [e]; exact needed_oth g ty W (.inr (.inr (.inl ht)))
  · have e : needK z = none := by unfold needK; rw [hk]; simp
    rw [e]; exact needed_oth g ty W (.inr (.inr (.inr ht)))

end Go.Proofs.Ytgpaplhbjhbfjaa

namespace Go.Proofs.Ytgpaplhbjhbfjaa
set_option linter.unusedVariables false
set_option linter.unusedSimpArgs false

/-- The fault of a step, by what is known where it begins. -/
def faultK (z : Nd) (k : Kn) : Nat := if k = Kn.no then 3 else match needK z with | none => 0 | some v => if hasV k.must v then 0 else if hasV k.may v then 1 else 2

theorem faultK_le (z : Nd) (k : Kn) : faultK z k ≤ 3 := by
  unfold faultK
  split
  · omega
  · split
    · omega
    · split
      · omega
      · split <;> omega

mutual
theorem Nd.noted : ∀ (x : Nd) (k : Kn), x.Fit → ∀ z ∈ x.pre.list, (Nd.note x k z.beg).isSome = true
  | .mk c b e vs ar .nil, k, hf, z, hz => by
    simp [Nd.pre, Bds.pre, Nds.list] at hz
    rw [hz]; simp only [Nd.note, point_isSome, Nd.beg]; simp
  | .mk c b e vs ar (.cons x .nil), k, hf, z, hz => by
    simp [Nd.pre, Bds.pre, Nds.list, Nds.list_app] at hz
    simp only [Nd.Fit] at hf
    simp only [Nd.note]
    rcases hz with hz | hz
    · rw [hz]; split <;> simp [over_isSome, point_isSome, Nd.beg]
    · have h1 := fun k => Nds.noted x k hf.2 z hz
      split <;> simp [over_isSome, h1]
  | .mk c b e vs ar (.cons x (.cons y .nil)), k, hf, z, hz => by
    simp [Nd.pre, Bds.pre, Nds.list, Nds.list_app] at hz
    simp only [Nd.Fit] at hf
    simp only [Nd.note]
    rcases hz with hz | hz | hz
    · rw [hz]; simp [over_isSome, point_isSome, Nd.beg]
    · simp [over_isSome, Nds.noted x k hf.2.2.1 z hz]
    · simp [over_isSome, Nds.noted y k hf.2.2.2 z hz]
  | .mk c b e vs ar (.cons x (.cons y (.cons u r))), k, hf, z, hz => by simp only [Nd.Fit] at hf
theorem Nds.noted : ∀ (x : Nds) (k : Kn), x.Fit → ∀ z ∈ x.pre.list, (Nds.note x k z.beg).isSome = true
  | .nil, _, _, z, hz => by simp [Nds.pre, Nds.list] at hz
  | .cons x r, k, hf, z, hz => by
    simp [Nds.pre, Nds.list_app] at hz
    simp only [Nds.Fit] at hf
    simp only [Nds.note, over_isSome]
    rcases hz with hz | hz
    · simp [Nd.noted x k hf.1 z hz]
    · simp [Nds.noted r _ hf.2 z hz]
end

/-- What is known where a step of a program begins. -/
def knownZ (x z : Nd) : Kn := (notesP x z.beg).getD Kn.no
/-- The fault of a step of a program. -/
def faultZ (x z : Nd) : Nat := faultK z (knownZ x z)

theorem noteI_beg (x z : Nd) : noteI (notesP x) (z.beg : Int) = notesP x z.beg := by
  unfold noteI
  rw [if_pos (by omega)]
  rfl

/-- A step's begin is a point. -/
theorem noted_P {s : ByteArray} {x : Nd} (hp : progP s = some x) {z : Nd} (hz : z ∈ x.pre.list) : notesP x z.beg = some (knownZ x z) := by
  have h := Nd.noted x ⟨0, 0⟩ (progP_fit hp) z hz
  unfold knownZ notesP
  cases hn : Nd.note x ⟨0, 0⟩ z.beg with
  | none => rw [hn] at h; cases h
  | some k => rfl

theorem knownZ_wf {s : ByteArray} {x : Nd} (hp : progP s = some x) {z : Nd} (hz : z ∈ x.pre.list) : (knownZ x z).Wf :=
  Nd.note_wf x _ _ _ (progP_sp hp) wf_start (noted_P hp hz)

theorem mem_preD {x : Nd} {p : PN} {d : Nat} (h : p ∈ x.preD d) : p.1 ∈ x.pre.list := by
  rw [← Nd.preD_fst x d]; exact List.mem_map_of_mem h

/-- FaultOf. -/
def faultNoP (s : ByteArray) (at_ : Int) : Int := match progP s with | none => -1 | some x => match (x.preD 0).find? (fun p => (p.1.beg : Int) == at_) with | none => -1 | some p => (faultZ x p.1 : Int)

/-- The steps with a fault. -/
def withL (x : Nd) (f : Nat) (l : List PN) : List PN := l.filter (fun p => faultZ x p.1 == f)
/-- StepsWith. -/
def withP (s : ByteArray) (f : Int) : Option (List Nat) := match progP s with | none => none | some x => if 0 ≤ f ∧ f ≤ 3 then some ((withL x f.toNat (x.preD 0)).map (fun p => p.1.beg)) else none
def safeP (s : ByteArray) : Bool := match progP s with | none => false | some x => (withL x 1 (x.preD 0)).isEmpty && (withL x 2 (x.preD 0)).isEmpty
def brokenP (s : ByteArray) : Bool := match progP s with | none => false | some x => !(withL x 2 (x.preD 0)).isEmpty
/-- DeadSteps. -/
def deadL (x : Nd) (l : List PN) : List PN := l.filter (fun p => decide (knownZ x p.1 = Kn.no))

end Go.Proofs.Ytgpaplhbjhbfjaa

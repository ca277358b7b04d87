/-
  The program's NeedOf.
-/
import Derived.Test.YtmdpnhkdbkclgaaJd
import Derived.Test.YtmdpnhkdbkclgaaIk
import Derived.Test.YtmdpnhkdbkclgaaWl
namespace Go.Proofs.Ytmdpnhkdbkclgaa
set_option linter.unusedVariables false
set_option linter.unusedSimpArgs false
open Go.RowKit

/-- The variable that a step needs. -/
def needK (z : Nd) : Option UInt8 := if z.kind = 61 then z.vars[1]? else if z.kind = 46 ∨ z.kind = 45 then z.vars[0]? else none
def needP (s : ByteArray) (at_ : Int) : Option UInt8 := match (placeP s at_).map Prod.fst with | none => none | some z => needK z
def needT (r : Option UInt8) : ByteArray := match r with | none => ⟨#[]⟩ | some v => ⟨#[v]⟩

mutual
theorem Nd.fs_pre : ∀ (x : Nd), x.Sp → x.Fit → ∀ z ∈ x.pre.list, z.Sp ∧ z.Fit
  | .mk c b e vs ar .nil, h, hf, z, hz => by
    simp [Nd.pre, Bds.pre, Nds.list] at hz
    rw [hz]; exact ⟨h, hf⟩
  | .mk c b e vs ar (.cons x .nil), h, hf, z, hz => by
    simp [Nd.pre, Bds.pre, Nds.list, Nds.list_app] at hz
    rcases hz with hz | hz
    · rw [hz]; exact ⟨h, hf⟩
    · simp only [Nd.Sp] at h
      simp only [Nd.Fit] at hf
      exact Nds.fs_pre x _ _ h.2.2 hf.2 z hz
  | .mk c b e vs ar (.cons x (.cons y .nil)), h, hf, z, hz => by
    simp [Nd.pre, Bds.pre, Nds.list, Nds.list_app] at hz
    have h0 := h
    have hf0 := hf
    simp only [Nd.Sp] at h
    simp only [Nd.Fit] at hf
    obtain ⟨m, h1, h2, h3, h4, h5⟩ := h
    rcases hz with hz | hz | hz
    · rw [hz]; exact ⟨h0, hf0⟩
    · exact Nds.fs_pre x _ _ h4 hf.2.2.1 z hz
    · exact Nds.fs_pre y _ _ h5 hf.2.2.2 z hz
  | .mk c b e vs ar (.cons x (.cons y (.cons u r))), h, hf, z, hz => by simp only [Nd.Fit] at hf
theorem Nds.fs_pre : ∀ (x : Nds) (lo hi : Nat), x.Sp lo hi → x.Fit → ∀ z ∈ x.pre.list, z.Sp ∧ z.Fit
  | .nil, _, _, _, _, z, hz => by simp [Nds.pre, Nds.list] at hz
  | .cons x r, _, _, h, hf, z, hz => by
    simp [Nds.pre, Nds.list_app] at hz
    simp only [Nds.Sp] at h
    simp only [Nds.Fit] at hf
    rcases hz with hz | hz
    · exact Nd.fs_pre x h.2.1 hf.1 z hz
    · exact Nds.fs_pre r _ _ h.2.2 hf.2 z hz
end

theorem need_ltr {z : Nd} (hs : z.Sp) (hf : z.Fit) {v : UInt8} (h : needK z = some v) : ltr v := by
  obtain ⟨c, b, e, vs, ar, bs⟩ := z
  have hm : v ∈ vs := by
    have h : (if c = 61 then vs[1]? else if c = 46 ∨ c = 45 then vs[0]? else none) = some v := h
    by_cases h1 : c = 61
    · rw [if_pos h1] at h; exact List.mem_of_getElem? h
    · rw [if_neg h1] at h
      by_cases h2 : c = 46 ∨ c = 45
      · rw [if_pos h2] at h; exact List.mem_of_getElem? h
      · rw [if_neg h2] at h; cases h
  cases bs with
  | nil => simp only [Nd.Sp] at hs; exact hs.2 v hm
  | cons x r =>
    cases r with
    | nil =>
      simp only [Nd.Fit] at hf
      have h : (if c = 61 then vs[1]? else if c = 46 ∨ c = 45 then vs[0]? else none) = some v := h
      rcases hf.1 with ⟨rfl, rfl⟩ | rfl
      · simp at h
      · simp at h
    | cons y r =>
      cases r with
      | nil =>
        simp only [Nd.Fit] at hf
        rw [hf.2.1] at hm; cases hm
      | cons u r => simp only [Nd.Fit] at hf

theorem place_fs {s : ByteArray} {at_ : Int} {z : Nd} (h : (placeP s at_).map Prod.fst = some z) : z.Sp ∧ z.Fit := by
  unfold placeP at h
  cases hp : progP s with
  | none => rw [hp] at h; cases h
  | some x =>
    rw [hp] at h
    simp only at h
    cases hf : (x.preD 0).find? (fun p => (p.1.beg : Int) == at_) with
    | none => rw [hf] at h; cases h
    | some p =>
      rw [hf] at h
      have e := Option.some.inj h
      have hm := List.mem_of_find?_eq_some hf
      have hm2 : p.1 ∈ (x.preD 0).map Prod.fst := List.mem_map_of_mem hm
      rw [Nd.preD_fst] at hm2
      rw [← e]
      exact Nd.fs_pre x (progP_sp hp) (progP_fit hp) _ hm2

theorem needP_ltr {s : ByteArray} {at_ : Int} {v : UInt8} (h : needP s at_ = some v) : ltr v := by
  unfold needP at h
  cases hz : (placeP s at_).map Prod.fst with
  | none => rw [hz] at h; cases h
  | some z =>
    rw [hz] at h
    obtain ⟨h1, h2⟩ := place_fs hz
    exact need_ltr h1 h2 h

/-- What neededBy answers. -/
def needV (r : Option UInt8) : Value := match r with | none => .tuple #[.int .u8 0, .bool false] | some v => .tuple #[.int .u8 (v.toNat : Int), .bool true]

theorem resNd (W : World) (x v : Value) (tmps : Array Value) (h1 : tmps.getD 2 undef = x) (h2 : tmps.getD 3 undef = v) : (results Try.f42 tmps).run Try.prog W = .ok (.tuple #[x, v]) W := by
  have h1' : tmps[2]?.getD undef = x := by simpa using h1
  have h2' : tmps[3]?.getD undef = v := by simpa using h2
  simp [results, Try.results42, go_sem, h1', h2']

set_option maxRecDepth 100000 in
set_option maxHeartbeats 4000000 in
theorem needed_val (g : Nat) (c t u : UInt8) (w : World) (h2 : w.cell? ⟨g, 2, none⟩ = some (.int .u8 (c.toNat : Int))) (h3 : w.cell? ⟨g, 3, none⟩ = some (.int .u8 (t.toNat : Int))) (h4 : w.cell? ⟨g, 4, none⟩ = some (.int .u8 (u.toNat : Int))) (r : Option UInt8)
    (hc : (c = 43 ∧ r = none) ∨ (c = 126 ∧ r = none) ∨ (c = 46 ∧ r = some t) ∨ (c = 45 ∧ r = some t) ∨ (c = 61 ∧ r = some u)) :
    Calls Try.prog 42 #[.iface 96 (.pointer (some ⟨g, 0, none⟩))] w (fun e w' => e = .returned (needV r) ∧ Keeps noB w w') := by
  have a0 := isVV (.pointer (some ⟨g, 0, none⟩))
  rcases hc with ⟨rfl, rfl⟩ | ⟨rfl, rfl⟩ | ⟨rfl, rfl⟩ | ⟨rfl, rfl⟩ | ⟨rfl, rfl⟩
  all_goals
    unfold needV
    simp only
    go_enter Try.func42, Try.ntmps42
    go_wp2_with fail
    exact bodyPost_ret (resNd _ _ _ _ rfl rfl) rfl ⟨rfl, Keeps.refl _ _⟩

set_option maxRecDepth 100000 in
set_option maxHeartbeats 4000000 in
theorem needed_oth (g : Nat) (ty : TypeId) (w : World) (ht : ty = 144 ∨ ty = 69 ∨ ty = 57 ∨ ty = 68) :
    Calls Try.prog 42 #[.iface ty (.pointer (some ⟨g, 0, none⟩))] w (fun e w' => e = .returned (needV none) ∧ Keeps noB w w') := by
  have a0 := isLV (.pointer (some ⟨g, 0, none⟩))
  have a1 := isOV (.pointer (some ⟨g, 0, none⟩))
  have a2 := isSV (.pointer (some ⟨g, 0, none⟩))
  have a3 := isBV (.pointer (some ⟨g, 0, none⟩))
  rcases ht with rfl | rfl | rfl | rfl
  all_goals
    unfold needV
    simp only
    go_enter Try.func42, Try.ntmps42
    go_wp2_with fail
    exact bodyPost_ret (resNd _ _ _ _ rfl rfl) rfl ⟨rfl, Keeps.refl _ _⟩

theorem needed_any {W : World} {z : Nd} {ty : TypeId} {g : Nat} (h : StepIs W z ty g) : Calls Try.prog 42 #[.iface ty (.pointer (some ⟨g, 0, none⟩))] W (fun e w' => e = .returned (needV (needK z)) ∧ Keeps noB W w') := by
  rcases h.tys with rfl | ⟨ht, hk⟩ | ⟨ht, hk⟩ | ⟨ht, hk⟩ | ⟨ht, hk⟩
  · obtain ⟨c, t, u, hk, h2, h3, h4, hv⟩ := h.val rfl
    refine needed_val g c t u W h2 h3 h4 _ ?_
    unfold needK
    rw [hk]
    rcases hv with ⟨rfl | rfl | rfl | rfl, hv⟩ | ⟨rfl, hv⟩ <;> rw [hv] <;> simp
  · have e : needK z = none := by unfold needK; rcases hk with hk | hk <;> rw [hk] <;> simp
    rw [e]; exact needed_oth g ty W (.inl ht)
  · have e : needK z = none := by unfold needK; rw [hk]; simp
    rw [e]; exact needed_oth g ty W (.inr (.inl ht))
  · have e : needK z = none := by unfold needK; rw [hk]; simp
    rw [e]; exact needed_oth g ty W (.inr (.inr (.inl ht)))
  · have e : needK z = none := by unfold needK; rw [hk]; simp
    rw [e]; exact needed_oth g ty W (.inr (.inr (.inr ht)))

theorem resNeedOf (W : World) (x : ByteArray) (v : Bool) (tmps : Array Value) (h1 : tmps.getD 4 undef = .string x) (h2 : tmps.getD 5 undef = .bool v) : (results Try.f25 tmps).run Try.prog W = .ok (.tuple #[.string x, .bool v]) W := by
  have h1' : tmps[4]?.getD undef = .string x := by simpa using h1
  have h2' : tmps[5]?.getD undef = .bool v := by simpa using h2
  simp [results, Try.results25, go_sem, h1', h2']

set_option maxRecDepth 100000 in
set_option maxHeartbeats 4000000 in
theorem needOf_any (s : ByteArray) (hs : s.size ≤ 1048576) (at_ : Int) (ha : (Lit.int .i64 at_).wf = true) (w : World) : Calls Try.prog 25 #[.string s, .int .i64 at_] w (fun e w' => e = .returned (.tuple #[.string (needT (needP s at_)), .bool (needP s at_).isSome]) ∧ Keeps noB w w') := by
  have HC := Lib.hid (fun w => placeAt_any s hs at_ w)
  cases hpl : placeP s at_ with
  | none =>
    have e : needP s at_ = none := by unfold needP; rw [hpl]; rfl
    rw [e]
    rw [hpl] at HC
    clear hpl e
    go_enter Try.func25, Try.ntmps25
    go_wp2_with (go_at_call 38; refine (HC.out _).mono ?_; rintro e1 w1 ⟨rfl, q1⟩)
    exact bodyPost_ret (resNeedOf _ _ _ _ rfl rfl) rfl ⟨rfl, q1.alloc _⟩
  | some p =>
    have e : needP s at_ = needK p.1 := by unfold needP; rw [hpl]; rfl
    have hlt : ∀ v, needK p.1 = some v → ltr v := fun v hv => needP_ltr (e.trans hv)
    rw [e]
    rw [hpl] at HC
    have HN : Hid (∀ W ty g, StepIs W p.1 ty g → Calls Try.prog 42 #[.iface ty (.pointer (some ⟨g, 0, none⟩))] W (fun e w' => e = .returned (needV (needK p.1)) ∧ Keeps noB W w')) := fun W ty g h => needed_any h
    generalize needK p.1 = r at *
    have HST : Hid (∀ W W' ty g, StepIs W p.1 ty g → g < W.heap.size → Keeps noB W W' → StepIs W' p.1 ty g) := fun W W' ty g h hl q => h.keeps q hl id
    cases r with
    | none =>
      unfold needV at HN
      simp only at HN
      clear hpl e hlt
      go_enter Try.func25, Try.ntmps25
      go_wp2_with (first
        | (go_at_call 38; refine (HC.out _).mono ?_; rintro e1 w1 ⟨⟨ty, g, rfl, hst, hgl⟩, q1⟩; have HS := Lib.hid (And.intro hst hgl); clear hst)
        | (go_at_call 42; refine (HN.out _ ty g (HST.out _ _ ty g HS.out.1 HS.out.2 ((Keeps.refl _ _).alloc _))).mono ?_; rintro e2 w2 ⟨rfl, q2⟩))
      exact bodyPost_ret (resNeedOf _ _ _ _ rfl rfl) rfl ⟨rfl, (q1.alloc _).trans q2⟩
    | some v =>
      have hcv := fun w => conv_ltr w (hlt v rfl)
      unfold needV at HN
      simp only at HN
      have HSV : Hid (Value.string (needT (some v)) = str [v]) := rfl
      rw [HSV.out]
      unfold str at *
      generalize (⟨[v].toArray⟩ : ByteArray) = tv at *
      clear hpl e hlt
      generalize (v.toNat : Int) = vi at *
      go_enter Try.func25, Try.ntmps25
      go_wp2_with (first
        | (go_at_call 38; refine (HC.out _).mono ?_; rintro e1 w1 ⟨⟨ty, g, rfl, hst, hgl⟩, q1⟩; have HS := Lib.hid (And.intro hst hgl); clear hst)
        | (go_at_call 42; refine (HN.out _ ty g (HST.out _ _ ty g HS.out.1 HS.out.2 ((Keeps.refl _ _).alloc _))).mono ?_; rintro e2 w2 ⟨rfl, q2⟩))
      exact bodyPost_ret (resNeedOf _ _ _ _ rfl rfl) rfl ⟨rfl, (q1.alloc _).trans q2⟩

end Go.Proofs.Ytmdpnhkdbkclgaa

/-
  What a step of the program destroys unsaid.
-/
import Derived.Test.YtelefbdgeefcbaaPq
import Derived.Test.YtelefbdgeefcbaaVdW
namespace Go.Proofs.Ytelefbdgeefcbaa
set_option linter.unusedVariables false
set_option linter.unusedSimpArgs false
open Go.RowKit

set_option maxRecDepth 100000 in
set_option maxHeartbeats 4000000 in
theorem unsaid_val (g : Nat) (c t u : UInt8) (ht : ltr t) (sv : ByteArray) (dv : Int) (w : World) (h2 : w.cell? ⟨g, 2, none⟩ = some (.int .u8 (c.toNat : Int))) (h3 : w.cell? ⟨g, 3, none⟩ = some (.int .u8 (t.toNat : Int))) (hg : g < w.heap.size) (r : ByteArray)
    (hc : ((c = 43 ∨ c = 61) ∧ r = ⟨#[t]⟩) ∨ ((c = 126 ∨ c = 46 ∨ c = 45) ∧ r = ⟨#[]⟩)) :
    Calls Try.prog 137 #[.agg #[.iface 106 (.pointer (some ⟨g, 0, none⟩)), .string sv, .int .i64 dv]] w (fun e w' => e = .returned (.string r) ∧ Keeps noB w w') := by
  have a0 := isVV (.pointer (some ⟨g, 0, none⟩))
  have hcv := fun W => conv_letter W ht
  unfold str at hcv
  have hne : ¬ g = w.heap.size := by omega
  rcases hc with ⟨rfl | rfl, rfl⟩ | ⟨rfl | rfl | rfl, rfl⟩
  all_goals
    go_enter Try.func137, Try.ntmps137
    go_wp2_with fail
    go_ret
    exact ⟨rfl, (Keeps.refl _ _).alloc _⟩

set_option maxRecDepth 100000 in
set_option maxHeartbeats 4000000 in
theorem unsaid_leave (g : Nat) (sv : ByteArray) (dv : Int) (w : World) :
    Calls Try.prog 137 #[.agg #[.iface 179 (.pointer (some ⟨g, 0, none⟩)), .string sv, .int .i64 dv]] w (fun e w' => e = .returned (.string sv) ∧ Keeps noB w w') := by
  have a0 := isLV (.pointer (some ⟨g, 0, none⟩))
  have a1 := isLL (.pointer (some ⟨g, 0, none⟩))
  go_enter Try.func137, Try.ntmps137
  go_wp2_with fail
  go_ret
  exact ⟨rfl, (Keeps.refl _ _).alloc _⟩

set_option maxRecDepth 100000 in
set_option maxHeartbeats 4000000 in
theorem unsaid_oth (g : Nat) (ty : TypeId) (sv : ByteArray) (dv : Int) (w : World) (ht : ty = 72 ∨ ty = 60 ∨ ty = 71) :
    Calls Try.prog 137 #[.agg #[.iface ty (.pointer (some ⟨g, 0, none⟩)), .string sv, .int .i64 dv]] w (fun e w' => e = .returned (.string ⟨#[]⟩) ∧ Keeps noB w w') := by
  have a1 := isOV (.pointer (some ⟨g, 0, none⟩))
  have a2 := isSV (.pointer (some ⟨g, 0, none⟩))
  have a3 := isBV (.pointer (some ⟨g, 0, none⟩))
  have b1 := isOL (.pointer (some ⟨g, 0, none⟩))
  have b2 := isSL (.pointer (some ⟨g, 0, none⟩))
  have b3 := isBL (.pointer (some ⟨g, 0, none⟩))
  rcases ht with rfl | rfl | rfl
  all_goals
    go_enter Try.func137, Try.ntmps137
    go_wp2_with fail
    go_ret
    exact ⟨rfl, (Keeps.refl _ _).alloc _⟩

theorem unsaidBy_any {W : World} {z : Nd} {ty : TypeId} {g : Nat} (h : StepIs W z ty g) (hg : g < W.heap.size) (hl : ∀ v ∈ z.vars, ltr v) (dv : Int) :
    Calls Try.prog 137 #[.agg #[.iface ty (.pointer (some ⟨g, 0, none⟩)), .string ⟨z.scope.toArray⟩, .int .i64 dv]] W (fun e w' => e = .returned (.string ⟨(unsaidN z).toArray⟩) ∧ Keeps noB W w') := by
  rcases h.tys with rfl | ⟨rfl, hk⟩ | ⟨ht, hk⟩ | ⟨ht, hk⟩ | ⟨ht, hk⟩
  · obtain ⟨c, t, u, hk, h2, h3, h4, hv⟩ := h.val rfl
    have ht : ltr t := by
      rcases hv with ⟨_, hv⟩ | ⟨_, hv⟩ <;> exact hl t (by rw [hv]; simp)
    refine unsaid_val g c t u ht _ dv W h2 h3 hg _ ?_
    unfold unsaidN
    rw [hk]
    rcases hv with ⟨rfl | rfl | rfl | rfl, hv⟩ | ⟨rfl, hv⟩ <;> rw [hv] <;> simp
  · have e : unsaidN z = z.scope := by unfold unsaidN; rcases hk with hk | hk <;> rw [hk] <;> simp
    rw [e]; exact unsaid_leave g _ dv W
  · have e : unsaidN z = [] := by unfold unsaidN; rw [hk]; simp
    rw [e]; exact unsaid_oth g ty _ dv W (.inl ht)
  · have e : unsaidN z = [] := by unfold unsaidN; rw [hk]; simp
    rw [e]; exact unsaid_oth g ty _ dv W (.inr (.inl ht))
  · have e : unsaidN z = [] := by unfold unsaidN; rw [hk]; simp
    rw [e]; exact unsaid_oth g ty _ dv W (.inr (.inr ht))

end Go.Proofs.Ytelefbdgeefcbaa

/-
  The text of a step with a variable; what a program's steps are good for; the answer of a law that rewrites.
-/
import Derived.Test.YtccpmhjffcceeaaYaW
import Derived.Test.YtccpmhjffcceeaaVoW
import Derived.Test.YtccpmhjffcceeaaWqfW
import Derived.Test.YtccpmhjffcceeaaDa
import Derived.Test.YtccpmhjffcceeaaIfW
namespace Go.Proofs.Ytccpmhjffcceeaa
set_option linter.unusedVariables false
set_option linter.unusedSimpArgs false
open Go.RowKit Go.Shelf

theorem conv_newP (w : World) (l : List UInt8) (h0 : 0 < l.length) (h1 : l.length ≤ 1000) : (convert 22 9 (.slice (some ⟨w.heap.size, 0, none⟩) l.length l.length)).run Try.prog (w.alloc (.cells (l.map byteP).toArray 5)).drew = .ok (.string ⟨l.toArray⟩) (w.alloc (.cells (l.map byteP).toArray 5)).drew := by
  refine conv_bytesP _ _ l ⟨by simp, .inr ⟨w.heap.size, l.length, (l.map byteP).toArray, rfl, Nat.zero_le _, (Blk.new w (l.map byteP).toArray 5).drew, Nat.le_refl _, by unfold maxLen; omega, by simp, ?_⟩⟩
  simp only [List.toList_toArray, Nat.mul_one]
  exact List.take_of_length_le (by simp)

theorem toNat_ne {c : UInt8} (h : ¬ c = 61) : ¬ (c.toNat : Int) = 61 := fun e => h (UInt8.toNat_inj.1 (show c.toNat = 61 by omega))

/-- What a step with a variable is as a text. -/
def valueText (c t u : UInt8) : List UInt8 := if c = 61 then [c, t, u] else [c, t]

set_option maxRecDepth 100000 in
set_option maxHeartbeats 2000000 in
theorem vtext_any (g : Nat) (c t u : UInt8) (w : World) (h2 : w.cell? ⟨g, 2, none⟩ = some (.int .u8 (c.toNat : Int))) (h3 : w.cell? ⟨g, 3, none⟩ = some (.int .u8 (t.toNat : Int))) (h4 : w.cell? ⟨g, 4, none⟩ = some (.int .u8 (u.toNat : Int))) :
    Calls Try.prog 95 #[.pointer (some ⟨g, 0, none⟩)] w (fun e w' => e = .returned (.string ⟨(valueText c t u).toArray⟩) ∧ Keeps noB w w') := by
  have mixed : Try.prog.follows .mixedOrders = true := by kernel_rfl
  have d2 : w.drew.cell? ⟨g, 2, none⟩ = _ := h2
  have d3 : w.drew.cell? ⟨g, 3, none⟩ = _ := h3
  have d4 : w.drew.cell? ⟨g, 4, none⟩ = _ := h4
  by_cases hc : c = 61
  · have hcv := conv_newP w [c, t, u] (by simp) (by simp)
    have HT : Hid (valueText c t u = [c, t, u]) := by unfold valueText; rw [if_pos hc]; exact rfl
    have HQ : Hid (Keeps noB w (w.alloc (.cells #[byteP c, byteP t, byteP u] 5)).drew) := ((Keeps.refl noB w).alloc _).drew
    simp only [List.map_cons, List.map_nil, List.length_cons, List.length_nil, Nat.zero_add, Nat.reduceAdd] at hcv
    subst hc
    unfold byteP at *
    have e61 : (((61 : UInt8).toNat : Nat) : Int) = 61 := rfl
    rw [e61] at hcv
    go_enter Try.func95, Try.ntmps95
    go_wp2_with fail
    go_still_tail 12, mixed
    go_wp2_with fail
    go_ret
    exact ⟨by rw [HT.out]; rfl, HQ.out⟩
  · have hcv := conv_newP w [c, t] (by simp) (by simp)
    have HT : Hid (valueText c t u = [c, t]) := by unfold valueText; rw [if_neg hc]; exact rfl
    have HQ : Hid (Keeps noB w (w.alloc (.cells #[byteP c, byteP t] 5)).drew) := ((Keeps.refl noB w).alloc _).drew
    simp only [List.map_cons, List.map_nil, List.length_cons, List.length_nil, Nat.zero_add, Nat.reduceAdd] at hcv
    have hce := toNat_ne hc
    unfold byteP at *
    clear hc
    go_enter Try.func95, Try.ntmps95
    go_wp2_with fail
    go_still_tail 8, mixed
    go_wp2_with fail
    go_ret
    exact ⟨by rw [HT.out]; rfl, HQ.out⟩


theorem pre_ok {s : ByteArray} {x z : Nd} (hp : progP s = some x) (hz : z ∈ x.pre.list) : ∃ d, z.Ok s d := by
  have h := (progP_ok hp).2.1
  rw [← Nd.preD_fst x 0] at hz
  obtain ⟨p, hp1, rfl⟩ := List.mem_map.1 hz
  exact ⟨p.2, Nd.Ok.all x 0 h p hp1⟩

theorem pre_vars {s : ByteArray} {x z : Nd} (hp : progP s = some x) (hz : z ∈ x.pre.list) : z.vars.length ≤ 80 := by
  obtain ⟨d, h⟩ := pre_ok hp hz
  have h1 := h.good.room
  have h2 := h.good.le
  have h3 := (progP_ok hp).2.2.2.2.2
  omega


def RewritePost (w : World) (r : Option (List UInt8)) (e : Ending) (w' : World) : Prop := e = .returned (.tuple #[.string ⟨(r.getD []).toArray⟩, .bool r.isSome]) ∧ Keeps noB w w'

end Go.Proofs.Ytccpmhjffcceeaa

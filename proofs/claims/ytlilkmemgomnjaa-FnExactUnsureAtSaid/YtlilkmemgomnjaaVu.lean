/-
  Walks of the model's holder: step with bodies, by within.
-/
import Derived.Test.YtlilkmemgomnjaaVt
import Derived.Test.YtlilkmemgomnjaaVn
namespace Go.Proofs.Ytlilkmemgomnjaa
set_option linter.unusedVariables false
set_option linter.unusedSimpArgs false
open Go.RowKit

theorem HdSt.ofBox {w w0 : World} {nd : Array Value} {k : Kn} {own : Nat → Prop} {h : Nat} {l : AL} {va vs : Value} (b : StepBox w w0 nd k) (H : HoldAt w own h l va vs) (hlt : ∀ i, own i → i < w.heap.size) : HdSt w w0 own own h l va vs (w.heap.size + 1) (w.heap.size + 1 + 1) k :=
  ⟨⟨fun _ e => .inl e, fun i e => Nat.lt_of_lt_of_le (hlt i e) b.q.size, b.q.mono (fun _ e => e.elim)⟩, H.quiet b.q, b.bS, b.bR, fun e => by have := hlt _ e; omega, fun e => by have := hlt _ e; omega, by omega, by omega, by omega⟩

set_option maxRecDepth 100000 in
set_option maxHeartbeats 4000000 in
theorem hstep_within (k t : Kn) (M : Notes) (c : Int) (hc : c = 63 ∨ c = 42 ∨ c = 123) (l : AL) (own : Nat → Prop) (h : Nat) (va vs : Value) (kv ev : Int) (vr ar : ByteArray) (xa : Option Addr) (xn xc : Nat) (w : World) (H : HoldAt w own h l va vs) (hlt : ∀ i, own i → i < w.heap.size)
    (HW : ∀ w1, Keeps noB w w1 → Calls Try.prog 135 #[.pointer (some ⟨h, 0, none⟩), .agg #[.int .u8 c, .int .i64 kv, .int .i64 ev, .string vr, .slice xa xn xc, .string ar], stV k] w1 (Notes1 w1 own h M (stV t))) :
    Calls Try.prog 118 #[.pointer (some ⟨h, 0, none⟩), .agg #[.int .u8 c, .int .i64 kv, .int .i64 ev, .string vr, .slice xa xn xc, .string ar], stV k] w (Notes1 w own h M (stV t)) := by
  have hB := StepBox.start (w := w) (nd := #[.int .u8 c, .int .i64 kv, .int .i64 ev, .string vr, .slice xa xn xc, .string ar]) (k := k) (Keeps.refl _ _)
  have hst := HdSt.ofBox hB H hlt
  have HC := Lib.hid (HW _ hB.q)
  have HD : Hid (∀ w2, Notes1 (((w.alloc (.cells #[.int .u8 c, .int .i64 kv, .int .i64 ev, .string vr, .slice xa xn xc, .string ar] 52)).alloc (.cells #[.string (mayB k), .string (mustB k), .bool (liveK k)] 76)).alloc (.cells #[.string ⟨#[]⟩, .string ⟨#[]⟩, .bool false] 76)) own h M (stV t) (.returned (stV t)) w2 →
      HdCells w2 (w.heap.size + 1) (w.heap.size + 1 + 1) (mayB k) (mustB k) (liveK k) ∧
      ((((w2.setCell ⟨w.heap.size + 1 + 1, 0, none⟩ (.string (mayB t))).setCell ⟨w.heap.size + 1 + 1, 1, none⟩ (.string (mustB t))).setCell ⟨w.heap.size + 1 + 1, 2, none⟩ (.bool (liveK t))).cell? ⟨w.heap.size + 1 + 1, 0, none⟩ = some (.string (mayB t)) ∧
      (((w2.setCell ⟨w.heap.size + 1 + 1, 0, none⟩ (.string (mayB t))).setCell ⟨w.heap.size + 1 + 1, 1, none⟩ (.string (mustB t))).setCell ⟨w.heap.size + 1 + 1, 2, none⟩ (.bool (liveK t))).cell? ⟨w.heap.size + 1 + 1, 1, none⟩ = some (.string (mustB t)) ∧
      (((w2.setCell ⟨w.heap.size + 1 + 1, 0, none⟩ (.string (mayB t))).setCell ⟨w.heap.size + 1 + 1, 1, none⟩ (.string (mustB t))).setCell ⟨w.heap.size + 1 + 1, 2, none⟩ (.bool (liveK t))).cell? ⟨w.heap.size + 1 + 1, 2, none⟩ = some (.bool (liveK t)) ∧
      Notes1 w own h M (stV t) (.returned (stV t)) (((w2.setCell ⟨w.heap.size + 1 + 1, 0, none⟩ (.string (mayB t))).setCell ⟨w.heap.size + 1 + 1, 1, none⟩ (.string (mustB t))).setCell ⟨w.heap.size + 1 + 1, 2, none⟩ (.bool (liveK t))))) := by
    rintro w2 ⟨own2, l2, va2, vs2, he, ho2, hH2, hM2⟩
    have hs2 := hst.call ho2 hH2
    have hd := hs2.done (.string (mayB t)) (.string (mustB t)) (.bool (liveK t)) (stV t)
    rw [hM2] at hd
    exact ⟨hs2.cells, hd⟩
  clear hB hst HW
  rw [stV_eq k]
  rw [stV_eq k] at HC
  rw [stV_eq t] at *
  rcases hc with rfl | rfl | rfl
  all_goals
    go_enter Try.func118, Try.ntmps118
    go_wp2_with fail
    refine HC.out.mono ?_
    rintro e w2 hn
    obtain ⟨hcs, hd⟩ := HD.out w2 (by obtain ⟨a1, a2, a3, a4, a5, a6, a7, a8⟩ := hn; exact ⟨a1, a2, a3, a4, rfl, a6, a7, a8⟩)
    obtain ⟨_, _, _, _, rfl, _, _, _⟩ := hn
    have ⟨t0, t1, t2, t3, t4, t5, ⟨t6, t7, t8⟩, t9, t10, t11⟩ := hcs
    have HF := Lib.hid hd
    clear hcs hd
    go_wp2_with fail
    obtain ⟨f0, f1, f2, f3⟩ := HF.out
    exact bodyPost_ret (resSt Try.results118 _ (w.heap.size + 1 + 1) _ _ _ _ rfl f0 f1 f2) rfl f3

end Go.Proofs.Ytlilkmemgomnjaa

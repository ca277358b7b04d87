/-
  Walks of the program's reader: scope, step; the induction that joins all four.
-/
import Derived.Test.YtlilkmemgomnjaaIcW
namespace Go.Proofs.Ytlilkmemgomnjaa
set_option linter.unusedVariables false
set_option linter.unusedSimpArgs false
open Go.RowKit

theorem Rd.set2 {w : World} {b : Nat} {s : ByteArray} {k d : Nat} {ar : ByteArray} (h : Rd w b s k d ar) : Rd (w.setCell ⟨b, 2, none⟩ (.int .i64 ((d : Int) + 1))) b s k (d + 1) ar := Blk.set h 2 _
theorem Rd.set2' {w : World} {b : Nat} {s : ByteArray} {k d : Nat} {ar : ByteArray} (h : Rd w b s k (d + 1) ar) : Rd (w.setCell ⟨b, 2, none⟩ (.int .i64 (d : Int))) b s k d ar := Blk.set h 2 _
theorem Rd.c2' {w : World} {b : Nat} {s : ByteArray} {k d : Nat} {ar : ByteArray} (h : Rd w b s k (d + 1) ar) : w.cell? ⟨b, 2, none⟩ = some (.int .i64 ((d : Int) + 1)) := Blk.cell h 2

theorem row_slice {w : World} {ok : Nat → Prop} {e : TypeId} {size : Nat} {v : Value} {n : Nat} {xs : List Value} (h : Row w ok e size v n xs) : ∃ a c, v = .slice a n c := by
  rcases h.1.2 with ⟨rfl, rfl⟩ | ⟨g, cap, cur, rfl, _⟩
  · exact ⟨_, _, rfl⟩
  · exact ⟨_, _, rfl⟩

theorem blk_new {w : World} {n : Nat} (hn : w.heap.size = n) (cs : Array Value) (t : TypeId) : Blk (w.alloc (.cells cs t)) n cs t := by subst hn; exact Blk.new _ _ _

theorem fell_of {b : Nat} {w w' : World} {ch : List PanicEntry} {a : Act} {P : Program} {fn : Func} {R : Ending → World → Prop} (hd : a.defers = []) (hR : R (.panicked ch) w') : bodyPost P fn R (.panic ch) a w' := ⟨hd, hR⟩

set_option maxRecDepth 100000 in
set_option maxHeartbeats 1000000 in
theorem scope_ok (n : Nat) (ih : StepsOk n) : ScopeOk (n + 1) := by
  intro b s k d ar w h hs hk har hd hn
  rw [scopeP]
  have c1 := h.c1'
  have c2 := h.c2
  have c3 := h.c3
  have f2 := Blk.free h 2
  have hkz : (k : Int) ≤ 80 := by omega
  by_cases h4 : 4 ≤ d
  · rw [if_pos h4]
    obtain rfl : d = 4 := by omega
    clear ih
    go_enter Try.func67, Try.ntmps67
    go_wp2_with fail
    exact post_panic rfl ⟨⟨_, rfl⟩, Keeps.refl _ _⟩
  · rw [if_neg h4]
    have hdz : (d : Int) < 4 := by omega
    have h1 := declared_any b s (k + 1) (d + 1) ar (w.setCell ⟨b, 2, none⟩ (.int .i64 ((d : Int) + 1))) h.set2 hs hk (by omega) (s.size + 1) (by omega)
    have q0 : Keeps (oneB b) w (w.setCell ⟨b, 2, none⟩ (.int .i64 ((d : Int) + 1))) := (Keeps.refl _ _).one
    have IH := Lib.hid ih
    clear ih
    cases hv : declP s (s.size + 1) ar.data.toList [] (k + 1) with
    | none =>
      rw [hv] at h1
      simp only
      have H1 := Lib.hid h1
      clear h1 hv
      go_enter Try.func67, Try.ntmps67
      go_wp2_with fail
      refine H1.out.mono ?_
      rintro e w1 ⟨⟨m, rfl⟩, q1⟩
      go_wp2_with fail
      exact post_panic rfl ⟨⟨_, rfl⟩, q0.trans q1⟩
    | some p =>
      obtain ⟨vs, k1⟩ := p
      rw [hv] at h1
      simp only
      have H1 := Lib.hid h1
      have hl := declP_len _ _ _ _ _ _ _ hv
      obtain ⟨sv, hsv⟩ : ∃ sv, str vs = .string sv := ⟨_, rfl⟩
      have HSV := Lib.hid hsv
      have HI := Lib.hid (fun (ar2 : ByteArray) (h2 : ar2.data.toList = ar.data.toList ++ vs) w r =>
        IH.out b s k1 (d + 1) ar2 125 w r hs hl.1 (by have : ar2.data.toList.length = ar.data.toList.length + vs.length := by rw [h2, List.length_append]
                                                      simp at this hl; omega) (by omega) (by simp at hl; omega))
      clear h1 hv hl IH hsv
      cases hres : stepsP s n (ar.data.toList ++ vs) (d + 1) 125 k1 with
      | none =>
        simp only
        have HR := Lib.hid hres
        clear hres
        go_enter Try.func67, Try.ntmps67
        go_wp2_with fail
        refine H1.out.mono ?_
        rintro e w1 ⟨ar2, ⟨rfl, r1, q1⟩, hcat⟩
        have H2 := Lib.hid (HI.out ar2 hcat w1 r1)
        have HC := Lib.hid hcat
        clear hcat HI H1
        rw [HSV.out]
        go_wp2_with fail
        refine H2.out.mono ?_
        intro e w2 hp
        rw [HC.out, HR.out] at hp
        obtain ⟨⟨m, rfl⟩, q2⟩ := hp
        go_wp2_with fail
        exact post_panic rfl ⟨⟨_, rfl⟩, (q0.trans q1).trans q2⟩
      | some p =>
        obtain ⟨x, k2⟩ := p
        simp only
        have HR := Lib.hid hres
        clear hres
        go_enter Try.func67, Try.ntmps67
        go_wp2_with fail
        refine H1.out.mono ?_
        rintro e w1 ⟨ar2, ⟨rfl, r1, q1⟩, hcat⟩
        have H2 := Lib.hid (HI.out ar2 hcat w1 r1)
        have HC := Lib.hid hcat
        clear hcat HI H1
        rw [HSV.out]
        go_wp2_with fail
        refine H2.out.mono ?_
        intro e w2 hp
        rw [HC.out, HR.out] at hp
        obtain ⟨vx, m, xs, ⟨rfl, r2, q2⟩, g1, g2⟩ := hp
        obtain ⟨va, vc, rfl⟩ := row_slice g1
        have HG := Lib.hid (And.intro g1 g2)
        have d1 := r2.c1
        have d2 := r2.c2'
        have e2 := Blk.free r2 2
        have e3 := Blk.free r2 3
        have d3 := r2.c3
        clear g1 g2
        go_wp2_with fail
        go_ret
        obtain ⟨g1, g2⟩ := HG.out
        have qs : Keeps (oneB b) w2 ((w2.setCell ⟨b, 2, none⟩ (.int .i64 (d : Int))).setCell ⟨b, 3, none⟩ (.string ar)) := ((Keeps.refl _ w2).one).one
        have qa := qs.alloc (.cells #[.int .i64 (k : Int), .int .i64 (k2 : Int), .string sv, .slice va m vc] 63)
        have hbw := h.lt
        have hw1 : w.heap.size ≤ w1.heap.size := (q0.trans q1).size
        have hw2 : w1.heap.size ≤ w2.heap.size := q2.size
        have hh := Hands.of_keeps (ok := fromB w1.heap.size) (ok' := fromB w.heap.size) qa (fun g hg _ e => by simp [oneB, fromB] at *; omega) (fun g hg _ => Nat.le_trans hw1 hg)
        refine ⟨w2.heap.size, ⟨rfl, (r2.set2'.set3 ar).alloc _, (((q0.trans q1).trans q2).trans qa)⟩, ?_⟩
        simp only [RepI]
        refine ⟨_, m, xs, ⟨w2.heap.size, Nat.le_trans hw1 hw2, .inr ⟨rfl, rfl, ?_⟩⟩, hh.row _ _ _ _ _ g1, hh.repIL x xs g2⟩
        rw [HSV.out]
        exact blk_new (by simp) _ _

end Go.Proofs.Ytlilkmemgomnjaa

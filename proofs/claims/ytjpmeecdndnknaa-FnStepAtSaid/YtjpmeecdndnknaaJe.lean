/-
  Walks of the program: InScope, StepAt.
-/
import Derived.Test.YtjpmeecdndnknaaJdW
import Derived.Test.YtjpmeecdndnknaaShelfB
import Derived.StillTailTactics
import Derived.BigQuiet
import Derived.Deep.QuietTactic
namespace Go.Proofs.Ytjpmeecdndnknaa
set_option linter.unusedVariables false
set_option linter.unusedSimpArgs false
open Go.RowKit Go.Shelf

def InScopePost (w : World) (res : Option Nd) (e : Ending) (w' : World) : Prop :=
  (match res with
   | none => e = .returned (.tuple #[.string ⟨#[]⟩, .bool false])
   | some z => e = .returned (.tuple #[.string ⟨z.scope.toArray⟩, .bool true])) ∧ Keeps noB w w'

theorem resScope (W : World) (x : ByteArray) (v : Bool) (tmps : Array Value) (h1 : tmps.getD 4 undef = .string x) (h2 : tmps.getD 5 undef = .bool v) : (results Try.f20 tmps).run Try.prog W = .ok (.tuple #[.string x, .bool v]) W := by
  have h1' : tmps[4]?.getD undef = .string x := by simpa using h1
  have h2' : tmps[5]?.getD undef = .bool v := by simpa using h2
  simp [results, Try.results20, go_sem, h1', h2']

theorem resStep (W : World) (x : ByteArray) (v : Bool) (tmps : Array Value) (h1 : tmps.getD 4 undef = .string x) (h2 : tmps.getD 5 undef = .bool v) : (results Try.f19 tmps).run Try.prog W = .ok (.tuple #[.string x, .bool v]) W := by
  have h1' : tmps[4]?.getD undef = .string x := by simpa using h1
  have h2' : tmps[5]?.getD undef = .bool v := by simpa using h2
  simp [results, Try.results19, go_sem, h1', h2']

set_option maxHeartbeats 1000000 in
theorem inScope_any (s : ByteArray) (hs : s.size ≤ 1048576) (at_ : Int) (w : World) : Calls Try.prog 20 #[.string s, .int .i64 at_] w (InScopePost w ((placeP s at_).map Prod.fst)) := by
  have HC := Lib.hid (placeAt_any s hs at_ w)
  generalize placeP s at_ = res at *
  go_enter Try.func20, Try.ntmps20
  go_wp2_with fail
  refine HC.out.mono ?_
  rintro e w1 ⟨h, q⟩
  cases res with
  | none =>
    obtain rfl := h
    go_wp2_with fail
    refine bodyPost_ret (resScope _ _ _ _ rfl rfl) rfl ?_
    exact ⟨rfl, q.alloc _⟩
  | some p =>
    obtain ⟨ty, g, rfl, _⟩ := h
    go_wp2_with fail
    refine bodyPost_ret (resScope _ _ _ _ rfl rfl) rfl ?_
    exact ⟨rfl, q.alloc _⟩

def StepAtPost (s : ByteArray) (w : World) (res : Option Nd) (e : Ending) (w' : World) : Prop :=
  (match res with
   | none => e = .returned (.tuple #[.string ⟨#[]⟩, .bool false])
   | some z => e = .returned (.tuple #[.string (s.extract z.beg z.fin), .bool true])) ∧ Keeps noB w w'

theorem placeP_good {s : ByteArray} {at_ : Int} {p : PN} (h : placeP s at_ = some p) : Good s p.1 p.2 ∧ s.size ≤ 80 := by
  unfold placeP at h
  cases hp : progP s with
  | none => rw [hp] at h; cases h
  | some x =>
    rw [hp] at h
    obtain ⟨_, h2, _, _, _, h6⟩ := progP_ok hp
    exact ⟨(Nd.Ok.all x 0 h2 p (List.mem_of_find?_eq_some h)).good, h6⟩

set_option maxRecDepth 100000 in
set_option maxHeartbeats 4000000 in
theorem stepAt_any (s : ByteArray) (hs : s.size ≤ 1048576) (at_ : Int) (w : World) : Calls Try.prog 19 #[.string s, .int .i64 at_] w (StepAtPost s w ((placeP s at_).map Prod.fst)) := by
  have HC := Lib.hid (placeAt_any s hs at_ w)
  have HG := Lib.hid (fun p => placeP_good (s := s) (at_ := at_) (p := p))
  generalize placeP s at_ = res at *
  go_enter Try.func19, Try.ntmps19
  go_wp2_with fail
  refine HC.out.mono ?_
  rintro e w1 ⟨h, q⟩
  cases res with
  | none =>
    obtain rfl := h
    go_wp2_with fail
    refine bodyPost_ret (resStep _ _ _ _ rfl rfl) rfl ?_
    exact ⟨rfl, q.alloc _⟩
  | some p =>
    obtain ⟨ty, g, rfl, hst, hgl⟩ := h
    obtain ⟨hg, hs80⟩ := HG.out p rfl
    have hlt : (p.1.beg : Int) ≤ (p.1.fin : Int) := by have := hg.lt; omega
    have hle : (p.1.fin : Int) ≤ (s.size : Int) := by have := hg.le; omega
    have hlt' : p.1.beg ≤ p.1.fin := by omega
    have hle' : p.1.fin ≤ s.size := by omega
    have hst2 : ∀ o, StepIs (w1.alloc o) p.1 ty g := fun o => hst.keeps ((Keeps.refl noB w1).alloc o) hgl id
    have hbeg := hst.beg
    have hfin := hst.fin
    simp [go_sem] at hbeg hfin
    have HQ := Lib.hid (q.alloc (.cells #[.iface ty (.pointer (some ⟨g, 0, none⟩)), .string ⟨p.1.scope.toArray⟩, .int .i64 (p.2 : Int)] 52))
    have hst3 := hst2 (.cells #[.iface ty (.pointer (some ⟨g, 0, none⟩)), .string ⟨p.1.scope.toArray⟩, .int .i64 (p.2 : Int)] 52)
    have b1 := Blk.new w1 #[.iface ty (.pointer (some ⟨g, 0, none⟩)), .string ⟨p.1.scope.toArray⟩, .int .i64 (p.2 : Int)] 52
    go_wp2_with fail
    generalize w1.alloc (.cells #[.iface ty (.pointer (some ⟨g, 0, none⟩)), .string ⟨p.1.scope.toArray⟩, .int .i64 (p.2 : Int)] 52) = w2 at HQ hst3 b1 ⊢
    have r0 := b1.cell 0
    simp at r0
    have HB : Hid (Calls Try.prog 116 #[.pointer (some ⟨g, 0, none⟩)] w2.drew (fun e w' => e = .returned (.int .i64 (p.1.beg : Int)) ∧ w' = w2.drew)) := begin_any g _ _ hst3.c0
    have HE : Hid (Calls Try.prog 117 #[.pointer (some ⟨g, 0, none⟩)] w2.drew (fun e w' => e = .returned (.int .i64 (p.1.fin : Int)) ∧ w' = w2.drew)) := end_any g _ _ hst3.c1
    clear hst2 hst hst3 hg q b1
    refine wp_region_still_tail 8 (by kernel_rfl) (by kernel_rfl) ?_
    simp only [List.take_succ_cons, List.take_zero, List.drop_succ_cons, List.drop_zero]
    show wpStill _ _ w2.drew (fun a' => wpList _ _ _ _ a' w2.drew) _ _
    have HQD : Hid (Keeps noB w w2.drew) := HQ.out.drew
    have r0' : w2.drew.cell? ⟨w1.heap.size, 0, none⟩ = some (.iface ty (.pointer (some ⟨g, 0, none⟩))) := r0
    generalize w2.drew = w3 at HB HE HQD r0' ⊢
    clear r0 HQ
    still_step
    still_step
    still_step
    still_call HB.out
    still_step
    still_step
    still_call HE.out
    still_step
    refine wpStill_nil ?_
    have HCL : Hid (∀ w, Calls Try.prog 53 #[.string (s.extract p.1.beg p.1.fin)] w fun e w' => e = .returned (.string (s.extract p.1.beg p.1.fin)) ∧ Below w.heap.size w w') := fun w => Try.stringslite_Clone _ w (by simp; omega)
    go_wp2_with (first | (go_at_call 53; refine (HCL.out _).mono ?_; rintro e w4 ⟨rfl, hb⟩) | go_in)
    refine bodyPost_ret (resStep _ (s.extract p.1.beg p.1.fin) true _ rfl rfl) rfl ?_
    exact ⟨rfl, HQD.out.trans ⟨hb.os, hb.tape, hb.output, hb.size, fun k hk _ => hb.block k hk⟩⟩

end Go.Proofs.Ytjpmeecdndnknaa

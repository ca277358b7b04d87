/-
  Walks of the model's run: l2Run.
  Walks of the model's run: ChoicesRight, ExitOf, FaultAt.
-/
import Derived.Test.YtcohmhgmocdbfaaTiW
import Derived.Test.YtcohmhgmocdbfaaKs
namespace Go.Proofs.Ytcohmhgmocdbfaa
set_option linter.unusedVariables false
set_option linter.unusedSimpArgs false
open Go.RowKit

/-- The exit that is told in the end. -/
def exF (o : Out) : Int := if exitM o.why = 0 then 1 else exitM o.why

/-- A run of the model's that has ended. -/
structure RnFin (w : World) (own : Nat → Prop) (b : Nat) (C : ByteArray) (o : Out) (vv : Value) : Prop where
  blk : Blk w b (rnCells C (C.size - o.st.ch.length) o.st.val o.st.made ⟨(evText o.st.ev).toArray⟩ (exF o) (whereM o.why) (stuckM o.why) (askM o.why o.st.ch) vv) 111
  vis : w.ownsRow 0 183 2 vv o.st.vis.length (vsCells o.st.vis)
  mine : own b
  ownV : ∀ g, vv.ownBlock = some g → own g ∧ g ≠ b

def RunPostM (w : World) (C : ByteArray) (res : Option Out) (e : Ending) (w' : World) : Prop :=
  match res with
  | none => ∃ b, e = .returned (.tuple #[.pointer (some ⟨b, 0, none⟩), .bool false]) ∧ Keeps noB w w'
  | some o => ∃ b own' vv, e = .returned (.tuple #[.pointer (some ⟨b, 0, none⟩), .bool o.right]) ∧ Keeps noB w w' ∧ RnFin w' own' b C o vv ∧ ∀ k, own' k → w.heap.size ≤ k ∧ k < w'.heap.size

theorem right_eq (o : Out) : o.right = (!stuckM o.why && o.st.ch.isEmpty) := by
  cases o with
  | go t => rfl
  | stop y t => cases y <;> rfl

theorem resRunM (W : World) (p v : Value) (tmps : Array Value) (h4 : tmps.getD 4 undef = p) (h5 : tmps.getD 5 undef = v) : (results Try.f59 tmps).run Try.prog W = .ok (.tuple #[p, v]) W := by
  have h4' : tmps[4]?.getD undef = p := by simpa using h4
  have h5' : tmps[5]?.getD undef = v := by simpa using h5
  simp [results, Try.results59, go_sem, h4', h5']

set_option maxRecDepth 100000 in
set_option maxHeartbeats 4000000 in
theorem runM_none (s C : ByteArray) (hs : s.size ≤ 1048576) (hC : C.size ≤ 1048576) (hr : runP s C = none) (w : World) : Calls Try.prog 59 #[.string s, .string C] w (RunPostM w C none) := by
  have HR := Lib.hid (sread_any s hs w)
  cases hp : progP s with
  | none =>
    rw [hp] at HR
    clear hp hr
    go_enter Try.func59, Try.ntmps59
    go_wp2_with (go_at_call 29; refine HR.out.mono ?_; rintro e1 w1 ⟨⟨x0, x1, x2, x3, x4, x5, x6, x7, rfl⟩, q1⟩; unfold nodeV; have HQ := Lib.hid q1; clear q1)
    refine bodyPost_ret (resRunM _ _ _ _ rfl rfl) rfl ?_
    exact ⟨_, rfl, ((HQ.out.alloc _).alloc _).alloc _⟩
  | some x =>
    rw [hp] at HR
    have hz : (20 : Int) < (C.size : Int) := by
      unfold runP at hr
      rw [hp] at hr
      simp only at hr
      split at hr
      · omega
      · cases hr
    clear hp hr
    go_enter Try.func59, Try.ntmps59
    go_wp2_with (go_at_call 29; refine HR.out.mono ?_; rintro e1 w1 ⟨x0, x1, x2, x3, x4, x5, x6, x7, rfl, _, q1⟩; unfold nodeV; have HQ := Lib.hid q1; clear q1)
    refine bodyPost_ret (resRunM _ _ _ _ rfl rfl) rfl ?_
    exact ⟨_, rfl, ((HQ.out.alloc _).alloc _).alloc _⟩

/-- What a run has come to, behind its body. -/
def RunGot (w : World) (b : Nat) (C : ByteArray) (o : Out) (w3 : World) : Prop :=
  ∃ own3 vv3, RnAt w3 own3 b C o.st o.why vv3 ∧ Keeps noB w w3 ∧ ∀ k, own3 k → w.heap.size ≤ k ∧ k < w3.heap.size

theorem held_start (ch : List UInt8) : Held (St.start ch) [] := fun v hv => absurd rfl hv

theorem run_single (x : Nd) (s : St) : Nds.run (.cons x .nil) s = x.run s := by
  rw [Nds.run]
  cases x.run s with
  | go t => simp [Out.andThen, Nds.run]
  | stop y t => rfl

theorem start_body {s C : ByteArray} {x : Nd} (hp : progP s = some x) (hC : C.size ≤ 20) {w w1 : World} (q1 : Keeps noB w w1) {x0 x1 x2 : Int} {x3 : ByteArray} {x4 : Option Addr} {x5 x6 : Nat} {x7 : ByteArray}
    (hx : RepS w1 (fromB w.heap.size) x (six x0 x1 x2 x3 (.slice x4 x5 x6) x7).toList) (W : World) (n1 : Nat) (hn1 : w1.heap.size = n1)
    (hW : W = (((w1.alloc (.cells #[.int .u8 x0, .int .i64 x1, .int .i64 x2, .string x3, .slice x4 x5 x6, .string x7] 51)).alloc (.cells #[] 183)).alloc
      (.cells #[.string C, .int .i64 0, .int .i64 0, .int .i64 0, .int .i64 0, .int .i64 0, .int .i64 0, .int .i64 0, .int .i64 0, .string ⟨#[]⟩, .int .i64 0, .int .i64 (-1), .bool false, .string ⟨#[]⟩, .slice (some ⟨n1 + 1, 0, none⟩) 0 0] 111)).alloc
      (.cells #[.int .u8 x0, .int .i64 x1, .int .i64 x2, .string x3, .slice x4 x5 x6, .string x7] 51)) :
    Calls Try.prog 85 #[.pointer (some ⟨n1 + 1 + 1, 0, none⟩), .slice (some ⟨n1 + 1 + 1 + 1, 0, none⟩) 1 1] W
      (fun e w3 => e = .returned (.tuple #[]) ∧ RunGot w (n1 + 1 + 1) C (x.run (St.start C.data.toList)) w3) := by
  obtain ⟨h1, h2, _, _, _, h6⟩ := progP_ok hp
  have qW : Keeps noB w1 W := by rw [hW]; exact ((((Keeps.refl _ w1).alloc _).alloc _).alloc _).alloc _
  have hsW : W.heap.size = n1 + 1 + 1 + 1 + 1 := by rw [hW]; simp [hn1]
  have hw : w.heap.size ≤ n1 := by rw [← hn1]; exact q1.size
  have hs2 : ((w1.alloc (.cells #[.int .u8 x0, .int .i64 x1, .int .i64 x2, .string x3, .slice x4 x5 x6, .string x7] 51)).alloc (.cells #[] 183)).heap.size = n1 + 1 + 1 := by simp [hn1]
  have hs1 : (w1.alloc (.cells #[.int .u8 x0, .int .i64 x1, .int .i64 x2, .string x3, .slice x4 x5 x6, .string x7] 51)).heap.size = n1 + 1 := by simp [hn1]
  have hb : Blk W (n1 + 1 + 1) #[.string C, .int .i64 0, .int .i64 0, .int .i64 0, .int .i64 0, .int .i64 0, .int .i64 0, .int .i64 0, .int .i64 0, .string ⟨#[]⟩, .int .i64 0, .int .i64 (-1), .bool false, .string ⟨#[]⟩, .slice (some ⟨n1 + 1, 0, none⟩) 0 0] 111 := by
    rw [hW]; exact (blk_new hs2 _ _).alloc _
  have hv : Blk W (n1 + 1) #[] 183 := by
    rw [hW]; exact (((blk_new hs1 _ _).alloc _).alloc _)
  have hd : Blk W (n1 + 1 + 1 + 1) #[.int .u8 x0, .int .i64 x1, .int .i64 x2, .string x3, .slice x4 x5 x6, .string x7] 51 := by
    rw [hW]; exact blk_new (by rw [World.size_alloc, hs2]) _ _
  have hat : RnAt W (fun k => k = n1 + 1 + 1 ∨ k = n1 + 1) (n1 + 1 + 1) C (St.start C.data.toList) none (.slice (some ⟨n1 + 1, 0, none⟩) 0 0) := by
    have hl : C.data.toList.length = C.size := by simp
    refine ⟨?_, Nat.le_of_eq hl, ?_, Nat.zero_le _, ?_, .inl rfl, fun g e => ?_⟩
    · have e : C.size - (St.start C.data.toList).ch.length = 0 := by show C.size - C.data.toList.length = 0; omega
      rw [e]
      exact hb
    · have e : C.size - (St.start C.data.toList).ch.length = 0 := by show C.size - C.data.toList.length = 0; omega
      rw [e]
      rfl
    · exact ⟨rfl, .inr ⟨n1 + 1, 0, #[], rfl, Nat.zero_le _, hv, Nat.le_refl _, by simp [maxLen], rfl, rfl⟩⟩
    · simp [Value.ownBlock] at e
      subst e
      exact ⟨.inr rfl, by omega⟩
  have hrep : RepSL W (fun k => w.heap.size ≤ k ∧ k < W.heap.size ∧ ¬ (k = n1 + 1 + 1 ∨ k = n1 + 1)) (.cons x .nil) (six x0 x1 x2 x3 (.slice x4 x5 x6) x7).toList := by
    simp only [RepSL]
    refine ⟨_, [], by simp, (Hands.of_keeps qW (fun _ _ _ => id) (fun g hg hl => ⟨hg, by omega, by omega⟩)).repS x _ hx, rfl⟩
  have hrow : Row W (fun k => w.heap.size ≤ k ∧ k < W.heap.size ∧ ¬ (k = n1 + 1 + 1 ∨ k = n1 + 1)) 51 6 (.slice (some ⟨n1 + 1 + 1 + 1, 0, none⟩) 1 1) 1 (six x0 x1 x2 x3 (.slice x4 x5 x6) x7).toList :=
    ⟨⟨rfl, .inr ⟨_, 1, _, rfl, Nat.zero_le _, hd, Nat.le_refl _, by simp [maxLen], rfl, rfl⟩⟩, fun g e => by simp [Value.ownBlock] at e; subst e; omega⟩
  have hlen : (Nds.cons x .nil).pre.len = x.pre.len := by simp [Nds.pre, Nds.len_app, Nds.len]
  refine (sbodyM_any (.cons x .nil) (St.start C.data.toList) [] C W (fun k => k = n1 + 1 + 1 ∨ k = n1 + 1) (fun k => w.heap.size ≤ k ∧ k < W.heap.size ∧ ¬ (k = n1 + 1 + 1 ∨ k = n1 + 1)) (n1 + 1 + 1) 1 _ _ _ hrow hrep
    ⟨hat, by omega, held_start _, fun v => Nat.le_refl _, fun k hk => hk.2, fun k hk => by omega⟩ (by rw [hlen]; exact room_start hp hC) (by omega) rfl (fun v hv => by cases hv) (by simp) (fun z hz => ?_)).mono ?_
  · obtain rfl : z = x := by simpa [Nds.list] using hz
    refine ⟨h1, sroot_any hp, fun s => ⟨Nd.adds h6 z 0 s h2, fun t hh hgo => ?_⟩⟩
    have := Nd.held z 0 s t h2 (progP_fit hp) (by rw [h1]; exact hh) hgo
    rwa [h1] at this
  · rintro e w3 ⟨own3, vv3, rfl, ho, hr⟩
    rw [run_single] at hr
    refine ⟨rfl, own3, vv3, hr, (q1.trans qW).transNew ho.keeps (fun i hi e => by omega), fun k hk => ⟨?_, ho.lt k hk⟩⟩
    rcases ho.more k hk with h | h
    · omega
    · omega

/-- What is known ahead of the answer. -/
structure RunSeen (w : World) (b : Nat) (C : ByteArray) (o : Out) (w3 : World) : Prop where
  c10 : w3.cell? ⟨b, 10, none⟩ = some (.int .i64 (exitM o.why))
  z10 : w3.frozen? ⟨b, 10, none⟩ = false
  c12 : w3.cell? ⟨b, 12, none⟩ = some (.bool (stuckM o.why))
  c1 : w3.cell? ⟨b, 1, none⟩ = some (.int .i64 ((C.size - o.st.ch.length : Nat) : Int))
  few : o.st.ch.length ≤ C.size
  same : exitM o.why ≠ 0 → ∃ own' vv, Keeps noB w w3.drew ∧ RnFin w3.drew own' b C o vv ∧ ∀ k, own' k → w.heap.size ≤ k ∧ k < w3.drew.heap.size
  turn : exitM o.why = 0 → ∃ own' vv, Keeps noB w (w3.setCell ⟨b, 10, none⟩ (.int .i64 1)).drew ∧ RnFin (w3.setCell ⟨b, 10, none⟩ (.int .i64 1)).drew own' b C o vv ∧ ∀ k, own' k → w.heap.size ≤ k ∧ k < (w3.setCell ⟨b, 10, none⟩ (.int .i64 1)).drew.heap.size

theorem RunGot.seen {w w3 : World} {b : Nat} {C : ByteArray} {o : Out} (h : RunGot w b C o w3) : RunSeen w b C o w3 := by
  obtain ⟨own3, vv3, hr, q, hown⟩ := h
  refine ⟨hr.blk.cell 10, hr.blk.free 10, hr.blk.cell 12, hr.blk.cell 1, hr.few, fun h0 => ?_, fun h0 => ?_⟩
  · refine ⟨own3, vv3, q.drew, ⟨?_, hr.drew.vis, hr.mine, hr.ownV⟩, hown⟩
    have e : exF o = exitM o.why := by unfold exF; rw [if_neg h0]
    rw [e]
    exact hr.blk
  · have hb := (hown b hr.mine).1
    refine ⟨own3, vv3, (q.setCell (.inr hb) _).drew, ⟨?_, ?_, hr.mine, hr.ownV⟩, fun k hk => ⟨(hown k hk).1, by have := (hown k hk).2; simpa [World.setCell] using this⟩⟩
    · have e : exF o = 1 := by unfold exF; rw [if_pos h0]
      rw [e]
      have := hr.blk.set 10 (.int .i64 1)
      exact this
    · have kb : Keeps (oneB b) w3 (w3.setCell ⟨b, 10, none⟩ (.int .i64 1)).drew := ((Keeps.refl _ _).setCell (.inl (show oneB b b from rfl)) _).drew
      exact kb.ownsRow hr.vis (fun g hg _ e => (hr.ownV g hg).2 e)

set_option maxRecDepth 100000 in
set_option maxHeartbeats 4000000 in
theorem runM_some (s C : ByteArray) (hs : s.size ≤ 1048576) (x : Nd) (hp : progP s = some x) (hC : C.size ≤ 20) (w : World) : Calls Try.prog 59 #[.string s, .string C] w (RunPostM w C (some (x.run (St.start C.data.toList)))) := by
  have HR := sread_any s hs w
  rw [hp] at HR
  have HR := Lib.hid HR
  have hz : ¬ (20 : Int) < (C.size : Int) := by omega
  have HSB := Lib.hid (fun w1 (q1 : Keeps noB w w1) x0 x1 x2 x3 x4 x5 x6 x7 hx => start_body hp hC q1 (x0 := x0) (x1 := x1) (x2 := x2) (x3 := x3) (x4 := x4) (x5 := x5) (x6 := x6) (x7 := x7) hx _ _ rfl rfl)
  generalize x.run (St.start C.data.toList) = o at HSB ⊢
  have HRT := Lib.hid (right_eq o)
  clear hp
  go_enter Try.func59, Try.ntmps59
  go_wp2_with (first
    | (go_at_call 29; refine HR.out.mono ?_; rintro e1 w1 ⟨x0, x1, x2, x3, x4, x5, x6, x7, rfl, hx, q1⟩; unfold nodeV; have HB := Lib.hid (HSB.out w1 q1 x0 x1 x2 x3 x4 x5 x6 x7 hx); clear hx q1)
    | (go_at_call 85; refine HB.out.mono ?_; rintro e2 w3 ⟨rfl, hgot⟩; have HG := Lib.hid hgot.seen; clear hgot; have y10 := HG.out.c10; have z10 := HG.out.z10; have y12 := HG.out.c12; have y1 := HG.out.c1; refine Hid.out ?_))
  refine Lib.hid ?_
  by_cases h0 : exitM o.why = 0
  · rw [h0] at y10
    obtain ⟨own', vv, q, hfin, hown⟩ := HG.out.turn h0
    have HF := Lib.hid (And.intro q (And.intro hfin hown))
    clear q hfin hown
    cases hst : stuckM o.why with
    | true =>
      rw [hst] at y12
      have hR : o.right = false := by rw [HRT.out, hst]; rfl
      have HRR := Lib.hid hR
      clear hR hst h0 HG HRT
      clear HSB HR hz
      go_wp2_with fail
      go_region
      go_wp2_with fail
      refine bodyPost_ret (resRunM _ (.pointer (some ⟨w1.heap.size + 1 + 1, 0, none⟩)) (.bool false) _ rfl rfl) rfl ?_
      exact ⟨_, own', vv, by rw [HRR.out], HF.out.1, HF.out.2.1, HF.out.2.2⟩
    | false =>
      rw [hst] at y12
      by_cases hch : o.st.ch = []
      · have hR : o.right = true := by rw [HRT.out, hst, hch]; rfl
        have HRR := Lib.hid hR
        have e1 : C.size - o.st.ch.length = C.size := by rw [hch]; rfl
        rw [e1] at y1
        clear hR hst h0 HG HRT e1 hch
        clear HSB HR hz
        go_wp2_with fail
        go_region
        go_wp2_with fail
        refine bodyPost_ret (resRunM _ (.pointer (some ⟨w1.heap.size + 1 + 1, 0, none⟩)) (.bool true) _ rfl rfl) rfl ?_
        exact ⟨_, own', vv, by rw [HRR.out], HF.out.1, HF.out.2.1, HF.out.2.2⟩
      · have hR : o.right = false := by rw [HRT.out, hst]; simpa using hch
        have HRR := Lib.hid hR
        have hpos : 0 < o.st.ch.length := List.length_pos_iff.2 hch
        have hfew := HG.out.few
        have hne : ¬ ((C.size - o.st.ch.length : Nat) : Int) = (C.size : Int) := by omega
        have hnb : (((C.size - o.st.ch.length : Nat) : Int) == (C.size : Int)) = false := by rw [beq_eq_false_iff_ne]; exact hne
        generalize ((C.size - o.st.ch.length : Nat) : Int) = av at *
        clear hR hst h0 HG HRT hpos hfew hch
        clear HSB HR hz
        go_wp2_with fail
        go_region
        go_wp2_with fail
        refine bodyPost_ret (resRunM _ (.pointer (some ⟨w1.heap.size + 1 + 1, 0, none⟩)) (.bool false) _ rfl rfl) rfl ?_
        exact ⟨_, own', vv, by rw [HRR.out], HF.out.1, HF.out.2.1, HF.out.2.2⟩
  · have hx1 : (exitM o.why == 0) = false := by rw [beq_eq_false_iff_ne]; exact h0
    have hx2 : ¬ exitM o.why = 0 := h0
    obtain ⟨own', vv, q, hfin, hown⟩ := HG.out.same h0
    generalize exitM o.why = ex at y10 hx1 hx2
    have HF := Lib.hid (And.intro q (And.intro hfin hown))
    clear q hfin hown
    cases hst : stuckM o.why with
    | true =>
      rw [hst] at y12
      have hR : o.right = false := by rw [HRT.out, hst]; rfl
      have HRR := Lib.hid hR
      clear hR hst h0 HG HRT
      clear HSB HR hz
      go_wp2_with fail
      go_region
      go_wp2_with fail
      refine bodyPost_ret (resRunM _ (.pointer (some ⟨w1.heap.size + 1 + 1, 0, none⟩)) (.bool false) _ rfl rfl) rfl ?_
      exact ⟨_, own', vv, by rw [HRR.out], HF.out.1, HF.out.2.1, HF.out.2.2⟩
    | false =>
      rw [hst] at y12
      by_cases hch : o.st.ch = []
      · have hR : o.right = true := by rw [HRT.out, hst, hch]; rfl
        have HRR := Lib.hid hR
        have e1 : C.size - o.st.ch.length = C.size := by rw [hch]; rfl
        rw [e1] at y1
        clear hR hst h0 HG HRT e1 hch
        clear HSB HR hz
        go_wp2_with fail
        go_region
        go_wp2_with fail
        refine bodyPost_ret (resRunM _ (.pointer (some ⟨w1.heap.size + 1 + 1, 0, none⟩)) (.bool true) _ rfl rfl) rfl ?_
        exact ⟨_, own', vv, by rw [HRR.out], HF.out.1, HF.out.2.1, HF.out.2.2⟩
      · have hR : o.right = false := by rw [HRT.out, hst]; simpa using hch
        have HRR := Lib.hid hR
        have hpos : 0 < o.st.ch.length := List.length_pos_iff.2 hch
        have hfew := HG.out.few
        have hne : ¬ ((C.size - o.st.ch.length : Nat) : Int) = (C.size : Int) := by omega
        have hnb : (((C.size - o.st.ch.length : Nat) : Int) == (C.size : Int)) = false := by rw [beq_eq_false_iff_ne]; exact hne
        generalize ((C.size - o.st.ch.length : Nat) : Int) = av at *
        clear hR hst h0 HG HRT hpos hfew hch
        clear HSB HR hz
        go_wp2_with fail
        go_region
        go_wp2_with fail
        refine bodyPost_ret (resRunM _ (.pointer (some ⟨w1.heap.size + 1 + 1, 0, none⟩)) (.bool false) _ rfl rfl) rfl ?_
        exact ⟨_, own', vv, by rw [HRR.out], HF.out.1, HF.out.2.1, HF.out.2.2⟩

end Go.Proofs.Ytcohmhgmocdbfaa

namespace Go.Proofs.Ytcohmhgmocdbfaa
set_option linter.unusedVariables false
set_option linter.unusedSimpArgs false
open Go.RowKit

theorem runM_any (s C : ByteArray) (hs : s.size ≤ 1048576) (hC : C.size ≤ 1048576) (w : World) : Calls Try.prog 59 #[.string s, .string C] w (RunPostM w C (runP s C)) := by
  cases hr : runP s C with
  | none => exact runM_none s C hs hC hr w
  | some o =>
    have hr0 := hr
    unfold runP at hr
    cases hp : progP s with
    | none => rw [hp] at hr; cases hr
    | some x =>
      rw [hp] at hr
      simp only at hr
      split at hr
      · cases hr
      · rename_i hc
        injection hr with hr
        subst hr
        exact runM_some s C hs x hp (by omega) w

end Go.Proofs.Ytcohmhgmocdbfaa

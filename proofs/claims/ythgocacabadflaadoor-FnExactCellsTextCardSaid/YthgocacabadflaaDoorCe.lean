/-
  The room writer's write: the walk.
-/
import Derived.Test.YthgocacabadflaaDoorCd
namespace Go.Proofs.YthgocacabadflaaDoor
set_option linter.unusedVariables false
set_option linter.unusedSimpArgs false
open Go.RowKit

attribute [local go_sem] Oper.semAt_some

theorem Owns.stay {own : Nat → Prop} {W W' : World} (hlt : ∀ k, own k → k < W.heap.size) (q : Keeps own W W') : Owns own own W W' := ⟨fun _ h => .inl h, fun k hk => Nat.lt_of_lt_of_le (hlt k hk) q.size, q⟩

theorem WrIn.newIns {w w5 : World} {own : Nat → Prop} {b N : Nat} {l : List UInt8} {cs : Array Value} {sh : Nat → Nat} {row : ByteArray} (h : WrIn w own b l cs N sh row) (q : Keeps noB w w5) (ins : Nat → Nat) :
    WrK (w5.setCells b 3 ((insL ins).map icell)) own b l N ins row ∧ Keeps (oneB b) w5 (w5.setCells b 3 ((insL ins).map icell)) := by
  have h5 := h.bld.keeps q (fun _ _ e => e)
  obtain ⟨hb, hs, hob⟩ := h5.blk
  have k : Keeps (oneB b) w5 (w5.setCells b 3 ((insL ins).map icell)) := Keeps.setCells (show oneB b b from rfl) _ _ _ _ (Keeps.refl _ _)
  have hl : ((insL ins).map icell).length = 600 := by rw [List.length_map, insL_len]
  refine ⟨⟨setL cs 3 ((insL ins).map icell), h5.other k (hb.setCells _ _ _ _) (by rw [setL_size]; exact hs) (fun j hj => setL_out _ _ _ _ (by omega)), ?_, fun i hi => ?_, ?_⟩, k⟩
  · rw [setL_out _ _ _ _ (by omega)]; exact h.cnt
  · rw [setL_in _ _ _ _ (by omega) (by omega), List.getElem?_map, insL_get ins i hi]; rfl
  · rw [setL_out _ _ _ _ (by omega)]; exact h.rw'

theorem WrIn.newRow {w : World} {own : Nat → Prop} {b N : Nat} {l : List UInt8} {cs : Array Value} {sh : Nat → Nat} {row : ByteArray} (h : WrIn w own b l cs N sh row) (r : ByteArray) :
    WrK (w.setCell ⟨b, 603, none⟩ (.string r)) own b l N sh r ∧ Keeps (oneB b) w (w.setCell ⟨b, 603, none⟩ (.string r)) := by
  obtain ⟨hb, hs, hob⟩ := h.bld.blk
  have k : Keeps (oneB b) w (w.setCell ⟨b, 603, none⟩ (.string r)) := (Keeps.refl _ _).setCell (p := ⟨b, 603, none⟩) (.inl (show oneB b b from rfl)) _
  refine ⟨⟨cs.setIfInBounds 603 (.string r), h.bld.other k (hb.set 603 _) (by simp [hs]) (fun j hj => arr_set_ne (by omega) _), ?_, fun i hi => ?_, arr_set_eq (by omega) _⟩, k⟩
  · rw [arr_set_ne (by omega)]; exact h.cnt
  · rw [arr_set_ne (by omega)]; exact h.shn i hi

theorem WrIn.cells {w : World} {own : Nat → Prop} {b N : Nat} {l : List UInt8} {cs : Array Value} {sh : Nat → Nat} {row : ByteArray} (h : WrIn w own b l cs N sh row) :
    w.cell? ⟨b, 2, none⟩ = some (.int .i64 (N : Int)) ∧ (∀ i, i < 600 → w.cell? ⟨b, 3 + i, none⟩ = some (.int .i64 (sh i : Int))) ∧ w.cell? ⟨b, 603, none⟩ = some (.string row) ∧ w.frozen? ⟨b, 603, none⟩ = false := by
  obtain ⟨hb, hs, hob⟩ := h.bld.blk
  exact ⟨(hb.cell 2).trans h.cnt, fun i hi => (hb.cell _).trans (h.shn i hi), (hb.cell 603).trans h.rw', hb.free 603⟩
theorem WrIn.blen {w : World} {own : Nat → Prop} {b N : Nat} {l : List UInt8} {cs : Array Value} {sh : Nat → Nat} {row : ByteArray} (h : WrIn w own b l cs N sh row) : Calls Tryd.prog 55 #[.pointer (some ⟨b, 0, none⟩)] w fun e w' => e = .returned (.int .i64 (l.length : Int)) ∧ w' = w := blen_anyX b cs l own w h.bld

/-! ### reading, writing and comparing where the run is known -/
theorem wpList_load_run {P : Program} {ops : Array Oper} {rest : List Oper} {o : Oper} {a : Act} {w : World} {Q : Exit → Act → World → Prop} (hgd : o.guard = none) (ty : TypeId) (x : Operand) (ho : o.op = .load ty x) (vx : Value) (hx : a.eval x = vx)
    (v : Value) (hr : (Instr.loadAt ty vx).run P w = .ok v w) (h : wpList P ops Q rest (a.put o.dst v) w) : wpList P ops Q (o :: rest) a w :=
  wpList_plain hgd fun K hK => by
    unfold Oper.wp execOp
    simp only [ho, hx, Sem.run_bind, Sem.run_pure, hr, Result.andThen_ok]
    exact hK _ _ h
theorem wpList_store_run {P : Program} {ops : Array Oper} {rest : List Oper} {o : Oper} {a : Act} {w w' : World} {Q : Exit → Act → World → Prop} (hgd : o.guard = none) (ty : TypeId) (x y : Operand) (ho : o.op = .store ty x y) (vx vy : Value) (hx : a.eval x = vx) (hy : a.eval y = vy)
    (hr : (Instr.storeAt ty vx vy).run P w = .ok () w') (h : wpList P ops Q rest (a.put o.dst undef) w') : wpList P ops Q (o :: rest) a w :=
  wpList_plain hgd fun K hK => by
    unfold Oper.wp execOp
    simp only [ho, hx, hy, Sem.run_bind, Sem.run_pure, hr, Result.andThen_ok]
    exact hK _ _ h
theorem wpList_neq_run {P : Program} {ops : Array Oper} {rest : List Oper} {o : Oper} {a : Act} {w : World} {Q : Exit → Act → World → Prop} (hgd : o.guard = none) (ty ty2 : TypeId) (x y : Operand) (ho : o.op = .binOp .neq ty x y ty2) (vx vy : Value) (hx : a.eval x = vx) (hy : a.eval y = vy)
    (v : Value) (hg : (eqGuard .neq ty x y vx vy).run P w = .ok () w) (hr : (binOp .neq ty vx vy).run P w = .ok v w) (h : wpList P ops Q rest (a.put o.dst v) w) : wpList P ops Q (o :: rest) a w :=
  wpList_plain hgd fun K hK => by
    unfold Oper.wp execOp
    simp only [ho, hx, hy, Sem.run_bind, Sem.run_pure, hg, hr, Result.andThen_ok]
    exact hK _ _ h
theorem wpStill_load_run {P : Program} {ops : Array Oper} {rest : List Oper} {o : Oper} {a : Act} {w : World} {Q : Act → Prop} (hgd : o.guard = none) (ty : TypeId) (x : Operand) (ho : o.op = .load ty x) (vx : Value) (hx : a.eval x = vx)
    (v : Value) (hr : (Instr.loadAt ty vx).run P w = .ok v w) (h : wpStill P ops w Q rest (a.put o.dst v)) : wpStill P ops w Q (o :: rest) a := by
  refine wpStill_step (fun K hK => ?_)
  rw [if_pos (by simp [Region.wanted, hgd])]
  unfold Oper.still execOp
  simp only [ho, hx, Sem.run_bind, Sem.run_pure, hr, Result.andThen_ok, Oper.stillUpon_value]
  exact hK _ h

set_option maxRecDepth 100000 in
set_option maxHeartbeats 8000000 in
theorem write_any (b R N : Nat) (ins sh : Nat → Nat) (l : List UInt8) (row : ByteArray) (own : Nat → Prop) (w : World) (h : WrK w own b l N sh row) (hlt : ∀ k, own k → k < w.heap.size) (hlow : ∀ k, own k → 12 ≤ k) (hE : Env w) (hN : N ≤ 600) (hN0 : N ≠ 0)
    (hins : ∀ i, ins i < 1000) (hl : l.length ≤ 90000000) (hR : R < w.heap.size) (hRo : ¬ own R) (hc : ∀ i, i < 600 → w.cell? ⟨R, 1 + i, none⟩ = some (.int .i64 (ins i : Int))) (hrow : (∀ i, i < 600 → ins i = sh i) → row = ⟨(rowB ins N).toArray⟩) :
    Calls Tryd.prog 46 #[.pointer (some ⟨b, 0, none⟩), .pointer (some ⟨R, 1, none⟩)] w (WritePost w own b l N ins) := by
  have HC : Hid (∀ own1 W', Owns own own1 w W' → Env W' ∧ R < W'.heap.size ∧ ¬ own1 R ∧ ∀ W'', Keeps (oneB b) W' W'' → Env W'' ∧ R < W''.heap.size ∧ ∀ i, i < 600 → W''.cell? ⟨R, 1 + i, none⟩ = some (.int .i64 (ins i : Int))) := Lib.hid (fun own1 W' q => by
    obtain ⟨cs, hw⟩ := h
    have hob := hw.bld.blk.2.2
    have e1 : Env W' := hE.keeps q.keeps (fun k hk e => by have := hlow k e; omega)
    have e2 := q.keeps.size
    refine ⟨e1, by omega, fun e => ?_, fun W'' q2 => ⟨e1.keeps q2 (fun k hk e => by have e : k = b := e; have := hlow b hob; omega), by have := q2.size; omega, fun i hi => ?_⟩⟩
    · rcases q.more R e with e | e
      · exact hRo e
      · omega
    · have hRb : ¬ R = b := fun e => hRo (by rw [e]; exact hob)
      exact (q2.cell (p := ⟨R, 1 + i, none⟩) (by show R < _; omega) (fun e => hRb e)).trans ((q.keeps.cell (p := ⟨R, 1 + i, none⟩) hR hRo).trans (hc i hi)))
  have hrl := rowB_len hins N
  obtain ⟨RW, hRW⟩ : ∃ RW : ByteArray, RW = ⟨(rowB ins N).toArray⟩ := ⟨_, rfl⟩
  have hRWs : RW.size ≤ 2400 := by rw [hRW]; show (rowB ins N).toArray.size ≤ 2400; rw [List.size_toArray]; omega
  have hRWl : RW.data.toList = rowB ins N := by rw [hRW]
  have HRW := Lib.hid (And.intro hRW hRWl)
  have HIN := Lib.hid (And.intro hins (And.intro hN hN0))
  have HROW := Lib.hid hrow
  have HLT := Lib.hid hlt
  have HFM : Hid (∀ W', Env W' → R < W'.heap.size → (∀ i, i < 600 → W'.cell? ⟨R, 1 + i, none⟩ = some (.int .i64 (ins i : Int))) → Calls Tryd.prog 65 #[.pointer (some ⟨R, 1, none⟩), .int .i64 (N : Int)] W' fun e w' => e = .returned (.string RW) ∧ Keeps noB W' w') := Lib.hid (fun W' h1 h2 h3 => by
    rw [hRW]; exact cformat_any R N ins W' h1 hN hN0 hins h2 h3)
  obtain ⟨cs, hw⟩ := h
  have HW := Lib.hid hw
  obtain ⟨XI, hXI⟩ : ∃ XI : Array Value, XI = ((insL ins).map icell).toArray := ⟨_, rfl⟩
  obtain ⟨SI, hSI⟩ : ∃ SI : Array Value, SI = ((insL sh).map icell).toArray := ⟨_, rfl⟩
  have HX := Lib.hid (And.intro hXI hSI)
  have HLN := Lib.hid hw.blen
  obtain ⟨M, hM⟩ : ∃ M, M = l.length := ⟨_, rfl⟩
  rw [← hM] at HLN
  by_cases hl0 : l = []
  · have hz : ¬ (0 : Int) < (M : Int) := by rw [hM, hl0]; simp
    have HL0 := Lib.hid hl0
    clear hlt hlow hE hN hN0 hins hR hRo hc hrow hrl hRW hRWl hw hXI hSI hM hl0
    go_enter Tryd.func46, Tryd.ntmps46
    go_wp2_with fail
    refine HLN.out.mono ?_
    rintro e w4 ⟨rfl, rfl⟩
    have HH : Hid (Owns own own w4 w4 ∧ WrIn w4 own b l cs N sh row) := Lib.hid ⟨Owns.refl HLT.out, HW.out⟩
    obtain ⟨T, hT⟩ : ∃ T, T = l := ⟨_, rfl⟩
    rw [← hT] at HH
    have HTT : Hid (T = (if l = [] then [] else l ++ [59]) ∧ T.length ≤ 90000001) := Lib.hid ⟨by rw [if_pos HL0.out, hT, HL0.out], by rw [hT]; omega⟩
    clear hT hl
    have HCC := Lib.hid (HC.out own w4 HH.out.1)
    go_wp2_with fail
    refine wp_region_still_tail 7 (by kernel_rfl) (by kernel_rfl) ?_
    simp only [List.take_succ_cons, List.take_zero, List.drop_succ_cons, List.drop_zero]
    change wpStill _ _ (World.drew _) (fun a' => wpList _ _ _ _ a' (World.drew _)) _ _
    obtain ⟨w5, hw5⟩ : ∃ w5, w5 = World.drew w4 := ⟨_, rfl⟩
    have H5 : Hid (Keeps noB w4 w5) := Lib.hid (by rw [hw5]; exact (Keeps.refl _ _).drew)
    rw [← hw5]
    clear hw5
    have H5W : Hid (WrIn w5 own b T cs N sh row) := Lib.hid ⟨HH.out.2.bld.keeps H5.out (fun _ _ e => e), HH.out.2.cnt, HH.out.2.shn, HH.out.2.rw'⟩
    have e1 : (Instr.loadAt 76 (.pointer (some ⟨R, 1, none⟩))).run Tryd.prog w5 = .ok (.agg XI) w5 := by
      rw [HX.out.1]; exact load_ins ins (HCC.out.2.2.2 w5 (H5.out.mono (fun _ e => e.elim))).2.2
    have e2 : (Instr.loadAt 76 (.pointer (some ⟨b, 3, none⟩))).run Tryd.prog w5 = .ok (.agg SI) w5 := by
      rw [HX.out.2]; exact load_ins sh H5W.out.cells.2.1
    obtain ⟨d, hd⟩ : ∃ d, d = (insL ins != insL sh) := ⟨_, rfl⟩
    have e3 : (binOp .neq 76 (.agg XI) (.agg SI)).run Tryd.prog w5 = .ok (.bool d) w5 := by
      rw [HX.out.1, HX.out.2, hd]; exact neq_ins ins sh w5
    still_step
    still_step
    refine wpStill_load_run rfl _ _ rfl _ rfl _ e1 ?_
    still_step
    still_step
    still_step
    refine wpStill_load_run rfl _ _ rfl _ rfl _ e2 ?_
    refine wpStill_nil ?_
    refine wpList_neq_run rfl _ _ _ _ rfl _ _ rfl rfl _ (run_eqGuard_agg _ _ _ _ _ _ _ (by kernel_rfl)) e3 ?_
    by_cases hq : ∀ i, i < 600 → ins i = sh i
    · have hdf : d = false := by rw [hd, insL_eq.2 hq]; simp
      subst hdf
      have HQ := Lib.hid hq
      have HRR : Hid (row = RW) := Lib.hid (by rw [HRW.out.1]; exact HROW.out hq)
      clear hd hq e1 e2 e3
      have HK : Hid (Owns own own w4 w5 ∧ WrK w5 own b T N ins RW) := Lib.hid ⟨HH.out.1.ahead H5.out (fun _ e => e.elim), cs, H5W.out.bld, H5W.out.cnt, fun i hi => by rw [HQ.out i hi]; exact H5W.out.shn i hi, by rw [← HRR.out]; exact H5W.out.rw'⟩
      go_wp2_with fail
      refine wp_region_still_tail 7 (by kernel_rfl) (by kernel_rfl) ?_
      simp only [List.take_succ_cons, List.take_zero, List.drop_succ_cons, List.drop_zero]
      change wpStill _ _ (World.drew _) (fun a' => wpList _ _ _ _ a' (World.drew _)) _ _
      obtain ⟨w9, hw9⟩ : ∃ w9, w9 = World.drew w5 := ⟨_, rfl⟩
      have q9 : Keeps noB w5 w9 := by rw [hw9]; exact (Keeps.refl _ _).drew
      rw [← hw9]
      clear hw9
      obtain ⟨cs9, H9⟩ : ∃ cs9, Hid (Owns own own w4 w9 ∧ WrIn w9 own b T cs9 N ins RW) := by
        obtain ⟨cs9, h9⟩ := HK.out.2.keeps q9 (fun _ _ e => e)
        exact ⟨cs9, Lib.hid ⟨HK.out.1.ahead q9 (fun _ e => e.elim), h9⟩⟩
      have y9 := H9.out.2.cells.2.2.1
      clear q9
      have HWS := Lib.hid (writeString_anyX b cs9 T RW own w9 H9.out.2.bld H9.out.1.lt (by have := HTT.out.2; omega))
      still_step
      still_step
      still_step
      still_step
      still_step
      still_step
      still_step
      refine wpStill_nil ?_
      go_wp2_with fail
      refine HWS.out.mono ?_
      intro e wA hp
      have hp2 := hp.K H9.out.2
      clear hp
      obtain ⟨rfl, ownA, hoA, hkA⟩ := hp2
      have HE : Hid (WritePost w4 own b l N ins (.returned (.tuple #[])) wA) := Lib.hid ⟨rfl, ownA, H9.out.1.trans hoA, by
        rw [← HTT.out.1, ← HRW.out.1, ← HRW.out.2]; exact hkA⟩
      clear hoA hkA
      go_wp2_with fail
      first | go_end0 | go_ret2 | refine bodyPost_ret (results_none rfl _ _ _) rfl ?_
      exact HE.out
    · have hdt : d = true := by rw [hd, bne_iff_ne]; exact fun e => hq (insL_eq.1 e)
      subst hdt
      obtain ⟨w6, hw6⟩ : ∃ w6, w6 = w5.setCells b 3 ((insL ins).map icell) := ⟨_, rfl⟩
      have e4 : (Instr.storeAt 76 (.pointer (some ⟨b, 3, none⟩)) (.agg XI)).run Tryd.prog w5 = .ok () w6 := by
        rw [HX.out.1, hw6]; exact store_ins ins H5W.out.bld.blk.1 (by rw [H5W.out.bld.blk.2.1]; omega)
      have H6 : Hid (WrK w6 own b T N ins row ∧ Keeps (oneB b) w5 w6) := Lib.hid (by rw [hw6]; exact H5W.out.newIns (Keeps.refl _ _) ins)
      have c2 : w6.cell? ⟨b, 2, none⟩ = some (.int .i64 (N : Int)) := by obtain ⟨cs6, h6⟩ := H6.out.1; exact h6.cells.1
      clear hd hq e2 e3 hw6
      go_wp2_with (first | (refine wpList_load_run rfl _ _ rfl _ rfl _ e1 ?_) | (refine wpList_store_run rfl _ _ _ rfl _ _ rfl rfl e4 ?_))
      have hcc := HCC.out.2.2.2 w6 ((H5.out.mono (fun _ e => e.elim)).trans H6.out.2)
      have HF6 := Lib.hid (HFM.out w6 hcc.1 hcc.2.1 hcc.2.2)
      clear hcc e1 e4
      refine HF6.out.mono ?_
      rintro e w7 ⟨rfl, q7⟩
      obtain ⟨cs7, H7⟩ : ∃ cs7, Hid (WrIn w7 own b T cs7 N ins row ∧ Keeps noB w6 w7) := by
        obtain ⟨cs7, h7⟩ := H6.out.1.keeps q7 (fun _ _ e => e)
        exact ⟨cs7, Lib.hid ⟨h7, q7⟩⟩
      have y1 := H7.out.1.cells.2.2.1
      have y2 := H7.out.1.cells.2.2.2
      clear q7 c2
      obtain ⟨w8, hw8⟩ : ∃ w8, w8 = w7.setCell ⟨b, 603, none⟩ (.string RW) := ⟨_, rfl⟩
      have HK : Hid (Owns own own w4 w8 ∧ WrK w8 own b T N ins RW) := Lib.hid (by
        have hn := H7.out.1.newRow RW
        rw [← hw8] at hn
        have hob := H7.out.1.bld.blk.2.2
        have q8 : Keeps own w4 w8 := (((H5.out.mono (fun _ e => e.elim)).trans (H6.out.2.mono (fun k (e : k = b) => e ▸ hob))).trans (H7.out.2.mono (fun _ e => e.elim))).trans (hn.2.mono (fun k (e : k = b) => e ▸ hob))
        exact ⟨HH.out.1.trans (Owns.stay HH.out.1.lt q8), hn.1⟩)
      go_wp2_with fail
      rw [← hw8]
      clear y1 y2 hw8
      refine wp_region_still_tail 7 (by kernel_rfl) (by kernel_rfl) ?_
      simp only [List.take_succ_cons, List.take_zero, List.drop_succ_cons, List.drop_zero]
      change wpStill _ _ (World.drew _) (fun a' => wpList _ _ _ _ a' (World.drew _)) _ _
      obtain ⟨w9, hw9⟩ : ∃ w9, w9 = World.drew w8 := ⟨_, rfl⟩
      have q9 : Keeps noB w8 w9 := by rw [hw9]; exact (Keeps.refl _ _).drew
      rw [← hw9]
      clear hw9
      obtain ⟨cs9, H9⟩ : ∃ cs9, Hid (Owns own own w4 w9 ∧ WrIn w9 own b T cs9 N ins RW) := by
        obtain ⟨cs9, h9⟩ := HK.out.2.keeps q9 (fun _ _ e => e)
        exact ⟨cs9, Lib.hid ⟨HK.out.1.ahead q9 (fun _ e => e.elim), h9⟩⟩
      have y9 := H9.out.2.cells.2.2.1
      clear q9
      have HWS := Lib.hid (writeString_anyX b cs9 T RW own w9 H9.out.2.bld H9.out.1.lt (by have := HTT.out.2; omega))
      still_step
      still_step
      still_step
      still_step
      still_step
      still_step
      still_step
      refine wpStill_nil ?_
      go_wp2_with fail
      refine HWS.out.mono ?_
      intro e wA hp
      have hp2 := hp.K H9.out.2
      clear hp
      obtain ⟨rfl, ownA, hoA, hkA⟩ := hp2
      have HE : Hid (WritePost w4 own b l N ins (.returned (.tuple #[])) wA) := Lib.hid ⟨rfl, ownA, H9.out.1.trans hoA, by
        rw [← HTT.out.1, ← HRW.out.1, ← HRW.out.2]; exact hkA⟩
      clear hoA hkA
      go_wp2_with fail
      first | go_end0 | go_ret2 | refine bodyPost_ret (results_none rfl _ _ _) rfl ?_
      exact HE.out
  · have hz : (0 : Int) < (M : Int) := by
      have : l.length ≠ 0 := by simpa using hl0
      omega
    have HL0 := Lib.hid hl0
    have HWB := Lib.hid (writeByte_anyX b cs l 59 own w hw.bld hlt (by omega))
    clear hlt hlow hE hN hN0 hins hR hRo hc hrow hrl hRW hRWl hw hXI hSI hM hl0
    go_enter Tryd.func46, Tryd.ntmps46
    go_wp2_with fail
    refine HLN.out.mono ?_
    rintro e w3 ⟨rfl, rfl⟩
    go_wp2_with fail
    refine HWB.out.mono ?_
    intro e w4 hp
    have hp2 := hp.K HW.out
    clear hp
    obtain ⟨rfl, own1, ho1, cs1, hw1⟩ := hp2
    have HH := Lib.hid (And.intro ho1 hw1)
    clear ho1 hw1
    obtain ⟨T, hT⟩ : ∃ T, T = l ++ [59] := ⟨_, rfl⟩
    rw [← hT] at HH
    have HTT : Hid (T = (if l = [] then [] else l ++ [59]) ∧ T.length ≤ 90000001) := Lib.hid ⟨by rw [if_neg HL0.out, hT], by rw [hT, List.length_append]; simp; omega⟩
    clear hT hl
    have HCC := Lib.hid (HC.out own1 w4 HH.out.1)
    go_wp2_with fail
    refine wp_region_still_tail 7 (by kernel_rfl) (by kernel_rfl) ?_
    simp only [List.take_succ_cons, List.take_zero, List.drop_succ_cons, List.drop_zero]
    change wpStill _ _ (World.drew _) (fun a' => wpList _ _ _ _ a' (World.drew _)) _ _
    obtain ⟨w5, hw5⟩ : ∃ w5, w5 = World.drew w4 := ⟨_, rfl⟩
    have H5 : Hid (Keeps noB w4 w5) := Lib.hid (by rw [hw5]; exact (Keeps.refl _ _).drew)
    rw [← hw5]
    clear hw5
    have H5W : Hid (WrIn w5 own1 b T cs1 N sh row) := Lib.hid ⟨HH.out.2.bld.keeps H5.out (fun _ _ e => e), HH.out.2.cnt, HH.out.2.shn, HH.out.2.rw'⟩
    have e1 : (Instr.loadAt 76 (.pointer (some ⟨R, 1, none⟩))).run Tryd.prog w5 = .ok (.agg XI) w5 := by
      rw [HX.out.1]; exact load_ins ins (HCC.out.2.2.2 w5 (H5.out.mono (fun _ e => e.elim))).2.2
    have e2 : (Instr.loadAt 76 (.pointer (some ⟨b, 3, none⟩))).run Tryd.prog w5 = .ok (.agg SI) w5 := by
      rw [HX.out.2]; exact load_ins sh H5W.out.cells.2.1
    obtain ⟨d, hd⟩ : ∃ d, d = (insL ins != insL sh) := ⟨_, rfl⟩
    have e3 : (binOp .neq 76 (.agg XI) (.agg SI)).run Tryd.prog w5 = .ok (.bool d) w5 := by
      rw [HX.out.1, HX.out.2, hd]; exact neq_ins ins sh w5
    still_step
    still_step
    refine wpStill_load_run rfl _ _ rfl _ rfl _ e1 ?_
    still_step
    still_step
    still_step
    refine wpStill_load_run rfl _ _ rfl _ rfl _ e2 ?_
    refine wpStill_nil ?_
    refine wpList_neq_run rfl _ _ _ _ rfl _ _ rfl rfl _ (run_eqGuard_agg _ _ _ _ _ _ _ (by kernel_rfl)) e3 ?_
    by_cases hq : ∀ i, i < 600 → ins i = sh i
    · have hdf : d = false := by rw [hd, insL_eq.2 hq]; simp
      subst hdf
      have HQ := Lib.hid hq
      have HRR : Hid (row = RW) := Lib.hid (by rw [HRW.out.1]; exact HROW.out hq)
      clear hd hq e1 e2 e3
      have HK : Hid (Owns own own1 w3 w5 ∧ WrK w5 own1 b T N ins RW) := Lib.hid ⟨HH.out.1.ahead H5.out (fun _ e => e.elim), cs1, H5W.out.bld, H5W.out.cnt, fun i hi => by rw [HQ.out i hi]; exact H5W.out.shn i hi, by rw [← HRR.out]; exact H5W.out.rw'⟩
      go_wp2_with fail
      refine wp_region_still_tail 7 (by kernel_rfl) (by kernel_rfl) ?_
      simp only [List.take_succ_cons, List.take_zero, List.drop_succ_cons, List.drop_zero]
      change wpStill _ _ (World.drew _) (fun a' => wpList _ _ _ _ a' (World.drew _)) _ _
      obtain ⟨w9, hw9⟩ : ∃ w9, w9 = World.drew w5 := ⟨_, rfl⟩
      have q9 : Keeps noB w5 w9 := by rw [hw9]; exact (Keeps.refl _ _).drew
      rw [← hw9]
      clear hw9
      obtain ⟨cs9, H9⟩ : ∃ cs9, Hid (Owns own own1 w3 w9 ∧ WrIn w9 own1 b T cs9 N ins RW) := by
        obtain ⟨cs9, h9⟩ := HK.out.2.keeps q9 (fun _ _ e => e)
        exact ⟨cs9, Lib.hid ⟨HK.out.1.ahead q9 (fun _ e => e.elim), h9⟩⟩
      have y9 := H9.out.2.cells.2.2.1
      clear q9
      have HWS := Lib.hid (writeString_anyX b cs9 T RW own1 w9 H9.out.2.bld H9.out.1.lt (by have := HTT.out.2; omega))
      still_step
      still_step
      still_step
      still_step
      still_step
      still_step
      still_step
      refine wpStill_nil ?_
      go_wp2_with fail
      refine HWS.out.mono ?_
      intro e wA hp
      have hp2 := hp.K H9.out.2
      clear hp
      obtain ⟨rfl, ownA, hoA, hkA⟩ := hp2
      have HE : Hid (WritePost w3 own b l N ins (.returned (.tuple #[])) wA) := Lib.hid ⟨rfl, ownA, H9.out.1.trans hoA, by
        rw [← HTT.out.1, ← HRW.out.1, ← HRW.out.2]; exact hkA⟩
      clear hoA hkA
      go_wp2_with fail
      first | go_end0 | go_ret2 | refine bodyPost_ret (results_none rfl _ _ _) rfl ?_
      exact HE.out
    · have hdt : d = true := by rw [hd, bne_iff_ne]; exact fun e => hq (insL_eq.1 e)
      subst hdt
      obtain ⟨w6, hw6⟩ : ∃ w6, w6 = w5.setCells b 3 ((insL ins).map icell) := ⟨_, rfl⟩
      have e4 : (Instr.storeAt 76 (.pointer (some ⟨b, 3, none⟩)) (.agg XI)).run Tryd.prog w5 = .ok () w6 := by
        rw [HX.out.1, hw6]; exact store_ins ins H5W.out.bld.blk.1 (by rw [H5W.out.bld.blk.2.1]; omega)
      have H6 : Hid (WrK w6 own1 b T N ins row ∧ Keeps (oneB b) w5 w6) := Lib.hid (by rw [hw6]; exact H5W.out.newIns (Keeps.refl _ _) ins)
      have c2 : w6.cell? ⟨b, 2, none⟩ = some (.int .i64 (N : Int)) := by obtain ⟨cs6, h6⟩ := H6.out.1; exact h6.cells.1
      clear hd hq e2 e3 hw6
      go_wp2_with (first | (refine wpList_load_run rfl _ _ rfl _ rfl _ e1 ?_) | (refine wpList_store_run rfl _ _ _ rfl _ _ rfl rfl e4 ?_))
      have hcc := HCC.out.2.2.2 w6 ((H5.out.mono (fun _ e => e.elim)).trans H6.out.2)
      have HF6 := Lib.hid (HFM.out w6 hcc.1 hcc.2.1 hcc.2.2)
      clear hcc e1 e4
      refine HF6.out.mono ?_
      rintro e w7 ⟨rfl, q7⟩
      obtain ⟨cs7, H7⟩ : ∃ cs7, Hid (WrIn w7 own1 b T cs7 N ins row ∧ Keeps noB w6 w7) := by
        obtain ⟨cs7, h7⟩ := H6.out.1.keeps q7 (fun _ _ e => e)
        exact ⟨cs7, Lib.hid ⟨h7, q7⟩⟩
      have y1 := H7.out.1.cells.2.2.1
      have y2 := H7.out.1.cells.2.2.2
      clear q7 c2
      obtain ⟨w8, hw8⟩ : ∃ w8, w8 = w7.setCell ⟨b, 603, none⟩ (.string RW) := ⟨_, rfl⟩
      have HK : Hid (Owns own own1 w3 w8 ∧ WrK w8 own1 b T N ins RW) := Lib.hid (by
        have hn := H7.out.1.newRow RW
        rw [← hw8] at hn
        have hob := H7.out.1.bld.blk.2.2
        have q8 : Keeps own1 w4 w8 := (((H5.out.mono (fun _ e => e.elim)).trans (H6.out.2.mono (fun k (e : k = b) => e ▸ hob))).trans (H7.out.2.mono (fun _ e => e.elim))).trans (hn.2.mono (fun k (e : k = b) => e ▸ hob))
        exact ⟨HH.out.1.trans (Owns.stay HH.out.1.lt q8), hn.1⟩)
      go_wp2_with fail
      rw [← hw8]
      clear y1 y2 hw8
      refine wp_region_still_tail 7 (by kernel_rfl) (by kernel_rfl) ?_
      simp only [List.take_succ_cons, List.take_zero, List.drop_succ_cons, List.drop_zero]
      change wpStill _ _ (World.drew _) (fun a' => wpList _ _ _ _ a' (World.drew _)) _ _
      obtain ⟨w9, hw9⟩ : ∃ w9, w9 = World.drew w8 := ⟨_, rfl⟩
      have q9 : Keeps noB w8 w9 := by rw [hw9]; exact (Keeps.refl _ _).drew
      rw [← hw9]
      clear hw9
      obtain ⟨cs9, H9⟩ : ∃ cs9, Hid (Owns own own1 w3 w9 ∧ WrIn w9 own1 b T cs9 N ins RW) := by
        obtain ⟨cs9, h9⟩ := HK.out.2.keeps q9 (fun _ _ e => e)
        exact ⟨cs9, Lib.hid ⟨HK.out.1.ahead q9 (fun _ e => e.elim), h9⟩⟩
      have y9 := H9.out.2.cells.2.2.1
      clear q9
      have HWS := Lib.hid (writeString_anyX b cs9 T RW own1 w9 H9.out.2.bld H9.out.1.lt (by have := HTT.out.2; omega))
      still_step
      still_step
      still_step
      still_step
      still_step
      still_step
      still_step
      refine wpStill_nil ?_
      go_wp2_with fail
      refine HWS.out.mono ?_
      intro e wA hp
      have hp2 := hp.K H9.out.2
      clear hp
      obtain ⟨rfl, ownA, hoA, hkA⟩ := hp2
      have HE : Hid (WritePost w3 own b l N ins (.returned (.tuple #[])) wA) := Lib.hid ⟨rfl, ownA, H9.out.1.trans hoA, by
        rw [← HTT.out.1, ← HRW.out.1, ← HRW.out.2]; exact hkA⟩
      clear hoA hkA
      go_wp2_with fail
      first | go_end0 | go_ret2 | refine bodyPost_ret (results_none rfl _ _ _) rfl ?_
      exact HE.out

end Go.Proofs.YthgocacabadflaaDoor

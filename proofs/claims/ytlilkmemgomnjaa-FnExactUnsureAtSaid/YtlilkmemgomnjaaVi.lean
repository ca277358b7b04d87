/-
  Walks of the model's states: l3Set, l3Clear, l3Needs, l3Join; two of them compared.
-/
import Derived.Test.YtlilkmemgomnjaaVg
import Derived.Test.YtlilkmemgomnjaaVh
namespace Go.Proofs.Ytlilkmemgomnjaa
set_option linter.unusedVariables false
set_option linter.unusedSimpArgs false
open Go.RowKit

/-- A result that lies in a cell of its own: a state. -/
theorem resSt {f : Func} {t : Tmp} (hf : f.results = #[.cell t 76]) (W : World) (N : Nat) (a b : ByteArray) (c : Bool) (tmps : Array Value) (h : tmps.getD t undef = .pointer (some ⟨N, 0, none⟩))
    (c0 : W.cell? ⟨N, 0, none⟩ = some (.string a)) (c1 : W.cell? ⟨N, 1, none⟩ = some (.string b)) (c2 : W.cell? ⟨N, 2, none⟩ = some (.bool c)) : (results f tmps).run Try.prog W = .ok (.agg #[.string a, .string b, .bool c]) W := by
  have h' : tmps[t]?.getD undef = .pointer (some ⟨N, 0, none⟩) := by simpa using h
  simp [results, hf, go_sem, h', c0, c1, c2]

/-- The boxes of a function that has a state of its own and answers with one. -/
structure StBox (w w1 : World) (a b : ByteArray) (c : Bool) : Prop where
  q : Keeps noB w w1
  bA : Blk w1 w.heap.size #[.string a, .string b, .bool c] 76
  bB : Blk w1 (w.heap.size + 1) #[.string ⟨#[]⟩, .string ⟨#[]⟩, .bool false] 76

theorem StBox.start {w w1 : World} {a b : ByteArray} {c : Bool} (q : Keeps noB ((w.alloc (.cells #[.string a, .string b, .bool c] 76)).alloc (.cells #[.string ⟨#[]⟩, .string ⟨#[]⟩, .bool false] 76)) w1) : StBox w w1 a b c := by
  have hA := (Blk.new w #[.string a, .string b, .bool c] 76).alloc (.cells #[.string ⟨#[]⟩, .string ⟨#[]⟩, .bool false] 76)
  have hB := Blk.new (w.alloc (.cells #[.string a, .string b, .bool c] 76)) #[.string ⟨#[]⟩, .string ⟨#[]⟩, .bool false] 76
  have hZ : (w.alloc (.cells #[.string a, .string b, .bool c] 76)).heap.size = w.heap.size + 1 := by simp only [World.alloc, Array.size_push]
  rw [hZ] at hB
  exact ⟨(((Keeps.refl _ w).alloc _).alloc _).trans q, q.blk hA id, q.blk hB id⟩
theorem StBox.keeps {w w1 w2 : World} {a b : ByteArray} {c : Bool} (h : StBox w w1 a b c) (q : Keeps noB w1 w2) : StBox w w2 a b c := ⟨h.q.trans q, q.blk h.bA id, q.blk h.bB id⟩
theorem StBox.may {w w1 : World} {a b : ByteArray} {c : Bool} (h : StBox w w1 a b c) (x : ByteArray) : StBox w (w1.setCell ⟨w.heap.size, 0, none⟩ (.string x)) x b c :=
  ⟨h.q.setCell (p := ⟨w.heap.size, 0, none⟩) (.inr (Nat.le_refl _)) _, h.bA.set 0 _, h.bB.setOther (by show w.heap.size ≠ w.heap.size + 1; omega) _⟩
theorem StBox.must {w w1 : World} {a b : ByteArray} {c : Bool} (h : StBox w w1 a b c) (x : ByteArray) : StBox w (w1.setCell ⟨w.heap.size, 1, none⟩ (.string x)) a x c :=
  ⟨h.q.setCell (p := ⟨w.heap.size, 1, none⟩) (.inr (Nat.le_refl _)) _, h.bA.set 1 _, h.bB.setOther (by show w.heap.size ≠ w.heap.size + 1; omega) _⟩
def StCells (w w1 : World) (a b : ByteArray) (c : Bool) : Prop :=
  w1.cell? ⟨w.heap.size, 0, none⟩ = some (.string a) ∧ w1.cell? ⟨w.heap.size, 1, none⟩ = some (.string b) ∧ w1.cell? ⟨w.heap.size, 2, none⟩ = some (.bool c) ∧
  w1.cell? ⟨w.heap.size + 1, 0, none⟩ = some (.string ⟨#[]⟩) ∧ w1.cell? ⟨w.heap.size + 1, 1, none⟩ = some (.string ⟨#[]⟩) ∧ w1.cell? ⟨w.heap.size + 1, 2, none⟩ = some (.bool false) ∧
  w1.frozen? ⟨w.heap.size, 0, none⟩ = false ∧ w1.frozen? ⟨w.heap.size, 1, none⟩ = false ∧ w1.frozen? ⟨w.heap.size, 2, none⟩ = false ∧ w1.frozen? ⟨w.heap.size + 1, 0, none⟩ = false ∧ w1.frozen? ⟨w.heap.size + 1, 1, none⟩ = false ∧ w1.frozen? ⟨w.heap.size + 1, 2, none⟩ = false
theorem StBox.cells {w w1 : World} {a b : ByteArray} {c : Bool} (h : StBox w w1 a b c) : StCells w w1 a b c :=
  ⟨(h.bA.cell 0).trans rfl, (h.bA.cell 1).trans rfl, (h.bA.cell 2).trans rfl, (h.bB.cell 0).trans rfl, (h.bB.cell 1).trans rfl, (h.bB.cell 2).trans rfl, h.bA.free 0, h.bA.free 1, h.bA.free 2, h.bB.free 0, h.bB.free 1, h.bB.free 2⟩
/-- The answer is stored. -/
theorem StBox.done {w w1 : World} {a b : ByteArray} {c : Bool} (h : StBox w w1 a b c) (x y z : Value) :
    (((w1.setCell ⟨w.heap.size + 1, 0, none⟩ x).setCell ⟨w.heap.size + 1, 1, none⟩ y).setCell ⟨w.heap.size + 1, 2, none⟩ z).cell? ⟨w.heap.size + 1, 0, none⟩ = some x ∧
    (((w1.setCell ⟨w.heap.size + 1, 0, none⟩ x).setCell ⟨w.heap.size + 1, 1, none⟩ y).setCell ⟨w.heap.size + 1, 2, none⟩ z).cell? ⟨w.heap.size + 1, 1, none⟩ = some y ∧
    (((w1.setCell ⟨w.heap.size + 1, 0, none⟩ x).setCell ⟨w.heap.size + 1, 1, none⟩ y).setCell ⟨w.heap.size + 1, 2, none⟩ z).cell? ⟨w.heap.size + 1, 2, none⟩ = some z ∧
    Keeps noB w (((w1.setCell ⟨w.heap.size + 1, 0, none⟩ x).setCell ⟨w.heap.size + 1, 1, none⟩ y).setCell ⟨w.heap.size + 1, 2, none⟩ z) := by
  have b2 := ((h.bB.set 0 x).set 1 y).set 2 z
  exact ⟨(b2.cell 0).trans rfl, (b2.cell 1).trans rfl, (b2.cell 2).trans rfl, ((h.q.setCell (p := ⟨w.heap.size + 1, 0, none⟩) (.inr (by show w.heap.size ≤ w.heap.size + 1; omega)) _).setCell (p := ⟨w.heap.size + 1, 1, none⟩) (.inr (by show w.heap.size ≤ w.heap.size + 1; omega)) _).setCell (p := ⟨w.heap.size + 1, 2, none⟩) (.inr (by show w.heap.size ≤ w.heap.size + 1; omega)) _⟩

def mayB (k : Kn) : ByteArray := ⟨(mayL k).toArray⟩
def mustB (k : Kn) : ByteArray := ⟨(mustL k).toArray⟩
theorem stV_eq (k : Kn) : stV k = .agg #[.string (mayB k), .string (mustB k), .bool (liveK k)] := rfl

set_option maxRecDepth 100000 in
set_option maxHeartbeats 4000000 in
theorem sset_any (k : Kn) (hk : k.Wf) (hn : k ≠ Kn.no) {v : UInt8} (hv : ltr v) (w : World) : Calls Try.prog 132 #[stV k, u8 v] w (fun e w' => e = .returned (stV (k.changed (bitV v) 0)) ∧ Keeps noB w w') := by
  have H1 := Lib.hid (fun w => swith_any k.may hv w)
  have H2 := Lib.hid (fun w => swith_any k.must hv w)
  have hr : k.changed (bitV v) 0 = k.set v := (val_make hk hn hv).symm
  have hne : k.set v ≠ Kn.no := by rw [← hr]; exact changed_live hk hn (bitV_lt hv)
  have e1 : stV k = .agg #[str (lets k.may), str (lets k.must), .bool true] := by unfold stV mayL; rw [mustL_live hn, liveK_yes hn]
  have e2 : stV (k.set v) = .agg #[str (lets (k.may ||| bitV v)), str (lets (k.must ||| bitV v)), .bool true] := by unfold stV mayL; rw [mustL_live hne, liveK_yes hne]; rfl
  rw [hr, e1, e2]
  clear hr hne e1 e2 hk hn hv
  unfold str u8 at *
  generalize (⟨(lets k.may).toArray⟩ : ByteArray) = a0 at *
  generalize (⟨(lets k.must).toArray⟩ : ByteArray) = b0 at *
  generalize (⟨(lets (k.may ||| bitV v)).toArray⟩ : ByteArray) = a1 at *
  generalize (⟨(lets (k.must ||| bitV v)).toArray⟩ : ByteArray) = b1 at *
  have HB := Lib.hid (fun w1 q => StBox.start (w := w) (w1 := w1) (a := a0) (b := b0) (c := true) q)
  obtain ⟨c1, hc1⟩ : ∃ c1 : Bool, c1 = true := ⟨_, rfl⟩
  rw [← hc1] at HB ⊢
  clear hc1
  go_enter Try.func132, Try.ntmps132
  go_wp2_with (first
    | (go_at_call 142; have hgd := HX.out; refine (H2.out _).mono ?_; rintro e2 w2 ⟨rfl, q2⟩; have hb := HX.out.keeps q2; have ⟨s0, s1, s2, s3, s4, s5, s6, s7, s8, s9, s10, s11⟩ := hb.cells; have HY := Lib.hid ((hb.must b1).done (.string a1) (.string b1) (.bool c1)); clear q2 hb hgd)
    | (go_at_call 142; refine (H1.out _).mono ?_; rintro e1 w1 ⟨rfl, q1⟩; have hb := HB.out w1 q1; have ⟨t0, t1, t2, t3, t4, t5, t6, t7, t8, t9, t10, t11⟩ := hb.cells; have HX := Lib.hid (hb.may a1); clear q1 hb))
  obtain ⟨f0, f1, f2, f3⟩ := HY.out
  exact bodyPost_ret (resSt Try.results132 _ (w.heap.size + 1) _ _ _ _ rfl f0 f1 f2) rfl ⟨rfl, f3⟩

theorem filter_none {l : List UInt8} (v : UInt8) (h : l = []) : l.filter (fun u => u != v) = [] := by rw [h]; rfl

/-- What is cleared, as the model's state. -/
theorem clear_cells {k : Kn} (hk : k.Wf) {v : UInt8} (hv : ltr v) : mayL (k.changed 0 (bitV v)) = (mayL k).filter (fun u => u != v) ∧ mustL (k.changed 0 (bitV v)) = (mustL k).filter (fun u => u != v) ∧ liveK (k.changed 0 (bitV v)) = liveK k := by
  by_cases hn : k = Kn.no
  · subst hn
    have e : Kn.no.changed 0 (bitV v) = Kn.no := by simp [Kn.changed]
    rw [e]
    refine ⟨by rw [mayL_no]; rfl, by rw [mustL_no]; rfl, rfl⟩
  · have hne := changed_live (f := 0) (e := bitV v) hk hn (by omega)
    have e := (val_clear hk hn v).symm
    refine ⟨?_, ?_, by rw [liveK_yes hn, liveK_yes hne]⟩
    · rw [e]; unfold mayL; rw [lets_strike _ hv]; rfl
    · rw [mustL_live hne, mustL_live hn, lets_strike _ hv, e]; rfl

set_option maxRecDepth 100000 in
set_option maxHeartbeats 4000000 in
theorem sclear_any (k : Kn) (hk : k.Wf) {v : UInt8} (hv : ltr v) (w : World) : Calls Try.prog 134 #[stV k, u8 v] w (fun e w' => e = .returned (stV (k.changed 0 (bitV v))) ∧ Keeps noB w w') := by
  have H1 := Lib.hid (fun w => (swithout_any (mayL k) (mayL_len k) v w).mono (fun e w' h => And.intro h.1 (show Keeps noB w w' by rw [h.2]; exact Keeps.refl _ _)))
  have H2 := Lib.hid (fun w => (swithout_any (mustL k) (mustL_len k) v w).mono (fun e w' h => And.intro h.1 (show Keeps noB w w' by rw [h.2]; exact Keeps.refl _ _)))
  obtain ⟨e1, e2, e3⟩ := clear_cells hk hv
  rw [← e1] at H1
  rw [← e2] at H2
  have hs : stV (k.changed 0 (bitV v)) = .agg #[str (mayL (k.changed 0 (bitV v))), str (mustL (k.changed 0 (bitV v))), .bool (liveK k)] := by rw [← e3]; rfl
  rw [hs]
  unfold stV
  clear hk hv e1 e2 e3 hs
  generalize k.changed 0 (bitV v) = k1 at *
  unfold str u8 at *
  generalize (⟨(mayL k).toArray⟩ : ByteArray) = a0 at *
  generalize (⟨(mustL k).toArray⟩ : ByteArray) = b0 at *
  generalize (⟨(mayL k1).toArray⟩ : ByteArray) = a1 at *
  generalize (⟨(mustL k1).toArray⟩ : ByteArray) = b1 at *
  generalize liveK k = c1 at *
  have HB := Lib.hid (fun w1 q => StBox.start (w := w) (w1 := w1) (a := a0) (b := b0) (c := c1) q)
  go_enter Try.func134, Try.ntmps134
  go_wp2_with (first
    | (go_at_call 56; have hgd := HX.out; refine (H2.out _).mono ?_; rintro e2 w2 ⟨rfl, q2⟩; have hb := HX.out.keeps q2; have ⟨s0, s1, s2, s3, s4, s5, s6, s7, s8, s9, s10, s11⟩ := hb.cells; have HY := Lib.hid ((hb.must b1).done (.string a1) (.string b1) (.bool c1)); clear q2 hb hgd)
    | (go_at_call 56; refine (H1.out _).mono ?_; rintro e1 w1 ⟨rfl, q1⟩; have hb := HB.out w1 q1; have ⟨t0, t1, t2, t3, t4, t5, t6, t7, t8, t9, t10, t11⟩ := hb.cells; have HX := Lib.hid (hb.may a1); clear q1 hb))
  obtain ⟨f0, f1, f2, f3⟩ := HY.out
  exact bodyPost_ret (resSt Try.results134 _ (w.heap.size + 1) _ _ _ _ rfl f0 f1 f2) rfl ⟨rfl, f3⟩

/-- What is known where a variable is needed, as the model has it. -/
def Kn.used (k : Kn) (v : UInt8) : Kn := (k.needs v).changed (bitV v) 0

set_option maxRecDepth 100000 in
set_option maxHeartbeats 4000000 in
theorem sneeds_any (k : Kn) (hk : k.Wf) {v : UInt8} (hv : ltr v) (w : World) : Calls Try.prog 133 #[stV k, u8 v] w (fun e w' => e = .returned (stV (k.used v)) ∧ Keeps noB w w') := by
  have HF := Lib.hid (fun w => find_any (mayB k) v w (by unfold mayB; rw [size_arr]; have := mayL_len k; omega))
  have hfl : (mayB k).data.toList = mayL k := by unfold mayB; rw [List.toList_toArray]
  by_cases hn : k = Kn.no
  · have hu : k.used v = Kn.no := by
      have : hasV k.may v = false := by rw [hn]; unfold hasV Kn.no; simp
      unfold Kn.used Kn.needs
      rw [this]
      simp [Kn.changed]
    have hl : liveK k = false := by rw [hn]; exact liveK_no
    rw [hu, stV_no, stV_eq, hl]
    generalize mayB k = a0 at *
    generalize mustB k = b0 at *
    have HB := Lib.hid (fun w1 q => StBox.start (w := w) (w1 := w1) (a := a0) (b := b0) (c := false) q)
    clear hu hl hfl hn hk
    unfold u8 at *
    go_enter Try.func133, Try.ntmps133
    go_wp2_with fail
    have hb := HB.out _ (Keeps.refl _ _)
    obtain ⟨_, _, _, f0, f1, f2, _⟩ := hb.cells
    exact bodyPost_ret (resSt Try.results133 _ (w.heap.size + 1) _ _ _ _ rfl f0 f1 f2) rfl ⟨rfl, hb.q⟩
  · have hl : liveK k = true := liveK_yes hn
    cases hh : hasV k.may v with
    | false =>
      have hu : k.used v = Kn.no := by
        unfold Kn.used Kn.needs
        rw [hh]
        simp [Kn.changed]
      have hf : findI (mayB k) v = -1 := findI_not (by
        rw [hfl]
        intro hm
        have := (mem_lets.1 hm).2
        rw [hh] at this; cases this)
      rw [hf] at HF
      rw [hu, stV_no, stV_eq, hl]
      generalize mayB k = a0 at *
      generalize mustB k = b0 at *
      have HB := Lib.hid (fun w1 q => StBox.start (w := w) (w1 := w1) (a := a0) (b := b0) (c := true) q)
      clear hu hl hfl hn hk hf hh
      unfold u8 at *
      go_enter Try.func133, Try.ntmps133
      go_wp2_with (go_at_call 49; refine (HF.out _).mono ?_; rintro e1 w1 ⟨rfl, rfl⟩)
      have hb := HB.out _ (Keeps.refl _ _)
      obtain ⟨_, _, _, f0, f1, f2, _⟩ := hb.cells
      exact bodyPost_ret (resSt Try.results133 _ (w.heap.size + 1) _ _ _ _ rfl f0 f1 f2) rfl ⟨rfl, hb.q⟩
    | true =>
      have hu : k.used v = k.need v := by
        unfold Kn.used Kn.needs
        rw [hh]
        exact (val_use hk hn hv hh).symm
      have hne : k.need v ≠ Kn.no := by
        rw [val_use hk hn hv hh]; exact changed_live hk hn (bitV_lt hv)
      have hf : 0 ≤ findI (mayB k) v := findI_mem (by rw [hfl]; exact mem_lets.2 ⟨hv, hh⟩)
      have e2 : stV (k.used v) = .agg #[.string (mayB k), str (lets (k.must ||| bitV v)), .bool true] := by
        rw [hu, stV_eq, liveK_yes hne]
        unfold mustB; rw [mustL_live hne]; rfl
      have H2 := Lib.hid (fun w => swith_any k.must hv w)
      have hmb : str (lets k.must) = .string (mustB k) := by unfold mustB; rw [mustL_live hn]; rfl
      rw [hmb] at H2
      rw [e2, stV_eq, hl]
      generalize findI (mayB k) v = fi at *
      generalize mayB k = a0 at *
      generalize mustB k = b0 at *
      unfold str u8 at *
      generalize (⟨(lets (k.must ||| bitV v)).toArray⟩ : ByteArray) = b1 at *
      have HB := Lib.hid (fun w1 q => StBox.start (w := w) (w1 := w1) (a := a0) (b := b0) (c := true) q)
      clear hu hl hfl hn hk hh hne e2 hmb
      go_enter Try.func133, Try.ntmps133
      go_wp2_with (first
        | (go_at_call 49; refine (HF.out _).mono ?_; rintro e1 w1 ⟨rfl, rfl⟩)
        | (go_at_call 142; refine (H2.out _).mono ?_; rintro e2 w2 ⟨rfl, q2⟩; have hb := HB.out w2 q2; have ⟨s0, s1, s2, s3, s4, s5, s6, s7, s8, s9, s10, s11⟩ := hb.cells; have HY := Lib.hid ((hb.must b1).done (.string a0) (.string b1) (.bool true)); clear q2 hb))
      obtain ⟨f0, f1, f2, f3⟩ := HY.out
      exact bodyPost_ret (resSt Try.results133 _ (w.heap.size + 1) _ _ _ _ rfl f0 f1 f2) rfl ⟨rfl, f3⟩

/-! ### two states compared -/
theorem st_same (a b : Kn) (ha : a.Wf) (hb : b.Wf) (w : World) : (Op.equalIn 10000 76 (stV a) (stV b)).run Try.prog w = .ok (decide (a = b)) w := by
  have hS : Try.prog.underlying 76 = some (.struct (Try.prog.fieldsOf 76)) := by kernel_rfl
  have hp : Try.prog.stoodInHeld 76 = false := by kernel_rfl
  rw [stV_eq, stV_eq, show (10000 : Nat) = 9999 + 1 from rfl, run_equalIn_agg w 9999 76 _ _ hS hp]
  have hT : ∀ l : List UInt8, (⟨l.toArray⟩ : ByteArray).toList = l := fun l => by rw [Go.ByteArray.toList_eq]
  simp [Program.fieldsOf, Try.underlying76, go_sem]
  unfold mayB mustB
  simp only [hT]
  by_cases e : a = b
  · subst e; simp
  · by_cases h1 : mayL a = mayL b
    · by_cases h2 : mustL a = mustL b
      · have h3 : ¬ liveK a = liveK b := fun h3 => e (stK_inj ha hb h1 h2 h3)
        simp [h1, h2, h3, e]
      · simp [h1, h2, e]
    · simp [h1, e]

theorem st_eql (a b : Kn) (ha : a.Wf) (hb : b.Wf) (w : World) : (binOp .eql 76 (stV a) (stV b)).run Try.prog w = .ok (.bool (decide (a = b))) w := by
  have h := st_same a b ha hb w
  rw [stV_eq, stV_eq] at *
  rw [run_eql_struct, h]
  simp [Result.andThen]

theorem st_guard (a b : Kn) (x y : Operand) (w : World) : (eqGuard .eql 76 x y (stV a) (stV b)).run Try.prog w = .ok () w := by
  rw [stV_eq, stV_eq]
  exact run_eqGuard_agg w _ _ x y _ _ (by kernel_rfl)

end Go.Proofs.Ytlilkmemgomnjaa

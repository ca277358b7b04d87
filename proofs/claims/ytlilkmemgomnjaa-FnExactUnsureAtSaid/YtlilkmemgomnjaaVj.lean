/-
  Walks of the model's states: l3Join.
-/
import Derived.Test.YtlilkmemgomnjaaVi
import Derived.StillTailTactics
namespace Go.Proofs.Ytlilkmemgomnjaa
set_option linter.unusedVariables false
set_option linter.unusedSimpArgs false
open Go.RowKit

/-- A box of three cells. -/
def Box3 (W : World) (N : Nat) (a b : ByteArray) (c : Bool) : Prop := Blk W N #[.string a, .string b, .bool c] 76

theorem three_new (w : World) (a0 b0 a1 b1 : ByteArray) (c0 c1 : Bool) :
    Box3 (((w.alloc (.cells #[.string a0, .string b0, .bool c0] 76)).alloc (.cells #[.string a1, .string b1, .bool c1] 76)).alloc (.cells #[.string ⟨#[]⟩, .string ⟨#[]⟩, .bool false] 76)) w.heap.size a0 b0 c0 ∧
    Box3 (((w.alloc (.cells #[.string a0, .string b0, .bool c0] 76)).alloc (.cells #[.string a1, .string b1, .bool c1] 76)).alloc (.cells #[.string ⟨#[]⟩, .string ⟨#[]⟩, .bool false] 76)) (w.heap.size + 1) a1 b1 c1 ∧
    Box3 (((w.alloc (.cells #[.string a0, .string b0, .bool c0] 76)).alloc (.cells #[.string a1, .string b1, .bool c1] 76)).alloc (.cells #[.string ⟨#[]⟩, .string ⟨#[]⟩, .bool false] 76)) (w.heap.size + 1 + 1) ⟨#[]⟩ ⟨#[]⟩ false := by
  have hZ : (w.alloc (.cells #[.string a0, .string b0, .bool c0] 76)).heap.size = w.heap.size + 1 := by simp only [World.alloc, Array.size_push]
  have hZ2 : ((w.alloc (.cells #[.string a0, .string b0, .bool c0] 76)).alloc (.cells #[.string a1, .string b1, .bool c1] 76)).heap.size = w.heap.size + 1 + 1 := by simp only [World.alloc, Array.size_push]
  have hA := ((Blk.new w #[.string a0, .string b0, .bool c0] 76).alloc (.cells #[.string a1, .string b1, .bool c1] 76)).alloc (.cells #[.string ⟨#[]⟩, .string ⟨#[]⟩, .bool false] 76)
  have hB := (Blk.new (w.alloc (.cells #[.string a0, .string b0, .bool c0] 76)) #[.string a1, .string b1, .bool c1] 76).alloc (.cells #[.string ⟨#[]⟩, .string ⟨#[]⟩, .bool false] 76)
  have hC := Blk.new ((w.alloc (.cells #[.string a0, .string b0, .bool c0] 76)).alloc (.cells #[.string a1, .string b1, .bool c1] 76)) #[.string ⟨#[]⟩, .string ⟨#[]⟩, .bool false] 76
  rw [hZ] at hB
  rw [hZ2] at hC
  exact ⟨hA, hB, hC⟩

theorem third_new (w : World) (a0 b0 a1 b1 a2 b2 : ByteArray) (c0 c1 c2 : Bool) :
    Box3 (((w.alloc (.cells #[.string a0, .string b0, .bool c0] 76)).alloc (.cells #[.string a1, .string b1, .bool c1] 76)).alloc (.cells #[.string a2, .string b2, .bool c2] 76)) (w.heap.size + 1 + 1) a2 b2 c2 := by
  have hZ2 : ((w.alloc (.cells #[.string a0, .string b0, .bool c0] 76)).alloc (.cells #[.string a1, .string b1, .bool c1] 76)).heap.size = w.heap.size + 1 + 1 := by simp only [World.alloc, Array.size_push]
  have hC := Blk.new ((w.alloc (.cells #[.string a0, .string b0, .bool c0] 76)).alloc (.cells #[.string a1, .string b1, .bool c1] 76)) #[.string a2, .string b2, .bool c2] 76
  rw [hZ2] at hC
  exact hC

/-- The three boxes of l3Join. -/
structure JoBox (w w1 : World) (a0 b0 a1 b1 : ByteArray) (c0 c1 : Bool) : Prop where
  q : Keeps noB w w1
  bA : Box3 w1 w.heap.size a0 b0 c0
  bB : Box3 w1 (w.heap.size + 1) a1 b1 c1
  bC : Box3 w1 (w.heap.size + 1 + 1) ⟨#[]⟩ ⟨#[]⟩ false
theorem JoBox.start {w w1 : World} {a0 b0 a1 b1 : ByteArray} {c0 c1 : Bool} (q : Keeps noB (((w.alloc (.cells #[.string a0, .string b0, .bool c0] 76)).alloc (.cells #[.string a1, .string b1, .bool c1] 76)).alloc (.cells #[.string ⟨#[]⟩, .string ⟨#[]⟩, .bool false] 76)) w1) : JoBox w w1 a0 b0 a1 b1 c0 c1 := by
  obtain ⟨h1, h2, h3⟩ := three_new w a0 b0 a1 b1 c0 c1
  exact ⟨((((Keeps.refl _ w).alloc _).alloc _).alloc _).trans q, q.blk h1 id, q.blk h2 id, q.blk h3 id⟩
theorem JoBox.keeps {w w1 w2 : World} {a0 b0 a1 b1 : ByteArray} {c0 c1 : Bool} (h : JoBox w w1 a0 b0 a1 b1 c0 c1) (q : Keeps noB w1 w2) : JoBox w w2 a0 b0 a1 b1 c0 c1 := ⟨h.q.trans q, q.blk h.bA id, q.blk h.bB id, q.blk h.bC id⟩
def JoCells (w w1 : World) (a0 b0 a1 b1 : ByteArray) (c0 c1 : Bool) : Prop :=
  w1.cell? ⟨w.heap.size, 0, none⟩ = some (.string a0) ∧ w1.cell? ⟨w.heap.size, 1, none⟩ = some (.string b0) ∧ w1.cell? ⟨w.heap.size, 2, none⟩ = some (.bool c0) ∧
  w1.cell? ⟨w.heap.size + 1, 0, none⟩ = some (.string a1) ∧ w1.cell? ⟨w.heap.size + 1, 1, none⟩ = some (.string b1) ∧ w1.cell? ⟨w.heap.size + 1, 2, none⟩ = some (.bool c1) ∧
  w1.cell? ⟨w.heap.size + 1 + 1, 0, none⟩ = some (.string ⟨#[]⟩) ∧ w1.cell? ⟨w.heap.size + 1 + 1, 1, none⟩ = some (.string ⟨#[]⟩) ∧ w1.cell? ⟨w.heap.size + 1 + 1, 2, none⟩ = some (.bool false) ∧
  w1.frozen? ⟨w.heap.size + 1 + 1, 0, none⟩ = false ∧ w1.frozen? ⟨w.heap.size + 1 + 1, 1, none⟩ = false ∧ w1.frozen? ⟨w.heap.size + 1 + 1, 2, none⟩ = false
theorem JoBox.cells {w w1 : World} {a0 b0 a1 b1 : ByteArray} {c0 c1 : Bool} (h : JoBox w w1 a0 b0 a1 b1 c0 c1) : JoCells w w1 a0 b0 a1 b1 c0 c1 :=
  ⟨(Blk.cell h.bA 0).trans rfl, (Blk.cell h.bA 1).trans rfl, (Blk.cell h.bA 2).trans rfl, (Blk.cell h.bB 0).trans rfl, (Blk.cell h.bB 1).trans rfl, (Blk.cell h.bB 2).trans rfl, (Blk.cell h.bC 0).trans rfl, (Blk.cell h.bC 1).trans rfl, (Blk.cell h.bC 2).trans rfl, Blk.free h.bC 0, Blk.free h.bC 1, Blk.free h.bC 2⟩
theorem JoBox.done {w w1 : World} {a0 b0 a1 b1 : ByteArray} {c0 c1 : Bool} (h : JoBox w w1 a0 b0 a1 b1 c0 c1) (x y z : Value) :
    (((w1.setCell ⟨w.heap.size + 1 + 1, 0, none⟩ x).setCell ⟨w.heap.size + 1 + 1, 1, none⟩ y).setCell ⟨w.heap.size + 1 + 1, 2, none⟩ z).cell? ⟨w.heap.size + 1 + 1, 0, none⟩ = some x ∧
    (((w1.setCell ⟨w.heap.size + 1 + 1, 0, none⟩ x).setCell ⟨w.heap.size + 1 + 1, 1, none⟩ y).setCell ⟨w.heap.size + 1 + 1, 2, none⟩ z).cell? ⟨w.heap.size + 1 + 1, 1, none⟩ = some y ∧
    (((w1.setCell ⟨w.heap.size + 1 + 1, 0, none⟩ x).setCell ⟨w.heap.size + 1 + 1, 1, none⟩ y).setCell ⟨w.heap.size + 1 + 1, 2, none⟩ z).cell? ⟨w.heap.size + 1 + 1, 2, none⟩ = some z ∧
    Keeps noB w (((w1.setCell ⟨w.heap.size + 1 + 1, 0, none⟩ x).setCell ⟨w.heap.size + 1 + 1, 1, none⟩ y).setCell ⟨w.heap.size + 1 + 1, 2, none⟩ z) := by
  have b2 := ((Blk.set h.bC 0 x).set 1 y).set 2 z
  exact ⟨(b2.cell 0).trans rfl, (b2.cell 1).trans rfl, (b2.cell 2).trans rfl, ((h.q.setCell (p := ⟨w.heap.size + 1 + 1, 0, none⟩) (.inr (by show w.heap.size ≤ w.heap.size + 1 + 1; omega)) _).setCell (p := ⟨w.heap.size + 1 + 1, 1, none⟩) (.inr (by show w.heap.size ≤ w.heap.size + 1 + 1; omega)) _).setCell (p := ⟨w.heap.size + 1 + 1, 2, none⟩) (.inr (by show w.heap.size ≤ w.heap.size + 1 + 1; omega)) _⟩

/-- What the loop of l3Join holds. -/
def JoAt (w : World) (a0 b0 a1 b1 : ByteArray) (l b : List UInt8) (vo vi : Value) (wr : World) : Prop :=
  ∃ (i : Nat) (out : ByteArray), i ≤ l.length ∧ vi = .int .i64 (i : Int) ∧ vo = .string out ∧ out.data.toList = (l.take i).filter (fun v => b.contains v) ∧ JoBox w wr a0 b0 a1 b1 true true

set_option maxRecDepth 100000 in
set_option maxHeartbeats 4000000 in
theorem sjoin_left (a b : Kn) (ha : a.Wf) (hb : b.Wf) (hna : a = Kn.no) (w : World) : Calls Try.prog 131 #[stV a, stV b] w (fun e w' => e = .returned (stV (a.join b)) ∧ Keeps noB w w') := by
  have e1 : a.join b = b := by rw [hna]; exact join_no hb.must
  have e2 : liveK a = false := by rw [hna]; exact liveK_no
  rw [e1, stV_eq a, stV_eq b, e2]
  clear e1 e2 ha hb hna
  generalize mayB a = a0 at *
  generalize mustB a = b0 at *
  generalize mayB b = a1 at *
  generalize mustB b = b1 at *
  generalize liveK b = c1 at *
  go_enter Try.func131, Try.ntmps131
  go_wp2_with fail
  have h3 := third_new w a0 b0 a1 b1 a1 b1 false c1 c1
  exact bodyPost_ret (resSt Try.results131 _ (w.heap.size + 1 + 1) _ _ _ _ rfl ((Blk.cell h3 0).trans rfl) ((Blk.cell h3 1).trans rfl) ((Blk.cell h3 2).trans rfl)) rfl ⟨rfl, (((Keeps.refl _ _).alloc _).alloc _).alloc _⟩

set_option maxRecDepth 100000 in
set_option maxHeartbeats 4000000 in
theorem sjoin_right (a b : Kn) (ha : a.Wf) (hb : b.Wf) (hna : a ≠ Kn.no) (hnb : b = Kn.no) (w : World) : Calls Try.prog 131 #[stV a, stV b] w (fun e w' => e = .returned (stV (a.join b)) ∧ Keeps noB w w') := by
  have e1 : a.join b = a := by rw [hnb, join_comm]; exact join_no ha.must
  have e2 : liveK b = false := by rw [hnb]; exact liveK_no
  have e3 : liveK a = true := liveK_yes hna
  rw [e1, stV_eq a, stV_eq b, e2, e3]
  clear e1 e2 e3 ha hb hna hnb
  generalize mayB a = a0 at *
  generalize mustB a = b0 at *
  generalize mayB b = a1 at *
  generalize mustB b = b1 at *
  go_enter Try.func131, Try.ntmps131
  go_wp2_with fail
  have h3 := third_new w a0 b0 a1 b1 a0 b0 true false true
  exact bodyPost_ret (resSt Try.results131 _ (w.heap.size + 1 + 1) _ _ _ _ rfl ((Blk.cell h3 0).trans rfl) ((Blk.cell h3 1).trans rfl) ((Blk.cell h3 2).trans rfl)) rfl ⟨rfl, (((Keeps.refl _ _).alloc _).alloc _).alloc _⟩

set_option maxRecDepth 100000 in
set_option maxHeartbeats 4000000 in
theorem sjoin_live (a b : Kn) (ha : a.Wf) (hb : b.Wf) (hna : a ≠ Kn.no) (hnb : b ≠ Kn.no) (w : World) : Calls Try.prog 131 #[stV a, stV b] w (fun e w' => e = .returned (stV (a.join b)) ∧ Keeps noB w w') := by
  have hj : a.join b ≠ Kn.no := join_live ha hna
  have hml : (mustL a).length ≤ 6 := mustL_len a
  have hsv : (mustB a).size = (mustL a).length := by unfold mustB; exact size_arr _
  have hget : ∀ (i : Nat) (hi : i < (mustB a).size), (mustL a)[i]? = some (mustB a)[i] := by
    intro i hi
    rw [List.getElem?_eq_getElem (by omega)]
    rfl
  have hbl : (mustB b).data.toList = mustL b := by unfold mustB; rw [List.toList_toArray]
  have hfin : (mustL a).filter (fun v => (mustL b).contains v) = mustL (a.join b) := by
    rw [mustL_live hna, mustL_live hnb, mustL_live hj]; exact lets_and _ _
  have hsb : (mustB b).size ≤ 6 := by unfold mustB; rw [size_arr]; exact mustL_len b
  have hsa : (mayB a).size ≤ 6 := by unfold mayB; rw [size_arr]; exact mayL_len a
  have hsa1 : (mayB b).size ≤ 6 := by unfold mayB; rw [size_arr]; exact mayL_len b
  have HF := Lib.hid (fun c w => find_any (mustB b) c w (by omega))
  have HM : Hid (∀ c, c ∈ mustL b → 0 ≤ findI (mustB b) c) := fun c hc => findI_mem (by rw [hbl]; exact hc)
  have HO : Hid (∀ c, ¬ c ∈ mustL b → findI (mustB b) c = -1) := fun c hc => findI_not (by rw [hbl]; exact hc)
  have HX : Hid (∀ (i : Nat) (hi : i < (mustB a).size), ((mustL a).take (i + 1)).filter (fun v => (mustL b).contains v) = ((mustL a).take i).filter (fun v => (mustL b).contains v) ++ (if (mustB a)[i] ∈ mustL b then [(mustB a)[i]] else [])) := fun i hi => by
    rw [List.take_add_one, hget i hi, List.filter_append]
    congr 1
    by_cases h : (mustB a)[i] ∈ mustL b
    · simp [h]
    · simp [h]
  have HSO : Hid (∀ w, Calls Try.prog 45 #[.string (mayB a ++ mayB b)] w (fun e w' => e = .returned (.string (mayB (a.join b))) ∧ Keeps noB w w')) := fun w => by
    have := sorted_any (mayB a ++ mayB b) (by rw [ByteArray.size_append]; omega) w
    rw [ByteArray.data_append, Array.toList_append] at this
    have e : sortedOf ((mayB a).data.toList ++ (mayB b).data.toList) = mayL (a.join b) := by
      unfold mayB mayL; rw [List.toList_toArray, List.toList_toArray]; exact lets_or _ _
    rwa [e] at this
  have HMJ : Hid (∀ o : ByteArray, o.data.toList = mustL (a.join b) → Value.string o = .string (mustB (a.join b))) := fun o ho => str_eq ho
  have hlj : liveK (a.join b) = true := liveK_yes hj
  rw [stV_eq a, stV_eq b, stV_eq (a.join b), liveK_yes hna, liveK_yes hnb, hlj]
  generalize mayB (a.join b) = aj at *
  generalize mustB (a.join b) = bj at *
  generalize mayB a = a0 at *
  generalize mustB a = b0 at *
  generalize mayB b = a1 at *
  generalize mustB b = b1 at *
  generalize mustL (a.join b) = lj at *
  generalize mustL a = la at *
  generalize mustL b = lb at *
  have HS := Lib.hid (And.intro hsv (And.intro hml hfin))
  have HP : Hid (JoAt w a0 b0 a1 b1 la lb (.string ⟨#[]⟩) (.int .i64 0) (((w.alloc (.cells #[.string a0, .string b0, .bool true] 76)).alloc (.cells #[.string a1, .string b1, .bool true] 76)).alloc (.cells #[.string ⟨#[]⟩, .string ⟨#[]⟩, .bool false] 76))) := ⟨0, ⟨#[]⟩, Nat.zero_le _, rfl, rfl, rfl, JoBox.start (Keeps.refl _ _)⟩
  have hsz1 : (b0.size : Int) ≤ 6 := by omega
  have hos : a0.size + a1.size ≤ 9223372036854775807 := by omega
  clear hsv hget hbl hfin hsb ha hb hna hnb hj hml hlj
  go_enter Try.func131, Try.ntmps131
  go_wp2_with fail
  go_loopw [5, 20] (fun vo vi wr => JoAt w a0 b0 a1 b1 la lb vo vi wr) (fun _ vi _ => b0.size - (intOf vi).toNat)
  case atStart => exact HP.out
  case round =>
    clear HP
    obtain ⟨i, out, hil, rfl, rfl, hout, hbx⟩ := hrel
    by_cases hi : i < b0.size
    · have hnx := HX.out i hi
      have hoz : out.size ≤ 6 := by
        have e : out.size = ((la.take i).filter (fun v => lb.contains v)).length := by rw [← hout]; simp
        rw [e]
        refine Nat.le_trans (List.length_filter_le _ _) ?_
        rw [List.length_take]
        have := HS.out.2.1
        omega
      have hi0 : (0 : Int) ≤ (i : Int) := by omega
      have hi1 : (i : Int) < (b0.size : Int) := by omega
      have h3 : ((i : Int) + 1).toNat = i + 1 := by omega
      have h5 : (i : Int) + 1 ≤ (b0.size : Int) := by omega
      have h6 : (i : Int) ≤ (i : Int) + 1 := by omega
      have h7 : (0 : Int) ≤ (i : Int) + 1 := by omega
      have hxo := extract_one hi
      have hilt : i + 1 ≤ la.length := by have := HS.out.1; omega
      have HN : Hid (∀ (o : ByteArray) (W : World), o.data.toList = (la.take (i + 1)).filter (fun v => lb.contains v) → Keeps noB wr W → JoAt w a0 b0 a1 b1 la lb (.string o) (.int .i64 ((i : Int) + 1)) W) := fun o W ho q =>
        ⟨i + 1, o, hilt, by simp, rfl, ho, hbx.keeps q⟩
      have HBX := Lib.hid hbx
      have HFc := Lib.hid (fun w => HF.out b0[i] w)
      have hxz : (b0.extract i (i + 1)).size = 1 := by
        have e : (b0.extract i (i + 1)).size = (b0.extract i (i + 1)).data.toList.length := by rw [Array.length_toList]; rfl
        rw [e, hxo]; rfl
      have hcz : out.size + (b0.extract i (i + 1)).size ≤ 9223372036854775807 := by omega
      by_cases hm : b0[i] ∈ lb
      · rw [if_pos hm] at hnx
        have hf : 0 ≤ findI b1 b0[i] := HM.out _ hm
        have HY : Hid ((out ++ b0.extract i (i + 1)).data.toList = (la.take (i + 1)).filter (fun v => lb.contains v)) := Lib.hid (by rw [hnx, ByteArray.data_append, Array.toList_append, hout, hxo])
        generalize findI b1 b0[i] = fi at *
        obtain ⟨x1, hx1⟩ : ∃ x1 : Int, (b0[i].toNat : Int) = x1 := ⟨_, rfl⟩
        rw [hx1] at HFc
        clear hnx hout hxo hoz hm HX HM HO HF hxz hbx
        go_wp2_with fail
        refine wp_region_still_tail 7 (by kernel_rfl) (by kernel_rfl) ?_
        simp only [List.take_succ_cons, List.take_zero, List.drop_succ_cons, List.drop_zero]
        change wpStill _ _ (World.drew _) (fun a' => wpList _ _ _ _ a' (World.drew _)) _ _
        have HQ : Hid (Keeps noB wr (World.drew wr)) := (Keeps.refl _ _).drew
        generalize World.drew wr = w5 at *
        have ⟨t0, t1, t2, t3, t4, t5, t6, t7, t8, t9, t10, t11⟩ := (HBX.out.keeps HQ.out).cells
        still_step
        still_step
        still_step
        still_step
        still_step
        still_step
        still_call (HFc.out _)
        refine wpStill_nil ?_
        go_wp2_with fail
        exact ⟨HN.out _ _ HY.out HQ.out, by simp [intOf]; omega⟩
      · rw [if_neg hm, List.append_nil] at hnx
        have hf : findI b1 b0[i] = -1 := HO.out _ hm
        have hd1 : decide ((0 : Int) ≤ -1) = false := rfl
        rw [hf] at HFc
        have HY : Hid (out.data.toList = (la.take (i + 1)).filter (fun v => lb.contains v)) := Lib.hid (by rw [hnx, hout])
        obtain ⟨x1, hx1⟩ : ∃ x1 : Int, (b0[i].toNat : Int) = x1 := ⟨_, rfl⟩
        rw [hx1] at HFc
        clear hnx hout hxo hoz hm HX HM HO HF hxz hcz hbx hf
        go_wp2_with fail
        refine wp_region_still_tail 7 (by kernel_rfl) (by kernel_rfl) ?_
        simp only [List.take_succ_cons, List.take_zero, List.drop_succ_cons, List.drop_zero]
        change wpStill _ _ (World.drew _) (fun a' => wpList _ _ _ _ a' (World.drew _)) _ _
        have HQ : Hid (Keeps noB wr (World.drew wr)) := (Keeps.refl _ _).drew
        generalize World.drew wr = w5 at *
        have ⟨t0, t1, t2, t3, t4, t5, t6, t7, t8, t9, t10, t11⟩ := (HBX.out.keeps HQ.out).cells
        still_step
        still_step
        still_step
        still_step
        still_step
        still_step
        still_call (HFc.out _)
        refine wpStill_nil ?_
        go_wp2_with fail
        exact ⟨HN.out _ _ HY.out HQ.out, by simp [intOf]; omega⟩
    · have hie : i = la.length := by have := HS.out.1; omega
      have HE : Hid (Value.string out = .string bj) := HMJ.out out (by rw [hout, hie, List.take_length]; exact HS.out.2.2)
      have hi1 : ¬ (i : Int) < (b0.size : Int) := by omega
      have ⟨t0, t1, t2, t3, t4, t5, t6, t7, t8, t9, t10, t11⟩ := hbx.cells
      have HBX := Lib.hid hbx
      clear hout hie HX HF HM HO HMJ hbx
      go_wp2_with (go_at_call 45; refine (HSO.out _).mono ?_; rintro e6 w6 ⟨rfl, q6⟩; have hb := HBX.out.keeps q6; have ⟨s0, s1, s2, s3, s4, s5, s6, s7, s8, s9, s10, s11⟩ := hb.cells; have HY := Lib.hid (hb.done (.string aj) (.string out) (.bool true)); clear q6 hb)
      obtain ⟨f0, f1, f2, f3⟩ := HY.out
      refine bodyPost_ret (resSt Try.results131 _ (w.heap.size + 1 + 1) _ _ _ _ rfl f0 f1 f2) rfl ⟨?_, f3⟩
      rw [HE.out]

theorem sjoin_any (a b : Kn) (ha : a.Wf) (hb : b.Wf) (w : World) : Calls Try.prog 131 #[stV a, stV b] w (fun e w' => e = .returned (stV (a.join b)) ∧ Keeps noB w w') := by
  by_cases hna : a = Kn.no
  · exact sjoin_left a b ha hb hna w
  · by_cases hnb : b = Kn.no
    · exact sjoin_right a b ha hb hna hnb w
    · exact sjoin_live a b ha hb hna hnb w

end Go.Proofs.Ytlilkmemgomnjaa

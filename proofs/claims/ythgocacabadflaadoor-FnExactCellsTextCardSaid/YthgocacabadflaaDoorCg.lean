/-
  The program's CellsText.
-/
import Derived.Test.YthgocacabadflaaDoorCf
namespace Go.Proofs.YthgocacabadflaaDoor
set_option linter.unusedVariables false
set_option linter.unusedSimpArgs false
open Go.RowKit

theorem resCt (W : World) (v b : Value) (tmps : Array Value) (h2 : tmps.getD 2 undef = v) (h3 : tmps.getD 3 undef = b) : (results Tryd.f30 tmps).run Tryd.prog W = .ok (.tuple #[v, b]) W := by
  have h2' : tmps[2]?.getD undef = v := by simpa using h2
  have h3' : tmps[3]?.getD undef = b := by simpa using h3
  simp [results, Tryd.results30, go_sem, h2', h3']

theorem zWriter : Tryd.zeroCells78 = #[.pointer none, .slice none 0 0, .int .i64 0] ++ Array.replicate 600 (.int .i64 0) ++ #[.string ⟨#[]⟩] := by kernel_rfl

def shS (l : List Ev) (i : Nat) : Nat → Nat := if i = 0 then fun _ => 0 else insS freeN (l.take i)
def rowS (l : List Ev) (N i : Nat) : ByteArray := if i = 0 then ⟨#[]⟩ else ⟨(rowB (insS freeN (l.take i)) N).toArray⟩

theorem writer0 (W : World) (N : Nat) (l : List Ev) (Z : Array Value) (hZ : Z = Tryd.zeroCells78.setIfInBounds 2 (.int .i64 (N : Int))) :
    WrK (W.alloc (.cells Z 78)) (fun k => k = W.heap.size) W.heap.size (ctext freeN l N 0) N (shS l 0) (rowS l N 0) := by
  have hz : Tryd.zeroCells78.size = 604 := by rw [zWriter]; simp
  refine ⟨Z, ⟨.pointer none, .slice none 0 0, .inl rfl, Blk.new W _ _, by rw [hZ]; simp [hz], ?_, ?_, ⟨rfl, .inl ⟨rfl, rfl⟩⟩, rfl, fun g hg => by simp [Value.ownBlock] at hg⟩, ?_, fun i hi => ?_, ?_⟩
  · rw [hZ, arr_set_ne (by omega), zWriter, Array.getElem?_append_left (by simp), Array.getElem?_append_left (by simp)]; rfl
  · rw [hZ, arr_set_ne (by omega), zWriter, Array.getElem?_append_left (by simp), Array.getElem?_append_left (by simp)]; rfl
  · rw [hZ]; exact arr_set_eq (by omega) _
  · rw [hZ, arr_set_ne (by omega), zWriter, Array.getElem?_append_left (by simp; omega), Array.getElem?_append_right (by simp)]
    simp [hi, shS]
  · rw [hZ, arr_set_ne (by omega), zWriter, Array.getElem?_append_right (by simp)]
    simp [rowS]

/-- What the loop of CellsText holds. -/
def CtAt (g R b : Nat) (w1 : World) (l : List Ev) (C N : Nat) (vi : Value) (wr : World) : Prop :=
  ∃ (i : Nat) (oR oW : Nat → Prop), i ≤ N ∧ vi = .int .i64 (i : Int) ∧ RoomK (FreeK g) freeN (.iface 53 (.pointer (some ⟨g, 0, none⟩))) R wr oR (l.take i) ∧ WrK wr oW b (ctext freeN l C i) C (shS l i) (rowS l C i) ∧
    (∀ k, oR k → ¬ oW k) ∧ (∀ k, oR k → w1.heap.size ≤ k ∧ k < wr.heap.size) ∧ (∀ k, oW k → w1.heap.size ≤ k ∧ k < wr.heap.size) ∧ Keeps noB w1 wr

theorem room_cells {K : World → (Nat → Prop) → List Nat → Prop} {pick : List Nat → Nat} {kv : Value} {R : Nat} {W : World} {own : Nat → Prop} {l : List Ev} (h : RoomK K pick kv R W own l) : own R ∧ ∀ i, i < 600 → W.cell? ⟨R, 1 + i, none⟩ = some (.int .i64 (insS pick l i : Int)) := by
  obtain ⟨oK, vo, cs, h⟩ := h
  exact ⟨h.ownR, fun i hi => (h.blk.cell _).trans (h.ins i hi)⟩

set_option maxRecDepth 100000 in
set_option maxHeartbeats 16000000 in
theorem cellsText_any (s : ByteArray) (hs : s.size ≤ 1048576) (w : World) (hE : Env w) : Calls Tryd.prog 30 #[.string s] w (CtP w (readP s)) := by
  have H := Lib.hid (historyOf_any s hs w hE)
  have HCC := Lib.hid (fun w hE => countCells_any s hs w hE)
  have HEE := Lib.hid hE
  clear hE
  cases hr : readP s with
  | none =>
    rw [hr] at H
    go_enter Tryd.func30, Tryd.ntmps30
    go_wp2_with fail
    refine H.out.mono ?_
    rintro e w1 ⟨⟨tp, q, rfl⟩, q1⟩
    have HQ := Lib.hid q1
    clear q1
    go_wp2_with fail
    refine bodyPost_ret (resCt _ _ _ _ rfl rfl) rfl ?_
    exact ⟨rfl, HQ.out⟩
  | some l =>
    obtain ⟨hg, hgl⟩ := readP_good hr
    rw [hr] at H HCC
    obtain ⟨N, hN⟩ : ∃ N, N = l.length := ⟨_, rfl⟩
    by_cases hl0 : l = []
    · subst hl0
      clear hg hgl hr hN
      go_enter Tryd.func30, Tryd.ntmps30
      go_wp2_with fail
      refine H.out.mono ?_
      rintro e w1 ⟨⟨H1, ownH, ve, vl, rfl, hh, hlow⟩, q1⟩
      obtain ⟨a, c, rfl⟩ := hh.shape.1
      have r0 := hh.blk.cell 0
      simp at r0
      have HQ := Lib.hid q1
      clear hh hlow q1
      go_wp2_with fail
      refine bodyPost_ret (resCt _ _ _ _ rfl rfl) rfl ?_
      exact ⟨rfl, HQ.out⟩
    obtain ⟨hC1, hC2⟩ := cellN_bnd picks_free hg hgl hl0
    obtain ⟨C, hC⟩ : ∃ C, C = cellN freeN l := ⟨_, rfl⟩
    rw [← hC] at hC1 hC2
    have HCN : Hid (∀ w, Env w → Calls Tryd.prog 19 #[.string s] w (CountP w (C : Int))) := Lib.hid (fun w hE => by rw [hC]; exact HCC.out w hE)
    have HCT : Hid (cellsT (some l) = ⟨(ctext freeN l C N).toArray⟩) := Lib.hid (by rw [hC, hN]; exact if_neg hl0)
    have hN0 : 0 < N := by rw [hN]; exact List.length_pos_iff.2 hl0
    have HNE := Lib.hid (ctext_ne freeN hg hgl hC2 (k := N) (by omega))
    have HFI : Hid (insS freeN (l.take 1) 0 ≠ 0) := Lib.hid (insS_first hg (by omega))
    have HLE : Hid (∀ k, k ≤ N → (ctext freeN l C k).length ≤ 90000000) := Lib.hid (fun k hk => by have := ctext_len freeN hg hgl hC1 k; omega)
    have HLT := Lib.hid (fun k i => insS_lt freeN hg hgl k i)
    have hNz : ((N : Int) == 0) = false := by rw [beq_eq_false_iff_ne]; omega
    rw [← hN] at hgl
    have HN := Lib.hid hN
    have HG := Lib.hid hg
    have HCB := Lib.hid (And.intro hC1 hC2)
    clear hg hr hN hl0 hC hC1 hC2 HCC hN0
    go_enter Tryd.func30, Tryd.ntmps30
    go_wp2_with fail
    refine H.out.mono ?_
    rintro e w1 ⟨⟨H1, ownH, ve, vl, rfl, hh, hlow⟩, q1⟩
    obtain ⟨a, c, rfl⟩ := hh.shape.1
    have r0 := hh.blk.cell 0
    simp at r0
    rw [← HN.out] at r0
    have HH := Lib.hid (And.intro hh q1)
    have HE1 := Lib.hid (HEE.out.keeps q1 (fun _ _ e => e))
    clear hh q1 hlow
    go_wp2_with fail
    refine (HCN.out _ HE1.out).mono ?_
    rintro e w2 ⟨rfl, q2⟩
    have hz12 := HE1.out.sz
    have r2 : w2.cell? ⟨H1, 0, none⟩ = some (.slice a N c) := (q2.cell (p := ⟨H1, 0, none⟩) HH.out.1.blk.lt id).trans r0
    have hH2 : H1 < w2.heap.size := Nat.lt_of_lt_of_le HH.out.1.blk.lt q2.size
    obtain ⟨b, hb⟩ : ∃ b, b = w2.heap.size := ⟨_, rfl⟩
    obtain ⟨G, hG⟩ : ∃ G, G = b + 1 := ⟨_, rfl⟩
    obtain ⟨R, hRR⟩ : ∃ R, R = G + 1 := ⟨_, rfl⟩
    obtain ⟨Zw, hZw⟩ : ∃ Zw, Zw = Tryd.zeroCells78.setIfInBounds 2 (.int .i64 (C : Int)) := ⟨_, rfl⟩
    obtain ⟨w3, hw3⟩ : ∃ w3, w3 = w2.alloc (.cells Zw 78) := ⟨_, rfl⟩
    obtain ⟨w4, hw4⟩ : ∃ w4, w4 = w3.alloc (.cells #[.slice none 0 0, .int .i64 0] 56) := ⟨_, rfl⟩
    obtain ⟨Zr, hZr⟩ : ∃ Zr, Zr = Tryd.zeroCells83.setIfInBounds 0 (.iface 53 (.pointer (some ⟨G, 0, none⟩))) := ⟨_, rfl⟩
    obtain ⟨w5, hw5⟩ : ∃ w5, w5 = w4.alloc (.cells Zr 83) := ⟨_, rfl⟩
    have hs3 : w3.heap.size = G := by rw [hw3, hG, hb, World.size_alloc]
    have hs4 : w4.heap.size = R := by rw [hw4, World.size_alloc, hs3, hRR]
    have hs5 : w5.heap.size = R + 1 := by rw [hw5, World.size_alloc, hs4]
    have hwr := writer0 w2 C l Zw hZw
    rw [← hw3, ← hb] at hwr
    have hfr := free0 w3 #[.slice none 0 0, .int .i64 0] rfl
    rw [← hw4, hs3] at hfr
    have hrm := room0_new (staysF G) freeN (.iface 53 (.pointer (some ⟨G, 0, none⟩))) w4 (fun k => k = G) hfr (fun k hk => by omega) Zr hZr
    rw [← hw5, hs4] at hrm
    have q34 : Keeps noB w3 w5 := by rw [hw5, hw4]; exact ((Keeps.refl _ _).alloc _).alloc _
    have q25 : Keeps noB w2 w5 := by rw [hw5, hw4, hw3]; exact (((Keeps.refl _ _).alloc _).alloc _).alloc _
    have q15 := q2.trans q25
    have hs12 := q2.size
    have HP : Hid (CtAt G R b w1 l C N (.int .i64 0) w5) := Lib.hid ⟨0, _, _, Nat.zero_le _, rfl, hrm, hwr.keeps q34 (fun _ _ e => e), fun k hk e => by omega, fun k hk => by omega, fun k hk => by have hk : k = b := hk; omega, q15⟩
    have HR : Hid (∀ i wr, Keeps noB w1 wr → i < N → ∃ g e, a = some ⟨g, 0, none⟩ ∧ N ≤ c ∧ l[i]? = some e ∧ wr.cell? ⟨g, i * 2, none⟩ = some (.int .u8 (e.k.toNat : Int)) ∧ wr.cell? ⟨g, i * 2 + 1, none⟩ = some (.int .i64 (e.n : Int))) := Lib.hid (fun i wr q hi => by
      have hl := HN.out
      obtain ⟨g', d, e, hc, hgl, hk⟩ := row_capM (ok := fun _ => True) HH.out.1.evs (by omega)
      simp only [Value.slice.injEq, true_and] at e
      obtain ⟨rfl, rfl⟩ := e
      have hm := List.getElem?_eq_getElem (l := l) (i := i) (by omega)
      obtain ⟨g0, g1⟩ := evC_get l i _ hm
      rw [show 2 * i = i * 2 by omega] at g0 g1
      exact ⟨g', _, rfl, by omega, hm, (q.cell (p := ⟨g', i * 2, none⟩) hgl id).trans (hk _ _ g0).1, (q.cell (p := ⟨g', i * 2 + 1, none⟩) hgl id).trans (hk _ _ g1).1⟩)
    have HHAP := Lib.hid (fun W own l ev h hlt hg hf hl => happenF_any G R W own l ev h hlt hg hf hl)
    have HZ := Lib.hid (And.intro hZw (And.intro hZr (And.intro hw3 (And.intro hw4 hw5))))
    have HB := Lib.hid (And.intro hb (And.intro hG (And.intro hRR hs5)))
    have h1 : ¬ H1 = w2.heap.size := by omega
    have h2 : ¬ H1 = w2.heap.size + 1 := by omega
    have h3 : ¬ H1 = w2.heap.size + 1 + 1 := by omega
    have r5 : w5.cell? ⟨H1, 0, none⟩ = some (.slice a N c) := (q25.cell (p := ⟨H1, 0, none⟩) hH2 id).trans r2
    have HX := Lib.hid (And.intro q15 (And.intro hz12 r5))
    clear hb hG hRR hZw hZr hw3 hw4 hw5 hs3 hs4 hs5 hwr hfr hrm q34 q25 q15 q2 hs12 r0 hz12 r5
    go_upto_region 8 with fail
    rw [← HB.out.1, ← HB.out.2.1, ← HB.out.2.2.1, ← HZ.out.1, ← HZ.out.2.1, ← HZ.out.2.2.1, ← HZ.out.2.2.2.1, ← HZ.out.2.2.2.2]
    have r5 := HX.out.2.2
    go_wp2_with fail
    go_loopw [37] (fun vi wr => CtAt G R b w1 l C N vi wr) (fun vi _ => N - (intOf vi).toNat)
    case atStart => exact HP.out
    case round =>
      clear HP
      obtain ⟨i, oR, oW, hin, rfl, hrm, hwr, hdis, hoR, hoW, hq⟩ := hrel
      by_cases hlt : i < N
      · obtain ⟨gl, ev, rfl, hc, hm, r1, r2'⟩ := HR.out i wr hq hlt
        have hi1 : (i : Int) < (N : Int) := by omega
        have hi2 : (N : Int) ≤ (c : Int) := by omega
        have hi6 : (i : Int) ≤ 600 := by omega
        have hfit := (HG.out.at i ev hm).2
        have hti : (l.take i).length < 600 := by rw [List.length_take]; omega
        have q0 : Keeps noB wr (wr.alloc (.cells #[.int .u8 (ev.k.toNat : Int), .int .i64 (ev.n : Int)] 63)) := (Keeps.refl _ _).alloc _
        have hs0 := q0.size
        have HC := Lib.hid (HHAP.out _ oR (l.take i) ev (hrm.keeps (staysF G) q0 (fun _ _ e => e)) (fun k hk => Nat.lt_of_lt_of_le (hoR k hk).2 hs0) (HG.out.take i) hfit hti)
        have hst : l.take (i + 1) = l.take i ++ [ev] := by rw [List.take_add_one, hm]; rfl
        rw [← hst] at HC
        have HS := Lib.hid (And.intro hwr (And.intro hdis (And.intro hoR (And.intro hoW (And.intro hq q0)))))
        have HS0 := Lib.hid hs0
        obtain ⟨kb, hkb⟩ : ∃ kb : Int, kb = (ev.k.toNat : Int) := ⟨_, rfl⟩
        rw [← hkb] at r1 HC HS HS0
        clear hfit hti hm q0 hst hkb hrm hwr hdis hoR hoW hq hs0
        go_wp2_with fail
        refine HC.out.mono ?_
        rintro e5 w6 ⟨rfl, oR', o5, k5⟩
        have HK := Lib.hid (And.intro o5 k5)
        clear o5 k5
        have HD : Hid (∀ k, oR' k → ¬ oW k) := Lib.hid (fun k hk e => by
          rcases HK.out.1.more k hk with h | h
          · exact HS.out.2.1 k h e
          · have := (HS.out.2.2.2.1 k e).2; have := HS0.out; omega)
        have HQ6 : Hid (Keeps noB w1 w6) := Lib.hid ((HS.out.2.2.2.2.1.trans HS.out.2.2.2.2.2).transNew HK.out.1.keeps (fun k hk e => by have := (HS.out.2.2.1 k e).1; omega))
        have HS6 : Hid (wr.heap.size ≤ w6.heap.size) := Lib.hid (Nat.le_trans HS0.out HK.out.1.keeps.size)
        have HWR := Lib.hid (write_any b R C (insS freeN (l.take (i + 1))) (shS l i) (ctext freeN l C i) (rowS l C i) oW w6 ((HS.out.1.keeps HS.out.2.2.2.2.2 (fun _ _ e => e)).keeps HK.out.1.keeps (fun k hk e => HS.out.2.1 k e hk))
          (fun k hk => Nat.lt_of_lt_of_le (HS.out.2.2.2.1 k hk).2 HS6.out) (fun k hk => by have := (HS.out.2.2.2.1 k hk).1; have := HX.out.2.1; omega) (HE1.out.keeps HQ6.out (fun _ _ e => e)) HCB.out.1 HCB.out.2 (HLT.out (i + 1)) (HLE.out i (by omega))
          (HK.out.1.lt R (room_cells HK.out.2).1) (HD.out R (room_cells HK.out.2).1) (room_cells HK.out.2).2 (fun h => by
            by_cases hi0 : i = 0
            · subst hi0
              exact absurd (h 0 (by omega)) (by unfold shS; rw [if_pos rfl]; exact HFI.out)
            · unfold rowS
              rw [if_neg hi0]
              unfold shS at h
              rw [if_neg hi0] at h
              rw [rowB_same C (fun j hj => h j (by have := HCB.out.1; omega))]))
        go_wp2_with fail
        refine HWR.out.mono ?_
        rintro e7 w7 ⟨rfl, oW', o7, k7⟩
        have HE : Hid (CtAt G R b w1 l C N (.int .i64 ((i : Int) + 1)) w7) := Lib.hid (by
          refine ⟨i + 1, oR', oW', hlt, by go_num, HK.out.2.keeps (staysF G) o7.keeps (fun k hk e => HD.out k hk e), ?_, fun k hk e => ?_, fun k hk => ⟨?_, ?_⟩, fun k hk => ⟨?_, o7.lt k hk⟩, HQ6.out.transNew o7.keeps (fun k hk e => by have := (HS.out.2.2.2.1 k e).1; omega)⟩
          · have e1 : shS l (i + 1) = insS freeN (l.take (i + 1)) := by unfold shS; rw [if_neg (by omega)]
            have e2 : rowS l C (i + 1) = ⟨(rowB (insS freeN (l.take (i + 1))) C).toArray⟩ := by unfold rowS; rw [if_neg (by omega)]
            rw [e1, e2]
            exact k7
          · rcases o7.more k e with h | h
            · exact HD.out k hk h
            · have := HK.out.1.lt k hk; omega
          · rcases HK.out.1.more k hk with h | h
            · exact (HS.out.2.2.1 k h).1
            · have := HS.out.2.2.2.2.1.size; have := HS0.out; omega
          · exact Nat.lt_of_lt_of_le (HK.out.1.lt k hk) o7.keeps.size
          · rcases o7.more k hk with h | h
            · exact (HS.out.2.2.2.1 k h).1
            · have := HQ6.out.size; omega)
        clear o7 k7
        go_wp2_with fail
        go_roundw
        case rel => exact HE.out
        case measure => simp [intOf]; omega
      · have hi1 : ¬ (i : Int) < (N : Int) := by omega
        have hiN : i = N := by omega
        subst hiN
        obtain ⟨cs, hw⟩ := hwr
        have HST := Lib.hid (bstring_anyX b cs _ oW wr hw.bld HNE.out)
        have HS := Lib.hid (And.intro hoW hq)
        clear hrm hw hdis hoR hoW hq
        go_wp2_with fail
        refine HST.out.mono ?_
        rintro e8 w8 ⟨rfl, q8⟩
        have HE : Hid (Keeps noB w w8) := Lib.hid ((HH.out.2.trans HS.out.2).transNew q8 (fun k hk e => by have := (HS.out.1 k e).1; have := HH.out.2.size; omega))
        clear q8
        go_wp2_with fail
        refine bodyPost_ret (resCt _ _ _ _ rfl rfl) rfl ?_
        exact ⟨by rw [HCT.out]; rfl, HE.out⟩

end Go.Proofs.YthgocacabadflaaDoor

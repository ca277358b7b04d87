/-
  CellsFor and StackCells, on both sides.
-/
import Derived.Test.YthgocacabadflaaDoorUn
import Derived.Test.YthgocacabadflaaDoorUo
import Derived.Test.YthgocacabadflaaDoorUe
import Derived.Test.YthgocacabadflaaDoorRqa
namespace Go.Proofs.YthgocacabadflaaDoor
set_option linter.unusedVariables false
set_option linter.unusedSimpArgs false
open Go.RowKit

theorem zRoom : Tryd.zeroCells83 = #[.nilIface] ++ Array.replicate 600 (.int .i64 0) ++ #[.slice none 0 0] := by kernel_rfl
theorem zStack : Tryd.zeroCells67 = Array.replicate 600 (.bool false) ++ #[.int .i64 0] := by kernel_rfl

def cellsV (pick : List Nat → Nat) : Option (List Ev) → List Nat
  | none => []
  | some l => (cellsS pick l).O

/-- An answer of a list of numbers and whether there is one; blocks of oK may turn. -/
def NumsBy (w : World) (oK : Nat → Prop) (L : List Nat) (b : Bool) (e : Ending) (w' : World) : Prop :=
  ∃ v, e = .returned (.tuple #[v, .bool b]) ∧ NRow w' v L ∧ (∀ g, v.ownBlock = some g → w.heap.size ≤ g) ∧ Keeps oK w w'

theorem resCb (W : World) (v b : Value) (tmps : Array Value) (h2 : tmps.getD 4 undef = v) (h3 : tmps.getD 5 undef = b) : (results Tryd.f38 tmps).run Tryd.prog W = .ok (.tuple #[v, b]) W := by
  have h2' : tmps[4]?.getD undef = v := by simpa using h2
  have h3' : tmps[5]?.getD undef = b := by simpa using h3
  simp [results, Tryd.results38, go_sem, h2', h3']

/-- A room that is made. -/
theorem room0_new {K : World → (Nat → Prop) → List Nat → Prop} (hK : Stays K) (pick : List Nat → Nat) (kv : Value) (W : World) (oK : Nat → Prop) (hk : K W oK []) (hlt : ∀ k, oK k → k < W.heap.size) (Z : Array Value) (hZ : Z = Tryd.zeroCells83.setIfInBounds 0 kv) :
    RoomK K pick kv W.heap.size (W.alloc (.cells Z 83)) (fun k => k = W.heap.size ∨ oK k) [] := by
  have hz : Tryd.zeroCells83.size = 602 := by rw [zRoom]; simp
  refine ⟨oK, .slice none 0 0, Z, Blk.new W _ _, ?_, fun i hi => ?_, ?_, ⟨rfl, .inl ⟨rfl, rfl⟩⟩, hK _ _ _ _ _ hk ((Keeps.refl noB W).alloc _) (fun _ _ e => e), .inl rfl, fun g hg => by simp [Value.ownBlock] at hg, fun k hk => ⟨.inr hk, fun e => by have := hlt k hk; omega⟩, fun g hg => by simp [Value.ownBlock] at hg⟩
  · rw [hZ, Array.getElem?_setIfInBounds_self_of_lt (by omega)]
  · rw [hZ, Array.getElem?_setIfInBounds_ne (by omega), zRoom]
    rw [Array.getElem?_append_left (by simp; omega), Array.getElem?_append_right (by simp)]
    simp [hi]
    rfl
  · rw [hZ, Array.getElem?_setIfInBounds_ne (by omega), zRoom]
    rw [Array.getElem?_append_right (by simp)]
    simp

/-- What the loop of cellsBy holds. -/
def CbAtF (g R : Nat) (w2 : World) (oK : Nat → Prop) (l : List Ev) (N : Nat) (vi : Value) (wr : World) : Prop :=
  ∃ (i : Nat) (own' : Nat → Prop), i ≤ N ∧ vi = .int .i64 (i : Int) ∧ Owns (fun k => k = R ∨ oK k) own' w2 wr ∧ RoomK (FreeK g) freeN (.iface 53 (.pointer (some ⟨g, 0, none⟩))) R wr own' (l.take i)

set_option maxRecDepth 100000 in
set_option maxHeartbeats 16000000 in
theorem cellsByF_any (s : ByteArray) (hs : s.size ≤ 1048576) (w : World) (hE : Env w) (g : Nat) (oK : Nat → Prop) (hk : FreeK g w oK []) (hlt : ∀ k, oK k → k < w.heap.size) :
    Calls Tryd.prog 38 #[.iface 53 (.pointer (some ⟨g, 0, none⟩)), .string s] w (NumsBy w oK (cellsV freeN (readP s)) (readP s).isSome) := by
  have H := Lib.hid (historyOf_any s hs w hE)
  clear hE
  cases hr : readP s with
  | none =>
    rw [hr] at H
    clear hk hlt
    go_enter Tryd.func38, Tryd.ntmps38
    go_wp2_with fail
    refine H.out.mono ?_
    rintro e w1 ⟨⟨tp, q, rfl⟩, q1⟩
    have HQ := Lib.hid q1
    clear q1
    go_wp2_with fail
    refine bodyPost_ret (resCb _ _ _ _ rfl rfl) rfl ?_
    exact ⟨_, rfl, ⟨rfl, .inl ⟨rfl, rfl⟩⟩, fun g hg => by simp [Value.ownBlock] at hg, HQ.out.mono (fun _ e => e.elim)⟩
  | some l =>
    obtain ⟨hg, hgl⟩ := readP_good hr
    rw [hr] at H
    show Calls _ _ _ _ (NumsBy w oK (cellsS freeN l).O true)
    obtain ⟨N, hN⟩ : ∃ N, N = l.length := ⟨_, rfl⟩
    rw [← hN] at hgl
    have HN := Lib.hid hN
    have HG := Lib.hid hg
    have HK := Lib.hid (And.intro hk hlt)
    clear hg hr hN hk hlt
    go_enter Tryd.func38, Tryd.ntmps38
    go_wp2_with fail
    refine H.out.mono ?_
    rintro e w1 ⟨⟨H1, ownH, ve, vl, rfl, hh, hlow⟩, q1⟩
    obtain ⟨a, c, rfl⟩ := hh.shape.1
    have hrow := hh.evs
    have r0 := hh.blk.cell 0
    simp at r0
    have h0 : H1 < w1.heap.size := hh.blk.lt
    have h1 : ¬ H1 = w1.heap.size := by omega
    rw [← HN.out] at r0
    obtain ⟨R, hR⟩ : ∃ R, R = w1.heap.size := ⟨_, rfl⟩
    have hlt1 : ∀ k, oK k → k < w1.heap.size := fun k hk => Nat.lt_of_lt_of_le (HK.out.2 k hk) q1.size
    obtain ⟨Z, hZ⟩ : ∃ Z, Z = Tryd.zeroCells83.setIfInBounds 0 (.iface 53 (.pointer (some ⟨g, 0, none⟩))) := ⟨_, rfl⟩
    have hroom := room0_new (staysF g) freeN (.iface 53 (.pointer (some ⟨g, 0, none⟩))) w1 oK (staysF g _ _ _ _ _ HK.out.1 q1 (fun _ _ e => e)) hlt1 Z hZ
    have qa : Keeps noB w1 (w1.alloc (.cells Z 83)) := (Keeps.refl _ _).alloc _
    have HR : Hid (∀ i wr, Keeps (fun k => k = R ∨ oK k) w1 wr → i < N → ∃ g e, a = some ⟨g, 0, none⟩ ∧ N ≤ c ∧ l[i]? = some e ∧ wr.cell? ⟨g, i * 2, none⟩ = some (.int .u8 (e.k.toNat : Int)) ∧ wr.cell? ⟨g, i * 2 + 1, none⟩ = some (.int .i64 (e.n : Int))) := Lib.hid (fun i wr q hi => by
      have hl := HN.out
      obtain ⟨g', d, e, hc, hgl, hk⟩ := row_capM (ok := fun _ => True) hrow (by omega)
      simp only [Value.slice.injEq, true_and] at e
      obtain ⟨rfl, rfl⟩ := e
      have hm := List.getElem?_eq_getElem (l := l) (i := i) (by omega)
      obtain ⟨g0, g1⟩ := evC_get l i _ hm
      rw [show 2 * i = i * 2 by omega] at g0 g1
      have hne : ¬ (g' = R ∨ oK g') := fun e => by
        rcases e with e | e
        · omega
        · have h2 := hlow g' (hh.ownE g' rfl).1
          have h3 := HK.out.2 g' e
          omega
      exact ⟨g', _, rfl, by omega, hm, (q.cell (p := ⟨g', i * 2, none⟩) hgl hne).trans (hk _ _ g0).1, (q.cell (p := ⟨g', i * 2 + 1, none⟩) hgl hne).trans (hk _ _ g1).1⟩)
    have hsz : ∀ o, (w1.alloc o).heap.size = w1.heap.size + 1 := fun o => World.size_alloc _ _
    rw [← hR] at hroom
    have HZ := Lib.hid hZ
    have HP : Hid (CbAtF g R (w1.alloc (.cells Z 83)) oK l N (.int .i64 0) (w1.alloc (.cells Z 83))) := Lib.hid ⟨0, _, Nat.zero_le _, rfl, Owns.refl (fun k hk => by
      have h9 := hsz (.cells Z 83)
      rcases hk with hk | hk
      · omega
      · have := hlt1 k hk; omega), hroom⟩
    have HQ := Lib.hid (And.intro q1 (And.intro qa hR))
    have HHAP := Lib.hid (fun W own l ev h hlt hg hf hl => happenF_any g R W own l ev h hlt hg hf hl)
    clear q1 hrow hh hR hlt1 hroom qa hlow hsz hZ
    go_wp2_with fail
    rw [← HZ.out]
    generalize w1.alloc (.cells Z 83) = w2 at *
    rw [← HQ.out.2.2]
    go_loopw [26] (fun vi wr => CbAtF g R w2 oK l N vi wr) (fun vi _ => N - (intOf vi).toNat)
    case atStart => exact HP.out
    case round =>
      clear HP
      obtain ⟨i, own', hin, rfl, how, hrm⟩ := hrel
      by_cases hlt : i < N
      · have hq := HQ.out.2.1.mono (may' := fun k => k = R ∨ oK k) (fun _ e => e.elim)
        obtain ⟨gl, ev, rfl, hc, hm, r1, r2⟩ := HR.out i wr (hq.trans how.keeps) hlt
        have hi1 : (i : Int) < (N : Int) := by omega
        have hi2 : (N : Int) ≤ (c : Int) := by omega
        have hi6 : (i : Int) ≤ 600 := by omega
        have hfit := (HG.out.at i ev hm).2
        have hti : (l.take i).length < 600 := by rw [List.length_take]; omega
        have q0 : Keeps noB wr (wr.alloc (.cells #[.int .u8 (ev.k.toNat : Int), .int .i64 (ev.n : Int)] 63)) := (Keeps.refl _ _).alloc _
        have HC := Lib.hid (HHAP.out _ own' (l.take i) ev (hrm.keeps (staysF g) q0 (fun _ _ e => e)) (fun k hk => Nat.lt_of_lt_of_le (how.lt k hk) q0.size) (HG.out.take i) hfit hti)
        have hst : l.take (i + 1) = l.take i ++ [ev] := by rw [List.take_add_one, hm]; rfl
        have HS := Lib.hid (And.intro how (And.intro q0 hst))
        obtain ⟨kb, hkb⟩ : ∃ kb : Int, kb = (ev.k.toNat : Int) := ⟨_, rfl⟩
        rw [← hkb] at r1 HC HS
        clear how hrm hfit hti hm q0 hst hq hkb
        go_wp2_with fail
        refine HC.out.mono ?_
        rintro e5 w5 ⟨rfl, own5, o5, k5⟩
        have HE : Hid (CbAtF g R w2 oK l N (.int .i64 ((i : Int) + 1)) w5) := Lib.hid ⟨i + 1, own5, hlt, by go_num, HS.out.1.trans (Owns.behind HS.out.2.1 o5), by rw [HS.out.2.2]; exact k5⟩
        clear o5 k5
        go_wp2_with fail
        go_roundw
        case rel => exact HE.out
        case measure => simp [intOf]; omega
      · have hi1 : ¬ (i : Int) < (N : Int) := by omega
        have hti : l.take i = l := List.take_of_length_le (by have := HN.out; omega)
        rw [hti] at hrm
        obtain ⟨oK', vo, cs, hri⟩ := hrm
        have r6 := (hri.blk.cell 601).trans hri.cel
        have HE : Hid (NumsBy w oK (cellsS freeN l).O true (.returned (.tuple #[vo, .bool true])) wr) := Lib.hid (by
          have hRe := HQ.out.2.2
          have hs1 := HQ.out.1.size
          refine ⟨vo, rfl, hri.row, fun g' hg' => ?_, ?_⟩
          · have := hri.low g' hg'; omega
          · have k1 : Keeps oK w w2 := (HQ.out.1.trans HQ.out.2.1).mono (fun _ e => e.elim)
            exact k1.transNew how.keeps (fun k hk e => by
              rcases e with e | e
              · omega
              · exact e))
        clear how hri hti
        go_wp2_with fail
        refine bodyPost_ret (resCb _ _ _ _ rfl rfl) rfl ?_
        exact HE.out

/-- What the loop of cellsBy holds. -/
def CbAtS (g R : Nat) (w2 : World) (oK : Nat → Prop) (l : List Ev) (N : Nat) (vi : Value) (wr : World) : Prop :=
  ∃ (i : Nat) (own' : Nat → Prop), i ≤ N ∧ vi = .int .i64 (i : Int) ∧ Owns (fun k => k = R ∨ oK k) own' w2 wr ∧ RoomK (StackK g) cntN (.iface 64 (.pointer (some ⟨g, 0, none⟩))) R wr own' (l.take i)

set_option maxRecDepth 100000 in
set_option maxHeartbeats 16000000 in
theorem cellsByS_any (s : ByteArray) (hs : s.size ≤ 1048576) (w : World) (hE : Env w) (g : Nat) (oK : Nat → Prop) (hk : StackK g w oK []) (hlt : ∀ k, oK k → k < w.heap.size) :
    Calls Tryd.prog 38 #[.iface 64 (.pointer (some ⟨g, 0, none⟩)), .string s] w (NumsBy w oK (cellsV cntN (readP s)) (readP s).isSome) := by
  have H := Lib.hid (historyOf_any s hs w hE)
  clear hE
  cases hr : readP s with
  | none =>
    rw [hr] at H
    clear hk hlt
    go_enter Tryd.func38, Tryd.ntmps38
    go_wp2_with fail
    refine H.out.mono ?_
    rintro e w1 ⟨⟨tp, q, rfl⟩, q1⟩
    have HQ := Lib.hid q1
    clear q1
    go_wp2_with fail
    refine bodyPost_ret (resCb _ _ _ _ rfl rfl) rfl ?_
    exact ⟨_, rfl, ⟨rfl, .inl ⟨rfl, rfl⟩⟩, fun g hg => by simp [Value.ownBlock] at hg, HQ.out.mono (fun _ e => e.elim)⟩
  | some l =>
    obtain ⟨hg, hgl⟩ := readP_good hr
    rw [hr] at H
    show Calls _ _ _ _ (NumsBy w oK (cellsS cntN l).O true)
    obtain ⟨N, hN⟩ : ∃ N, N = l.length := ⟨_, rfl⟩
    rw [← hN] at hgl
    have HN := Lib.hid hN
    have HG := Lib.hid hg
    have HK := Lib.hid (And.intro hk hlt)
    clear hg hr hN hk hlt
    go_enter Tryd.func38, Tryd.ntmps38
    go_wp2_with fail
    refine H.out.mono ?_
    rintro e w1 ⟨⟨H1, ownH, ve, vl, rfl, hh, hlow⟩, q1⟩
    obtain ⟨a, c, rfl⟩ := hh.shape.1
    have hrow := hh.evs
    have r0 := hh.blk.cell 0
    simp at r0
    have h0 : H1 < w1.heap.size := hh.blk.lt
    have h1 : ¬ H1 = w1.heap.size := by omega
    rw [← HN.out] at r0
    obtain ⟨R, hR⟩ : ∃ R, R = w1.heap.size := ⟨_, rfl⟩
    have hlt1 : ∀ k, oK k → k < w1.heap.size := fun k hk => Nat.lt_of_lt_of_le (HK.out.2 k hk) q1.size
    obtain ⟨Z, hZ⟩ : ∃ Z, Z = Tryd.zeroCells83.setIfInBounds 0 (.iface 64 (.pointer (some ⟨g, 0, none⟩))) := ⟨_, rfl⟩
    have hroom := room0_new (staysS g) cntN (.iface 64 (.pointer (some ⟨g, 0, none⟩))) w1 oK (staysS g _ _ _ _ _ HK.out.1 q1 (fun _ _ e => e)) hlt1 Z hZ
    have qa : Keeps noB w1 (w1.alloc (.cells Z 83)) := (Keeps.refl _ _).alloc _
    have HR : Hid (∀ i wr, Keeps (fun k => k = R ∨ oK k) w1 wr → i < N → ∃ g e, a = some ⟨g, 0, none⟩ ∧ N ≤ c ∧ l[i]? = some e ∧ wr.cell? ⟨g, i * 2, none⟩ = some (.int .u8 (e.k.toNat : Int)) ∧ wr.cell? ⟨g, i * 2 + 1, none⟩ = some (.int .i64 (e.n : Int))) := Lib.hid (fun i wr q hi => by
      have hl := HN.out
      obtain ⟨g', d, e, hc, hgl, hk⟩ := row_capM (ok := fun _ => True) hrow (by omega)
      simp only [Value.slice.injEq, true_and] at e
      obtain ⟨rfl, rfl⟩ := e
      have hm := List.getElem?_eq_getElem (l := l) (i := i) (by omega)
      obtain ⟨g0, g1⟩ := evC_get l i _ hm
      rw [show 2 * i = i * 2 by omega] at g0 g1
      have hne : ¬ (g' = R ∨ oK g') := fun e => by
        rcases e with e | e
        · omega
        · have h2 := hlow g' (hh.ownE g' rfl).1
          have h3 := HK.out.2 g' e
          omega
      exact ⟨g', _, rfl, by omega, hm, (q.cell (p := ⟨g', i * 2, none⟩) hgl hne).trans (hk _ _ g0).1, (q.cell (p := ⟨g', i * 2 + 1, none⟩) hgl hne).trans (hk _ _ g1).1⟩)
    have hsz : ∀ o, (w1.alloc o).heap.size = w1.heap.size + 1 := fun o => World.size_alloc _ _
    rw [← hR] at hroom
    have HZ := Lib.hid hZ
    have HP : Hid (CbAtS g R (w1.alloc (.cells Z 83)) oK l N (.int .i64 0) (w1.alloc (.cells Z 83))) := Lib.hid ⟨0, _, Nat.zero_le _, rfl, Owns.refl (fun k hk => by
      have h9 := hsz (.cells Z 83)
      rcases hk with hk | hk
      · omega
      · have := hlt1 k hk; omega), hroom⟩
    have HQ := Lib.hid (And.intro q1 (And.intro qa hR))
    have HHAP := Lib.hid (fun W own l ev h hlt hg hf hl => happenS_any g R W own l ev h hlt hg hf hl)
    clear q1 hrow hh hR hlt1 hroom qa hlow hsz hZ
    go_wp2_with fail
    rw [← HZ.out]
    generalize w1.alloc (.cells Z 83) = w2 at *
    rw [← HQ.out.2.2]
    go_loopw [26] (fun vi wr => CbAtS g R w2 oK l N vi wr) (fun vi _ => N - (intOf vi).toNat)
    case atStart => exact HP.out
    case round =>
      clear HP
      obtain ⟨i, own', hin, rfl, how, hrm⟩ := hrel
      by_cases hlt : i < N
      · have hq := HQ.out.2.1.mono (may' := fun k => k = R ∨ oK k) (fun _ e => e.elim)
        obtain ⟨gl, ev, rfl, hc, hm, r1, r2⟩ := HR.out i wr (hq.trans how.keeps) hlt
        have hi1 : (i : Int) < (N : Int) := by omega
        have hi2 : (N : Int) ≤ (c : Int) := by omega
        have hi6 : (i : Int) ≤ 600 := by omega
        have hfit := (HG.out.at i ev hm).2
        have hti : (l.take i).length < 600 := by rw [List.length_take]; omega
        have q0 : Keeps noB wr (wr.alloc (.cells #[.int .u8 (ev.k.toNat : Int), .int .i64 (ev.n : Int)] 63)) := (Keeps.refl _ _).alloc _
        have HC := Lib.hid (HHAP.out _ own' (l.take i) ev (hrm.keeps (staysS g) q0 (fun _ _ e => e)) (fun k hk => Nat.lt_of_lt_of_le (how.lt k hk) q0.size) (HG.out.take i) hfit hti)
        have hst : l.take (i + 1) = l.take i ++ [ev] := by rw [List.take_add_one, hm]; rfl
        have HS := Lib.hid (And.intro how (And.intro q0 hst))
        obtain ⟨kb, hkb⟩ : ∃ kb : Int, kb = (ev.k.toNat : Int) := ⟨_, rfl⟩
        rw [← hkb] at r1 HC HS
        clear how hrm hfit hti hm q0 hst hq hkb
        go_wp2_with fail
        refine HC.out.mono ?_
        rintro e5 w5 ⟨rfl, own5, o5, k5⟩
        have HE : Hid (CbAtS g R w2 oK l N (.int .i64 ((i : Int) + 1)) w5) := Lib.hid ⟨i + 1, own5, hlt, by go_num, HS.out.1.trans (Owns.behind HS.out.2.1 o5), by rw [HS.out.2.2]; exact k5⟩
        clear o5 k5
        go_wp2_with fail
        go_roundw
        case rel => exact HE.out
        case measure => simp [intOf]; omega
      · have hi1 : ¬ (i : Int) < (N : Int) := by omega
        have hti : l.take i = l := List.take_of_length_le (by have := HN.out; omega)
        rw [hti] at hrm
        obtain ⟨oK', vo, cs, hri⟩ := hrm
        have r6 := (hri.blk.cell 601).trans hri.cel
        have HE : Hid (NumsBy w oK (cellsS cntN l).O true (.returned (.tuple #[vo, .bool true])) wr) := Lib.hid (by
          have hRe := HQ.out.2.2
          have hs1 := HQ.out.1.size
          refine ⟨vo, rfl, hri.row, fun g' hg' => ?_, ?_⟩
          · have := hri.low g' hg'; omega
          · have k1 : Keeps oK w w2 := (HQ.out.1.trans HQ.out.2.1).mono (fun _ e => e.elim)
            exact k1.transNew how.keeps (fun k hk e => by
              rcases e with e | e
              · omega
              · exact e))
        clear how hri hti
        go_wp2_with fail
        refine bodyPost_ret (resCb _ _ _ _ rfl rfl) rfl ?_
        exact HE.out

end Go.Proofs.YthgocacabadflaaDoor

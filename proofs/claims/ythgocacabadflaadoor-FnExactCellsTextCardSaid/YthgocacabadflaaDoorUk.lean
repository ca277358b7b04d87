/-
  container/heap at the program's free list: Push and Pop; the free list's take and leave.
-/
import Derived.Test.YthgocacabadflaaDoorUj
namespace Go.Proofs.YthgocacabadflaaDoor
set_option linter.unusedVariables false
set_option linter.unusedSimpArgs false
open Go.RowKit

set_option maxRecDepth 100000 in
set_option maxHeartbeats 8000000 in
theorem heapPush_any (W : World) (F : Nat) (own : Nat → Prop) (L : List Nat) (nx : Nat) (v : Value) (h : FreeAt W F own L nx v) (hh : HeapL L) (hlt : ∀ k, own k → k < W.heap.size) (hl : L.length < 1000) (x : Nat) :
    Calls Tryd.prog 152 #[.iface 196 (.pointer (some ⟨F, 0, none⟩)), .iface 3 (.int .i64 (x : Int))] W fun e w' =>
      e = .returned (.tuple #[]) ∧ ∃ L' v' own', L'.Perm (L ++ [x]) ∧ HeapL L' ∧ Owns own own' W w' ∧ FreeAt w' F own' L' nx v' := by
  have HP := Lib.hid (pushL_any W F own L nx v h hlt (by omega) x)
  have hm := mPush F W
  simp [go_sem] at hm
  have HU := Lib.hid (hh.push x)
  clear h hh hlt
  go_enter Tryd.func152, Tryd.ntmps152
  go_wp2_with fail
  refine HP.out.mono ?_
  rintro e1 w1 ⟨rfl, v', own', ho, hf⟩
  have hm1 := mLen F w1 v' ((hf.blk.cell 0).trans rfl)
  simp [go_sem] at hm1
  have HO := Lib.hid (And.intro ho hf)
  have HLN := Lib.hid (lenL_any w1 v' (L ++ [x]) hf.row)
  obtain ⟨n, hn⟩ : ∃ n, n = L.length := ⟨_, rfl⟩
  have hlen : (((L ++ [x]).length : Nat) : Int) = (n : Int) + 1 := by rw [hn]; simp
  rw [hlen] at HLN
  rw [← hn] at hl HU
  have hn0 : (0 : Int) ≤ (n : Int) := by omega
  have hn6 : (n : Int) ≤ 1000 := by omega
  have HN := Lib.hid hn
  clear ho hf hn hlen hm
  go_wp2_with fail
  refine HLN.out.mono ?_
  rintro e2 w2 ⟨rfl, q2⟩
  have HUP := Lib.hid (up_any w2 F own' (L ++ [x]) nx v' (HO.out.2.keeps q2 (fun _ _ e => e)) (by simp; have := HN.out; omega) n (by simp; have := HN.out; omega) (by have h := HU.out; rw [show (L ++ [x]).length = n + 1 by simp; exact HN.out.symm]; exact h))
  have Q2 := Lib.hid q2
  clear q2 hm1
  go_wp2_with fail
  refine HUP.out.mono ?_
  rintro e3 w3 ⟨rfl, L', hp, hh', hf', q3⟩
  have HE : Hid (∃ L' v' own', L'.Perm (L ++ [x]) ∧ HeapL L' ∧ Owns own own' W w3 ∧ FreeAt w3 F own' L' nx v') := Lib.hid (by
    refine ⟨L', v', own', hp, hh', ?_, hf'⟩
    have o1 := HO.out.1
    have o2 : Owns own own' W w2 := o1.ahead Q2.out (fun _ e => e.elim)
    exact o2.trans ⟨fun _ h => .inl h, fun k hk => Nat.lt_of_lt_of_le (o2.lt k hk) q3.size, q3⟩)
  clear hp hh' hf' q3
  go_wp2_with fail
  go_end0
  exact ⟨rfl, HE.out⟩

set_option maxRecDepth 100000 in
set_option maxHeartbeats 8000000 in
theorem heapPop_any (W : World) (F : Nat) (own : Nat → Prop) (L : List Nat) (nx : Nat) (v : Value) (h : FreeAt W F own L nx v) (hh : HeapL L) (hlt : ∀ k, own k → k < W.heap.size) (hl : L.length < 1000) (n : Nat) (hn : L.length = n + 1) :
    Calls Tryd.prog 154 #[.iface 196 (.pointer (some ⟨F, 0, none⟩))] W fun e w' =>
      e = .returned (.iface 3 (.int .i64 (nth L 0 : Int))) ∧ ∃ L' v', (L' ++ [nth L 0]).Perm L ∧ HeapL L' ∧ Owns own own W w' ∧ FreeAt w' F own L' nx v' := by
  have hm := mLen F W v ((h.blk.cell 0).trans rfl)
  simp [go_sem] at hm
  have HLN := Lib.hid (lenL_any W v L h.row)
  have hlen : ((L.length : Nat) : Int) = (n : Int) + 1 := by omega
  rw [hlen] at HLN
  have HF := Lib.hid h
  have HD := Lib.hid (hh.pop hn)
  have HN := Lib.hid hn
  have hn0 : (0 : Int) ≤ (n : Int) := by omega
  have hn6 : (n : Int) ≤ 1000 := by omega
  have HH := Lib.hid hh
  have HLT := Lib.hid hlt
  clear h hh hlt hn hlen
  go_enter Tryd.func154, Tryd.ntmps154
  go_wp2_with fail
  refine HLN.out.mono ?_
  rintro e1 w1 ⟨rfl, q1⟩
  have hf1 := HF.out.keeps q1 (fun _ _ e => e)
  have hm1 := mSwap F w1 v ((hf1.blk.cell 0).trans rfl)
  simp [go_sem] at hm1
  have HSW : Hid (Calls Tryd.prog 158 #[v, .int .i64 0, .int .i64 (n : Int)] w1 fun e w' => e = .returned (.tuple #[]) ∧ NRow w' v (swL L 0 n) ∧ Keeps (fun g => v.ownBlock = some g) w1 w') :=
    Lib.hid (swap_any w1 v L hf1.row (by omega) 0 n (by have := HN.out; omega) (by have := HN.out; omega))
  have HF1 := Lib.hid hf1
  have Q1 := Lib.hid q1
  clear q1 hf1 hm
  go_wp2_with fail
  refine HSW.out.mono ?_
  rintro e2 w2 ⟨rfl, hr2, q2⟩
  have hf2 := HF1.out.turn hr2 q2
  have hq2 : Keeps own W w2 := (Q1.out.mono (fun _ e => e.elim)).trans (q2.mono (fun g hg => (HF1.out.ownR g hg).1))
  have HDN := Lib.hid (down_any w2 F own (swL L 0 n) n nx v hf2 (by rw [swL_len]; exact HN.out) (by have := HN.out; omega) HD.out)
  have HQ2 := Lib.hid hq2
  clear hr2 q2 hf2 hq2 hm1
  go_wp2_with fail
  refine HDN.out.mono ?_
  rintro e3 w3 ⟨⟨b, rfl⟩, L', hp, hnn, hh', hf', q3⟩
  have hm3 := mPop F w3
  simp [go_sem] at hm3
  have hlen' : L'.length = n + 1 := by rw [hp.length_eq, swL_len]; exact HN.out
  have hq3 : Owns own own W w3 := ⟨fun _ h => .inl h, fun k hk => Nat.lt_of_lt_of_le (HLT.out k hk) (HQ2.out.trans q3).size, HQ2.out.trans q3⟩
  obtain ⟨t1, t2, t3⟩ := HeapL.popped HN.out hp hnn hh'
  have HPO := Lib.hid (popL_any w3 F own L' nx v hf' hq3.lt (by have := HN.out; omega) n hlen')
  rw [t1] at HPO
  have HT := Lib.hid (And.intro t2 (And.intro t3 hq3))
  clear hp hnn hh' hf' q3 hlen' hq3 t1 t2 t3
  go_wp2_with fail
  refine HPO.out.mono ?_
  rintro e4 w4 ⟨rfl, v4, o4, hf4⟩
  have HE : Hid (∃ L' v', (L' ++ [nth L 0]).Perm L ∧ HeapL L' ∧ Owns own own W w4 ∧ FreeAt w4 F own L' nx v') := Lib.hid ⟨_, v4, HT.out.2.1, HT.out.1, HT.out.2.2.trans o4, hf4⟩
  clear o4 hf4
  go_wp2_with fail
  go_ret
  exact ⟨rfl, HE.out⟩

/-! ### take and leave -/
/-- The free list in block F tells the cells T that are taken. -/
def FreeK (F : Nat) (W : World) (own : Nat → Prop) (T : List Nat) : Prop :=
  ∃ L nx v, FreeAt W F own L nx v ∧ HeapL L ∧ FInv T L nx ∧ nx ≤ 600

theorem FreeK.keeps {F : Nat} {W W' : World} {own may : Nat → Prop} {T : List Nat} (h : FreeK F W own T) (q : Keeps may W W') (hm : ∀ k, own k → ¬ may k) : FreeK F W' own T := by
  obtain ⟨L, nx, v, h1, h2, h3, h4⟩ := h
  exact ⟨L, nx, v, h1.keeps q hm, h2, h3, h4⟩

theorem left_len {T L : List Nat} {nx : Nat} (h : FInv T L nx) : L.length ≤ nx := by
  have := h.length_eq
  rw [List.length_append, List.length_range] at this
  omega

set_option maxRecDepth 100000 in
set_option maxHeartbeats 8000000 in
theorem freeTake_any (W : World) (F : Nat) (own : Nat → Prop) (T : List Nat) (h : FreeK F W own T) (hlt : ∀ k, own k → k < W.heap.size) (hT : freeN T < 600) :
    Calls Tryd.prog 151 #[.pointer (some ⟨F, 0, none⟩)] W fun e w' => e = .returned (.int .i64 (freeN T : Int)) ∧ ∃ own', Owns own own' W w' ∧ FreeK F w' own' (T ++ [freeN T]) := by
  obtain ⟨L, nx, v, hf, hh, hi, hx⟩ := h
  have hll := left_len hi
  have HLN := Lib.hid (lenL_any W v L hf.row)
  have r0 := hf.blk.cell 0
  have r1 := hf.blk.cell 1
  have z1 := hf.blk.free 1
  simp at r0 r1
  obtain ⟨a, c, rfl⟩ := hf.row.shape
  cases hL : L.length with
  | zero =>
    obtain rfl := List.eq_nil_of_length_eq_zero hL
    have hfn := hi.free_nil
    rw [hfn] at hT ⊢
    have HF := Lib.hid hf
    have HI := Lib.hid hi
    have hnx0 : (0 : Int) ≤ (nx : Int) := by omega
    have hnx6 : (nx : Int) < 600 := by omega
    have HE : Hid (∀ W1, Keeps noB W W1 → W1.cell? ⟨F, 1, none⟩ = some (.int .i64 (nx : Int)) ∧ W1.frozen? ⟨F, 1, none⟩ = false ∧ ∃ own', Owns own own' W (W1.setCell ⟨F, 1, none⟩ (.int .i64 ((nx : Int) + 1))) ∧ FreeK F (W1.setCell ⟨F, 1, none⟩ (.int .i64 ((nx : Int) + 1))) own' (T ++ [nx])) := Lib.hid (fun W1 q => by
      have hf1 := hf.keeps q (fun _ _ e => e)
      have qs : Keeps (fun k => k = F) W1 (W1.setCell ⟨F, 1, none⟩ (.int .i64 ((nx : Int) + 1))) := (Keeps.refl (fun k => k = F) W1).setCell (p := ⟨F, 1, none⟩) (.inl rfl) _
      have hs := Nat.le_trans q.size qs.size
      refine ⟨(hf1.blk.cell 1).trans rfl, hf1.blk.free 1, own, ⟨fun _ h => .inl h, fun k hk => Nat.lt_of_lt_of_le (hlt k hk) hs, (q.mono (fun _ e => e.elim)).trans (qs.mono (fun k e => e ▸ hf.ownF))⟩, [], nx + 1, _, ⟨?_, hf1.row.keeps qs (fun g hg e => (hf.ownR g hg).2 e), hf.ownF, hf.ownR⟩, HeapL.nil, hi.take_nil, by omega⟩
      have h := hf1.blk.set 1 (.int .i64 ((nx : Int) + 1))
      rw [show ((nx : Int) + 1) = ((nx + 1 : Nat) : Int) by omega] at h ⊢
      exact h)
    have hF : F < W.heap.size := hf.blk.lt
    have HR0 : Hid (∀ W1, Keeps noB W W1 → True) := Lib.hid (fun _ _ => trivial)
    clear hf hh hi hlt hfn HF HI hll hL
    go_enter Tryd.func151, Tryd.ntmps151
    go_wp2_with fail
    refine HLN.out.mono ?_
    rintro e1 w1 ⟨rfl, q1⟩
    obtain ⟨y1, z1', hpost⟩ := HE.out w1 q1
    have HPO := Lib.hid hpost
    have hF1 : F < w1.heap.size := Nat.lt_of_lt_of_le hF q1.size
    clear hpost q1 r0 r1 z1
    go_wp2_with fail
    go_ret
    exact ⟨rfl, HPO.out⟩
  | succ n =>
    have hmin : freeN T = nth L 0 := hi.free_min (List.mem_of_getElem? (nth_some (by omega))) hh.least
    rw [hmin]
    have hni : ((n + 1 : Nat) : Int) = (n : Int) + 1 := by omega
    have hn0 : (0 : Int) < (n : Int) + 1 := by omega
    have hta : ∀ (y : Int) (W' : World), (Instr.typeAssert (.iface 3 (.int .i64 y)) 20 3 false).run Tryd.prog W' = .ok (.int .i64 y) W' := fun y W' => by kernel_rfl
    have HPP : Hid (∀ W1, Keeps noB W W1 → Calls Tryd.prog 154 #[.iface 196 (.pointer (some ⟨F, 0, none⟩))] W1 fun e w' =>
      e = .returned (.iface 3 (.int .i64 (nth L 0 : Int))) ∧ ∃ own', Owns own own' W w' ∧ FreeK F w' own' (T ++ [nth L 0])) := Lib.hid (fun W1 q => by
        refine (heapPop_any W1 F own L nx _ (hf.keeps q (fun _ _ e => e)) hh (fun k hk => Nat.lt_of_lt_of_le (hlt k hk) q.size) (by omega) n hL).mono ?_
        rintro e w' ⟨he, L', v', hp, hh', o, hf'⟩
        exact ⟨he, own, Owns.behind q o, L', nx, v', hf', hh', hi.take_min hp, hx⟩)
    rw [hL, hni] at HLN
    rw [hL] at r0
    clear hf hh hi hlt hll hmin hL
    go_enter Tryd.func151, Tryd.ntmps151
    go_wp2_with fail
    refine HLN.out.mono ?_
    rintro e1 w1 ⟨rfl, q1⟩
    have HP1 := Lib.hid (HPP.out w1 q1)
    clear q1 r0 r1 z1
    go_wp2_with fail
    refine HP1.out.mono ?_
    rintro e2 w2 ⟨rfl, hpost⟩
    have HPO := Lib.hid hpost
    clear hpost
    go_wp2_with fail
    go_ret
    exact ⟨rfl, HPO.out⟩

set_option maxRecDepth 100000 in
set_option maxHeartbeats 8000000 in
theorem freeLeave_any (W : World) (F : Nat) (own : Nat → Prop) (T : List Nat) (h : FreeK F W own T) (hlt : ∀ k, own k → k < W.heap.size) (c : Nat) (hc : c ∈ T) :
    Calls Tryd.prog 150 #[.pointer (some ⟨F, 0, none⟩), .int .i64 (c : Int)] W fun e w' => e = .returned (.tuple #[]) ∧ ∃ own', Owns own own' W w' ∧ FreeK F w' own' (T.filter (fun m => decide (m ≠ c))) := by
  obtain ⟨L, nx, v, hf, hh, hi, hx⟩ := h
  have hll := left_len hi
  have HPU : Hid (Calls Tryd.prog 152 #[.iface 196 (.pointer (some ⟨F, 0, none⟩)), .iface 3 (.int .i64 (c : Int))] W fun e w' =>
      e = .returned (.tuple #[]) ∧ ∃ own', Owns own own' W w' ∧ FreeK F w' own' (T.filter (fun m => decide (m ≠ c)))) := by
    refine (heapPush_any W F own L nx v hf hh hlt (by omega) c).mono ?_
    rintro e w' ⟨he, L', v', own', hp, hh', o, hf'⟩
    exact ⟨he, own', o, L', nx, v', hf', hh', hi.leave hc hp, hx⟩
  clear hf hh hi hlt hll
  go_enter Tryd.func150, Tryd.ntmps150
  go_wp2_with fail
  refine HPU.out.mono ?_
  rintro e1 w1 ⟨rfl, hpost⟩
  have HPO := Lib.hid hpost
  clear hpost
  go_wp2_with fail
  go_end0
  exact ⟨rfl, HPO.out⟩

end Go.Proofs.YthgocacabadflaaDoor

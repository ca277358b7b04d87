/-
  The program's room, by a free list: what happens at an event.
-/
import Derived.Test.YthgocacabadflaaDoorUk
import Derived.Test.YthgocacabadflaaDoorUm
import Derived.StillTailTactics
import Derived.Deep.RegionWith
import Derived.Deep.RegionLaw
import Derived.BigQuiet
import Derived.BigRegion
import Derived.Deep.QuietTactic
import Derived.Deep.Cut
namespace Go.Proofs.YthgocacabadflaaDoor
set_option linter.unusedVariables false
set_option linter.unusedSimpArgs false
open Go.RowKit

theorem mTakeF (g : Nat) (W : World) : (method (Tryd.prog.types.size + Made.depth) 53 (.pointer (some ⟨g, 0, none⟩)) "loop.example/endsoflife/impl.take").run Tryd.prog W = .ok (151, .pointer (some ⟨g, 0, none⟩)) W := by kernel_rfl
theorem mLeaveF (g : Nat) (W : World) : (method (Tryd.prog.types.size + Made.depth) 53 (.pointer (some ⟨g, 0, none⟩)) "loop.example/endsoflife/impl.leave").run Tryd.prog W = .ok (150, .pointer (some ⟨g, 0, none⟩)) W := by kernel_rfl
theorem staysF (g : Nat) : Stays (FreeK g) := fun _ _ _ _ _ h q hm => h.keeps q hm

def HappenedF (g R : Nat) (W : World) (own : Nat → Prop) (l : List Ev) (e : Ending) (w' : World) : Prop :=
  e = .returned (.tuple #[]) ∧ ∃ own', Owns own own' W w' ∧ RoomK (FreeK g) freeN (.iface 53 (.pointer (some ⟨g, 0, none⟩))) R w' own' l

set_option maxRecDepth 100000 in
set_option maxHeartbeats 16000000 in
theorem happenF_any (g R : Nat) (W : World) (own : Nat → Prop) (l : List Ev) (ev : Ev) (h : RoomK (FreeK g) freeN (.iface 53 (.pointer (some ⟨g, 0, none⟩))) R W own l) (hlt : ∀ k, own k → k < W.heap.size) (hg : Good l) (hf : fits l ev) (hl : l.length < 600) :
    Calls Tryd.prog 45 #[.pointer (some ⟨R, 0, none⟩), .agg #[.int .u8 (ev.k.toNat : Int), .int .i64 (ev.n : Int)]] W (HappenedF g R W own (l ++ [ev])) := by
  obtain ⟨i0, hi, hz0, hz1, hz2⟩ := info_parts Tryd.infoI3
  obtain ⟨oK, vo, cs, h⟩ := h
  have hci := cinv picks_free hg
  have hmade : madeN l < 600 := by have := hg.says.le; omega
  have hpk : freeN (cellsS freeN l).T ≤ madeN l := picks_free.le _ _ (hci.tlt hg)
  have hOl : (cellsS freeN l).O.length = madeN l := hci.len
  have hR := hlt R h.ownR
  have hB0 : ¬ own W.heap.size := fun e => by have := hlt _ e; omega
  have hRn : ¬ R = W.heap.size := by omega
  have hRn' : ¬ W.heap.size = R := by omega
  obtain ⟨n, hn⟩ : ∃ n, n = ev.n := ⟨_, rfl⟩
  obtain ⟨kb, hkb⟩ : ∃ kb : Int, kb = (ev.k.toNat : Int) := ⟨_, rfl⟩
  have hk43 : (kb == 43) = decide (ev.k = 43) := by rw [hkb]; exact byte_is ev.k 43
  have hk45 : (kb == 45) = decide (ev.k = 45) := by rw [hkb]; exact byte_is ev.k 45
  rw [← hkb, ← hn]
  have r0 := (h.blk.cell 0).trans h.kp
  have r6 := (h.blk.cell 601).trans h.cel
  obtain ⟨a, c, rfl⟩ := h.row.shape
  obtain ⟨nO, hnO⟩ : ∃ nO, nO = (cellsS freeN l).O.length := ⟨_, rfl⟩
  rw [← hnO] at h r6
  have q0 : Keeps noB W (W.alloc (.cells #[.int .u8 kb, .int .i64 (n : Int)] 63)) := (Keeps.refl _ _).alloc _
  have bB : Blk (W.alloc (.cells #[.int .u8 kb, .int .i64 (n : Int)] 63)) W.heap.size #[.int .u8 kb, .int .i64 (n : Int)] 63 := Blk.new W _ _
  have hsz0 : (W.alloc (.cells #[.int .u8 kb, .int .i64 (n : Int)] 63)).heap.size = W.heap.size + 1 := World.size_alloc _ _
  rcases hf with ⟨h43, hnn⟩ | ⟨hk, hin⟩
  · have x1 : (kb == 43) = true := by rw [hk43]; simp [h43]
    obtain ⟨p, hp⟩ : ∃ p, p = freeN (cellsS freeN l).T := ⟨_, rfl⟩
    rw [← hp] at hpk
    have hp6 : p < 600 := by omega
    have HT : Hid (∀ W1, Keeps noB W W1 → Calls Tryd.prog 151 #[.pointer (some ⟨g, 0, none⟩)] W1 fun e w' => e = .returned (.int .i64 (p : Int)) ∧ ∃ oK', Owns oK oK' W1 w' ∧ FreeK g w' oK' ((cellsS freeN l).T ++ [p])) := Lib.hid (fun W1 q => by
      rw [hp]
      exact freeTake_any W1 g oK _ (h.keep.keeps q (fun _ _ e => e)) (fun k hk => Nat.lt_of_lt_of_le (hlt k (h.ownK k hk).1) q.size) (by rw [← hp]; exact hp6))
    have HH := Lib.hid h
    have HO := Lib.hid (And.intro hlt (And.intro hnO (And.intro hB0 (And.intro h43 (And.intro hp hn)))))
    have hmt := mTakeF g (W.alloc (.cells #[.int .u8 kb, .int .i64 (n : Int)] 63))
    simp [go_sem] at hmt
    have HQ0 := Lib.hid (And.intro q0 (And.intro bB hsz0))
    have hnO6 : nO ≤ 600 := by omega
    clear h hci hmade hpk hOl hlt hnO hB0 hk43 hk45 hkb hp hn hnn q0 bB hsz0 h43
    go_enter Tryd.func45, Tryd.ntmps45
    go_wp2_with fail
    refine (HT.out _ HQ0.out.1).mono ?_
    rintro e1 w1 ⟨rfl, oK', o1, k1⟩
    have hlt0 : ∀ k, own k → k < (W.alloc (.cells #[.int .u8 kb, .int .i64 (n : Int)] 63)).heap.size := fun k hk => Nat.lt_of_lt_of_le (HO.out.1 k hk) HQ0.out.1.size
    obtain ⟨h1, ow1⟩ := (HH.out.keeps (staysF g) HQ0.out.1 (fun _ _ e => e)).turn hlt0 o1 k1
    have hBk : ¬ oK W.heap.size := fun e => HO.out.2.2.1 (HH.out.ownK _ e).1
    have b1 := o1.keeps.blk HQ0.out.2.1 hBk
    have r61 := (h1.blk.cell 601).trans h1.cel
    have hR1 : R < w1.heap.size := Nat.lt_of_lt_of_le hR (Nat.le_trans HQ0.out.1.size o1.keeps.size)
    have hB1 : W.heap.size < w1.heap.size := b1.lt
    have hB2 : ¬ (Value.slice a nO c).ownBlock = some W.heap.size := fun e => HO.out.2.2.1 (HH.out.ownO _ e).1
    obtain ⟨LO, hLO⟩ : ∃ LO, LO = (cellsS freeN l).O.map i64 := ⟨_, rfl⟩
    have HOW : Hid (w1.ownsRow 0 3 1 (.slice a nO c) nO LO) := Lib.hid (by have h := h1.row; unfold NRow at h; rw [← HO.out.2.1, ← hLO] at h; exact h)
    have H1 := Lib.hid (And.intro h1 (And.intro ow1 (And.intro b1 (And.intro hB2 hLO))))
    clear hmt hlt0 h1 ow1 hBk b1 hB2 hLO o1 k1 r0 r6
    go_wp2_with (at_builtin; refine wpList_append_fresh _ rfl _ _ 25 rfl 3 i0 _ 1 8 Tryd.underlying25 hi hz0 hz1 hz2 rfl (by decide) (.slice a nO c) nO LO rfl (((Keeps.refl noB w1).alloc _).ownsRow HOW.out (fun _ _ _ e => e)) ⟨w1.heap.size, 0, none⟩ 1 1 [.int .i64 (p : Int)] rfl rfl (cells_one w1 (.int .i64 (p : Int)) 3) (by intro u hu; simp at hu; subst hu; rfl) (by unfold maxLen; omega) (by omega) ?_)
    intro v' w2 hown hgrow hfresh
    obtain ⟨b2, h2, ow2, qa2⟩ := H1.out.1.more (staysF g) H1.out.2.1.lt ((Keeps.refl noB w1).alloc _) HO.out.2.1 H1.out.2.2.2.2 hown hgrow hfresh
    have y6 := (b2.cell 601).trans H1.out.1.cel
    have z6 := b2.free 601
    have bx : Blk (w2.setCell ⟨R, 601, none⟩ v') W.heap.size #[.int .u8 kb, .int .i64 (n : Int)] 63 := (qa2.blk H1.out.2.2.1 (fun e => H1.out.2.2.2.1 e)).setOther (by show R ≠ W.heap.size; omega) _
    have s1 := bx.cell 1
    simp at s1
    have s2 := (h2.blk.cell (1 + p)).trans (h2.ins p hp6)
    have s3 := h2.blk.free (1 + p)
    obtain ⟨a2, c2, rfl⟩ := row_shape (ok := fun _ => True) ⟨hown, fun _ _ => trivial⟩
    have H2 := Lib.hid (And.intro h2 (H1.out.2.1.trans ow2))
    clear hown hgrow hfresh b2 h2 ow2 qa2 bx r61
    go_upto_region 5 with fail
    clear y6 z6
    generalize w2.setCell ⟨R, 601, none⟩ (.slice a2 (nO + 1) c2) = w3 at *
    have hp0 : (0 : Int) ≤ (p : Int) := by omega
    have hp1 : (p : Int) < 600 := by omega
    have HE : Hid (∀ w5, Keeps noB (w3.setCell ⟨R, 1 + p, none⟩ (.int .i64 (n : Int))) w5 → ∃ own', Owns own own' W w5 ∧ RoomK (FreeK g) freeN (.iface 53 (.pointer (some ⟨g, 0, none⟩))) R w5 own' (l ++ [ev])) := Lib.hid (fun w5 q5 => by
      obtain ⟨h4, q4⟩ := H2.out.1.put (staysF g) p n hp6
      have o2 := Owns.behind HQ0.out.1 H2.out.2
      have h5 := h4.keeps (staysF g) q5 (fun _ _ e => e)
      have e1 : (fun i => if i = p then n else insS freeN l i) = insS freeN (l ++ [ev]) := funext (fun i => by rw [insS_plus HO.out.2.2.2.1, ← HO.out.2.2.2.2.1, ← HO.out.2.2.2.2.2])
      have eT : (cellsS freeN l).T ++ [p] = (cellsS freeN (l ++ [ev])).T := by rw [cells_plus HO.out.2.2.2.1, ← HO.out.2.2.2.2.1]
      have eO : (cellsS freeN l).O ++ [p] = (cellsS freeN (l ++ [ev])).O := by rw [cells_plus HO.out.2.2.2.1, ← HO.out.2.2.2.2.1]
      rw [e1, eT, eO] at h5
      exact ⟨_, ((o2.trans ⟨fun _ h => .inl h, fun k hk => Nat.lt_of_lt_of_le (o2.lt k hk) q4.size, q4⟩).ahead q5 (fun _ e => e.elim)), oK', _, _, h5⟩)
    clear H1 HT
    go_region
    all_goals
      go_wp2_with fail
      go_end0
      exact ⟨rfl, HE.out _ ((Keeps.refl _ _).drew)⟩
  · have h43 : ¬ ev.k = 43 := by rcases hk with h | h <;> (rw [h]; decide)
    have x1 : (kb == 43) = false := by rw [hk43]; simp [h43]
    by_cases h45 : ev.k = 45
    · have x2 : (kb == 45) = true := by rw [hk45]; simp [h45]
      obtain ⟨hn1, hnl, hcT⟩ := hci.cell hg hin
      obtain ⟨m, hmn⟩ : ∃ m, n = m + 1 := ⟨n - 1, by omega⟩
      have hm1 : ev.n - 1 = m := by omega
      rw [hm1] at hnl hcT
      obtain ⟨cv, hcv⟩ : ∃ cv, cv = nth (cellsS freeN l).O m := ⟨_, rfl⟩
      rw [← hcv] at hcT
      have hc6 : cv < 600 := by have := hci.tlt hg cv hcT; omega
      have hci' : ((n : Nat) : Int) = (m : Int) + 1 := by omega
      rw [hci'] at q0 bB hsz0 ⊢
      obtain ⟨gO, cO, e1, hcO, hgO, hcell, _⟩ := h.row.at hnl
      rw [← hnO] at e1 hcO
      simp only [Value.slice.injEq, true_and] at e1
      obtain ⟨rfl, rfl⟩ := e1
      rw [← hcv] at hcell
      have hgn : ¬ gO = W.heap.size := by omega
      have hcn : (nO : Int) ≤ (c : Int) := by omega
      have hmi : (m : Int) < (nO : Int) := by omega
      have hm0 : (0 : Int) ≤ (m : Int) := by omega
      have hm6 : (m : Int) ≤ 600 := by omega
      have hc0 : (0 : Int) ≤ (cv : Int) := by omega
      have hc7 : (cv : Int) < 600 := by omega
      have HF : Hid (∀ W1, Keeps noB W W1 → (W1.cell? ⟨R, 1 + cv, none⟩ = some (.int .i64 (insS freeN l cv : Int)) ∧ W1.frozen? ⟨R, 1 + cv, none⟩ = false) ∧ (W1.setCell ⟨R, 1 + cv, none⟩ (.int .i64 0)).cell? ⟨R, 0, none⟩ = some (.iface 53 (.pointer (some ⟨g, 0, none⟩))) ∧
          Calls Tryd.prog 150 #[.pointer (some ⟨g, 0, none⟩), .int .i64 (cv : Int)] (W1.setCell ⟨R, 1 + cv, none⟩ (.int .i64 0)) (HappenedF g R W own (l ++ [ev]))) := Lib.hid (fun W1 q => by
        have h1 := h.keeps (staysF g) q (fun _ _ e => e)
        obtain ⟨h2, q2⟩ := h1.put (staysF g) cv 0 hc6
        have hlt2 : ∀ k, own k → k < (W1.setCell ⟨R, 1 + cv, none⟩ (.int .i64 ((0 : Nat) : Int))).heap.size := fun k hk => Nat.lt_of_lt_of_le (hlt k hk) (Nat.le_trans q.size q2.size)
        refine ⟨⟨(h1.blk.cell _).trans (h1.ins cv hc6), h1.blk.free _⟩, (h2.blk.cell 0).trans h2.kp, ?_⟩
        refine (freeLeave_any _ g oK _ h2.keep (fun k hk => hlt2 k (h2.ownK k hk).1) cv hcT).mono ?_
        rintro e5 w5 ⟨he, oK', o5, k5⟩
        obtain ⟨h5, ow5⟩ := h2.turn hlt2 o5 k5
        have e1 : (fun i => if i = cv then 0 else insS freeN l i) = insS freeN (l ++ [ev]) := funext (fun i => by rw [insS_minus h43 h45, hm1, ← hcv])
        have eT : (cellsS freeN l).T.filter (fun m => decide (m ≠ cv)) = (cellsS freeN (l ++ [ev])).T := by rw [cells_minus h43 h45, hm1, ← hcv]
        have eO : (cellsS freeN l).O = (cellsS freeN (l ++ [ev])).O := by rw [cells_minus h43 h45]
        rw [e1, eT, eO] at h5
        exact ⟨he, _, Owns.behind q ((⟨fun _ h => .inl h, hlt2, q2⟩ : Owns own own W1 _).trans ow5), oK', _, _, h5⟩)
      have HQ0 := Lib.hid q0
      clear h hci hmade hpk hOl hlt hnO hB0 hk43 hk45 hkb hn hin q0 bB hsz0 h43 h45 hk hnl hcT hcv hci' hmn hm1 hn1
      go_enter Tryd.func45, Tryd.ntmps45
      go_wp2_with fail
      go_quiet (fail)
      have hqq := HQ0.out.trans ((Keeps.refl noB (W.alloc (.cells #[.int .u8 kb, .int .i64 ((m : Int) + 1)] 63))).drewN nq)
      obtain ⟨⟨f1, f2⟩, f3, f4⟩ := HF.out _ hqq
      have HF4 := Lib.hid f4
      clear f4 hqq r0 r6 hcell HF HQ0
      generalize (W.alloc (.cells #[.int .u8 kb, .int .i64 ((m : Int) + 1)] 63)).drewN nq = W1 at *
      have hml := mLeaveF g (W1.setCell ⟨R, 1 + cv, none⟩ (.int .i64 0))
      simp [go_sem] at hml
      go_wp2_with fail
      refine HF4.out.mono ?_
      rintro e5 w5 ⟨rfl, hpost⟩
      have HE := Lib.hid hpost
      clear hpost
      go_wp2_with fail
      go_end0
      exact ⟨rfl, HE.out⟩
    · have x2 : (kb == 45) = false := by rw [hk45]; simp [h45]
      have HE : Hid (∀ W1, Keeps noB W W1 → ∃ own', Owns own own' W W1 ∧ RoomK (FreeK g) freeN (.iface 53 (.pointer (some ⟨g, 0, none⟩))) R W1 own' (l ++ [ev])) := Lib.hid (fun W1 q => by
        have h2 := h.keeps (staysF g) q (fun _ _ e => e)
        rw [← insS_dot h43 h45, ← cells_dot h43 h45] at h2
        exact ⟨own, (Owns.refl hlt).ahead q (fun _ e => e.elim), oK, _, cs, h2⟩)
      have HQ0 := Lib.hid q0
      clear h hci hmade hpk hOl hlt hnO hB0 hk43 hk45 hkb hn hin q0 bB hsz0 h43 h45 hk
      go_enter Tryd.func45, Tryd.ntmps45
      go_wp2_with fail
      go_end0
      exact ⟨rfl, HE.out _ HQ0.out⟩

end Go.Proofs.YthgocacabadflaaDoor

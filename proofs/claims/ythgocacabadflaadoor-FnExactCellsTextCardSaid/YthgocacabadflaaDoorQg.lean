/-
  The program's history: add, walked.
-/
import Derived.Test.YthgocacabadflaaDoorQf
namespace Go.Proofs.YthgocacabadflaaDoor
set_option linter.unusedVariables false
set_option linter.unusedSimpArgs false
open Go.RowKit

/-- The event that is added, if it may be. -/
def addE (l : List Ev) (k : UInt8) (v : Int) : Option Ev := if 600 ≤ l.length then none else if 0 ≤ v ∧ fits l ⟨k, v.toNat⟩ then some ⟨k, v.toNat⟩ else none

def AddPost (w : World) (H : Nat) (own : Nat → Prop) (l : List Ev) (o : Option Ev) (e : Ending) (w' : World) : Prop :=
  match o with
  | some ev => e = .returned .nilIface ∧ ∃ own' ve' vl', Owns own own' w w' ∧ HistAt w' H own' (l ++ [ev]) ve' vl'
  | none => (∃ tp q, e = .returned (.iface tp q)) ∧ Owns own own w w'

set_option maxRecDepth 100000 in
set_option maxHeartbeats 8000000 in
theorem add_any (w : World) (H : Nat) (own : Nat → Prop) (l : List Ev) (ve vl : Value) (h : HistAt w H own l ve vl) (hlt : ∀ k, own k → k < w.heap.size) (hlow : ∀ k, own k → 12 ≤ k) (hE : Env w) (hg : Good l) (hl : l.length ≤ 600)
    (k : UInt8) (v : Int) (hk : k = 43 ∨ k = 46 ∨ k = 45) (hv : (Lit.int .i64 v).wf = true) :
    Calls Tryd.prog 53 #[.pointer (some ⟨H, 0, none⟩), .agg #[.int .u8 (k.toNat : Int), .int .i64 v]] w (AddPost w H own l (addE l k v)) := by
  obtain ⟨i0, hi, hz0, hz1, hz2⟩ := info_parts Tryd.infoV63
  have HI := Lib.hid (And.intro hi (And.intro hz0 (And.intro hz1 hz2)))
  obtain ⟨j0, hj, hy0, hy1, hy2⟩ := info_parts Tryd.infoL41
  have HJ := Lib.hid (And.intro hj (And.intro hy0 (And.intro hy1 hy2)))
  obtain ⟨kv, hkv⟩ : ∃ kv : Int, kv = (k.toNat : Int) := ⟨_, rfl⟩
  have hk43 : (kv == 43) = decide (k = 43) := by rw [hkv]; exact byte_is k 43
  have hk46 : (kv == 46) = decide (k = 46) := by rw [hkv]; exact byte_is k 46
  rw [← hkv]
  have HKV := Lib.hid hkv
  have hsay := hg.says
  obtain ⟨⟨ae, ce, rfl⟩, al, cl, rfl⟩ := h.shape
  obtain ⟨nE, hnE⟩ : ∃ nE, nE = l.length := ⟨_, rfl⟩
  obtain ⟨mL, hmL⟩ : ∃ mL, mL = (livesL l).length := ⟨_, rfl⟩
  have hmm : mL = madeN l := by rw [hmL, hsay.made]
  rw [← hnE, ← hmL] at h
  have q01 : Keeps noB w (w.alloc (.cells #[.int .u8 kv, .int .i64 v] 63)) := (Keeps.refl _ _).alloc _
  have bE := Blk.new w #[.int .u8 kv, .int .i64 v] 63
  have hE1 := hE.keeps q01 (fun _ _ e => e)
  have h1 := h.keeps q01 (fun _ _ e => e)
  have hlt1 : ∀ k, own k → k < (w.alloc (.cells #[.int .u8 kv, .int .i64 v] 63)).heap.size := fun k hk => Nat.lt_of_lt_of_le (hlt k hk) q01.size
  have hHE : H < w.heap.size := h.blk.lt
  have HB := Lib.hid (And.intro q01 (And.intro bE (And.intro hE1 (And.intro h1 hlt1))))
  have HL := Lib.hid (And.intro hg (And.intro hl (And.intro hnE (And.intro hmL hmm))))
  have hn6 : nE ≤ 600 := by omega
  have hm6 : mL ≤ 600 := by rw [hmm]; have := hsay.le; omega
  have e0 := h1.blk.cell 0
  have e1 := h1.blk.cell 1
  have c0 : (w.alloc (.cells #[.int .u8 kv, .int .i64 v] 63)).cell? ⟨w.heap.size, 0, none⟩ = some (.int .u8 kv) := (bE.cell 0).trans rfl
  have c1 : (w.alloc (.cells #[.int .u8 kv, .int .i64 v] 63)).cell? ⟨w.heap.size, 1, none⟩ = some (.int .i64 v) := (bE.cell 1).trans rfl
  simp at e0 e1
  obtain ⟨tp0, q0, g0⟩ := hE1.e0
  obtain ⟨tp1, q1, g1⟩ := hE1.e1
  obtain ⟨tp2, q2, g2⟩ := hE1.e2
  have HLT := Lib.hid (And.intro hlt hlow)
  clear hi hz0 hz1 hz2 hj hy0 hy1 hy2 hkv hsay h h1 hlt1 q01 bE hE1 hE hlt hlow hg hl hmm
  go_enter Tryd.func53, Tryd.ntmps53
  go_upto_region 1 with fail
  have hnoE : Hid (∀ W', Keeps noB (w.alloc (.cells #[.int .u8 kv, .int .i64 v] 63)) W' → ∀ tp q, addE l k v = none → AddPost w H own l (addE l k v) (.returned (.iface tp q)) W') := fun W' q tp qq hn => by
    rw [hn]
    exact ⟨⟨_, _, rfl⟩, (Owns.refl HLT.out.1).ahead (HB.out.1.trans q) (fun _ e => e.elim)⟩
  generalize w.alloc (.cells #[.int .u8 kv, .int .i64 v] 63) = W1 at *
  obtain ⟨E, hEE⟩ : ∃ E, E = w.heap.size := ⟨_, rfl⟩
  rw [← hEE] at c0 c1 hHE ⊢
  have HEE := Lib.hid hEE
  clear hEE
  by_cases h6 : nE = 600
  · have hne : ((nE : Int) == 600) = true := by simp [h6]
    have HE : Hid (addE l k v = none) := Lib.hid (if_pos (by have := HL.out.2.2.1; omega))
    clear h6
    go_wp2_with fail
    go_ret
    exact hnoE.out _ (Keeps.refl _ _) _ _ HE.out
  · have hne : ((nE : Int) == 600) = false := by rw [beq_eq_false_iff_ne]; omega
    have HADD : Hid (addE l k v = if 0 ≤ v ∧ fits l ⟨k, v.toNat⟩ then some ⟨k, v.toNat⟩ else none) := Lib.hid (if_neg (by have := HL.out.2.2.1; omega))
    have HF : Hid (∀ W2, Keeps noB W1 W2 → W2.cell? ⟨H, 0, none⟩ = some (.slice ae nE ce) ∧ W2.cell? ⟨H, 1, none⟩ = some (.slice al mL cl) ∧ W2.cell? ⟨E, 0, none⟩ = some (.int .u8 kv) ∧ W2.cell? ⟨E, 1, none⟩ = some (.int .i64 v) ∧ MidAt W2 H own l (livesL l) (.slice ae nE ce) (.slice al mL cl)) := fun W2 q => by
      have hm := HB.out.2.2.2.1.mid.keeps q (fun _ _ e => e)
      have b := q.blk HB.out.2.1 (fun e => e)
      rw [← HEE.out] at b
      exact ⟨(hm.blk.cell 0).trans rfl, (hm.blk.cell 1).trans rfl, (b.cell 0).trans rfl, (b.cell 1).trans rfl, hm⟩
    have HES : Hid (∀ own2 W2 W5, Keeps noB W1 W2 → Owns own own2 W2 W5 → W5.cell? ⟨E, 0, none⟩ = some (.int .u8 kv) ∧ W5.cell? ⟨E, 1, none⟩ = some (.int .i64 v)) := fun own2 W2 W5 q ho => by
      have b := q.blk HB.out.2.1 (fun e => e)
      have b2 := ho.keeps.blk b (fun e => by have := HLT.out.1 _ e; omega)
      rw [← HEE.out] at b2
      exact ⟨(b2.cell 0).trans rfl, (b2.cell 1).trans rfl⟩
    have hmi : (mL : Int) ≤ 600 := by omega
    have hmi0 : (0 : Int) ≤ (mL : Int) := by omega
    have hwr : IntKind.i64.wrap ((mL : Int) + 1) = (mL : Int) + 1 := by rw [IntKind.wrap_i64]; omega
    clear hnE hmL
    by_cases hA : k = 43 ∧ v = (mL : Int) + 1
    · have x1 : (kv == 43) = true := by rw [hk43]; simp [hA.1]
      have x2 : (v == (mL : Int) + 1) = true := by simp [hA.2]
      have hve := hA.2
      have hsome : addE l k v = some ⟨k, v.toNat⟩ := by rw [HADD.out, if_pos ⟨by omega, .inl ⟨hA.1, by have := HL.out.2.2.2.2; show v.toNat = _; omega⟩⟩]
      have HY : Hid (addE l k v = some ⟨k, v.toNat⟩ ∧ 0 ≤ v) := ⟨hsome, by omega⟩
      have HK := Lib.hid hA.1
      clear hsome hve
      go_wp2_with fail
      go_quiet (fail)
      clear hA
      have qd : Keeps noB W1 (W1.drewN nq) := (Keeps.refl _ _).drewN nq
      obtain ⟨d0, d1, d2, d3, hmd⟩ := HF.out _ qd
      have hsd : w.heap.size < (W1.drewN nq).heap.size := Nat.lt_of_lt_of_le HB.out.2.1.lt qd.size
      clear e0 e1 c0 c1 g0 g1 g2
      generalize W1.drewN nq = W2 at *
      obtain ⟨hj, hy0, hy1, hy2⟩ := HJ.out
      obtain ⟨LC, hLC⟩ : ∃ LC, LC = lfC (livesL l) := ⟨_, rfl⟩
      have HML := Lib.hid (And.intro hmd (And.intro hLC qd))
      have HRL : Hid (W2.ownsRow 0 41 3 (.slice al mL cl) mL LC) := by
        have h := hmd.lfs; unfold LRow at h; rw [← HL.out.2.2.2.1, ← hLC] at h; exact h
      clear hLC hmd qd
      go_wp2_with (at_builtin; refine wpList_append_fresh _ rfl _ _ 36 rfl 41 j0 _ 3 24 Tryd.underlying36 hj hy0 hy1 hy2 rfl (by decide) (.slice al mL cl) mL LC rfl (HRL.out.alloc _) ⟨W2.heap.size, 0, none⟩ 1 1 [.int .i64 nE, .int .i64 nE, .int .i64 (-1)] rfl rfl (cells_all W2 #[.int .i64 nE, .int .i64 nE, .int .i64 (-1)] 41) (by intro u hu; simp at hu; rcases hu with rfl | rfl | rfl <;> rfl) (by unfold maxLen; omega) (by omega) ?_)
      intro vL w4 ho4 hg4 hf4
      obtain ⟨aL, cL, rfl⟩ := row_shape (ok := fun _ => True) ⟨ho4, fun _ _ => trivial⟩
      have hm := HML.out.1
      have hlt2 : ∀ k, own k → k < W2.heap.size := fun k hk => Nat.lt_trans (HLT.out.1 k hk) hsd
      have b4 : Blk w4 H #[.slice ae nE ce, .slice al mL cl] 60 := ((((Keeps.refl noB W2).alloc _).mono (fun _ e => e.elim)).grown (may := fun g => (Value.slice al mL cl).ownBlock = some g) hg4 (fun g hg => .inl hg)).blk hm.blk (fun e => (hm.ownL H e).2 rfl)
      have f1 : w4.cell? ⟨H, 1, none⟩ = some (.slice al mL cl) := (b4.cell 1).trans rfl
      have f2 := b4.free 1
      obtain ⟨own5, ho5, hm5⟩ : ∃ own', Owns own own' W2 (w4.setCell ⟨H, 1, none⟩ (.slice aL (mL + 1) cL)) ∧ MidAt (w4.setCell ⟨H, 1, none⟩ (.slice aL (mL + 1) cL)) H own' l (livesL l ++ [⟨nE, nE, -1⟩]) (.slice ae nE ce) (.slice aL (mL + 1) cL) := by
        have hml := HL.out.2.2.2.1
        rw [hml] at hm ho4 hg4 hf4
        rw [HML.out.2.1] at ho4
        have := hm.life (W2 := W2.alloc (.cells #[.int .i64 nE, .int .i64 nE, .int .i64 (-1)] 41)) (f := ⟨nE, nE, -1⟩) hlt2 ((Keeps.refl _ _).alloc _) ho4 hg4 hf4
        rw [hml]; exact this
      have hW5 := HES.out _ _ _ HML.out.2.2 ho5
      have HX := Lib.hid (And.intro ho5 (And.intro hm5 hW5))
      clear hm ho4 hg4 hf4 b4 ho5 hm5 hW5 d0 d1 d2 d3
      go_upto_region 13 with fail
      generalize w4.setCell ⟨H, 1, none⟩ (.slice aL (mL + 1) cL) = W5 at *
      obtain ⟨ho5, hmid, k0, k1⟩ := HX.out
      have hown5 : Owns own own5 W1 W5 := Owns.behind HML.out.2.2 ho5
      have hs5 : livesL l ++ [⟨nE, nE, -1⟩] = livesL (l ++ [⟨k, v.toNat⟩]) := by
        rw [livesL_snoc]; unfold lifeStep; rw [if_pos HK.out, HL.out.2.2.1]
      clear ho5 f1 f2
      have hbH := hmid.blk
      have hH5 := hbH.lt
      have hH5n : ¬ H = W5.heap.size := by omega
      have y0 : W5.cell? ⟨H, 0, none⟩ = some (.slice ae nE ce) := (hbH.cell 0).trans rfl
      have HM5 := Lib.hid (And.intro hmid (And.intro hown5 hs5))
      obtain ⟨EL, hEL⟩ : ∃ EL, EL = evC l := ⟨_, rfl⟩
      have HROW : Hid ((W5.alloc (.cells #[.int .u8 kv, .int .i64 v] 63)).drew.ownsRow 0 63 2 (.slice ae nE ce) nE EL) := by
        have h := (((Keeps.refl noB W5).alloc (.cells #[.int .u8 kv, .int .i64 v] 63)).drew).ownsRow hmid.evs (fun _ _ _ e => e)
        rw [← HL.out.2.2.1, ← hEL] at h
        exact h
      have HC : Hid (∀ j u, [Value.int .u8 kv, Value.int .i64 v][j]? = some u → (W5.alloc (.cells #[.int .u8 kv, .int .i64 v] 63)).drew.cell? ((⟨W5.heap.size, 0, none⟩ : Addr).add j) = some u) := cells_all W5 #[.int .u8 kv, .int .i64 v] 63
      have HON : Hid (∀ u ∈ [Value.int .u8 kv, Value.int .i64 v], u.oneCell' = true) := by intro u hu; simp at hu; rcases hu with rfl | rfl <;> rfl
      have HFIN : Hid (∀ v' w4, w4.ownsRow 0 63 2 v' (nE + 1) (EL ++ [.int .u8 kv, .int .i64 v]) → ((W5.alloc (.cells #[.int .u8 kv, .int .i64 v] 63)).drew).grownBy w4 (Value.slice ae nE ce).ownBlock → Fresh ((W5.alloc (.cells #[.int .u8 kv, .int .i64 v] 63)).drew) (.slice ae nE ce) v' →
          w4.cell? ⟨H, 0, none⟩ = some (.slice ae nE ce) ∧ w4.frozen? ⟨H, 0, none⟩ = false ∧ AddPost w H own l (addE l k v) (.returned .nilIface) (w4.setCell ⟨H, 0, none⟩ v')) := fun v' w4 h1 h2 h3 => by
        have hn := HL.out.2.2.1
        have hm := HM5.out.1
        have hss := HM5.out.2.2
        rw [hn] at hm h1 h2 h3
        try rw [hn] at hss
        have qw : Keeps noB W5 ((W5.alloc (.cells #[.int .u8 kv, .int .i64 v] 63)).drew) := ((Keeps.refl noB W5).alloc _).drew
        have bH : Blk w4 H #[.slice ae l.length ce, .slice aL (mL + 1) cL] 60 := ((qw.mono (fun _ e => e.elim)).grown (may := fun g => (Value.slice ae l.length ce).ownBlock = some g) h2 (fun g hg => .inl hg)).blk hm.blk (fun e => (hm.ownE H e).2 rfl)
        rw [hEL, HKV.out] at h1
        obtain ⟨own6, ho6, hm6⟩ := hm.event (W2 := (W5.alloc (.cells #[.int .u8 kv, .int .i64 v] 63)).drew) HM5.out.2.1.lt HY.out.2 qw h1 h2 h3
        refine ⟨by rw [hn]; exact (bH.cell 0).trans rfl, bH.free 0, ?_⟩
        rw [HY.out.1]
        exact ⟨rfl, own6, v', .slice aL (mL + 1) cL, (Owns.behind HB.out.1 HM5.out.2.1).trans ho6, hm6.hist hss⟩
      clear hmid hown5 hs5 hbH hEL
      obtain ⟨hi, hz0, hz1, hz2⟩ := HI.out
      go_wp2_with fail
      go_region_law (first
        | (refine step_append_fresh rfl (.tmp 77) (.tmp 79) 49 rfl 63 i0 (.agg #[.int .u8 0, .int .i64 0]) 2 16 Tryd.underlying49 hi hz0 hz1 hz2 rfl (by decide) (.slice ae nE ce) nE EL rfl HROW.out ⟨W5.heap.size, 0, none⟩ 1 1 [.int .u8 kv, .int .i64 v] rfl rfl HC.out HON.out (by unfold maxLen; omega) (by omega) ?_
           intro v' w4 ho hg hf
           obtain ⟨z0, z1, hpost⟩ := HFIN.out v' w4 ho hg hf
           obtain ⟨a', c', rfl⟩ := row_shape (ok := fun _ => True) ⟨ho, fun _ _ => trivial⟩
           have HE := Lib.hid hpost
           clear ho hg hf hpost))
      all_goals
        go_wp2_with fail
        go_ret
        exact HE.out
    · have HGC : Hid (∀ W2, Keeps noB W1 W2 → W2.cell? ⟨1, 0, none⟩ = some (.iface tp1 q1) ∧ W2.cell? ⟨2, 0, none⟩ = some (.iface tp2 q2)) := fun W2 q => by
        have hs := HB.out.2.2.1.sz
        exact ⟨(q.cell (p := ⟨1, 0, none⟩) (show 1 < _ by omega) id).trans g1, (q.cell (p := ⟨2, 0, none⟩) (show 2 < _ by omega) id).trans g2⟩
      by_cases h43 : k = 43
      · have hvn : ¬ v = (mL : Int) + 1 := fun e => hA ⟨h43, e⟩
        have x1 : (kv == 43) = true := by rw [hk43]; simp [h43]
        have x2 : (v == (mL : Int) + 1) = false := by rw [beq_eq_false_iff_ne]; exact hvn
        have HE : Hid (addE l k v = none) := Lib.hid (by
          rw [HADD.out, if_neg]
          rintro ⟨h0, (⟨_, h2⟩ | ⟨h2, _⟩)⟩
          · have h2 : v.toNat = madeN l + 1 := h2
            have := HL.out.2.2.2.2; omega
          · have h2 : k = 46 ∨ k = 45 := h2
            rw [h43] at h2; exact absurd h2 (by decide))
        clear hA h43 hk43 hk46
        go_wp2_with fail
        go_quiet (fail)
        clear hvn
        have qd : Keeps noB W1 (W1.drewN nq) := (Keeps.refl _ _).drewN nq
        obtain ⟨d0, d1, d2, d3, hmd⟩ := HF.out _ qd
        obtain ⟨y1, y2⟩ := HGC.out _ qd
        have HQD := Lib.hid qd
        clear e0 e1 c0 c1 g0 g1 g2 hmd qd
        generalize W1.drewN nq = W2 at *
        go_wp2_with fail
        go_ret
        exact hnoE.out _ HQD.out _ _ HE.out
      · have x1 : (kv == 43) = false := by rw [hk43]; simp [h43]
        have hkn : ¬ kv = 43 := by simpa using x1
        obtain ⟨ib, hib⟩ : ∃ ib, ib = inB (aliveL l) v := ⟨_, rfl⟩
        have HIA : Hid (∀ W2, Keeps noB W1 W2 → Calls Tryd.prog 69 #[.pointer (some ⟨H, 0, none⟩), .int .i64 v] W2 fun e w' => e = .returned (.bool ib) ∧ Keeps noB W2 w') := fun W2 q => by
          rw [hib]
          exact isAlive_any W2 H own l _ _ (HB.out.2.2.2.1.keeps q (fun _ _ e => e)) HL.out.1 HL.out.2.1 v hv
        have HADD2 : Hid (addE l k v = if ib = true then some ⟨k, v.toNat⟩ else none) := Lib.hid (by
          rw [HADD.out, hib]
          have hk2 : k = 46 ∨ k = 45 := by rcases hk with h | h; exact absurd h h43; exact h
          by_cases hi : inB (aliveL l) v = true
          · rw [if_pos hi, if_pos ((fitsI k v).2 (.inr ⟨hk2, hi⟩))]
          · rw [if_neg hi, if_neg (fun e => by
              rcases (fitsI k v).1 e with ⟨h1, _⟩ | ⟨_, h1⟩
              · exact h43 h1
              · exact hi h1)])
        have HIB := Lib.hid hib
        have H43 := Lib.hid h43
        have HK46 := Lib.hid hk46
        clear hA h43 hib hk43 hk46
        go_wp2_with fail
        go_quiet (fail)
        clear hkn
        have qd : Keeps noB W1 (W1.drewN nq) := (Keeps.refl _ _).drewN nq
        obtain ⟨d0, d1, d2, d3, hmd⟩ := HF.out _ qd
        obtain ⟨y1, y2⟩ := HGC.out _ qd
        have HQD := Lib.hid qd
        clear e0 e1 c0 c1 g0 g1 g2 hmd qd
        generalize W1.drewN nq = W2 at *
        cases ib with
        | false =>
          have HE : Hid (addE l k v = none) := HADD2.out.trans (if_neg (by decide))
          go_wp2_with (go_at_call 69; refine (HIA.out _ HQD.out).mono ?_; rintro e W3 ⟨rfl, q3⟩; have HQ3 := Lib.hid (HQD.out.trans q3); obtain ⟨y3, y4⟩ := HGC.out W3 HQ3.out; clear q3)
          go_ret
          exact hnoE.out _ HQ3.out _ _ HE.out
        | true =>
          obtain ⟨hv1, f, hf, hfd⟩ := (in_lives HL.out.1 v).1 HIB.out.symm
          obtain ⟨i, hi⟩ : ∃ i : Nat, (i : Int) = v - 1 := ⟨(v - 1).toNat, by omega⟩
          rw [show (v - 1).toNat = i by omega] at hf
          have hil : i < mL := by rw [HL.out.2.2.2.1]; exact (List.getElem?_eq_some_iff.1 hf).1
          obtain ⟨gL, cL', eL, hcL, hgL, hcellL⟩ := row_capM (ok := fun _ => True) HB.out.2.2.2.1.lfs (by have := HL.out.2.2.2.1; omega)
          rw [← HL.out.2.2.2.1] at eL hcL
          simp only [Value.slice.injEq, true_and] at eL
          obtain ⟨rfl, rfl⟩ := eL
          have hvi : v = (i : Int) + 1 := by omega
          subst hvi
          have hi0 : (0 : Int) ≤ (i : Int) := by omega
          have hiL : (i : Int) < (mL : Int) := by omega
          have hcn : (mL : Int) ≤ (cl : Int) := by omega
          have HY : Hid (addE l k ((i : Int) + 1) = some ⟨k, ((i : Int) + 1).toNat⟩ ∧ 0 ≤ (i : Int) + 1) := ⟨HADD2.out.trans (if_pos rfl), by omega⟩
          obtain ⟨l0, l1, l2⟩ := lfC_get _ _ _ hf
          have HCL : Hid (∀ W3, Keeps noB W1 W3 → (W3.cell? ⟨gL, i * 3 + 1, none⟩ = some (.int .i64 f.u) ∧ W3.frozen? ⟨gL, i * 3 + 1, none⟩ = false) ∧ W3.cell? ⟨gL, i * 3 + 2, none⟩ = some (.int .i64 f.d) ∧ W3.frozen? ⟨gL, i * 3 + 2, none⟩ = false) := fun W3 q => by
            have a1 := hcellL _ _ l1
            have a2 := hcellL _ _ l2
            rw [show 3 * i + 1 = i * 3 + 1 by omega] at a1
            rw [show 3 * i + 2 = i * 3 + 2 by omega] at a2
            exact ⟨⟨(q.cell (p := ⟨gL, i * 3 + 1, none⟩) hgL id).trans a1.1, (q.frozen (p := ⟨gL, i * 3 + 1, none⟩) hgL id).trans a1.2⟩, (q.cell (p := ⟨gL, i * 3 + 2, none⟩) hgL id).trans a2.1, (q.frozen (p := ⟨gL, i * 3 + 2, none⟩) hgL id).trans a2.2⟩
          have HFI := Lib.hid (And.intro hf (And.intro hil hi))
          clear hf hfd l0 l1 l2 hcellL hgL hcL hil hv1 hi
          by_cases h46 : k = 46
          · have x5 : (kv == 46) = true := by rw [HK46.out]; simp [h46]
            have H46 := Lib.hid h46
            clear h46
            go_wp2_with (go_at_call 69; refine (HIA.out _ HQD.out).mono ?_; rintro e W3 ⟨rfl, q3⟩; have HQ3 := Lib.hid (HQD.out.trans q3); obtain ⟨r0, r1, r2, r3, hm3⟩ := HF.out W3 HQ3.out; obtain ⟨⟨t0, t1⟩, t2, t3⟩ := HCL.out W3 HQ3.out; have HM3 := Lib.hid hm3; have hH3 := hm3.blk.lt; clear q3 hm3)
            go_region
            have hm5 : MidAt ((W3.setCell ⟨gL, i * 3 + 1, none⟩ (.int .i64 nE)).drew) H own l ((livesL l).modify i (fun f => { f with u := (nE : Int) })) (.slice ae nE ce) (.slice (some ⟨gL, 0, none⟩) mL cl) := by
              have hm := HM3.out
              have hml := HL.out.2.2.2.1
              rw [hml] at hm ⊢
              have h := hm.setLife (i * 3 + 1) (by have := HFI.out.2.1; omega) (.int .i64 nE) (s' := (livesL l).modify i (fun f => { f with u := (nE : Int) })) (by simp) (by rw [show i * 3 + 1 = 3 * i + 1 by omega]; exact lfC_set_u _ _ _ (by have := HFI.out.2.1; omega))
              exact h.keeps ((Keeps.refl noB _).drew) (fun _ _ e => e)
            have ho5 : Owns own own W3 ((W3.setCell ⟨gL, i * 3 + 1, none⟩ (.int .i64 nE)).drew) :=
              ⟨fun _ h => .inl h, fun k hk => by have := HLT.out.1 k hk; have := HQ3.out.size; have := HB.out.1.size; simp only [World.drew, World.setCell]; simp; omega, ((Keeps.refl own W3).setCell (p := ⟨gL, i * 3 + 1, none⟩) (.inl (HM3.out.ownL gL rfl).1) _).drew⟩
            have hW5 := HES.out _ _ _ HQ3.out ho5
            have HX := Lib.hid (And.intro ho5 (And.intro hm5 hW5))
            clear hm5 ho5 hW5 r0 r1 r2 r3 t0 t1 t2 t3 d0 d1 d2 d3
            go_upto_region 13 with fail
            generalize (W3.setCell ⟨gL, i * 3 + 1, none⟩ (.int .i64 nE)).drew = W5 at *
            obtain ⟨ho5, hmid, k0, k1⟩ := HX.out
            have hown5 : Owns own own W1 W5 := Owns.behind HQ3.out ho5
            have hs5 : (livesL l).modify i (fun f => { f with u := (nE : Int) }) = livesL (l ++ [⟨k, ((i : Int) + 1).toNat⟩]) := by
              rw [livesL_snoc]; unfold lifeStep
              rw [if_neg H43.out, if_pos H46.out, HL.out.2.2.1]
              show _ = (livesL l).modify (((i : Int) + 1).toNat - 1) _
              rw [show ((i : Int) + 1).toNat - 1 = i by omega]
            clear ho5
            have hbH := hmid.blk
            have hH5 := hbH.lt
            have hH5n : ¬ H = W5.heap.size := by omega
            have y0 : W5.cell? ⟨H, 0, none⟩ = some (.slice ae nE ce) := (hbH.cell 0).trans rfl
            have HM5 := Lib.hid (And.intro hmid (And.intro hown5 hs5))
            obtain ⟨EL, hEL⟩ : ∃ EL, EL = evC l := ⟨_, rfl⟩
            have HROW : Hid ((W5.alloc (.cells #[.int .u8 kv, .int .i64 ((i : Int) + 1)] 63)).drew.ownsRow 0 63 2 (.slice ae nE ce) nE EL) := by
              have h := (((Keeps.refl noB W5).alloc (.cells #[.int .u8 kv, .int .i64 ((i : Int) + 1)] 63)).drew).ownsRow hmid.evs (fun _ _ _ e => e)
              rw [← HL.out.2.2.1, ← hEL] at h
              exact h
            have HC : Hid (∀ j u, [Value.int .u8 kv, Value.int .i64 ((i : Int) + 1)][j]? = some u → (W5.alloc (.cells #[.int .u8 kv, .int .i64 ((i : Int) + 1)] 63)).drew.cell? ((⟨W5.heap.size, 0, none⟩ : Addr).add j) = some u) := cells_all W5 #[.int .u8 kv, .int .i64 ((i : Int) + 1)] 63
            have HON : Hid (∀ u ∈ [Value.int .u8 kv, Value.int .i64 ((i : Int) + 1)], u.oneCell' = true) := by intro u hu; simp at hu; rcases hu with rfl | rfl <;> rfl
            have HFIN : Hid (∀ v' w4, w4.ownsRow 0 63 2 v' (nE + 1) (EL ++ [.int .u8 kv, .int .i64 ((i : Int) + 1)]) → ((W5.alloc (.cells #[.int .u8 kv, .int .i64 ((i : Int) + 1)] 63)).drew).grownBy w4 (Value.slice ae nE ce).ownBlock → Fresh ((W5.alloc (.cells #[.int .u8 kv, .int .i64 ((i : Int) + 1)] 63)).drew) (.slice ae nE ce) v' →
                w4.cell? ⟨H, 0, none⟩ = some (.slice ae nE ce) ∧ w4.frozen? ⟨H, 0, none⟩ = false ∧ AddPost w H own l (addE l k ((i : Int) + 1)) (.returned .nilIface) (w4.setCell ⟨H, 0, none⟩ v')) := fun v' w4 h1 h2 h3 => by
              have hn := HL.out.2.2.1
              have hm := HM5.out.1
              have hss := HM5.out.2.2
              rw [hn] at hm h1 h2 h3
              try rw [hn] at hss
              have qw : Keeps noB W5 ((W5.alloc (.cells #[.int .u8 kv, .int .i64 ((i : Int) + 1)] 63)).drew) := ((Keeps.refl noB W5).alloc _).drew
              have bH : Blk w4 H #[.slice ae l.length ce, .slice (some ⟨gL, 0, none⟩) mL cl] 60 := ((qw.mono (fun _ e => e.elim)).grown (may := fun g => (Value.slice ae l.length ce).ownBlock = some g) h2 (fun g hg => .inl hg)).blk hm.blk (fun e => (hm.ownE H e).2 rfl)
              rw [hEL, HKV.out] at h1
              obtain ⟨own6, ho6, hm6⟩ := hm.event (W2 := (W5.alloc (.cells #[.int .u8 kv, .int .i64 ((i : Int) + 1)] 63)).drew) HM5.out.2.1.lt HY.out.2 qw h1 h2 h3
              refine ⟨by rw [hn]; exact (bH.cell 0).trans rfl, bH.free 0, ?_⟩
              rw [HY.out.1]
              exact ⟨rfl, own6, v', .slice (some ⟨gL, 0, none⟩) mL cl, (Owns.behind HB.out.1 HM5.out.2.1).trans ho6, hm6.hist hss⟩
            clear hmid hown5 hs5 hbH hEL
            obtain ⟨hi, hz0, hz1, hz2⟩ := HI.out
            go_wp2_with fail
            go_region_law (first
              | (refine step_append_fresh rfl (.tmp 77) (.tmp 79) 49 rfl 63 i0 (.agg #[.int .u8 0, .int .i64 0]) 2 16 Tryd.underlying49 hi hz0 hz1 hz2 rfl (by decide) (.slice ae nE ce) nE EL rfl HROW.out ⟨W5.heap.size, 0, none⟩ 1 1 [.int .u8 kv, .int .i64 ((i : Int) + 1)] rfl rfl HC.out HON.out (by unfold maxLen; omega) (by omega) ?_
                 intro v' w4 ho hg hf
                 obtain ⟨z0, z1, hpost⟩ := HFIN.out v' w4 ho hg hf
                 obtain ⟨a', c', rfl⟩ := row_shape (ok := fun _ => True) ⟨ho, fun _ _ => trivial⟩
                 have HE := Lib.hid hpost
                 clear ho hg hf hpost))
            all_goals
              go_wp2_with fail
              go_ret
              exact HE.out
          · have x5 : (kv == 46) = false := by rw [HK46.out]; simp [h46]
            have H46 := Lib.hid h46
            clear h46
            go_wp2_with (go_at_call 69; refine (HIA.out _ HQD.out).mono ?_; rintro e W3 ⟨rfl, q3⟩; have HQ3 := Lib.hid (HQD.out.trans q3); obtain ⟨r0, r1, r2, r3, hm3⟩ := HF.out W3 HQ3.out; obtain ⟨⟨t0, t1⟩, t2, t3⟩ := HCL.out W3 HQ3.out; have HM3 := Lib.hid hm3; have hH3 := hm3.blk.lt; clear q3 hm3)
            go_region
            have hm5 : MidAt ((W3.setCell ⟨gL, i * 3 + 2, none⟩ (.int .i64 nE)).drew) H own l ((livesL l).modify i (fun f => { f with d := (nE : Int) })) (.slice ae nE ce) (.slice (some ⟨gL, 0, none⟩) mL cl) := by
              have hm := HM3.out
              have hml := HL.out.2.2.2.1
              rw [hml] at hm ⊢
              have h := hm.setLife (i * 3 + 2) (by have := HFI.out.2.1; omega) (.int .i64 nE) (s' := (livesL l).modify i (fun f => { f with d := (nE : Int) })) (by simp) (by rw [show i * 3 + 2 = 3 * i + 2 by omega]; exact lfC_set_d _ _ _ (by have := HFI.out.2.1; omega))
              exact h.keeps ((Keeps.refl noB _).drew) (fun _ _ e => e)
            have ho5 : Owns own own W3 ((W3.setCell ⟨gL, i * 3 + 2, none⟩ (.int .i64 nE)).drew) :=
              ⟨fun _ h => .inl h, fun k hk => by have := HLT.out.1 k hk; have := HQ3.out.size; have := HB.out.1.size; simp only [World.drew, World.setCell]; simp; omega, ((Keeps.refl own W3).setCell (p := ⟨gL, i * 3 + 2, none⟩) (.inl (HM3.out.ownL gL rfl).1) _).drew⟩
            have hW5 := HES.out _ _ _ HQ3.out ho5
            have HX := Lib.hid (And.intro ho5 (And.intro hm5 hW5))
            clear hm5 ho5 hW5 r0 r1 r2 r3 t0 t1 t2 t3 d0 d1 d2 d3
            go_upto_region 13 with fail
            generalize (W3.setCell ⟨gL, i * 3 + 2, none⟩ (.int .i64 nE)).drew = W5 at *
            obtain ⟨ho5, hmid, k0, k1⟩ := HX.out
            have hown5 : Owns own own W1 W5 := Owns.behind HQ3.out ho5
            have hs5 : (livesL l).modify i (fun f => { f with d := (nE : Int) }) = livesL (l ++ [⟨k, ((i : Int) + 1).toNat⟩]) := by
              rw [livesL_snoc]; unfold lifeStep
              rw [if_neg H43.out, if_neg H46.out, HL.out.2.2.1]
              show _ = (livesL l).modify (((i : Int) + 1).toNat - 1) _
              rw [show ((i : Int) + 1).toNat - 1 = i by omega]
            clear ho5
            have hbH := hmid.blk
            have hH5 := hbH.lt
            have hH5n : ¬ H = W5.heap.size := by omega
            have y0 : W5.cell? ⟨H, 0, none⟩ = some (.slice ae nE ce) := (hbH.cell 0).trans rfl
            have HM5 := Lib.hid (And.intro hmid (And.intro hown5 hs5))
            obtain ⟨EL, hEL⟩ : ∃ EL, EL = evC l := ⟨_, rfl⟩
            have HROW : Hid ((W5.alloc (.cells #[.int .u8 kv, .int .i64 ((i : Int) + 1)] 63)).drew.ownsRow 0 63 2 (.slice ae nE ce) nE EL) := by
              have h := (((Keeps.refl noB W5).alloc (.cells #[.int .u8 kv, .int .i64 ((i : Int) + 1)] 63)).drew).ownsRow hmid.evs (fun _ _ _ e => e)
              rw [← HL.out.2.2.1, ← hEL] at h
              exact h
            have HC : Hid (∀ j u, [Value.int .u8 kv, Value.int .i64 ((i : Int) + 1)][j]? = some u → (W5.alloc (.cells #[.int .u8 kv, .int .i64 ((i : Int) + 1)] 63)).drew.cell? ((⟨W5.heap.size, 0, none⟩ : Addr).add j) = some u) := cells_all W5 #[.int .u8 kv, .int .i64 ((i : Int) + 1)] 63
            have HON : Hid (∀ u ∈ [Value.int .u8 kv, Value.int .i64 ((i : Int) + 1)], u.oneCell' = true) := by intro u hu; simp at hu; rcases hu with rfl | rfl <;> rfl
            have HFIN : Hid (∀ v' w4, w4.ownsRow 0 63 2 v' (nE + 1) (EL ++ [.int .u8 kv, .int .i64 ((i : Int) + 1)]) → ((W5.alloc (.cells #[.int .u8 kv, .int .i64 ((i : Int) + 1)] 63)).drew).grownBy w4 (Value.slice ae nE ce).ownBlock → Fresh ((W5.alloc (.cells #[.int .u8 kv, .int .i64 ((i : Int) + 1)] 63)).drew) (.slice ae nE ce) v' →
                w4.cell? ⟨H, 0, none⟩ = some (.slice ae nE ce) ∧ w4.frozen? ⟨H, 0, none⟩ = false ∧ AddPost w H own l (addE l k ((i : Int) + 1)) (.returned .nilIface) (w4.setCell ⟨H, 0, none⟩ v')) := fun v' w4 h1 h2 h3 => by
              have hn := HL.out.2.2.1
              have hm := HM5.out.1
              have hss := HM5.out.2.2
              rw [hn] at hm h1 h2 h3
              try rw [hn] at hss
              have qw : Keeps noB W5 ((W5.alloc (.cells #[.int .u8 kv, .int .i64 ((i : Int) + 1)] 63)).drew) := ((Keeps.refl noB W5).alloc _).drew
              have bH : Blk w4 H #[.slice ae l.length ce, .slice (some ⟨gL, 0, none⟩) mL cl] 60 := ((qw.mono (fun _ e => e.elim)).grown (may := fun g => (Value.slice ae l.length ce).ownBlock = some g) h2 (fun g hg => .inl hg)).blk hm.blk (fun e => (hm.ownE H e).2 rfl)
              rw [hEL, HKV.out] at h1
              obtain ⟨own6, ho6, hm6⟩ := hm.event (W2 := (W5.alloc (.cells #[.int .u8 kv, .int .i64 ((i : Int) + 1)] 63)).drew) HM5.out.2.1.lt HY.out.2 qw h1 h2 h3
              refine ⟨by rw [hn]; exact (bH.cell 0).trans rfl, bH.free 0, ?_⟩
              rw [HY.out.1]
              exact ⟨rfl, own6, v', .slice (some ⟨gL, 0, none⟩) mL cl, (Owns.behind HB.out.1 HM5.out.2.1).trans ho6, hm6.hist hss⟩
            clear hmid hown5 hs5 hbH hEL
            obtain ⟨hi, hz0, hz1, hz2⟩ := HI.out
            go_wp2_with fail
            go_region_law (first
              | (refine step_append_fresh rfl (.tmp 77) (.tmp 79) 49 rfl 63 i0 (.agg #[.int .u8 0, .int .i64 0]) 2 16 Tryd.underlying49 hi hz0 hz1 hz2 rfl (by decide) (.slice ae nE ce) nE EL rfl HROW.out ⟨W5.heap.size, 0, none⟩ 1 1 [.int .u8 kv, .int .i64 ((i : Int) + 1)] rfl rfl HC.out HON.out (by unfold maxLen; omega) (by omega) ?_
                 intro v' w4 ho hg hf
                 obtain ⟨z0, z1, hpost⟩ := HFIN.out v' w4 ho hg hf
                 obtain ⟨a', c', rfl⟩ := row_shape (ok := fun _ => True) ⟨ho, fun _ _ => trivial⟩
                 have HE := Lib.hid hpost
                 clear ho hg hf hpost))
            all_goals
              go_wp2_with fail
              go_ret
              exact HE.out

end Go.Proofs.YthgocacabadflaaDoor

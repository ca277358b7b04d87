/-
  Walks of the model's holder: note, at.
-/
import Derived.Test.YtkfcgamdlckncaaGreatVgW
namespace Go.Proofs.YtkfcgamdlckncaaGreat
set_option linter.unusedVariables false
set_option linter.unusedSimpArgs false
open Go.RowKit

theorem Tryz.infoK3 : (Tryz.prog.info? 3).map (fun i => (i.zero, i.size, i.bytes)) = some (some (.int .i64 0), 1, 8) := by kernel_rfl

/-- What the loops over places hold. -/
def NoAt (w0 : World) (l : AL) (i : Int) (v13 : Value) (wr : World) : Prop :=
  ∃ (pre rest : AL), l = pre ++ rest ∧ v13 = .int .i64 (pre.length : Int) ∧ (∀ p ∈ pre, ¬ (p.1 : Int) = i) ∧ wr = w0

theorem not_key {pre : AL} {i : Nat} (h : ∀ p ∈ pre, ¬ (p.1 : Int) = (i : Int)) : i ∉ keysL pre := by
  intro hm
  obtain ⟨p, hp, rfl⟩ := List.mem_map.1 hm
  exact h p hp rfl

theorem row_cell {W : World} {e : TypeId} {size n c g : Nat} {xs : List Value} (h : W.ownsRow 0 e size (.slice (some ⟨g, 0, none⟩) n c) n xs) {j : Nat} {u : Value} (hj : xs[j]? = some u) : W.cell? ⟨g, j, none⟩ = some u ∧ W.frozen? ⟨g, j, none⟩ = false := by
  have hc := h.cells (g := g) rfl j u hj
  have hadd : (⟨g, 0, none⟩ : Addr).add j = ⟨g, j, none⟩ := by unfold Addr.add; split <;> simp_all
  rw [hadd] at hc
  refine ⟨hc, ?_⟩
  rcases h.2 with ⟨h2, _⟩ | ⟨g', cap, cur, hv, hb, hh, _⟩
  · cases h2
  · obtain ⟨rfl, rfl⟩ : g = g' ∧ c = cap := by simpa using hv
    exact Blk.free hh j

theorem slice_some {W : World} {e : TypeId} {size n c : Nat} {a : Option Addr} {xs : List Value} (h : W.ownsRow 0 e size (.slice a n c) n xs) (hn : 0 < n) : ∃ g, a = some ⟨g, 0, none⟩ := by
  rcases h.2 with ⟨h2, h3⟩ | ⟨g, cap, cur, hv, _⟩
  · omega
  · injection hv with h1
    exact ⟨g, h1⟩

/-- A row of one's own that has grown, and a cell of one's own that was stored into. -/
theorem grow_ownK {own : Nat → Prop} {w wA w' : World} {v v' u : Value} {b i : Nat} {e : TypeId} {size n : Nat} {xs : List Value} (hlt : ∀ k, own k → k < w.heap.size) (qA : Keeps noB w wA) (hg : wA.grownBy w' v.ownBlock) (hf : Fresh wA v v')
    (hv : ∀ g, v.ownBlock = some g → own g) (hb : own b) (ho : w'.ownsRow 0 e size v' n xs) : Owns own (fun k => own k ∨ v'.ownBlock = some k) w (w'.setCell ⟨b, i, none⟩ u) := by
  have hk : Keeps own w (w'.setCell ⟨b, i, none⟩ u) := ((qA.mono (fun _ e => e.elim)).grown hg (fun k e => .inl (hv k e))).setCell (.inl hb) _
  refine ⟨fun k e => ?_, fun k e => ?_, hk⟩
  · rcases e with e | e
    · exact .inl e
    · rcases hf with h | h
      · exact .inl (hv k (h.symm.trans e))
      · exact .inr (Nat.le_trans qA.size (h k e))
  · rcases e with e | e
    · exact Nat.lt_of_lt_of_le (hlt k e) hk.size
    · simpa [World.setCell] using (ho.lt k e).2

/-- A state more is noted. -/
theorem hold_new {w wA w1 wB w2 : World} {own : Nat → Prop} {h i : Nat} {l : AL} {s : Kn} {va va' vs vs' : Value} (H : HoldAt w own h l va vs) (hlt : ∀ k, own k → k < w.heap.size) (hs : s.Wf) (hi : i < 81) (hk : i ∉ keysL l)
    (qA : Keeps noB w wA) (hoA : w1.ownsRow 0 3 1 va' (l.length + 1) (atsC l ++ [i64 i])) (hgA : wA.grownBy w1 va.ownBlock) (hfA : Fresh wA va va')
    (qB : Keeps noB (w1.setCell ⟨h, 0, none⟩ va') wB) (hoB : w2.ownsRow 0 60 3 vs' (l.length + 1) (stsC l ++ stCells s)) (hgB : wB.grownBy w2 vs.ownBlock) (hfB : Fresh wB vs vs') :
    Notes1 w own h (Notes.both (lookL l) (point i s)) (.tuple #[]) (.returned (.tuple #[])) (w2.setCell ⟨h, 1, none⟩ vs') := by
  have hO1 := grow_ownK (u := va') (i := 0) hlt qA hgA hfA (fun g e => (H.ownA g e).1) H.mine hoA
  have hkA : Keeps (fun g => va.ownBlock = some g) w w1 := (qA.mono (fun _ e => e.elim)).grown hgA (fun k e => .inl e)
  have b1 := hkA.blk H.blk (fun e => (H.ownA h e).2.1 rfl)
  have hsz := hkA.size
  have hfa : ∀ g, va'.ownBlock = some g → (own g ∨ w.heap.size ≤ g) ∧ g ≠ h ∧ vs.ownBlock ≠ some g ∧ g < w1.heap.size := by
    intro g e
    have hl1 := (hoA.lt g e).2
    rcases hfA with hf | hf
    · have := H.ownA g (hf.symm.trans e); exact ⟨.inl this.1, this.2.1, this.2.2, hl1⟩
    · have h1 := hf g e
      have h2 := qA.size
      exact ⟨.inr (by omega), fun e2 => by have := H.blk.lt; omega, fun e2 => by have := (H.sts.lt g e2).2; omega, hl1⟩
  have kb : Keeps (oneB h) w1 (w1.setCell ⟨h, 0, none⟩ va') := (Keeps.refl _ _).setCell (.inl (show oneB h h from rfl)) _
  have q1B : Keeps (oneB h) w1 wB := kb.trans (qB.mono (fun _ e => e.elim))
  have hB0 : Blk wB h #[va', vs] 90 := qB.blk (b1.set 0 va') id
  have hrA : wB.ownsRow 0 3 1 va' (l.length + 1) (atsC l ++ [i64 i]) := q1B.ownsRow hoA (fun g hg _ e => (hfa g hg).2.1 e)
  have hkB : Keeps (fun g => vs.ownBlock = some g) wB w2 := (Keeps.refl _ _).grown hgB (fun k e => .inl e)
  have hlt2 : ∀ k, (own k ∨ va'.ownBlock = some k) → k < (w1.setCell ⟨h, 0, none⟩ va').heap.size := hO1.lt
  have hO2 := grow_ownK (own := fun k => own k ∨ va'.ownBlock = some k) (u := vs') (i := 1) hlt2 qB hgB hfB (fun g e => .inl (H.ownS g e).1) (.inl H.mine) hoB
  have b2 := hkB.blk hB0 (fun e => (H.ownS h e).2 rfl)
  have hszB := qB.size
  have hfs : ∀ g, vs'.ownBlock = some g → ((own g ∨ va'.ownBlock = some g) ∨ vs'.ownBlock = some g) ∧ g ≠ h ∧ va'.ownBlock ≠ some g := by
    intro g e
    refine ⟨.inr e, ?_⟩
    rcases hfB with hf | hf
    · have h1 := H.ownS g (hf.symm.trans e)
      exact ⟨h1.2, fun e2 => (hfa g e2).2.2.1 (hf.symm.trans e)⟩
    · have h1 := hf g e
      have h2 : w1.heap.size ≤ wB.heap.size := by simpa [World.setCell] using hszB
      exact ⟨fun e2 => by have := H.blk.lt; omega, fun e2 => by have := (hfa g e2).2.2.2; omega⟩
  have kb2 : Keeps (oneB h) w2 (w2.setCell ⟨h, 1, none⟩ vs') := (Keeps.refl _ _).setCell (.inl (show oneB h h from rfl)) _
  have hrA2 := hkB.ownsRow hrA (fun g hg _ e => (hfa g hg).2.2.1 e)
  have hl : putL l i s = l ++ [(i, s)] := putL_new l s hk
  have hnew := H.ok.put hi hs
  rw [hl] at hnew
  refine ⟨_, l ++ [(i, s)], va', vs', rfl, hO1.trans hO2, ⟨?_, ?_, ?_, .inl (.inl H.mine), fun g e => ⟨.inl (.inr e), (hfa g e).2.1, fun e2 => (hfs g e2).2.2 e⟩, fun g e => ⟨(hfs g e).1, (hfs g e).2.1⟩, hnew⟩, ?_⟩
  · exact b2.set 1 vs'
  · have e := kb2.ownsRow hrA2 (fun g hg _ e => (hfa g hg).2.1 e)
    rw [atsC_snoc]
    simpa using e
  · have e := kb2.ownsRow hoB (fun g hg _ e => (hfs g hg).2.1 e)
    rw [stsC_snoc]
    simpa using e
  · rw [← lookL_put, hl]

set_option maxRecDepth 100000 in
set_option maxHeartbeats 4000000 in
theorem note_any (s : Kn) (hs : s.Wf) (i : Nat) (hi : i < 81) (l : AL) (w : World) (own : Nat → Prop) (h : Nat) (va vs : Value) (H : HoldAt w own h l va vs) (hlt : ∀ k, own k → k < w.heap.size) :
    Calls Tryz.prog 60 #[.pointer (some ⟨h, 0, none⟩), .int .i64 (i : Int), stV s] w (Notes1 w own h (Notes.both (lookL l) (point i s)) (.tuple #[])) := by
  obtain ⟨i0, hii, hz0, hz1, hz2⟩ := info_parts Tryz.infoK3
  obtain ⟨j0, hji, hy0, hy1, hy2⟩ := info_parts Tryz.zeroS60
  obtain ⟨⟨ga, ca, rfl⟩, gs, cs, rfl⟩ := H.shape
  have hbl := H.blk.lt
  have HI := Lib.hid (And.intro hii (And.intro hz0 (And.intro hz1 hz2)))
  have HJ := Lib.hid (And.intro hji (And.intro hy0 (And.intro hy1 hy2)))
  have HH := Lib.hid (And.intro H hlt)
  have HJN := Lib.hid (fun (t : Kn) (ht : t.Wf) w => sjoin_any t s ht hs w)
  have hll := H.ok.few
  have HSC : Hid (stCells s = [.string (mayB s), .string (mustB s), .bool (liveK s)]) := rfl
  have HSV : Hid (stV s = .agg #[.string (mayB s), .string (mustB s), .bool (liveK s)]) := rfl
  rw [stV_eq]
  generalize mayB s = a0 at *
  generalize mustB s = b0 at *
  generalize liveK s = c0 at *
  obtain ⟨w0, hw0⟩ : ∃ w0, w0 = w.alloc (.cells #[.string a0, .string b0, .bool c0] 60) := ⟨_, rfl⟩
  have q0 : Keeps noB w w0 := by rw [hw0]; exact (Keeps.refl _ _).alloc _
  have bS : Blk w0 w.heap.size #[.string a0, .string b0, .bool c0] 60 := by rw [hw0]; exact Blk.new _ _ _
  have H0 := H.quiet q0
  have HQ0 := Lib.hid (And.intro q0 (And.intro bS H0))
  have HP : Hid (NoAt w0 l (i : Int) (.int .i64 0) (w.alloc (.cells #[.string a0, .string b0, .bool c0] 60))) := ⟨[], l, rfl, rfl, (fun p hp => nomatch hp), hw0.symm⟩
  have r0 := H0.blk.cell 0
  have r1 := H0.blk.cell 1
  simp at r0 r1
  have r0' : w.cell? ⟨h, 0, none⟩ = some (.slice ga l.length ca) := (H.blk.cell 0).trans rfl
  clear H hlt hii hz0 hz1 hz2 hji hy0 hy1 hy2 hw0 q0 bS H0
  obtain ⟨n, hn⟩ : ∃ n, n = l.length := ⟨_, rfl⟩
  rw [← hn] at r0 r1 r0' HH HQ0 hll
  have HNL := Lib.hid hn
  clear hn
  go_enter Tryz.func60, Tryz.ntmps60
  go_wp2_with fail
  go_loopw [13] (fun v13 wr => NoAt w0 l (i : Int) v13 wr) (fun v13 _ => n - (intOf v13).toNat)
  case atStart => exact HP.out
  case round =>
    clear HP r0'
    obtain ⟨pre, rest, hl, rfl, hpre, rfl⟩ := hrel
    have hpl := congrArg List.length hl
    rw [List.length_append, ← HNL.out] at hpl
    cases rest with
    | nil =>
      have hd : ¬ pre.length < n := by simp at hpl; omega
      rw [List.append_nil] at hl
      subst hl
      have hkey : i ∉ keysL l := not_key hpre
      have hll1 : l.length = n := HNL.out.symm
      clear hpl hpre HJN
      obtain ⟨hii, hz0, hz1, hz2⟩ := HI.out
      obtain ⟨hji, hy0, hy1, hy2⟩ := HJ.out
      rw [hll1] at hd ⊢
      have hats := HQ0.out.2.2.ats
      rw [← HNL.out] at hats
      have hsts := HQ0.out.2.2.sts
      rw [← HNL.out] at hsts
      have HAS := Lib.hid (And.intro hats hsts)
      clear hats hsts
      go_wp2_with (at_builtin; refine wpList_append_fresh _ rfl _ _ 31 rfl 3 i0 _ 1 8 Tryz.underlying31 hii hz0 hz1 hz2 rfl (by decide) (.slice ga n ca) n (atsC l) rfl ?own ⟨wr.heap.size, 0, none⟩ 1 1 [.int .i64 (i : Int)] rfl ?c1 ?c2 ?c3 ?c4 ?c5 ?_)
      case own => exact HAS.out.1.alloc _
      case c1 => rfl
      case c2 => exact cells_one wr (.int .i64 (i : Int)) 3
      case c3 => intro u hu; simp at hu; subst hu; rfl
      case c4 => unfold maxLen; omega
      case c5 => omega
      intro va' w1 hoA hgA hfA
      obtain ⟨a1, c1, rfl⟩ := row_slice (ok := fun _ => True) ⟨hoA, fun _ _ => trivial⟩
      have hkA : Keeps (fun g => (Value.slice ga n ca).ownBlock = some g) wr w1 := ((Keeps.refl _ wr).alloc _).grown hgA (fun g hg => .inl hg)
      have hbH : Blk w1 h #[.slice ga n ca, .slice gs n cs] 90 := hkA.blk HQ0.out.2.2.blk (fun e => (HQ0.out.2.2.ownA h e).2.1 rfl)
      have hneN : ∀ g, (Value.slice ga n ca).ownBlock = some g → g ≠ w.heap.size := fun g hg e => by
        have := HH.out.2 g (HH.out.1.ownA g hg).1
        omega
      have hbN : Blk w1 w.heap.size #[.string a0, .string b0, .bool c0] 60 := hkA.blk HQ0.out.2.1 (fun e => hneN _ e rfl)
      have hhN : h ≠ w.heap.size := by omega
      have y0 := hbH.cell 0
      have z0 := hbH.free 0
      simp at y0
      have hb2 := hbH.set 0 (.slice a1 (n + 1) c1)
      have y1 : (w1.setCell ⟨h, 0, none⟩ (.slice a1 (n + 1) c1)).cell? ⟨h, 1, none⟩ = some (.slice gs n cs) := (hb2.cell 1).trans rfl
      have hbN2 := hbN.setOther (a := ⟨h, 0, none⟩) hhN (.slice a1 (n + 1) c1)
      have n0 := (hbN2.cell 0)
      have n1 := (hbN2.cell 1)
      have n2 := (hbN2.cell 2)
      simp at n0 n1 n2
      have hsB : (w1.setCell ⟨h, 0, none⟩ (.slice a1 (n + 1) c1)).ownsRow 0 60 3 (.slice gs n cs) n (stsC l) := by
        have e1 := hkA.ownsRow HAS.out.2 (fun g hg _ e => (HH.out.1.ownA g e).2.2 hg)
        exact ((Keeps.refl (oneB h) w1).setCell (p := ⟨h, 0, none⟩) (.inl rfl) _).ownsRow e1 (fun g hg _ e => (HH.out.1.ownS g hg).2 e)
      have z1 : (w1.setCell ⟨h, 0, none⟩ (.slice a1 (n + 1) c1)).frozen? ⟨h, 1, none⟩ = false := hb2.free 1
      have hlt1 : h < (w1.setCell ⟨h, 0, none⟩ (.slice a1 (n + 1) c1)).heap.size := hb2.lt
      have HB : Hid (∀ wB w2 a2 c2, Keeps noB (w1.setCell ⟨h, 0, none⟩ (.slice a1 (n + 1) c1)) wB → w2.ownsRow 0 60 3 (.slice a2 (n + 1) c2) (n + 1) (stsC l ++ [.string a0, .string b0, .bool c0]) → wB.grownBy w2 (Value.slice gs n cs).ownBlock → Fresh wB (.slice gs n cs) (.slice a2 (n + 1) c2) →
          Notes1 w own h (Notes.both (lookL l) (point i s)) (.tuple #[]) (.returned (.tuple #[])) (w2.setCell ⟨h, 1, none⟩ (.slice a2 (n + 1) c2)) ∧ w2.cell? ⟨h, 1, none⟩ = some (.slice gs n cs) ∧ w2.frozen? ⟨h, 1, none⟩ = false) := fun wB w2 a2 c2 qB hoB hgB hfB => by
        have hkB : Keeps (fun g => (Value.slice gs n cs).ownBlock = some g) wB w2 := (Keeps.refl _ _).grown hgB (fun k e => .inl e)
        have hB3 := hkB.blk (qB.blk hb2 id) (fun e => (HH.out.1.ownS h e).2 rfl)
        rw [← HSC.out] at hoB
        rw [HNL.out] at hoA hgA hfA qB hoB hgB hfB ⊢
        have hH := HH.out.1
        rw [HNL.out] at hH
        exact ⟨hold_new hH HH.out.2 hs hi hkey (HQ0.out.1.trans ((Keeps.refl noB wr).alloc _)) hoA hgA hfA qB hoB hgB hfB, (hB3.cell 1).trans (by rw [HNL.out]; rfl), hB3.free 1⟩
      have HSB := Lib.hid hsB
      clear hoA hgA hfA hsB hkA hbH hneN hbN hb2 hbN2
      go_wp2_with fail
      clear y0 z0
      generalize w1.setCell ⟨h, 0, none⟩ (.slice a1 (n + 1) c1) = W1 at *
      go_region_law (first
        | (refine step_append_fresh rfl (.tmp 51) (.tmp 53) 88 rfl 60 j0 (.agg #[.string ⟨#[]⟩, .string ⟨#[]⟩, .bool false]) 3 40 Tryz.underlying88 hji hy0 hy1 hy2 rfl (by decide) (.slice gs n cs) n (stsC l) (by simp [Act.eval, Act.put]) (HSB.out.drew.alloc _) ⟨W1.heap.size, 0, none⟩ 1 1 [.string a0, .string b0, .bool c0] (by simp [Act.eval, Act.put]) rfl (cells_all W1.drew #[.string a0, .string b0, .bool c0] 60) (by intro u hu; simp at hu; rcases hu with rfl | rfl | rfl <;> rfl) (by unfold maxLen; omega) (by omega) ?_
           intro vs' w2 hoB hgB hfB
           obtain ⟨a2, c2, rfl⟩ := row_slice (ok := fun _ => True) ⟨hoB, fun _ _ => trivial⟩
           have ⟨hE, x1, xz⟩ := HB.out _ _ _ _ ((Keeps.refl noB W1).drew.alloc _) hoB hgB hfB
           have HE := Lib.hid hE
           clear hoB hgB hfB hE))
      all_goals
        go_end0
        exact HE.out
    | cons pt r =>
      obtain ⟨j, t⟩ := pt
      have hd : pre.length < n := by simp at hpl; omega
      have hats := HQ0.out.2.2.ats
      rw [← HNL.out] at hats
      obtain ⟨ga', rfl⟩ := slice_some hats (by omega)
      have hca := (row_cell hats (j := pre.length) (u := i64 j) (by rw [hl]; exact atsC_get pre j t r)).1
      unfold i64 at hca
      by_cases hji : j = i
      · subst hji
        have hkey : j ∉ keysL pre := not_key hpre
        have htw : t.Wf := (HH.out.1.ok.lt (j, t) (by rw [hl]; simp)).2
        have hsts := HQ0.out.2.2.sts
        rw [← HNL.out] at hsts
        obtain ⟨gs', rfl⟩ := slice_some hsts (by omega)
        have hg3 := stsC_get pre j t r
        rw [← hl] at hg3
        have e0 := row_cell hsts hg3.1
        have e1 := row_cell hsts hg3.2.1
        have e2 := row_cell hsts hg3.2.2
        unfold str at e0 e1
        clear hsts hg3 HI HJ
        go_wp2_with fail
        have HWD : Hid (Keeps noB wr wr.drew) := (Keeps.refl _ _).drew
        have hgN : gs' ≠ w.heap.size := fun e => by
          have := HH.out.2 gs' (HH.out.1.ownS gs' rfl).1
          omega
        have hgh : gs' ≠ h := (HH.out.1.ownS gs' rfl).2
        have HS : Hid (∀ w' : World, Keeps noB wr w' → (fun w' : World => w'.cell? ⟨h, 1, none⟩ = some (.slice (some ⟨gs', 0, none⟩) n cs) ∧ w'.cell? ⟨w.heap.size, 0, none⟩ = some (.string a0) ∧ w'.cell? ⟨w.heap.size, 1, none⟩ = some (.string b0) ∧ w'.cell? ⟨w.heap.size, 2, none⟩ = some (.bool c0)) w') := fun w' q => by
          have hb := q.blk HQ0.out.2.2.blk id
          have hb2 := q.blk HQ0.out.2.1 id
          exact ⟨(hb.cell 1).trans rfl, (hb2.cell 0).trans rfl, (hb2.cell 1).trans rfl, (hb2.cell 2).trans rfl⟩
        have HS2 : Hid (∀ (w' : World) (j0 j1 j2 : Nat) (x y z : Value), (fun w' : World => w'.cell? ⟨h, 1, none⟩ = some (.slice (some ⟨gs', 0, none⟩) n cs) ∧ w'.cell? ⟨w.heap.size, 0, none⟩ = some (.string a0) ∧ w'.cell? ⟨w.heap.size, 1, none⟩ = some (.string b0) ∧ w'.cell? ⟨w.heap.size, 2, none⟩ = some (.bool c0)) w' → (fun w' : World => w'.cell? ⟨h, 1, none⟩ = some (.slice (some ⟨gs', 0, none⟩) n cs) ∧ w'.cell? ⟨w.heap.size, 0, none⟩ = some (.string a0) ∧ w'.cell? ⟨w.heap.size, 1, none⟩ = some (.string b0) ∧ w'.cell? ⟨w.heap.size, 2, none⟩ = some (.bool c0)) (((w'.setCell ⟨gs', j0, none⟩ x).setCell ⟨gs', j1, none⟩ y).setCell ⟨gs', j2, none⟩ z)) := fun w' j0 j1 j2 x y z hh => by
          have e : ∀ A : Addr, A.block ≠ gs' → (((w'.setCell ⟨gs', j0, none⟩ x).setCell ⟨gs', j1, none⟩ y).setCell ⟨gs', j2, none⟩ z).cell? A = w'.cell? A := fun A hA => by
            rw [World.cell?_setCell_other _ _ _ _ (fun e => hA (by rw [← e])), World.cell?_setCell_other _ _ _ _ (fun e => hA (by rw [← e])), World.cell?_setCell_other _ _ _ _ (fun e => hA (by rw [← e]))]
          exact ⟨(e _ (Ne.symm hgh)).trans hh.1, (e _ (Ne.symm hgN)).trans hh.2.1, (e _ (Ne.symm hgN)).trans hh.2.2.1, (e _ (Ne.symm hgN)).trans hh.2.2.2⟩
        have HT : Hid (∀ w' : World, Keeps noB wr w' → (w'.cell? ⟨gs', pre.length * 3, none⟩ = some (str (mayL t)) ∧ w'.frozen? ⟨gs', pre.length * 3, none⟩ = false) ∧ (w'.cell? ⟨gs', pre.length * 3 + 1, none⟩ = some (str (mustL t)) ∧ w'.frozen? ⟨gs', pre.length * 3 + 1, none⟩ = false) ∧ (w'.cell? ⟨gs', pre.length * 3 + 2, none⟩ = some (.bool (liveK t)) ∧ w'.frozen? ⟨gs', pre.length * 3 + 2, none⟩ = false)) := fun w' q => by
          have hq := q.ownsRow HQ0.out.2.2.sts (fun _ _ _ => id)
          rw [← HNL.out] at hq
          have hg3 := stsC_get pre j t r
          rw [← hl] at hg3
          exact ⟨row_cell hq hg3.1, row_cell hq hg3.2.1, row_cell hq hg3.2.2⟩
        have ⟨⟨k0, k1⟩, ⟨k2, k3⟩, k4, k5⟩ := HT.out wr.drew HWD.out
        have HJ1 := Lib.hid (fun w => HJN.out t htw w)
        rw [HSV.out] at HJ1
        have HEND : Hid (∀ w5, Keeps noB wr w5 → Notes1 w own h (Notes.both (lookL l) (point j s)) (.tuple #[]) (.returned (.tuple #[])) (((w5.setCell ⟨gs', pre.length * 3, none⟩ (str (mayL (t.join s)))).setCell ⟨gs', pre.length * 3 + 1, none⟩ (str (mustL (t.join s)))).setCell ⟨gs', pre.length * 3 + 2, none⟩ (.bool (liveK (t.join s))))) := fun w5 q => by
          have hH := HH.out.1.quiet (HQ0.out.1.trans q)
          rw [HNL.out] at hH
          subst hl
          have hO0 : Owns own own w w5 := ⟨fun k hk => .inl hk, fun k hk => Nat.lt_of_lt_of_le (HH.out.2 k hk) (HQ0.out.1.trans q).size, (HQ0.out.1.trans q).mono (fun _ e => e.elim)⟩
          obtain ⟨h1, h2⟩ := hold_set hH hO0.lt hs hkey
          exact ⟨own, _, _, _, rfl, hO0.trans h1, h2, lookL_put _ _ _⟩
        unfold stV at HJ1
        unfold str at *
        generalize (⟨(mayL t).toArray⟩ : ByteArray) = ta at *
        generalize (⟨(mustL t).toArray⟩ : ByteArray) = tb at *
        generalize liveK t = tc at *
        generalize (⟨(mayL (t.join s)).toArray⟩ : ByteArray) = ja at *
        generalize (⟨(mustL (t.join s)).toArray⟩ : ByteArray) = jb at *
        generalize liveK (t.join s) = jc at *
        clear e0 e1 e2 hats hca hpl hl hpre HJN HSC HSV htw hkey
        have ⟨p0, p1, p2, p3⟩ := HS.out wr.drew HWD.out
        go_region_law (first
          | (go_simp; go_at_call 82; refine (HJ1.out _).mono ?_; rintro e w5 ⟨rfl, hk⟩
             have ⟨⟨m0, m1⟩, ⟨m2, m3⟩, m4, m5⟩ := HT.out w5 (HWD.out.trans hk)
             have ⟨u0, u1, u2, u3⟩ := HS.out w5 (HWD.out.trans hk)
             have HZ := Lib.hid (HEND.out w5 (HWD.out.trans hk))))
        all_goals
          go_wp2_with fail
          go_end0
          exact HZ.out
      · have hne : ((j : Int) == (i : Int)) = false := by rw [beq_eq_false_iff_ne]; omega
        have hne2 : ¬ (j : Int) = (i : Int) := by omega
        have HN : Hid (NoAt wr l (i : Int) (.int .i64 ((pre.length : Int) + 1)) wr) := ⟨pre ++ [(j, t)], r, by rw [hl]; simp, by simp, fun p hp => by
          rcases List.mem_append.1 hp with h1 | h1
          · exact hpre p h1
          · rw [List.mem_singleton.1 h1]; exact hne2, rfl⟩
        generalize (j : Int) = ji at *
        clear hl hpl hpre HI HJ HJN
        go_wp2_with fail
        exact ⟨HN.out, by simp [intOf]; omega⟩

theorem resAt (W : World) (N : Nat) (a b : ByteArray) (c v : Bool) (tmps : Array Value) (h4 : tmps.getD 4 undef = .pointer (some ⟨N, 0, none⟩)) (h5 : tmps.getD 5 undef = .bool v)
    (c0 : W.cell? ⟨N, 0, none⟩ = some (.string a)) (c1 : W.cell? ⟨N, 1, none⟩ = some (.string b)) (c2 : W.cell? ⟨N, 2, none⟩ = some (.bool c)) : (results Tryz.f30 tmps).run Tryz.prog W = .ok (.tuple #[.agg #[.string a, .string b, .bool c], .bool v]) W := by
  have h4' : tmps[4]?.getD undef = .pointer (some ⟨N, 0, none⟩) := by simpa using h4
  have h5' : tmps[5]?.getD undef = .bool v := by simpa using h5
  simp [results, Tryz.results30, go_sem, h4', h5', c0, c1, c2]

theorem noteI_look_none {l : AL} {i : Int} (h : ∀ p ∈ l, ¬ (p.1 : Int) = i) : noteI (lookL l) i = none := by
  unfold noteI
  split
  · rename_i hi
    obtain ⟨j, rfl⟩ := Int.eq_ofNat_of_zero_le hi
    exact lookL_none l (not_key h)
  · rfl
theorem noteI_look_at {pre r : AL} {j : Nat} {t : Kn} (h : ∀ p ∈ pre, ¬ (p.1 : Int) = (j : Int)) : noteI (lookL (pre ++ (j, t) :: r)) (j : Int) = some t := by
  unfold noteI
  rw [if_pos (by omega)]
  exact lookL_at pre t r (not_key h)

set_option maxRecDepth 100000 in
set_option maxHeartbeats 4000000 in
theorem hat_any (i : Int) (l : AL) (w : World) (own : Nat → Prop) (h : Nat) (va vs : Value) (H : HoldAt w own h l va vs) :
    Calls Tryz.prog 30 #[.pointer (some ⟨h, 0, none⟩), .int .i64 i] w (fun e w' => e = .returned (.tuple #[stV ((noteI (lookL l) i).getD Kn.no), .bool (noteI (lookL l) i).isSome]) ∧ Keeps noB w w') := by
  obtain ⟨⟨ga, ca, rfl⟩, gs, cs, rfl⟩ := H.shape
  have hbl := H.blk.lt
  have HH := Lib.hid H
  have hll := H.ok.few
  obtain ⟨w0, hw0⟩ : ∃ w0, w0 = w.alloc (.cells #[.string ⟨#[]⟩, .string ⟨#[]⟩, .bool false] 60) := ⟨_, rfl⟩
  have q0 : Keeps noB w w0 := by rw [hw0]; exact (Keeps.refl _ _).alloc _
  have bS : Blk w0 w.heap.size #[.string ⟨#[]⟩, .string ⟨#[]⟩, .bool false] 60 := by rw [hw0]; exact Blk.new _ _ _
  have H0 := H.quiet q0
  have HQ0 := Lib.hid (And.intro q0 (And.intro bS H0))
  have HP : Hid (NoAt w0 l i (.int .i64 0) (w.alloc (.cells #[.string ⟨#[]⟩, .string ⟨#[]⟩, .bool false] 60))) := ⟨[], l, rfl, rfl, (fun p hp => nomatch hp), hw0.symm⟩
  have r0 := H0.blk.cell 0
  have r1 := H0.blk.cell 1
  simp at r0 r1
  have r0' : w.cell? ⟨h, 0, none⟩ = some (.slice ga l.length ca) := (H.blk.cell 0).trans rfl
  have n0 := bS.cell 0
  have n1 := bS.cell 1
  have n2 := bS.cell 2
  have m0 := bS.free 0
  have m1 := bS.free 1
  have m2 := bS.free 2
  simp at n0 n1 n2
  clear H hw0 q0 bS H0
  obtain ⟨n, hn⟩ : ∃ n, n = l.length := ⟨_, rfl⟩
  rw [← hn] at r0 r1 r0' HH HQ0 hll
  have HNL := Lib.hid hn
  clear hn
  obtain ⟨o, ho⟩ : ∃ o, noteI (lookL l) i = o := ⟨_, rfl⟩
  rw [ho]
  have HOO := Lib.hid ho
  clear ho
  go_enter Tryz.func30, Tryz.ntmps30
  go_wp2_with fail
  go_loopw [13] (fun v13 wr => NoAt w0 l i v13 wr) (fun v13 _ => n - (intOf v13).toNat)
  case atStart => exact HP.out
  case round =>
    clear HP r0'
    obtain ⟨pre, rest, hl, rfl, hpre, rfl⟩ := hrel
    have hpl := congrArg List.length hl
    rw [List.length_append, ← HNL.out] at hpl
    cases rest with
    | nil =>
      have hd : ¬ pre.length < n := by simp at hpl; omega
      rw [List.append_nil] at hl
      subst hl
      have hno : o = none := HOO.out.symm.trans (noteI_look_none hpre)
      subst hno
      clear hpl hpre HOO
      go_wp2_with fail
      have hb3 := ((HQ0.out.2.1.set 0 (.string ⟨#[]⟩)).set 1 (.string ⟨#[]⟩)).set 2 (.bool false)
      exact bodyPost_ret (resAt _ w.heap.size ⟨#[]⟩ ⟨#[]⟩ false false _ rfl rfl ((hb3.cell 0).trans rfl) ((hb3.cell 1).trans rfl) ((hb3.cell 2).trans rfl)) rfl ⟨by rw [show (none : Option Kn).getD Kn.no = Kn.no from rfl, stV_no]; rfl, ((HQ0.out.1.setCell (p := ⟨w.heap.size, 0, none⟩) (.inr (Nat.le_refl _)) _).setCell (p := ⟨w.heap.size, 1, none⟩) (.inr (Nat.le_refl _)) _).setCell (p := ⟨w.heap.size, 2, none⟩) (.inr (Nat.le_refl _)) _⟩
    | cons pt r =>
      obtain ⟨j, t⟩ := pt
      have hd : pre.length < n := by simp at hpl; omega
      have hats := HQ0.out.2.2.ats
      rw [← HNL.out] at hats
      obtain ⟨ga', rfl⟩ := slice_some hats (by omega)
      have hca := (row_cell hats (j := pre.length) (u := i64 j) (by rw [hl]; exact atsC_get pre j t r)).1
      unfold i64 at hca
      by_cases hji : (j : Int) = i
      · subst hji
        have hno : o = some t := HOO.out.symm.trans (by rw [hl]; exact noteI_look_at hpre)
        subst hno
        have hsts := HQ0.out.2.2.sts
        rw [← HNL.out] at hsts
        obtain ⟨gs', rfl⟩ := slice_some hsts (by omega)
        have hg3 := stsC_get pre j t r
        rw [← hl] at hg3
        have e0 := (row_cell hsts hg3.1).1
        have e1 := (row_cell hsts hg3.2.1).1
        have e2 := (row_cell hsts hg3.2.2).1
        unfold str at e0 e1
        have HST : Hid (stV ((some t).getD Kn.no) = .agg #[.string ⟨(mayL t).toArray⟩, .string ⟨(mustL t).toArray⟩, .bool (liveK t)]) := rfl
        generalize (⟨(mayL t).toArray⟩ : ByteArray) = ta at *
        generalize (⟨(mustL t).toArray⟩ : ByteArray) = tb at *
        generalize liveK t = tc at *
        clear hsts hg3 hl hpl hpre hats HOO
        go_wp2_with fail
        have hb3 := ((HQ0.out.2.1.set 0 (.string ta)).set 1 (.string tb)).set 2 (.bool tc)
        exact bodyPost_ret (resAt _ w.heap.size ta tb tc true _ rfl rfl ((hb3.cell 0).trans rfl) ((hb3.cell 1).trans rfl) ((hb3.cell 2).trans rfl)) rfl ⟨by rw [HST.out]; rfl, ((HQ0.out.1.setCell (p := ⟨w.heap.size, 0, none⟩) (.inr (Nat.le_refl _)) _).setCell (p := ⟨w.heap.size, 1, none⟩) (.inr (Nat.le_refl _)) _).setCell (p := ⟨w.heap.size, 2, none⟩) (.inr (Nat.le_refl _)) _⟩
      · have hne : ((j : Int) == i) = false := by rw [beq_eq_false_iff_ne]; exact hji
        have HN : Hid (NoAt wr l i (.int .i64 ((pre.length : Int) + 1)) wr) := ⟨pre ++ [(j, t)], r, by rw [hl]; simp, by simp, fun p hp => by
          rcases List.mem_append.1 hp with h1 | h1
          · exact hpre p h1
          · rw [List.mem_singleton.1 h1]; exact hji, rfl⟩
        generalize (j : Int) = ji at *
        clear hl hpl hpre
        go_wp2_with fail
        exact ⟨HN.out, by simp [intOf]; omega⟩

end Go.Proofs.YtkfcgamdlckncaaGreat

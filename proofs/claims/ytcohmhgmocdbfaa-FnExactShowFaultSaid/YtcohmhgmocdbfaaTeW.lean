/-
  Walks of the model's run: visit.
  Walks of the model's run: what a step's walk says; body.
-/
import Derived.Test.YtcohmhgmocdbfaaTbW
import Derived.Test.YtcohmhgmocdbfaaSgW
import Derived.Test.YtcohmhgmocdbfaaEbW
namespace Go.Proofs.Ytcohmhgmocdbfaa
set_option linter.unusedVariables false
set_option linter.unusedSimpArgs false
open Go.RowKit

theorem Try.zero183 : (Try.prog.info? 183).map (fun i => (i.zero, i.size, i.bytes)) = some (some (.agg #[.int .i64 0, .string ⟨#[]⟩]), 2, 24) := by kernel_rfl

/-- The run behind a visit more. -/
theorem visM_grown {w wA w' : World} {own : Nat → Prop} {b : Nat} {C : ByteArray} {s : St} {y : Option Why} {av a' : Option Addr} {cv c' : Nat} {k : Nat} (h : RnAt w own b C s y (.slice av s.vis.length cv)) (hlt : ∀ k, own k → k < w.heap.size)
    (qA : Keeps noB w wA) (ho : w'.ownsRow 0 183 2 (.slice a' (s.vis.length + 1) c') (s.vis.length + 1) (vsCells s.vis ++ [i64 k, str (namesOf s.val)]))
    (hg : wA.grownBy w' (Value.slice av s.vis.length cv).ownBlock) (hf : Fresh wA (.slice av s.vis.length cv) (.slice a' (s.vis.length + 1) c')) :
    RnRuns w own b C (s.comeBy k) y (.tuple #[]) (.returned (.tuple #[])) (w'.setCell ⟨b, 14, none⟩ (.slice a' (s.vis.length + 1) c')) ∧ w'.frozen? ⟨b, 14, none⟩ = false ∧ ∃ x, w'.cell? ⟨b, 14, none⟩ = some x := by
  have hO := grow_own (u := .slice a' (s.vis.length + 1) c') (i := 14) hlt qA hg hf (fun g e => (h.ownV g e).1) h.mine ho
  have hkA : Keeps (fun g => (Value.slice av s.vis.length cv).ownBlock = some g) w w' := (qA.mono (fun _ e => e.elim)).grown hg (fun k e => .inl e)
  have b1 := hkA.blk h.blk (fun e => (h.ownV b e).2 rfl)
  have hfb : ∀ g, (Value.slice a' (s.vis.length + 1) c').ownBlock = some g → g ≠ b := by
    intro g e
    rcases hf with hf | hf
    · exact (h.ownV g (hf.symm.trans e)).2
    · have h1 := hf g e
      have h2 := qA.size
      exact fun e2 => by have := h.blk.lt; omega
  have kb : Keeps (oneB b) w' (w'.setCell ⟨b, 14, none⟩ (.slice a' (s.vis.length + 1) c')) := (Keeps.refl _ _).setCell (.inl (show oneB b b from rfl)) _
  refine ⟨⟨_, .slice a' (s.vis.length + 1) c', rfl, hO, ⟨?_, h.few, h.rest, h.txt, ?_, .inl h.mine, fun g e => ⟨.inr e, hfb g e⟩⟩⟩, b1.free 14, _, b1.cell 14⟩
  · have e := b1.set 14 (.slice a' (s.vis.length + 1) c')
    simpa [rnCells, St.comeBy] using e
  · have e := kb.ownsRow ho (fun g hg _ e => hfb g hg e)
    simpa [St.comeBy, vsCells_snoc] using e

/-- What the loop of visit holds. -/
def VisAt (w : World) (f : UInt8 → Nat) (l : List UInt8) (v6 v10 : Value) (wr : World) : Prop :=
  ∃ (i : Nat) (out : ByteArray), i ≤ l.length ∧ v10 = .int .i64 (i : Int) ∧ v6 = .string out ∧ out.data.toList = heldIn f (l.take i) ∧ Keeps noB w wr

theorem heldIn_next {f : UInt8 → Nat} {l : List UInt8} {i : Nat} {v : UInt8} (h : l[i]? = some v) : heldIn f (l.take (i + 1)) = heldIn f (l.take i) ++ (if f v = 0 then [] else [v]) := by
  unfold heldIn
  rw [List.take_add_one, h, List.filter_append]
  congr 1
  by_cases h0 : f v = 0
  · simp [h0]
  · simp [h0]

set_option maxRecDepth 100000 in
set_option maxHeartbeats 4000000 in
theorem visit_any (b : Nat) (C : ByteArray) (s : St) (y : Option Why) (vv : Value) (own : Nat → Prop) (w : World) (h : RnAt w own b C s y vv) (hlt : ∀ k, own k → k < w.heap.size) (k : Nat) (l : List UInt8) (hl : ∀ v ∈ l, lett v) (hll : l.length ≤ 1000) (hn : s.vis.length ≤ 1000000) (hheld : Held s l) :
    Calls Try.prog 104 #[.pointer (some ⟨b, 0, none⟩), .int .i64 (k : Int), .string ⟨l.toArray⟩] w (RnRuns w own b C (s.comeBy k) y (.tuple #[])) := by
  obtain ⟨i0, hi, hz0, hz1, hz2⟩ := info_parts Try.zero183
  obtain ⟨av, cv, rfl⟩ := h.shape
  obtain ⟨sv, hsv⟩ : ∃ sv : ByteArray, sv = ⟨l.toArray⟩ := ⟨_, rfl⟩
  rw [← hsv]
  have hsz : sv.size = l.length := by rw [hsv]; simp [ByteArray.size]
  have hget : ∀ (i : Nat) (hi : i < sv.size), l[i]? = some sv[i] := by
    intro i hi
    subst hsv
    rw [List.getElem?_eq_getElem (by omega)]
    rfl
  have HP : Hid (VisAt w s.val l (.string ⟨#[]⟩) (.int .i64 0) w) := ⟨0, ⟨#[]⟩, Nat.zero_le _, rfl, rfl, rfl, Keeps.refl _ _⟩
  have HS := Lib.hid hsz
  have HI := Lib.hid (And.intro hi (And.intro hz0 (And.intro hz1 hz2)))
  have HC : Hid (∀ (i : Nat) (hi : i < sv.size) (wr : World), Keeps noB w wr → lett sv[i] ∧ wr.cell? ⟨b, slot sv[i], none⟩ = some (i64 (s.val sv[i])) ∧ ∀ f : UInt8 → Nat, heldIn f (l.take (i + 1)) = heldIn f (l.take i) ++ (if f sv[i] = 0 then [] else [sv[i]])) := by
    intro i hi wr q
    have hv := hl _ (List.mem_of_getElem? (hget i hi))
    exact ⟨hv, ((q.blk h.blk id).cell _).trans (rn_get hv _ _ _ _ _ _ _ _ _ _), fun f => heldIn_next (hget i hi)⟩
  have HH := Lib.hid (And.intro h (And.intro hlt hheld))
  have hbl := h.blk.lt
  have hsz1 : (sv.size : Int) ≤ 1000 := by omega
  clear h hlt hl hsv hheld hget hi hz0 hz1 hz2 hsz hll
  go_enter Try.func104, Try.ntmps104
  go_wp2_with fail
  go_loopw [6, 10] (fun v6 v10 wr => VisAt w s.val l v6 v10 wr) (fun _ v10 _ => sv.size - (intOf v10).toNat)
  case atStart => exact HP.out
  case round =>
    clear HP
    obtain ⟨i, out, hil, rfl, rfl, hout, q⟩ := hrel
    by_cases hlt : i < sv.size
    · have hi0 : (0 : Int) ≤ (i : Int) := by omega
      have hi1 : (i : Int) < (sv.size : Int) := by omega
      obtain ⟨hv, hc, hnx⟩ := HC.out i hlt wr q
      have hnx := hnx s.val
      have hv1 : (97 : Int) ≤ (sv[i].toNat : Int) := by have := hv.1; omega
      have hv2 : (sv[i].toNat : Int) ≤ 102 := by have := hv.2; omega
      unfold slot i64 at hc
      have hoz : out.size ≤ 1000 := by
        have e : out.size = (heldIn s.val (l.take i)).length := by rw [← hout]; simp
        rw [e]
        refine Nat.le_trans (List.length_filter_le _ _) ?_
        rw [List.length_take]
        have := HS.out
        omega
      have h3 : ((i : Int) + 1).toNat = i + 1 := by omega
      have h5 : (i : Int) + 1 ≤ (sv.size : Int) := by omega
      have h6 : (i : Int) ≤ (i : Int) + 1 := by omega
      have h7 : (0 : Int) ≤ (i : Int) + 1 := by omega
      have hxo := extract_one hlt
      have hilt : i + 1 ≤ l.length := by have := HS.out; omega
      have HN : Hid (∀ (o : ByteArray) (W : World), o.data.toList = heldIn s.val (l.take (i + 1)) → Keeps noB w W → VisAt w s.val l (.string o) (.int .i64 ((i : Int) + 1)) W) := fun o W ho qq =>
        ⟨i + 1, o, hilt, by simp, rfl, ho, qq⟩
      have HQ := Lib.hid q
      by_cases h0 : s.val sv[i] = 0
      · rw [h0] at hc hnx
        have HX : Hid (out.data.toList = heldIn s.val (l.take (i + 1))) := Lib.hid (by rw [hnx, hout]; simp)
        clear hnx hout h0 hv hxo hoz q
        have hc' : wr.cell? ⟨b, 2 + ((sv[i].toNat : Int) - 97).toNat, none⟩ = some (.int .i64 0) := hc
        clear hc
        obtain ⟨vi, hvi⟩ : ∃ vi : Int, (sv[i].toNat : Int) = vi := ⟨_, rfl⟩
        rw [hvi] at hc' hv1 hv2
        go_wp2_with fail
        go_quiet (fail)
        go_wp2_with fail
        go_roundw
        case rel => exact HN.out _ _ HX.out (HQ.out.drewN _)
        case measure => simp [intOf]; omega
      · rw [if_neg h0] at hnx
        have hxz : (sv.extract i (i + 1)).size = 1 := by
          have e : (sv.extract i (i + 1)).size = (sv.extract i (i + 1)).data.toList.length := by rw [Array.length_toList]; rfl
          rw [e, hxo]; rfl
        have hcz : out.size + (sv.extract i (i + 1)).size ≤ 9223372036854775807 := by omega
        have HX : Hid ((out ++ sv.extract i (i + 1)).data.toList = heldIn s.val (l.take (i + 1))) := Lib.hid (by rw [hnx, ByteArray.data_append, Array.toList_append, hout, hxo])
        have hp : (0 : Int) < (s.val sv[i] : Int) := by omega
        clear hnx hout h0 hv hxo hoz q hxz
        generalize (s.val sv[i] : Int) = nv at *
        obtain ⟨vi, hvi⟩ : ∃ vi : Int, (sv[i].toNat : Int) = vi := ⟨_, rfl⟩
        rw [hvi] at hc hv1 hv2
        go_wp2_with fail
        go_quiet (fail)
        go_wp2_with fail
        go_roundw
        case rel => exact HN.out _ _ HX.out (HQ.out.drewN _)
        case measure => simp [intOf]; omega
    · have hie : i = l.length := by have := HS.out; omega
      have hoe : sortedOf out.data.toList = namesOf s.val := by
        rw [hout, hie, List.take_length]
        exact names_eq HH.out.2.2
      have hoz : out.size ≤ 1048576 := by
        have e : out.size = (heldIn s.val (l.take i)).length := by rw [← hout]; simp
        rw [e]
        refine Nat.le_trans (List.length_filter_le _ _) ?_
        rw [List.length_take]
        have := HS.out
        omega
      have HSO : Hid (∀ w, Calls Try.prog 33 #[.string out] w (fun e w' => e = .returned (str (namesOf s.val)) ∧ Keeps noB w w')) := fun w => by
        have := sorted_any out hoz w
        rwa [hoe] at this
      obtain ⟨hi, hz0, hz1, hz2⟩ := HI.out
      have r14 := (q.blk HH.out.1.blk id).cell 14
      simp [rnCells] at r14
      have HQ := Lib.hid q
      have HY : Hid (∀ W, Keeps noB wr W → W.cell? ⟨b, 14, none⟩ = some (.slice av s.vis.length cv) ∧ b < W.heap.size ∧ ¬ b = W.heap.size ∧ W.ownsRow 0 183 2 (.slice av s.vis.length cv) s.vis.length (vsCells s.vis)) := fun W qq => by
        have q2 := HQ.out.trans qq
        have hb := q2.blk HH.out.1.blk id
        have := hb.lt
        exact ⟨hb.cell 14, hb.lt, by omega, q2.ownsRow HH.out.1.vis (fun _ _ _ e => e)⟩
      clear q hout hie hoe hoz HC HS
      have hlt' : ¬ (i : Int) < (sv.size : Int) := by omega
      obtain ⟨kv, hkv⟩ : ∃ kv : Int, (k : Int) = kv := ⟨_, rfl⟩
      rw [hkv]
      have HKV := Lib.hid hkv
      clear hkv
      unfold str at HSO
      have HG : Hid (∀ (wA w' : World) (a' : Option Addr) (c' : Nat), Keeps noB wr wA → w'.ownsRow 0 183 2 (.slice a' (s.vis.length + 1) c') (s.vis.length + 1) (vsCells s.vis ++ [.int .i64 kv, .string ⟨(namesOf s.val).toArray⟩]) →
          wA.grownBy w' (Value.slice av s.vis.length cv).ownBlock → Fresh wA (.slice av s.vis.length cv) (.slice a' (s.vis.length + 1) c') →
          RnRuns w own b C (s.comeBy k) y (.tuple #[]) (.returned (.tuple #[])) (w'.setCell ⟨b, 14, none⟩ (.slice a' (s.vis.length + 1) c')) ∧ w'.frozen? ⟨b, 14, none⟩ = false ∧ ∃ x, w'.cell? ⟨b, 14, none⟩ = some x) := fun wA w' a' c' qA ho hg hf => by
        rw [← HKV.out] at ho
        exact visM_grown HH.out.1 HH.out.2.1 (HQ.out.trans qA) ho hg hf
      generalize namesOf s.val = nm at HSO HG
      go_wp2_with fail
      go_region_law (first
        | (go_simp; go_at_call 33; refine (HSO.out _).mono ?_; rintro e w2 ⟨rfl, q2⟩
           have ⟨y14, hb2, hb3, hrow⟩ := HY.out _ ((Keeps.refl noB wr).drew.trans q2)
           have HR := Lib.hid (And.intro q2 hrow)
           clear q2 hrow)
        | (refine step_append_fresh rfl (.tmp 36) (.tmp 41) 109 rfl 183 i0 (.agg #[.int .i64 0, .string ⟨#[]⟩]) 2 24 Try.underlying109 hi hz0 hz1 hz2 rfl (by decide) (.slice av s.vis.length cv) s.vis.length (vsCells s.vis) (by simp [Act.eval, Act.put]) (HR.out.2.alloc _) ⟨w2.heap.size, 0, none⟩ 1 1 [.int .i64 kv, .string ⟨nm.toArray⟩] (by simp [Act.eval, Act.put]) rfl (cells_all w2 #[.int .i64 kv, .string ⟨nm.toArray⟩] 183) (by intro u hu; simp at hu; rcases hu with rfl | rfl <;> rfl) (by unfold maxLen; omega) (by omega) ?_
           intro v' w' ho hg hf
           obtain ⟨a', c', rfl⟩ := row_shape (ok := fun _ => True) ⟨ho, fun _ _ => trivial⟩
           have ⟨hE, hz, x14, hx14⟩ := HG.out _ _ _ _ (((Keeps.refl noB wr).drew.trans HR.out.1).alloc _) ho hg hf
           have HE := Lib.hid hE
           clear ho hg hf hE))
      all_goals
        go_end0
        exact HE.out

end Go.Proofs.Ytcohmhgmocdbfaa

namespace Go.Proofs.Ytcohmhgmocdbfaa
set_option linter.unusedVariables false
set_option linter.unusedSimpArgs false
open Go.RowKit

theorem Below0.of_le {s t : St} (h : Below0 s) (e : ∀ v, t.val v ≤ s.val v) (hm : s.made ≤ t.made) : Below0 t := fun v => Nat.le_trans (e v) (Nat.le_trans (h v) hm)

theorem Below0.one {s t : St} {k : Nat} {c v : UInt8} (h : Below0 s) (e : s.one k c v = .go t) : Below0 t := by
  unfold St.one at e
  split at e
  · injection e with e
    subst e
    intro u
    have hd := h.destroy v u
    show ((s.destroy v).make v).val u ≤ (s.destroy v).made + 1
    have : ((s.destroy v).make v).val u = if u = v then (s.destroy v).made + 1 else (s.destroy v).val u := rfl
    rw [this]
    split <;> omega
  split at e
  · split at e
    · cases e
    · injection e with e; subst e; exact h
  split at e
  · split at e
    · cases e
    · injection e with e; subst e; exact h.destroy v
  · injection e with e; subst e; exact h.destroy v

theorem Below0.two {s t : St} {k : Nat} {v u : UInt8} (h : Below0 s) (e : s.two k v u = .go t) : Below0 t := by
  unfold St.two at e
  split at e
  · cases e
  · injection e with e
    subst e
    intro z
    have h1 := h.destroy v z
    have h2 := h.destroy v u
    have : ((s.destroy v).move v u).val z = if z = u then 0 else if z = v then (s.destroy v).val u else (s.destroy v).val z := rfl
    show _ ≤ (s.destroy v).made
    rw [this]
    split
    · omega
    split <;> omega

theorem Below0.loop {body : St → Out} (hb : ∀ s t, Below0 s → body s = .go t → Below0 t) : ∀ (n : Nat) (s t : St), Below0 s → loopRun body n s = .go t → Below0 t
  | 0, s, t, _, e => by simp [loopRun] at e
  | n + 1, s, t, h, e => by
    rw [loopRun] at e
    cases hc : s.choose 101 109 with
    | none => rw [hc] at e; cases e
    | some p =>
      obtain ⟨c, s'⟩ := p
      rw [hc] at e
      simp only at e
      obtain ⟨_, _, h3⟩ := choose_some hc
      have hs' : Below0 s' := by rw [h3]; exact h
      split at e
      · cases hb2 : body s' with
        | stop y t2 => rw [hb2] at e; cases e
        | go t2 =>
          rw [hb2] at e
          exact Below0.loop hb n t2 t (hb _ _ hs' hb2) e
      · injection e with e
        subst e
        exact hs'

mutual
theorem Nd.below0 : ∀ (x : Nd) (s t : St), Below0 s → x.run s = .go t → Below0 t
  | .mk c k e vs ar .nil, s, t, h, hr => by
    have h1 : Below0 (s.comeBy k) := h
    rcases vs with _ | ⟨v, _ | ⟨u, _ | ⟨z, l⟩⟩⟩
    all_goals
      simp only [Nd.run] at hr
      split at hr
      · cases hr
      split at hr
      · cases hr
    · injection hr with hr; subst hr; exact h1
    · exact h1.one hr
    · exact h1.two hr
    · injection hr with hr; subst hr; exact h1
  | .mk c k e vs ar (.cons x .nil), s, t, h, hr => by
    have h1 : Below0 (s.comeBy k) := h
    rw [Nd.run] at hr
    split at hr
    · exact Below0.loop (fun s t => Nds.below0 x s t) _ _ _ h1 hr
    · cases hb : Nds.run x (s.comeBy k) with
      | stop y t2 => rw [hb] at hr; cases hr
      | go t2 =>
        rw [hb] at hr
        have ih := Nds.below0 x _ t2 h1 hb
        simp only [Out.andThen] at hr
        injection hr with hr
        subst hr
        have h2 : Below0 (t2.comeBy (e - 1)) := ih
        exact h2.destroyAll vs
  | .mk c k e vs ar (.cons x (.cons y _)), s, t, h, hr => by
    have h1 : Below0 (s.comeBy k) := h
    rw [Nd.run] at hr
    cases hc : (s.comeBy k).choose 108 114 with
    | none => rw [hc] at hr; cases hr
    | some p =>
      obtain ⟨c', s'⟩ := p
      rw [hc] at hr
      simp only at hr
      obtain ⟨_, _, h3⟩ := choose_some hc
      have hs' : Below0 s' := by rw [h3]; exact h1
      split at hr
      · exact Nds.below0 x _ _ hs' hr
      · exact Nds.below0 y _ _ hs' hr
theorem Nds.below0 : ∀ (x : Nds) (s t : St), Below0 s → Nds.run x s = .go t → Below0 t
  | .nil, s, t, h, hr => by
    rw [Nds.run] at hr
    injection hr with hr
    subst hr
    exact h
  | .cons x r, s, t, h, hr => by
    rw [Nds.run] at hr
    cases hb : x.run s with
    | stop y t2 => rw [hb] at hr; cases hr
    | go t2 =>
      rw [hb] at hr
      exact Nds.below0 r t2 t (Nd.below0 x s t2 h hb) hr
end

/-- How a run has ended, if it has. -/
def Out.why : Out → Option Why
  | .go _ => none
  | .stop y _ => some y

def RnDone (w : World) (own : Nat → Prop) (b : Nat) (C : ByteArray) (o : Out) (e : Ending) (w' : World) : Prop := RnRuns w own b C o.st o.why (.tuple #[]) e w'

/-- A node's value, its list of bodies vb. -/
def nodeOf (x : Nd) (vb : Value) : Value := .agg #[u8 x.kind, i64 x.beg, i64 x.fin, str x.vars, vb, str x.scope]
def nodeCells (x : Nd) (vb : Value) : List Value := [u8 x.kind, i64 x.beg, i64 x.fin, str x.vars, vb, str x.scope]

/-- What a run's walk starts from. -/
structure Fine (w : World) (own ok : Nat → Prop) (b : Nat) (C : ByteArray) (s : St) (sc : List UInt8) (vv : Value) : Prop where
  at_ : RnAt w own b C s none vv
  size : C.size ≤ 1000
  held : Held s sc
  low : Below0 s
  ok : ∀ k, ok k → k < w.heap.size ∧ ¬ own k
  lt : ∀ k, own k → k < w.heap.size

/-- What a step's walk says. -/
def SStepC (x : Nd) : Prop :=
  ∀ (s : St) (C : ByteArray) (w : World) (own ok : Nat → Prop) (b : Nat) (vv vb : Value), Fine w own ok b C s x.scope vv → RepS w ok x (nodeCells x vb) → Room (x.pre.len - 1) s →
    Calls Try.prog 105 #[.pointer (some ⟨b, 0, none⟩), nodeOf x vb] w (RnDone w own b C (x.act s))

theorem node_rep {w : World} {ok : Nat → Prop} {j : Nat} {cs : List Value} {z : Nd} {r : Nds} (h : RepSL w ok (.cons z r) (cs.drop (j * 6))) :
    ∃ a n m, RepS w ok z (nodeCells z (.slice a n m)) ∧ (∀ i u, (nodeCells z (.slice a n m))[i]? = some u → cs[j * 6 + i]? = some u) ∧ RepSL w ok r (cs.drop ((j + 1) * 6)) := by
  cases z with
  | mk c k e vs ar bs =>
  simp only [RepSL] at h
  obtain ⟨d1, d2, hd, hz, h2⟩ := h
  have hz' := hz
  simp only [RepS] at hz'
  obtain ⟨vb, n, xs, rfl, hr, _⟩ := hz'
  obtain ⟨a, m, rfl⟩ := row_slice hr
  refine ⟨a, n, m, hz, fun i u hu => ?_, ?_⟩
  · have h0 : (cs.drop (j * 6))[i]? = some u := by
      rw [hd, List.getElem?_append_left (by exact (List.getElem?_eq_some_iff.1 hu).1)]
      exact hu
    simpa using h0
  · have e1 : cs.drop ((j + 1) * 6) = (cs.drop (j * 6)).drop 6 := by rw [List.drop_drop, Nat.succ_mul]
    rw [e1, hd]
    exact h2

/-- What the loop of body holds. -/
def BodyRel (w : World) (own ok : Nat → Prop) (b : Nat) (C : ByteArray) (sc : List UInt8) (x : Nds) (cs : List Value) (o : Out) (v8 : Value) (wr : World) : Prop :=
  ∃ (i : Nat) (rest : Nds) (t : St) (own' : Nat → Prop) (vv : Value), i + rest.list.length = x.list.length ∧ v8 = .int .i64 (i : Int) ∧ Owns own own' w wr ∧ RepSL w ok rest (cs.drop (i * 6)) ∧
    ((Nds.run rest t = o ∧ Fine wr own' ok b C t sc vv ∧ Room rest.pre.len t ∧ ∀ z ∈ rest.list, z ∈ x.list) ∨ (o.why.isSome ∧ RnAt wr own' b C o.st o.why vv))

theorem Fine.after {w w1 : World} {own own1 ok : Nat → Prop} {b : Nat} {C : ByteArray} {s t : St} {sc sc' : List UInt8} {vv vv1 : Value} (h : Fine w own ok b C s sc vv) (ho : Owns own own1 w w1) (hr : RnAt w1 own1 b C t none vv1) (hh : Held t sc') (hb : Below0 t) : Fine w1 own1 ok b C t sc' vv1 :=
  ⟨hr, h.size, hh, hb, ok_after ho h.ok, ho.lt⟩

set_option maxRecDepth 100000 in
set_option maxHeartbeats 2000000 in
theorem sbodyM_any (x : Nds) (s : St) (sc : List UInt8) (C : ByteArray) (w : World) (own ok : Nat → Prop) (b n : Nat) (v vv : Value) (cs : List Value) (hrow : Row w ok 51 6 v n cs) (hrep : RepSL w ok x cs)
    (h : Fine w own ok b C s sc vv) (hroom : Room x.pre.len s) (hn : n ≤ 4000) (hnx : n = x.list.length) (hscl : ∀ v ∈ sc, lett v) (hsl : sc.length ≤ 1000)
    (hstep : ∀ z ∈ x.list, z.scope = sc ∧ SStepC z ∧ ∀ s, Adds z.pre.len s (z.run s).st ∧ (∀ t, Held s sc → z.run s = .go t → Held t sc)) :
    Calls Try.prog 85 #[.pointer (some ⟨b, 0, none⟩), v] w (RnDone w own b C (Nds.run x s)) := by
  obtain ⟨a, c, rfl⟩ := row_shape hrow
  obtain ⟨o, ho⟩ : ∃ o, Nds.run x s = o := ⟨_, rfl⟩
  rw [ho]
  have HP : Hid (BodyRel w own ok b C sc x cs o (.int .i64 0) w) := ⟨0, x, s, own, vv, by simp, rfl, Owns.refl h.lt, by simpa using hrep, .inl ⟨ho, h, hroom, fun z hz => hz⟩⟩
  have HG := Lib.hid (And.intro hrow (And.intro h (And.intro hstep (And.intro hscl hsl))))
  have HNX := Lib.hid hnx
  clear hrow hrep h hroom hnx hstep ho hscl hsl
  go_enter Try.func85, Try.ntmps85
  go_wp2_with fail
  go_loopw [8] (fun v8 wr => BodyRel w own ok b C sc x cs o v8 wr) (fun v8 _ => n - (intOf v8).toNat)
  case atStart => exact HP.out
  case round =>
    clear HP
    obtain ⟨i, rest, t, own1, vv1, hil, rfl, ho1, hrep, hcase⟩ := hrel
    rw [← HNX.out] at hil
    cases rest with
    | nil =>
      have hd : ¬ i < n := by simp [Nds.list] at hil; omega
      have HF : Hid (RnDone w own b C o (.returned (.tuple #[])) wr) := by
        rcases hcase with ⟨hrun, hf, _⟩ | ⟨_, hr⟩
        · rw [← hrun]
          exact ⟨own1, vv1, rfl, ho1, hf.at_⟩
        · exact ⟨own1, vv1, rfl, ho1, hr⟩
      clear hil ho1 hrep hcase
      go_wp2_with fail
      go_end0
      exact HF.out
    | cons z r =>
      have hd : i < n := by simp [Nds.list] at hil; omega
      have hin1 : (i : Int) < (n : Int) := by omega
      obtain ⟨na, nn, nm, hzrep, hzc, hrr⟩ := node_rep hrep
      obtain ⟨g, c0, hv, hg1, hg2, hcell⟩ := row_get HG.out.1 (by omega)
      obtain ⟨rfl, rfl⟩ : a = some ⟨g, 0, none⟩ ∧ c = c0 := by simpa using hv
      have hgo : ¬ own g := (HG.out.2.1.ok g hg1).2
      have hcw : ∀ i' u, (nodeCells z (.slice na nn nm))[i']? = some u → wr.cell? ⟨g, i * 6 + i', none⟩ = some u := fun i' u hu =>
        (ho1.keeps.cell (p := ⟨g, i * 6 + i', none⟩) hg2 hgo).trans (hcell _ _ (hzc i' u hu))
      have s0 : wr.cell? ⟨g, i * 6, none⟩ = some (u8 z.kind) := hcw 0 _ rfl
      have s1 := hcw 1 _ rfl
      have s2 := hcw 2 _ rfl
      have s3 := hcw 3 _ rfl
      have s4 := hcw 4 _ rfl
      have s5 := hcw 5 _ rfl
      unfold u8 at s0
      unfold i64 at s1 s2
      unfold str at s3 s5
      rcases hcase with ⟨hrun, hf, hrm, hmem⟩ | ⟨hend, hr⟩
      · have hzx : z ∈ x.list := hmem z (by simp [Nds.list])
        obtain ⟨hzs, hzc2, hza⟩ := HG.out.2.2.1 z hzx
        have hlen : (Nds.cons z r).pre.len = z.pre.len + r.pre.len := by simp [Nds.pre, Nds.len_app]
        rw [hlen] at hrm
        have hzp := Nd.pre_pos z
        have hv0 := hrm.vis
        have qA : Keeps noB wr (wr.alloc (.cells #[.int .u8 (z.kind.toNat : Int), .int .i64 (z.beg : Int), .int .i64 (z.fin : Int), .string ⟨z.vars.toArray⟩, .slice na nn nm, .string ⟨z.scope.toArray⟩] 51)) := (Keeps.refl _ _).alloc _
        have bA := Blk.new wr #[.int .u8 (z.kind.toNat : Int), .int .i64 (z.beg : Int), .int .i64 (z.fin : Int), .string ⟨z.vars.toArray⟩, .slice na nn nm, .string ⟨z.scope.toArray⟩] 51
        have oA : Owns own1 own1 wr (wr.alloc (.cells #[.int .u8 (z.kind.toNat : Int), .int .i64 (z.beg : Int), .int .i64 (z.fin : Int), .string ⟨z.vars.toArray⟩, .slice na nn nm, .string ⟨z.scope.toArray⟩] 51)) := ⟨fun k e => .inl e, fun k e => Nat.lt_of_lt_of_le (hf.lt k e) qA.size, qA.mono (fun _ e => e.elim)⟩
        have hnA : ¬ own1 wr.heap.size := fun e => by have := hf.lt _ e; omega
        have hrA := hf.at_.keeps qA (fun _ _ e => e)
        have HE1 := Lib.hid (ends_any b C t none vv1 own1 _ hrA)
        have HVI := Lib.hid (visit_any b C t none vv1 own1 _ hrA oA.lt z.beg z.scope (by rw [hzs]; exact HG.out.2.2.2.1) (by rw [hzs]; exact HG.out.2.2.2.2) (by omega) (by rw [hzs]; exact hf.held))
        have HN : Hid (∀ own2 vv2 w2, Owns own1 own2 (wr.alloc (.cells #[.int .u8 (z.kind.toNat : Int), .int .i64 (z.beg : Int), .int .i64 (z.fin : Int), .string ⟨z.vars.toArray⟩, .slice na nn nm, .string ⟨z.scope.toArray⟩] 51)) w2 → RnAt w2 own2 b C (t.comeBy z.beg) none vv2 →
            (∀ i' : Nat, w2.cell? ⟨wr.heap.size, i', none⟩ = #[.int .u8 (z.kind.toNat : Int), .int .i64 (z.beg : Int), .int .i64 (z.fin : Int), .string ⟨z.vars.toArray⟩, .slice na nn nm, .string ⟨z.scope.toArray⟩][i']?) ∧
            Calls Try.prog 105 #[.pointer (some ⟨b, 0, none⟩), .agg #[.int .u8 (z.kind.toNat : Int), .int .i64 (z.beg : Int), .int .i64 (z.fin : Int), .string ⟨z.vars.toArray⟩, .slice na nn nm, .string ⟨z.scope.toArray⟩]] w2 (fun e w3 => e = .returned (.tuple #[]) ∧ BodyRel w own ok b C sc x cs o (.int .i64 ((i : Int) + 1)) w3)) := by
          intro own2 vv2 w2 ho2 hr2
          refine ⟨fun i' => ho2.cells bA hnA i', ?_⟩
          have hoo := oA.trans ho2
          have hzrep2 : RepS w2 ok z (nodeCells z (.slice na nn nm)) := (hands_owns (ho1.trans hoo) HG.out.2.1.ok).repS z _ hzrep
          have hheld : Held (t.comeBy z.beg) sc := hf.held
          have hfine2 : Fine w2 own2 ok b C (t.comeBy z.beg) z.scope vv2 := (HG.out.2.1.after (ho1.trans hoo) hr2 (by rw [hzs]; exact hheld) (show Below0 (t.comeBy z.beg) from hf.low))
          have hroom2 : Room (z.pre.len - 1) (t.comeBy z.beg) := by
            refine Room.come z.beg ?_
            rw [Nat.sub_add_cancel hzp]
            exact hrm.less (by omega)
          refine (hzc2 (t.comeBy z.beg) C w2 own2 ok b vv2 (.slice na nn nm) hfine2 hzrep2 hroom2).mono ?_
          rintro e w3 ⟨own3, vv3, rfl, ho3, hr3⟩
          refine ⟨rfl, ?_⟩
          rw [← Nd.run_act] at hr3
          have hall := ho1.trans (hoo.trans ho3)
          have hrun' : (z.run t).andThen (fun t => Nds.run r t) = o := hrun
          obtain ⟨hza1, hza2⟩ := hza t
          have hza2 := hza2
          refine ⟨i + 1, r, ?_⟩
          cases hz : z.run t with
          | go t2 =>
            rw [hz] at hrun' hr3 hza1
            refine ⟨t2, own3, vv3, by simp [Nds.list] at hil; have := HNX.out; omega, by simp, hall, hrr, .inl ⟨hrun', ?_, hrm.after hza1, fun z' hz' => hmem z' (by simp [Nds.list, hz'])⟩⟩
            exact HG.out.2.1.after hall hr3 (hza2 t2 hf.held hz) (Nd.below0 z t t2 hf.low hz)
          | stop y t2 =>
            rw [hz] at hrun' hr3
            have hoe : o = .stop y t2 := hrun'.symm
            subst hoe
            exact ⟨t2, own3, vv3, by simp [Nds.list] at hil; have := HNX.out; omega, by simp, hall, hrr, .inr ⟨rfl, hr3⟩⟩
        clear hil ho1 hrep hzrep hzc hrr hv hcell hcw hrun hf hrm hmem hzx hzs hzc2 hza hlen hzp hv0 qA bA oA hnA hrA HG
        go_wp2_with (first
          | (go_at_call 103; refine HE1.out.mono ?_; rintro e w2 ⟨rfl, rfl⟩)
          | (go_at_call 104; refine HVI.out.mono ?_; rintro e w2 ⟨own2, vv2, rfl, ho2, hr2⟩; have ⟨hcs, hcall⟩ := HN.out _ _ _ ho2 hr2; have t0 := hcs 0; have t1 := hcs 1; have t2 := hcs 2; have t3 := hcs 3; have t4 := hcs 4; have t5 := hcs 5; simp at t0 t1 t2 t3 t4 t5; have HC := Lib.hid hcall; clear ho2 hr2 hcs hcall)
          | (go_at_call 105; refine HC.out.mono ?_; rintro e w3 ⟨rfl, hrel⟩; have HE := Lib.hid hrel; clear hrel))
        go_roundw
        case rel => exact HE.out
        case measure => simp [intOf]; omega
      · have qA : Keeps noB wr (wr.alloc (.cells #[.int .u8 (z.kind.toNat : Int), .int .i64 (z.beg : Int), .int .i64 (z.fin : Int), .string ⟨z.vars.toArray⟩, .slice na nn nm, .string ⟨z.scope.toArray⟩] 51)) := (Keeps.refl _ _).alloc _
        have hrA := hr.keeps qA (fun _ _ e => e)
        have HE1 := Lib.hid (ends_any b C o.st o.why vv1 own1 _ hrA)
        have HF : Hid (RnDone w own b C o (.returned (.tuple #[])) (wr.alloc (.cells #[.int .u8 (z.kind.toNat : Int), .int .i64 (z.beg : Int), .int .i64 (z.fin : Int), .string ⟨z.vars.toArray⟩, .slice na nn nm, .string ⟨z.scope.toArray⟩] 51))) :=
          ⟨own1, vv1, rfl, ho1.ahead qA (fun _ e => e.elim), hrA⟩
        rw [hend] at HE1
        clear hil ho1 hrep hzrep hzc hrr hv hcell hcw qA hrA HG hend hr
        go_wp2_with (go_at_call 103; refine HE1.out.mono ?_; rintro e w2 ⟨rfl, rfl⟩)
        go_end0
        exact HF.out

end Go.Proofs.Ytcohmhgmocdbfaa

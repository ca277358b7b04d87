/-
  Walks of the model's holder: every step of a program; l3Find.
-/
import Derived.Test.YtkfcgamdlckncaaGreatVoW
import Derived.Test.YtkfcgamdlckncaaGreatVzW
import Derived.Test.YtkfcgamdlckncaaGreatSqW
import Derived.Test.YtkfcgamdlckncaaGreatPkW
import Derived.Deep.QuietTactic
import Derived.BigQuiet
namespace Go.Proofs.YtkfcgamdlckncaaGreat
set_option linter.unusedVariables false
set_option linter.unusedSimpArgs false
open Go.RowKit

/-! ### every step of a program -/
theorem used_live {k : Kn} {v : UInt8} (hk : k.Wf) (hv : ltr v) (h : k.needs v ≠ Kn.no) : hasV k.may v = true ∧ k.needs v = k ∧ k ≠ Kn.no ∧ k.used v = k.changed (bitV v) 0 ∧ k.changed (bitV v) 0 = k.need v := by
  have hh : hasV k.may v = true := by
    cases hc : hasV k.may v with
    | true => rfl
    | false => exact absurd (by unfold Kn.needs; rw [hc]; rfl) h
  have e : k.needs v = k := by unfold Kn.needs; rw [if_pos hh]
  have hn : k ≠ Kn.no := by rw [← e]; exact h
  refine ⟨hh, e, hn, ?_, (val_use hk hn hv hh).symm⟩
  unfold Kn.used
  rw [e]
theorem used_dead {k : Kn} {v : UInt8} (h : k.needs v = Kn.no) : k.used v = Kn.no := by
  unfold Kn.used; rw [h]; simp [Kn.changed]
theorem used_clear {k : Kn} {v : UInt8} (hk : k.Wf) (hv : ltr v) : (k.used v).changed 0 (bitV v) = (k.needs v).changed 0 (bitV v) := by
  by_cases h : k.needs v = Kn.no
  · rw [used_dead h, h]
  · obtain ⟨hh, e, hn, hu, hx⟩ := used_live hk hv h
    have hw := wf_changed hk (bitV_lt hv) (e := 0)
    have hl := changed_live hk hn (bitV_lt hv) (e := 0)
    rw [hu, e, ← val_clear hw hl, hx, val_drop hk hn hv]
theorem used_move {k : Kn} {v u : UInt8} (hk : k.Wf) (hv : ltr v) (hu : ltr u) (h : k.needs u ≠ Kn.no) : ((k.used u).changed (bitV v) 0).changed 0 (bitV u) = (k.needs u).changed (bitV v) (bitV u) := by
  obtain ⟨hh, e, hn, hx, hy⟩ := used_live hk hu h
  have hw := wf_changed hk (bitV_lt hu) (e := 0)
  have hl := changed_live hk hn (bitV_lt hu) (e := 0)
  have hw2 := wf_changed hw (bitV_lt hv) (e := 0)
  have hl2 := changed_live hw hl (bitV_lt hv) (e := 0)
  rw [hx, e, ← val_clear hw2 hl2, ← val_make hw hl hv, hy, val_move hk hn hu]

theorem both_blank (M : Notes) : Notes.both M blank = M := by
  funext j
  unfold Notes.both blank
  cases M j <;> rfl
theorem len_list : ∀ x : Nds, x.len = x.list.length
  | .nil => rfl
  | .cons x r => by simp only [Nds.len, Nds.list, List.length_cons, len_list r]

theorem node_slice {w : World} {ok : Nat → Prop} {c : UInt8} {b e : Nat} {vs ar : List UInt8} {bs : Bds} {vb : Value} (h : RepS w ok (.mk c b e vs ar bs) (nodeCellsK (.mk c b e vs ar bs) vb)) : ∃ a n m xs, vb = .slice a n m ∧ Row w ok 57 1 vb n xs ∧ RepSB w ok bs xs := by
  simp only [RepS] at h
  obtain ⟨vb', n, xs, hc, hr, hb⟩ := h
  have e1 : vb = vb' := by
    have := congrArg (fun l => l[4]?) hc
    simpa [nodeCellsK] using this
  subst e1
  obtain ⟨a, m, e2⟩ := row_slice hr
  exact ⟨a, n, m, xs, e2, hr, hb⟩

theorem leaf_notes {z : Nd} {k t : Kn} {w : World} {own : Nat → Prop} {h : Nat} {l : AL} {va vs : Value} {a : Array Value} {f : Nat} (hC : Calls Tryz.prog f a w (fun e w' => e = .returned (stV t) ∧ Keeps noB w w')) (H : HoldAt w own h l va vs) (hlt : ∀ i, own i → i < w.heap.size) (ht : z.know k = t) (hi : z.inner k = blank) :
    Calls Tryz.prog f a w (Notes1 w own h (Notes.both (lookL l) (z.inner k)) (stV (z.know k))) := by
  rw [ht, hi, both_blank]
  exact hC.mono (fun e w' ⟨he, q⟩ => by subst he; exact quiet_notes H hlt q)

set_option maxHeartbeats 1000000 in
theorem shc_leaf (c : UInt8) (b e : Nat) (vs ar : List UInt8) (hsp : (Nd.mk c b e vs ar .nil).Sp) (hf : (Nd.mk c b e vs ar .nil).Fit) : SHC (.mk c b e vs ar .nil) := by
  intro k l w own ok h va vs' vb hk H hlt hok hrep
  obtain ⟨a, n, m, xs, rfl, _, _⟩ := node_slice hrep
  simp only [Nd.Sp] at hsp
  simp only [Nd.Fit] at hf
  have hin : (Nd.mk c b e vs ar .nil).inner k = blank := by simp only [Nd.inner]
  rcases hf with ⟨hc, v, rfl, _⟩ | ⟨rfl, v, u, rfl, _, _⟩ | ⟨hc, rfl⟩
  · have hv : ltr v := hsp.2 v (by simp)
    rcases hc with rfl | rfl | rfl | rfl
    · by_cases hn : k = Kn.no
      · exact leaf_notes (hstep_make_no k hk hn ⟨[v].toArray⟩ h b e a n m ⟨ar.toArray⟩ w) H hlt (by subst hn; simp [Nd.know, valK, Kn.changed]) hin
      · exact leaf_notes (hstep_make k hk hn hv h b e a n m ⟨ar.toArray⟩ w) H hlt (by simp [Nd.know, valK]) hin
    · exact leaf_notes (hstep_use k hk hv h b e a n m ⟨ar.toArray⟩ w) H hlt (by simp [Nd.know, valK, Kn.used]) hin
    · exact leaf_notes (hstep_end k hk hv h b e a n m ⟨ar.toArray⟩ w) H hlt (by rw [used_clear hk hv]; simp [Nd.know, valK]) hin
    · exact leaf_notes (hstep_drop k hk hv h b e a n m ⟨ar.toArray⟩ w) H hlt (by simp [Nd.know, valK]) hin
  · have hv : ltr v := hsp.2 v (by simp)
    have hu : ltr u := hsp.2 u (by simp)
    by_cases hh : k.needs u = Kn.no
    · exact leaf_notes (hstep_move_no k hk hv hu (used_dead hh) h b e a n m ⟨ar.toArray⟩ w) H hlt (by simp [Nd.know, valK, hh, Kn.changed]) hin
    · have hl : k.used u ≠ Kn.no := by
        obtain ⟨_, _, hn, hx, _⟩ := used_live hk hu hh
        rw [hx]; exact changed_live hk hn (bitV_lt hu)
      exact leaf_notes (hstep_move k hk hv hu hl h b e a n m ⟨ar.toArray⟩ w) H hlt (by rw [used_move hk hv hu hh]; simp [Nd.know, valK]) hin
  · rcases hc with rfl | rfl
    · exact leaf_notes (hstep_leave94 k hk _ h b e a n m ⟨ar.toArray⟩ w) H hlt (by simp [Nd.know]) hin
    · exact leaf_notes (hstep_leave33 k hk _ h b e a n m ⟨ar.toArray⟩ w) H hlt (by simp [Nd.know]) hin

/-- What body's walk says. -/
def BHC (x : Nds) : Prop := ∀ (k : Kn) (l : AL) (w : World) (own ok : Nat → Prop) (h : Nat) (va vs v : Value) (n : Nat) (cs : List Value), k.Wf → Row w ok 52 6 v n cs → RepSL w ok x cs → HoldAt w own h l va vs → (∀ i, own i → i < w.heap.size) → (∀ i, ok i → i < w.heap.size ∧ ¬ own i) →
  Calls Tryz.prog 39 #[.pointer (some ⟨h, 0, none⟩), v, stV k] w (Notes1 w own h (Notes.both (lookL l) (Nds.note x k)) (stV (Nds.know x k)))
theorem bhc_of {x : Nds} {lo hi : Nat} (hsp : x.Sp lo hi) (hhi : hi ≤ 81) (hs : ∀ z ∈ x.list, SHC z ∧ Steady z.know) : BHC x := by
  intro k l w own ok h va vs v n cs hk hrow hrep H hlt hok
  have h1 := repSL_len x cs hrep
  have h2 := hrow.1.1
  have h3 := len_list x
  have h4 := hsp.len
  exact hbody_any x lo hi hsp hhi k hk l w own ok h n va vs v cs hrow hrep H hlt hok (by omega) (by omega) hs
theorem hands_q {w w1 : World} {ok : Nat → Prop} (q : Keeps noB w w1) : Hands w w1 ok ok := Hands.of_keeps q (fun _ _ _ e => e.elim) (fun g hg _ => hg)
theorem ok_q {w w1 : World} {own ok : Nat → Prop} (q : Keeps noB w w1) (h : ∀ i, ok i → i < w.heap.size ∧ ¬ own i) : ∀ i, ok i → i < w1.heap.size ∧ ¬ own i := fun i hi => ⟨Nat.lt_of_lt_of_le (h i hi).1 q.size, (h i hi).2⟩
theorem own_q {w w1 : World} {own : Nat → Prop} (q : Keeps noB w w1) (h : ∀ i, own i → i < w.heap.size) : ∀ i, own i → i < w1.heap.size := fun i hi => Nat.lt_of_lt_of_le (h i hi) q.size

theorem shc_scope (b e : Nat) (vs ar : List UInt8) (x : Nds) (hx : BHC x) (he : 1 ≤ e) (he2 : e ≤ 81) (hl : ∀ v ∈ vs, ltr v) (hll : vs.length ≤ 1000) (hsx : x.Sp (b + 1) (e - 1)) : SHC (.mk 123 b e vs ar (.cons x .nil)) := by
  intro k l w own ok h va vs' vb hk H hlt hok hrep
  obtain ⟨a, n, m, xs, rfl, hrow, hb⟩ := node_slice hrep
  simp only [RepSB] at hb
  obtain ⟨v0, vr, n1, cs, rfl, ⟨hr1, hr2⟩, rfl⟩ := hb
  obtain ⟨xa, xc, rfl⟩ := row_shape hr1
  have hlen := hrow.1.1
  simp at hlen
  obtain ⟨gB, cc, hv, hg1, hg2, hcell⟩ := row_get hrow (by omega)
  obtain ⟨rfl, rfl⟩ : a = some ⟨gB, 0, none⟩ ∧ m = cc := by simpa using hv
  have hk1 : Nd.know (.mk 123 b e vs ar (.cons x .nil)) k = (Nds.know x k).changed 0 (bitsV vs) := by rw [Nd.know, if_neg (by decide)]
  have hi1 : Nd.inner (.mk 123 b e vs ar (.cons x .nil)) k = (point (e - 1) (Nds.know x k)).over (Nds.note x k) := by rw [Nd.inner, if_neg (by decide)]
  rw [hk1, hi1, ← both_apart (m := lookL l) (fun j => (body_apart hsx (.inr (Nat.le_refl _)) k (Nds.know x k) j).symm)]
  refine hstep_within k _ _ 123 (.inr (.inr rfl)) l own h va vs' b e ⟨vs.toArray⟩ ⟨ar.toArray⟩ _ n m w H hlt (fun w1 q => ?_)
  exact hscope_any k (Nds.know x k) hk ((Nds.steady x _ _ hsx).wf k hk) l own h va vs' b e he he2 vs hl hll ⟨ar.toArray⟩ gB n m (by omega) xa n1 xc w1 (H.quiet q) (own_q q hlt) (Nat.lt_of_lt_of_le hg2 q.size) ((q.cell (p := ⟨gB, 0, none⟩) hg2 id).trans (hcell 0 _ rfl)) _
    (fun w2 q2 => hx k l w2 own ok h va vs' _ n1 cs hk ((hands_q (q.trans q2)).row _ _ _ _ _ hr1) ((hands_q (q.trans q2)).repSL x cs hr2) (H.quiet (q.trans q2)) (own_q (q.trans q2) hlt) (ok_q (q.trans q2) hok))

theorem shc_branch (b e : Nat) (ar : List UInt8) (x y : Nds) {m1 : Nat} (hx : BHC x) (hy : BHC y) (hsx : x.Sp (b + 1) m1) (hsy : y.Sp m1 e) : SHC (.mk 63 b e [] ar (.cons x (.cons y .nil))) := by
  intro k l w own ok h va vs' vb hk H hlt hok hrep
  obtain ⟨a, n, m, xs, rfl, hrow, hb⟩ := node_slice hrep
  simp only [RepSB] at hb
  obtain ⟨v0, vr, n1, cs, rfl, ⟨hr1, hr2⟩, v1, vr2, n2, cs2, rfl, ⟨hr3, hr4⟩, rfl⟩ := hb
  obtain ⟨xa, xc, rfl⟩ := row_shape hr1
  obtain ⟨ya, yc, rfl⟩ := row_shape hr3
  have hlen := hrow.1.1
  simp at hlen
  obtain ⟨gB, cc, hv, hg1, hg2, hcell⟩ := row_get hrow (by omega)
  obtain ⟨rfl, rfl⟩ : a = some ⟨gB, 0, none⟩ ∧ m = cc := by simpa using hv
  have hk1 : Nd.know (.mk 63 b e [] ar (.cons x (.cons y .nil))) k = (Nds.know x k).join (Nds.know y k) := by rw [Nd.know]
  have hi1 : Nd.inner (.mk 63 b e [] ar (.cons x (.cons y .nil))) k = (Nds.note y k).over (Nds.note x k) := by rw [Nd.inner]
  rw [hk1, hi1, ← both_apart (m := lookL l) (fun j => two_apart hsx hsy k k j)]
  refine hstep_within k _ _ 63 (.inl rfl) l own h va vs' b e ⟨#[]⟩ ⟨ar.toArray⟩ _ n m w H hlt (fun w1 q => ?_)
  exact hbranch_any k (Nds.know x k) (Nds.know y k) hk ((Nds.steady x _ _ hsx).wf k hk) ((Nds.steady y _ _ hsy).wf k hk) l own h va vs' b e ⟨#[]⟩ ⟨ar.toArray⟩ gB n m (by omega) xa ya n1 xc n2 yc w1 (H.quiet q) (own_q q hlt) (Nat.lt_of_lt_of_le hg2 q.size) (hok gB hg1).2
    ((q.cell (p := ⟨gB, 0, none⟩) hg2 id).trans (hcell 0 _ rfl)) ((q.cell (p := ⟨gB, 1, none⟩) hg2 id).trans (hcell 1 _ rfl)) _ _
    (fun w2 q2 => hx k l w2 own ok h va vs' _ n1 cs hk ((hands_q (q.trans q2)).row _ _ _ _ _ hr1) ((hands_q (q.trans q2)).repSL x cs hr2) (H.quiet (q.trans q2)) (own_q (q.trans q2) hlt) (ok_q (q.trans q2) hok))
    (fun own1 l1 va1 vs1 w2 ho hH hM => by
      rw [← hM]
      exact hy k l1 w2 own1 ok h va1 vs1 _ n2 cs2 hk ((hands_ownsK ho (ok_q q hok)).row _ _ _ _ _ ((hands_q q).row _ _ _ _ _ hr3)) ((hands_ownsK ho (ok_q q hok)).repSL y cs2 ((hands_q q).repSL y cs2 hr4)) hH ho.lt (ok_afterK ho (ok_q q hok)))

theorem shc_loop (b e : Nat) (ar : List UInt8) (x : Nds) (hx : BHC x) (hsx : x.Sp (b + 1) (e - 1)) : SHC (.mk 42 b e [] ar (.cons x .nil)) := by
  intro k l w own ok h va vs' vb hk H hlt hok hrep
  obtain ⟨a, n, m, xs, rfl, hrow, hb⟩ := node_slice hrep
  simp only [RepSB] at hb
  obtain ⟨v0, vr, n1, cs, rfl, ⟨hr1, hr2⟩, rfl⟩ := hb
  obtain ⟨xa, xc, rfl⟩ := row_shape hr1
  have hlen := hrow.1.1
  simp at hlen
  obtain ⟨gB, cc, hv, hg1, hg2, hcell⟩ := row_get hrow (by omega)
  obtain ⟨rfl, rfl⟩ : a = some ⟨gB, 0, none⟩ ∧ m = cc := by simpa using hv
  have hk1 : Nd.know (.mk 42 b e [] ar (.cons x .nil)) k = loopK (fun t => Nds.know x t) 13 k := by rw [Nd.know, if_pos rfl]
  have hi1 : Nd.inner (.mk 42 b e [] ar (.cons x .nil)) k = Nds.note x (loopK (fun t => Nds.know x t) 13 k) := by rw [Nd.inner, if_pos rfl]
  rw [hk1, hi1]
  refine hstep_within k _ _ 42 (.inr (.inl rfl)) l own h va vs' b e ⟨#[]⟩ ⟨ar.toArray⟩ _ n m w H hlt (fun w1 q => ?_)
  exact hloop_any x _ _ hsx k hk l own h va vs' b e ⟨#[]⟩ ⟨ar.toArray⟩ gB n m (by omega) xa n1 xc w1 (H.quiet q) (own_q q hlt) (Nat.lt_of_lt_of_le hg2 q.size) (hok gB hg1).2
    ((q.cell (p := ⟨gB, 0, none⟩) hg2 id).trans (hcell 0 _ rfl))
    (fun kt own1 l1 va1 vs1 w2 hkt ho hH => hx kt l1 w2 own1 ok h va1 vs1 _ n1 cs hkt ((hands_ownsK ho (ok_q q hok)).row _ _ _ _ _ ((hands_q q).row _ _ _ _ _ hr1)) ((hands_ownsK ho (ok_q q hok)).repSL x cs ((hands_q q).repSL x cs hr2)) hH ho.lt (ok_afterK ho (ok_q q hok)))

mutual
theorem Nd.shC {txt : ByteArray} (htxt : txt.size ≤ 80) : ∀ (x : Nd) (d : Nat), x.Ok txt d → x.Sp → x.Fit → SHC x
  | .mk c k e vs ar .nil, d, hx, hsp, hf => shc_leaf c k e vs ar hsp hf
  | .mk c k e vs ar (.cons x .nil), d, hx, hsp, hf => by
    have hgr := hx.good.room
    have hge := hx.good.le
    simp only [Nd.scope, Nd.vars, Nd.fin] at hgr hge
    have hx' := hx
    simp only [Nd.Ok, Bds.Ok] at hx'
    have hxx := hx'.2.2.2.2.2.2.2.2.1
    simp only [Nd.Sp] at hsp
    obtain ⟨hl, hbe, hsx⟩ := hsp
    simp only [Nd.Fit] at hf
    have ih := bhc_of hsx (by omega) (Nds.shC htxt x _ _ hxx _ _ hsx hf.2)
    rcases hf.1 with ⟨rfl, rfl⟩ | rfl
    · exact shc_loop k e ar x ih hsx
    · exact shc_scope k e vs ar x ih (by omega) (by omega) hl (by omega) hsx
  | .mk c k e vs ar (.cons x (.cons y .nil)), d, hx, hsp, hf => by
    have hge := hx.good.le
    simp only [Nd.fin] at hge
    have hx' := hx
    simp only [Nd.Ok, Bds.Ok] at hx'
    have hxx := hx'.2.2.2.2.2.2.2.2.1
    have hyy := hx'.2.2.2.2.2.2.2.2.2.1
    simp only [Nd.Sp] at hsp
    obtain ⟨m, h1, h2, h3, h4, h5⟩ := hsp
    simp only [Nd.Fit] at hf
    obtain ⟨rfl, rfl, hfx, hfy⟩ := hf
    exact shc_branch k e ar x y (bhc_of h4 (by omega) (Nds.shC htxt x _ _ hxx _ _ h4 hfx)) (bhc_of h5 (by omega) (Nds.shC htxt y _ _ hyy _ _ h5 hfy)) h4 h5
  | .mk c k e vs ar (.cons x (.cons y (.cons u r))), d, hx, hsp, hf => by simp only [Nd.Fit] at hf
theorem Nds.shC {txt : ByteArray} (htxt : txt.size ≤ 80) : ∀ (x : Nds) (sc : List UInt8) (d : Nat), x.Ok txt sc d → ∀ (lo hi : Nat), x.Sp lo hi → x.Fit → ∀ z ∈ x.list, SHC z ∧ Steady z.know
  | .nil, _, _, _, _, _, _, _ => fun z hz => by cases hz
  | .cons x r, sc, d, hx, lo, hi, hsp, hf => by
    simp only [Nds.Ok] at hx
    simp only [Nds.Sp] at hsp
    simp only [Nds.Fit] at hf
    have h1 := Nd.shC htxt x d hx.2.1 hsp.2.1 hf.1
    have h2 := Nds.shC htxt r sc d hx.2.2 _ _ hsp.2.2 hf.2
    intro z hz
    rcases List.mem_cons.1 hz with e | hz
    · rw [e]; exact ⟨h1, Nd.steady _ hsp.2.1⟩
    · exact h2 z hz
end

/-! ### l3Find -/
theorem hold_made (W : World) : HoldAt (((W.alloc (.cells #[] 3)).alloc (.cells #[] 60)).alloc (.cells #[.slice (some ⟨W.heap.size, 0, none⟩) 0 0, .slice (some ⟨W.heap.size + 1, 0, none⟩) 0 0] 90))
    (fun i => W.heap.size ≤ i ∧ i ≤ W.heap.size + 1 + 1) (W.heap.size + 1 + 1) [] (.slice (some ⟨W.heap.size, 0, none⟩) 0 0) (.slice (some ⟨W.heap.size + 1, 0, none⟩) 0 0) := by
  have z1 : (W.alloc (.cells #[] 3)).heap.size = W.heap.size + 1 := by simp only [World.alloc, Array.size_push]
  have z2 : ((W.alloc (.cells #[] 3)).alloc (.cells #[] 60)).heap.size = W.heap.size + 1 + 1 := by simp only [World.alloc, Array.size_push]
  have b1 := ((Blk.new W #[] 3).alloc (.cells #[] 60)).alloc (.cells #[.slice (some ⟨W.heap.size, 0, none⟩) 0 0, .slice (some ⟨W.heap.size + 1, 0, none⟩) 0 0] 90)
  have b2 := (Blk.new (W.alloc (.cells #[] 3)) #[] 60).alloc (.cells #[.slice (some ⟨W.heap.size, 0, none⟩) 0 0, .slice (some ⟨W.heap.size + 1, 0, none⟩) 0 0] 90)
  have b3 := Blk.new ((W.alloc (.cells #[] 3)).alloc (.cells #[] 60)) #[.slice (some ⟨W.heap.size, 0, none⟩) 0 0, .slice (some ⟨W.heap.size + 1, 0, none⟩) 0 0] 90
  rw [z1] at b2
  rw [z2] at b3
  refine ⟨b3, ⟨rfl, .inr ⟨_, 0, _, rfl, Nat.zero_le _, b1, Nat.le_refl _, by simp [maxLen], rfl, rfl⟩⟩, ⟨rfl, .inr ⟨_, 0, _, rfl, Nat.zero_le _, b2, Nat.le_refl _, by simp [maxLen], rfl, rfl⟩⟩, ⟨by omega, by omega⟩, ?_, ?_, AOk.nil⟩
  · intro g hg
    simp [Value.ownBlock] at hg
    subst hg
    exact ⟨⟨Nat.le_refl _, by omega⟩, by omega, by simp [Value.ownBlock]⟩
  · intro g hg
    simp [Value.ownBlock] at hg
    subst hg
    exact ⟨⟨by omega, by omega⟩, by omega⟩

theorem stV_start : stV ⟨0, 0⟩ = .agg #[.string ⟨#[]⟩, .string ⟨#[]⟩, .bool true] := by
  have h1 : mayL ⟨0, 0⟩ = [] := by decide
  have h2 : mustL ⟨0, 0⟩ = [] := by decide
  have h3 : liveK ⟨0, 0⟩ = true := by decide
  unfold stV
  rw [h1, h2, h3]
  rfl

set_option maxHeartbeats 1000000 in
theorem lfind_any (x : Nd) (hsp : x.Sp) (hfin : x.fin ≤ 81) (hx : SHC x) (w : World) (ok : Nat → Prop) (hok : ∀ g, ok g → g < w.heap.size) (a : Option Addr) (n m : Nat) (hrep : RepS w ok x (nodeCellsK x (.slice a n m))) :
    Calls Tryz.prog 28 #[.agg #[.int .u8 (x.kind.toNat : Int), .int .i64 (x.beg : Int), .int .i64 (x.fin : Int), .string ⟨x.vars.toArray⟩, .slice a n m, .string ⟨x.scope.toArray⟩]] w
      (fun e w' => ∃ own h l va vs, e = .returned (.pointer (some ⟨h, 0, none⟩)) ∧ HoldAt w' own h l va vs ∧ lookL l = notesP x ∧ (∀ g, own g → w.heap.size ≤ g) ∧ Keeps noB w w') := by
  have hlt := hsp.lt
  have hls : (Nds.cons x .nil).Sp x.beg x.fin := by simp only [Nds.Sp]; exact ⟨Nat.le_refl _, hsp, Nat.le_refl _⟩
  have hB : BHC (.cons x .nil) := bhc_of hls hfin (fun z hz => by
    have e : z = x := by simpa [Nds.list] using hz
    rw [e]; exact ⟨hx, Nd.steady x hsp⟩)
  have hN : Notes.both (lookL []) (Nds.note (.cons x .nil) ⟨0, 0⟩) = notesP x := by
    have e : Nds.note (.cons x .nil) ⟨0, 0⟩ = notesP x := by
      funext j
      simp only [Nds.note, Notes.over, blank, notesP]
    rw [e]
    exact both_blank_left _
  obtain ⟨cv, hcv⟩ : ∃ cv : Array Value, cv = #[.int .u8 (x.kind.toNat : Int), .int .i64 (x.beg : Int), .int .i64 (x.fin : Int), .string ⟨x.vars.toArray⟩, .slice a n m, .string ⟨x.scope.toArray⟩] := ⟨_, rfl⟩
  have hcl : cv.toList = nodeCellsK x (.slice a n m) := by rw [hcv]; rfl
  have z1 : (w.alloc (.cells cv 52)).heap.size = w.heap.size + 1 := by simp only [World.alloc, Array.size_push]
  have H0 := hold_made (w.alloc (.cells cv 52))
  rw [z1] at H0
  have q0 : Keeps noB w ((((w.alloc (.cells cv 52)).alloc (.cells #[] 3)).alloc (.cells #[] 60)).alloc (.cells #[.slice (some ⟨w.heap.size + 1, 0, none⟩) 0 0, .slice (some ⟨w.heap.size + 1 + 1, 0, none⟩) 0 0] 90)) := ((((Keeps.refl _ w).alloc _).alloc _).alloc _).alloc _
  have z4 : ((((w.alloc (.cells cv 52)).alloc (.cells #[] 3)).alloc (.cells #[] 60)).alloc (.cells #[.slice (some ⟨w.heap.size + 1, 0, none⟩) 0 0, .slice (some ⟨w.heap.size + 1 + 1, 0, none⟩) 0 0] 90)).heap.size = w.heap.size + 1 + 1 + 1 + 1 := by simp only [World.alloc, Array.size_push]
  have HC : Hid (Calls Tryz.prog 39 #[.pointer (some ⟨w.heap.size + 1 + 1 + 1, 0, none⟩), .slice (some ⟨w.heap.size + 1 + 1 + 1 + 1, 0, none⟩) 1 1, .agg #[.string ⟨#[]⟩, .string ⟨#[]⟩, .bool true]]
      (((((w.alloc (.cells cv 52)).alloc (.cells #[] 3)).alloc (.cells #[] 60)).alloc (.cells #[.slice (some ⟨w.heap.size + 1, 0, none⟩) 0 0, .slice (some ⟨w.heap.size + 1 + 1, 0, none⟩) 0 0] 90)).alloc (.cells cv 52))
      (fun e w' => ∃ own l va vs v, e = .returned v ∧ HoldAt w' own (w.heap.size + 1 + 1 + 1) l va vs ∧ lookL l = notesP x ∧ (∀ g, own g → w.heap.size ≤ g) ∧ Keeps noB w w')) := by
    generalize ((((w.alloc (.cells cv 52)).alloc (.cells #[] 3)).alloc (.cells #[] 60)).alloc (.cells #[.slice (some ⟨w.heap.size + 1, 0, none⟩) 0 0, .slice (some ⟨w.heap.size + 1 + 1, 0, none⟩) 0 0] 90)) = W4 at *
    have bN := Blk.new W4 cv 52
    rw [z4] at bN
    have qN : Keeps noB W4 (W4.alloc (.cells cv 52)) := (Keeps.refl _ _).alloc _
    have zN : (W4.alloc (.cells cv 52)).heap.size = W4.heap.size + 1 := by simp only [World.alloc, Array.size_push]
    have hh : Hands w (W4.alloc (.cells cv 52)) ok (fun i => ok i ∨ i = w.heap.size + 1 + 1 + 1 + 1) := Hands.of_keeps (q0.trans qN) (fun _ _ _ e => e.elim) (fun g hg _ => .inl hg)
    have hr := hh.repS x _ hrep
    have hc6 : cv.size = 6 := by rw [hcv]; rfl
    have hC := hB ⟨0, 0⟩ [] _ _ (fun i => ok i ∨ i = w.heap.size + 1 + 1 + 1 + 1) _ _ _ (.slice (some ⟨w.heap.size + 1 + 1 + 1 + 1, 0, none⟩) 1 1) 1 cv.toList wf_start
      ⟨⟨by simp [hc6], .inr ⟨_, 1, _, rfl, Nat.zero_le _, bN, Nat.le_refl _, by simp [maxLen], by simp [hc6], by first | exact List.take_of_length_le (by simp [hc6]) | exact (List.take_of_length_le (by simp [hc6])).symm⟩⟩, fun g hg => by simp [Value.ownBlock] at hg; exact .inr hg.symm⟩
      (by rw [hcl]; simp only [RepSL]; exact ⟨_, [], by simp, hr, rfl⟩) (H0.quiet qN) (fun i hi => by have := hi.2; omega) (fun i hi => by
        rcases hi with hi | rfl
        · have := hok i hi; exact ⟨by omega, fun e => by have := e.1; omega⟩
        · exact ⟨by omega, fun e => by have := e.2; omega⟩)
    rw [stV_start, hN] at hC
    refine hC.mono ?_
    rintro e w1 ⟨own1, l1, va1, vs1, rfl, ho1, hH1, hM1⟩
    refine ⟨own1, l1, va1, vs1, _, rfl, hH1, hM1, fun i hi => (ho1.more i hi).elim (fun e => by have := e.1; omega) (fun e => by rw [zN, z4] at e; omega), ?_⟩
    exact ((q0.trans qN).transNew ho1.keeps (fun i hi e => by have := e.1; omega))
  rw [hcv] at HC
  clear hcv hcl z1 H0 q0 z4 hB hN hls hlt hsp hfin hx hrep hok
  go_enter Tryz.func28, Tryz.ntmps28
  go_wp2_with fail
  refine HC.out.mono ?_
  rintro e w1 ⟨own1, l1, va1, vs1, v, rfl, hH1, hM1, hO1, q1⟩
  have HQ := Lib.hid (And.intro hH1 (And.intro hM1 (And.intro hO1 q1)))
  clear hH1 hM1 hO1 q1
  go_wp2_with fail
  go_ret
  exact ⟨own1, _, l1, va1, vs1, rfl, HQ.out.1, HQ.out.2.1, HQ.out.2.2.1, HQ.out.2.2.2⟩

end Go.Proofs.YtkfcgamdlckncaaGreat

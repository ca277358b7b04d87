/-
  Walks of the model's holder: body.
-/
import Derived.Test.YtkfcgamdlckncaaGreatVm
import Derived.Test.YtkfcgamdlckncaaGreatEbV
namespace Go.Proofs.YtkfcgamdlckncaaGreat
set_option linter.unusedVariables false
set_option linter.unusedSimpArgs false
open Go.RowKit

/-- The notes of a step apart from its beginning. -/
def Nd.inner : Nd → Kn → Notes
  | .mk c b e vs ar .nil, k => blank
  | .mk c b e vs ar (.cons x .nil), k => if c = 42 then Nds.note x (loopK (fun t => Nds.know x t) 13 k) else (point (e - 1) (Nds.know x k)).over (Nds.note x k)
  | .mk c b e vs ar (.cons x (.cons y _)), k => (Nds.note y k).over (Nds.note x k)
theorem note_inner : ∀ (x : Nd) (k : Kn), x.note k = (x.inner k).over (point x.beg k)
  | .mk c b e vs ar .nil, k => by simp only [Nd.note, Nd.inner, Nd.beg]; rfl
  | .mk c b e vs ar (.cons x .nil), k => by
    simp only [Nd.note, Nd.inner, Nd.beg]
    split
    · rfl
    · rw [over_assoc]
  | .mk c b e vs ar (.cons x (.cons y _)), k => by simp only [Nd.note, Nd.inner, Nd.beg]; rw [over_assoc]
theorem inner_apart : ∀ (x : Nd) (k k' : Kn) (j : Nat), x.Sp → x.inner k j = none ∨ point x.beg k' j = none
  | .mk c b e vs ar .nil, k, k', j, h => .inl rfl
  | .mk c b e vs ar (.cons x .nil), k, k', j, h => by
    simp only [Nd.Sp] at h
    simp only [Nd.inner, Nd.beg]
    split
    · exact body_apart h.2.2 (.inl (by omega)) _ _ j
    · rcases body_apart (i := b) h.2.2 (.inl (by omega)) k k' j with h1 | h1
      · by_cases hj : j = b
        · left
          rw [over_none (by unfold point; rw [if_neg (by omega)]), h1]
        · right; unfold point; rw [if_neg hj]
      · exact .inr h1
  | .mk c b e vs ar (.cons x (.cons y _)), k, k', j, h => by
    simp only [Nd.Sp] at h
    obtain ⟨m, h1, h2, h3, h4, h5⟩ := h
    simp only [Nd.inner, Nd.beg]
    rcases body_apart (i := b) h5 (.inl (by omega)) k k' j with a1 | a1
    · rcases body_apart (i := b) h4 (.inl (by omega)) k k' j with a2 | a2
      · left; rw [over_none a1, a2]
      · exact .inr a2
    · exact .inr a1
theorem both_point_inner (M : Notes) (x : Nd) (k : Kn) (h : x.Sp) : Notes.both (Notes.both M (point x.beg k)) (x.inner k) = Notes.both M (x.note k) := by
  rw [note_inner, both_apart (fun j => inner_apart x k k j h)]
theorem both_step (M : Notes) (x : Nd) (r : Nds) (k : Kn) {lo hi : Nat} (h : (Nds.cons x r).Sp lo hi) : Notes.both (Notes.both M (x.note k)) (Nds.note r (x.know k)) = Notes.both M (Nds.note (.cons x r) k) := by
  rw [Nds.note, both_apart (fun j => list_apart h k (x.know k) j)]

/-- The boxes of a function of the holder's, wherever it stands. -/
structure HdSt (w w1 : World) (own own1 : Nat → Prop) (h : Nat) (l : AL) (va vs : Value) (S R : Nat) (k : Kn) : Prop where
  o : Owns own own1 w w1
  H : HoldAt w1 own1 h l va vs
  bS : Blk w1 S #[.string (mayB k), .string (mustB k), .bool (liveK k)] 60
  bR : Blk w1 R #[.string ⟨#[]⟩, .string ⟨#[]⟩, .bool false] 60
  frS : ¬ own1 S
  frR : ¬ own1 R
  geS : w.heap.size ≤ S
  geR : w.heap.size ≤ R
  ne : S ≠ R

theorem HdSt.call {w w1 w2 : World} {own own1 own2 : Nat → Prop} {h : Nat} {l l2 : AL} {va vs va2 vs2 : Value} {S R : Nat} {k : Kn} (a : HdSt w w1 own own1 h l va vs S R k) (ho : Owns own1 own2 w1 w2) (H2 : HoldAt w2 own2 h l2 va2 vs2) : HdSt w w2 own own2 h l2 va2 vs2 S R k :=
  ⟨a.o.trans ho, H2, ho.keeps.blk a.bS a.frS, ho.keeps.blk a.bR a.frR, fun e => (ho.more S e).elim a.frS (fun e2 => by have := a.bS.lt; omega), fun e => (ho.more R e).elim a.frR (fun e2 => by have := a.bR.lt; omega), a.geS, a.geR, a.ne⟩
theorem HdSt.quiet {w w1 w2 : World} {own own1 : Nat → Prop} {h : Nat} {l : AL} {va vs : Value} {S R : Nat} {k : Kn} (a : HdSt w w1 own own1 h l va vs S R k) (q : Keeps noB w1 w2) : HdSt w w2 own own1 h l va vs S R k :=
  ⟨a.o.ahead q (fun _ e => e.elim), a.H.quiet q, q.blk a.bS id, q.blk a.bR id, a.frS, a.frR, a.geS, a.geR, a.ne⟩
theorem HdSt.store {w w1 : World} {own own1 : Nat → Prop} {h : Nat} {l : AL} {va vs : Value} {S R : Nat} {k : Kn} (a : HdSt w w1 own own1 h l va vs S R k) (t : Kn) :
    HdSt w (((w1.setCell ⟨S, 0, none⟩ (.string (mayB t))).setCell ⟨S, 1, none⟩ (.string (mustB t))).setCell ⟨S, 2, none⟩ (.bool (liveK t))) own own1 h l va vs S R t := by
  have q : Keeps (oneB S) w1 (((w1.setCell ⟨S, 0, none⟩ (.string (mayB t))).setCell ⟨S, 1, none⟩ (.string (mustB t))).setCell ⟨S, 2, none⟩ (.bool (liveK t))) := (((Keeps.refl (oneB S) w1).setCell (p := ⟨S, 0, none⟩) (.inl rfl) _).setCell (p := ⟨S, 1, none⟩) (.inl rfl) _).setCell (p := ⟨S, 2, none⟩) (.inl rfl) _
  refine ⟨a.o.ahead q (fun i e => by have : i = S := e; have := a.geS; omega), a.H.keeps q (fun g hg e => a.frS (by have : g = S := e; rw [← this]; exact hg)), ?_, q.blk a.bR (fun e => a.ne (by have : R = S := e; exact this.symm)), a.frS, a.frR, a.geS, a.geR, a.ne⟩
  exact ((a.bS.set 0 _).set 1 _).set 2 _
def HdCells (w1 : World) (S R : Nat) (a b : ByteArray) (c : Bool) : Prop :=
  w1.cell? ⟨S, 0, none⟩ = some (.string a) ∧ w1.cell? ⟨S, 1, none⟩ = some (.string b) ∧ w1.cell? ⟨S, 2, none⟩ = some (.bool c) ∧ w1.cell? ⟨R, 0, none⟩ = some (.string ⟨#[]⟩) ∧ w1.cell? ⟨R, 1, none⟩ = some (.string ⟨#[]⟩) ∧ w1.cell? ⟨R, 2, none⟩ = some (.bool false) ∧
  (w1.frozen? ⟨S, 0, none⟩ = false ∧ w1.frozen? ⟨S, 1, none⟩ = false ∧ w1.frozen? ⟨S, 2, none⟩ = false) ∧ w1.frozen? ⟨R, 0, none⟩ = false ∧ w1.frozen? ⟨R, 1, none⟩ = false ∧ w1.frozen? ⟨R, 2, none⟩ = false
theorem HdSt.cells {w w1 : World} {own own1 : Nat → Prop} {h : Nat} {l : AL} {va vs : Value} {S R : Nat} {k : Kn} (a : HdSt w w1 own own1 h l va vs S R k) : HdCells w1 S R (mayB k) (mustB k) (liveK k) :=
  ⟨(a.bS.cell 0).trans rfl, (a.bS.cell 1).trans rfl, (a.bS.cell 2).trans rfl, (a.bR.cell 0).trans rfl, (a.bR.cell 1).trans rfl, (a.bR.cell 2).trans rfl, ⟨a.bS.free 0, a.bS.free 1, a.bS.free 2⟩, a.bR.free 0, a.bR.free 1, a.bR.free 2⟩
theorem HdSt.done {w w1 : World} {own own1 : Nat → Prop} {h : Nat} {l : AL} {va vs : Value} {S R : Nat} {k : Kn} (a : HdSt w w1 own own1 h l va vs S R k) (x y z v : Value) :
    (((w1.setCell ⟨R, 0, none⟩ x).setCell ⟨R, 1, none⟩ y).setCell ⟨R, 2, none⟩ z).cell? ⟨R, 0, none⟩ = some x ∧ (((w1.setCell ⟨R, 0, none⟩ x).setCell ⟨R, 1, none⟩ y).setCell ⟨R, 2, none⟩ z).cell? ⟨R, 1, none⟩ = some y ∧ (((w1.setCell ⟨R, 0, none⟩ x).setCell ⟨R, 1, none⟩ y).setCell ⟨R, 2, none⟩ z).cell? ⟨R, 2, none⟩ = some z ∧
    Notes1 w own h (lookL l) v (.returned v) (((w1.setCell ⟨R, 0, none⟩ x).setCell ⟨R, 1, none⟩ y).setCell ⟨R, 2, none⟩ z) := by
  have b2 := ((a.bR.set 0 x).set 1 y).set 2 z
  have q : Keeps (oneB R) w1 (((w1.setCell ⟨R, 0, none⟩ x).setCell ⟨R, 1, none⟩ y).setCell ⟨R, 2, none⟩ z) := (((Keeps.refl (oneB R) w1).setCell (p := ⟨R, 0, none⟩) (.inl rfl) _).setCell (p := ⟨R, 1, none⟩) (.inl rfl) _).setCell (p := ⟨R, 2, none⟩) (.inl rfl) _
  exact ⟨(b2.cell 0).trans rfl, (b2.cell 1).trans rfl, (b2.cell 2).trans rfl, own1, l, va, vs, rfl, a.o.ahead q (fun i e => by have : i = R := e; have := a.geR; omega), a.H.keeps q (fun g hg e => a.frR (by have : g = R := e; rw [← this]; exact hg)), rfl⟩

/-! ### nodes -/
def nodeOfK (x : Nd) (vb : Value) : Value := .agg #[u8 x.kind, i64 x.beg, i64 x.fin, str x.vars, vb, str x.scope]
def nodeCellsK (x : Nd) (vb : Value) : List Value := [u8 x.kind, i64 x.beg, i64 x.fin, str x.vars, vb, str x.scope]
theorem node_repK {w : World} {ok : Nat → Prop} {j : Nat} {cs : List Value} {z : Nd} {r : Nds} (h : RepSL w ok (.cons z r) (cs.drop (j * 6))) :
    ∃ a n m, RepS w ok z (nodeCellsK z (.slice a n m)) ∧ (∀ i u, (nodeCellsK z (.slice a n m))[i]? = some u → cs[j * 6 + i]? = some u) ∧ RepSL w ok r (cs.drop ((j + 1) * 6)) := by
  cases z with
  | mk c k e vs ar bs =>
  simp only [RepSL] at h
  obtain ⟨d1, d2, hd, hz, h2⟩ := h
  have hz' := hz
  simp only [RepS] at hz'
  obtain ⟨vb, n, xs, rfl, hr, _⟩ := hz'
  obtain ⟨a, m, rfl⟩ := row_slice hr
  refine ⟨a, n, m, hz, fun i u hu => ?_, ?_⟩
  · have h0 : (cs.drop (j * 6))[i]? = some u := by
      rw [hd, List.getElem?_append_left (by exact (List.getElem?_eq_some_iff.1 hu).1)]
      exact hu
    simpa using h0
  · have e1 : cs.drop ((j + 1) * 6) = (cs.drop (j * 6)).drop 6 := by rw [List.drop_drop, Nat.succ_mul]
    rw [e1, hd]
    exact h2
theorem ok_afterK {own own' ok : Nat → Prop} {w w' : World} (ho : Owns own own' w w') (h : ∀ k, ok k → k < w.heap.size ∧ ¬ own k) : ∀ k, ok k → k < w'.heap.size ∧ ¬ own' k :=
  fun k hk => ⟨Nat.lt_of_lt_of_le (h k hk).1 ho.keeps.size, fun e => (ho.more k e).elim (h k hk).2 (fun e2 => by have := (h k hk).1; omega)⟩
theorem hands_ownsK {own own' ok : Nat → Prop} {w w' : World} (ho : Owns own own' w w') (h : ∀ k, ok k → k < w.heap.size ∧ ¬ own k) : Hands w w' ok ok :=
  Hands.of_keeps ho.keeps (fun g hg _ => (h g hg).2) (fun g hg _ => hg)

/-- What a step's walk says. -/
def SHC (z : Nd) : Prop := ∀ (k : Kn) (l : AL) (w : World) (own ok : Nat → Prop) (h : Nat) (va vs vb : Value), k.Wf → HoldAt w own h l va vs → (∀ i, own i → i < w.heap.size) → (∀ i, ok i → i < w.heap.size ∧ ¬ own i) → RepS w ok z (nodeCellsK z vb) →
  Calls Tryz.prog 61 #[.pointer (some ⟨h, 0, none⟩), nodeOfK z vb, stV k] w (Notes1 w own h (Notes.both (lookL l) (z.inner k)) (stV (z.know k)))

/-- What the loop of body holds. -/
def HBRel (w : World) (own ok : Nat → Prop) (h : Nat) (x : Nds) (cs : List Value) (hi : Nat) (K : Kn) (MF : Notes) (v11 : Value) (wr : World) : Prop :=
  ∃ (i : Nat) (rest : Nds) (kt : Kn) (lo : Nat) (l' : AL) (own1 : Nat → Prop) (va1 vs1 : Value), i + rest.list.length = x.list.length ∧ v11 = .int .i64 (i : Int) ∧ RepSL w ok rest (cs.drop (i * 6)) ∧ rest.Sp lo hi ∧ (∀ z ∈ rest.list, z ∈ x.list) ∧ kt.Wf ∧ Nds.know rest kt = K ∧ Notes.both (lookL l') (Nds.note rest kt) = MF ∧
    HdSt w wr own own1 h l' va1 vs1 w.heap.size (w.heap.size + 1) kt

set_option maxRecDepth 100000 in
set_option maxHeartbeats 4000000 in
theorem hbody_any (x : Nds) (lo hi : Nat) (hsp : x.Sp lo hi) (hhi : hi ≤ 81) (k : Kn) (hk : k.Wf) (l : AL) (w : World) (own ok : Nat → Prop) (h n : Nat) (va vs v : Value) (cs : List Value) (hrow : Row w ok 52 6 v n cs) (hrep : RepSL w ok x cs)
    (H : HoldAt w own h l va vs) (hlt : ∀ i, own i → i < w.heap.size) (hok : ∀ i, ok i → i < w.heap.size ∧ ¬ own i) (hn : n ≤ 4000) (hnx : n = x.list.length) (hstep : ∀ z ∈ x.list, SHC z ∧ Steady z.know) :
    Calls Tryz.prog 39 #[.pointer (some ⟨h, 0, none⟩), v, stV k] w (Notes1 w own h (Notes.both (lookL l) (Nds.note x k)) (stV (Nds.know x k))) := by
  obtain ⟨a, c, rfl⟩ := row_shape hrow
  have hZ : (w.alloc (.cells #[.string (mayB k), .string (mustB k), .bool (liveK k)] 60)).heap.size = w.heap.size + 1 := by simp only [World.alloc, Array.size_push]
  have hP0 : HdSt w ((w.alloc (.cells #[.string (mayB k), .string (mustB k), .bool (liveK k)] 60)).alloc (.cells #[.string ⟨#[]⟩, .string ⟨#[]⟩, .bool false] 60)) own own h l va vs w.heap.size (w.heap.size + 1) k := by
    have q : Keeps noB w ((w.alloc (.cells #[.string (mayB k), .string (mustB k), .bool (liveK k)] 60)).alloc (.cells #[.string ⟨#[]⟩, .string ⟨#[]⟩, .bool false] 60)) := ((Keeps.refl _ _).alloc _).alloc _
    have hB := Blk.new (w.alloc (.cells #[.string (mayB k), .string (mustB k), .bool (liveK k)] 60)) #[.string ⟨#[]⟩, .string ⟨#[]⟩, .bool false] 60
    rw [hZ] at hB
    exact ⟨⟨fun _ e => .inl e, fun i e => Nat.lt_of_lt_of_le (hlt i e) q.size, q.mono (fun _ e => e.elim)⟩, H.quiet q, (Blk.new w _ _).alloc _, hB, fun e => by have := hlt _ e; omega, fun e => by have := hlt _ e; omega, Nat.le_refl _, by omega, by omega⟩
  have HP : Hid (HBRel w own ok h x cs hi (Nds.know x k) (Notes.both (lookL l) (Nds.note x k)) (.int .i64 0) ((w.alloc (.cells #[.string (mayB k), .string (mustB k), .bool (liveK k)] 60)).alloc (.cells #[.string ⟨#[]⟩, .string ⟨#[]⟩, .bool false] 60))) :=
    ⟨0, x, k, lo, l, own, va, vs, by simp, rfl, by simpa using hrep, hsp, fun z hz => hz, hk, rfl, rfl, hP0⟩
  have HG := Lib.hid (And.intro hrow (And.intro hok (And.intro hstep hhi)))
  have HNX := Lib.hid hnx
  generalize Nds.know x k = K at *
  generalize Notes.both (lookL l) (Nds.note x k) = MF at *
  rw [stV_eq k]
  clear hrow hrep H hlt hok hnx hstep hsp hk hZ hP0 hhi
  generalize mayB k = a0 at *
  generalize mustB k = b0 at *
  generalize liveK k = c0 at *
  go_enter Tryz.func39, Tryz.ntmps39
  go_wp2_with fail
  go_loopw [11] (fun v11 wr => HBRel w own ok h x cs hi K MF v11 wr) (fun v11 _ => n - (intOf v11).toNat)
  case atStart => exact HP.out
  case round =>
    clear HP
    obtain ⟨i, rest, kt, lo1, l1, own1, va1, vs1, hil, rfl, hrep, hsp, hmem, hkw, hkn, hnt, hst⟩ := hrel
    rw [← HNX.out] at hil
    have ⟨t0, t1, t2, t3, t4, t5, ⟨t6, t7, t8⟩, t9, t10, t11⟩ := hst.cells
    cases rest with
    | nil =>
      have hd : ¬ i < n := by simp [Nds.list] at hil; omega
      rw [Nds.know] at hkn
      have e1 : lookL l1 = MF := by
        rw [← hnt, Nds.note]
        funext j
        unfold Notes.both blank
        cases lookL l1 j <;> rfl
      subst hkn e1
      have HF := Lib.hid (hst.done (.string (mayB kt)) (.string (mustB kt)) (.bool (liveK kt)) (stV kt))
      clear hil hrep hsp hmem hkw hnt hst HG
      go_wp2_with fail
      obtain ⟨f0, f1, f2, f3⟩ := HF.out
      exact bodyPost_ret (resSt Tryz.results39 _ (w.heap.size + 1) _ _ _ _ rfl f0 f1 f2) rfl f3
    | cons z r =>
      have hd : i < n := by simp [Nds.list] at hil; omega
      have hin1 : (i : Int) < (n : Int) := by omega
      obtain ⟨na, nn, nm, hzrep, hzc, hrr⟩ := node_repK hrep
      obtain ⟨g, cc, hv, hg1, hg2, hcell⟩ := row_get HG.out.1 (by omega)
      obtain ⟨rfl, rfl⟩ : a = some ⟨g, 0, none⟩ ∧ c = cc := by simpa using hv
      have hgo : ¬ own g := (HG.out.2.1 g hg1).2
      have hcw : ∀ i' u, (nodeCellsK z (.slice na nn nm))[i']? = some u → wr.cell? ⟨g, i * 6 + i', none⟩ = some u := fun i' u hu =>
        (hst.o.keeps.cell (p := ⟨g, i * 6 + i', none⟩) hg2 hgo).trans (hcell _ _ (hzc i' u hu))
      have s0 : wr.cell? ⟨g, i * 6, none⟩ = some (.int .u8 (z.kind.toNat : Int)) := hcw 0 _ rfl
      have s1 := hcw 1 _ rfl
      have s2 := hcw 2 _ rfl
      have s3 := hcw 3 _ rfl
      have s4 := hcw 4 _ rfl
      have s5 := hcw 5 _ rfl
      unfold i64 at s1 s2
      unfold str at s3 s5
      have hsp' := hsp
      simp only [Nds.Sp] at hsp'
      obtain ⟨hlo, hzs, hrs⟩ := hsp'
      have hzl := hzs.lt
      have hrl := hrs.le
      have hb81 : z.beg < 81 := by have := HG.out.2.2.2; omega
      have hzx : z ∈ x.list := hmem z (by simp [Nds.list])
      obtain ⟨hzC, hzS⟩ := HG.out.2.2.1 z hzx
      have qA : Keeps noB wr (wr.alloc (.cells #[.int .u8 (z.kind.toNat : Int), .int .i64 (z.beg : Int), .int .i64 (z.fin : Int), .string ⟨z.vars.toArray⟩, .slice na nn nm, .string ⟨z.scope.toArray⟩] 52)) := (Keeps.refl _ _).alloc _
      have bA := Blk.new wr #[.int .u8 (z.kind.toNat : Int), .int .i64 (z.beg : Int), .int .i64 (z.fin : Int), .string ⟨z.vars.toArray⟩, .slice na nn nm, .string ⟨z.scope.toArray⟩] 52
      have hsA := hst.quiet qA
      have hnA : ¬ own1 wr.heap.size := fun e => by have := hst.o.lt _ e; omega
      have hA1 : w.heap.size < wr.heap.size := hst.bS.lt
      have hA2 : w.heap.size + 1 < wr.heap.size := hst.bR.lt
      have hA3 : ¬ w.heap.size = wr.heap.size := by omega
      have hA4 : ¬ w.heap.size + 1 = wr.heap.size := by omega
      have hA5 : ¬ wr.heap.size = w.heap.size := by omega
      have HNT := Lib.hid (note_any kt hkw z.beg hb81 l1 _ own1 h va1 vs1 hsA.H hsA.o.lt)
      rw [stV_eq kt] at HNT
      have HSP : Hid (∀ own2 l2 va2 vs2 w2, Owns own1 own2 (wr.alloc (.cells #[.int .u8 (z.kind.toNat : Int), .int .i64 (z.beg : Int), .int .i64 (z.fin : Int), .string ⟨z.vars.toArray⟩, .slice na nn nm, .string ⟨z.scope.toArray⟩] 52)) w2 → HoldAt w2 own2 h l2 va2 vs2 → lookL l2 = Notes.both (lookL l1) (point z.beg kt) →
          HdCells w2 w.heap.size (w.heap.size + 1) (mayB kt) (mustB kt) (liveK kt) ∧
          (w2.cell? ⟨wr.heap.size, 0, none⟩ = some (.int .u8 (z.kind.toNat : Int)) ∧ w2.cell? ⟨wr.heap.size, 1, none⟩ = some (.int .i64 (z.beg : Int)) ∧ w2.cell? ⟨wr.heap.size, 2, none⟩ = some (.int .i64 (z.fin : Int)) ∧ w2.cell? ⟨wr.heap.size, 3, none⟩ = some (.string ⟨z.vars.toArray⟩) ∧ w2.cell? ⟨wr.heap.size, 4, none⟩ = some (.slice na nn nm) ∧ w2.cell? ⟨wr.heap.size, 5, none⟩ = some (.string ⟨z.scope.toArray⟩)) ∧
          Calls Tryz.prog 61 #[.pointer (some ⟨h, 0, none⟩), .agg #[.int .u8 (z.kind.toNat : Int), .int .i64 (z.beg : Int), .int .i64 (z.fin : Int), .string ⟨z.vars.toArray⟩, .slice na nn nm, .string ⟨z.scope.toArray⟩], .agg #[.string (mayB kt), .string (mustB kt), .bool (liveK kt)]] w2
            (fun e w3 => e = .returned (.agg #[.string (mayB (z.know kt)), .string (mustB (z.know kt)), .bool (liveK (z.know kt))]) ∧ HdCells w3 w.heap.size (w.heap.size + 1) (mayB kt) (mustB kt) (liveK kt) ∧
              HBRel w own ok h x cs hi K MF (.int .i64 ((i : Int) + 1)) (((w3.setCell ⟨w.heap.size, 0, none⟩ (.string (mayB (z.know kt)))).setCell ⟨w.heap.size, 1, none⟩ (.string (mustB (z.know kt)))).setCell ⟨w.heap.size, 2, none⟩ (.bool (liveK (z.know kt)))))) := by
        intro own2 l2 va2 vs2 w2 ho2 hH2 hM2
        have hs2 := hsA.call ho2 hH2
        have bN := ho2.keeps.blk bA hnA
        have hC := hzC kt l2 w2 own2 ok h va2 vs2 (.slice na nn nm) hkw hH2 hs2.o.lt (ok_afterK hs2.o HG.out.2.1) (Hands.repS (hands_ownsK hs2.o HG.out.2.1) z _ hzrep)
        refine ⟨hs2.cells, ⟨(bN.cell 0).trans rfl, (bN.cell 1).trans rfl, (bN.cell 2).trans rfl, (bN.cell 3).trans rfl, (bN.cell 4).trans rfl, (bN.cell 5).trans rfl⟩, hC.mono ?_⟩
        rintro e w3 ⟨own3, l3, va3, vs3, he, ho3, hH3, hM3⟩
        have hs3 := hs2.call ho3 hH3
        refine ⟨he, hs3.cells, i + 1, r, z.know kt, z.fin, l3, own3, va3, vs3, by simp [Nds.list] at hil; have := HNX.out; omega, by simp, hrr, hrs, fun z' hz' => hmem z' (by simp [Nds.list, hz']), hzS.wf kt hkw, by rw [← hkn, Nds.know], ?_, hs3.store _⟩
        rw [hM3, hM2, both_point_inner _ _ _ hzs, both_step _ _ _ _ hsp]
        exact hnt
      generalize z.know kt = kz at *
      generalize mayB kt = ka at *
      generalize mustB kt = kb at *
      generalize liveK kt = kc at *
      clear hil hrep hsp hmem hkw hkn hnt hst hzrep hzc hrr hcell hcw hlo hzs hrs hzl hrl hb81 hzx hzC hzS qA bA hsA hnA hg1 hg2 hgo hv HG
      generalize (⟨z.vars.toArray⟩ : ByteArray) = zv at *
      generalize (⟨z.scope.toArray⟩ : ByteArray) = zs at *
      generalize (z.kind.toNat : Int) = zk at *
      generalize (z.fin : Int) = zf at *
      obtain ⟨zb, hzb⟩ : ∃ zb : Int, (z.beg : Int) = zb := ⟨_, rfl⟩
      rw [hzb] at s1 HNT HSP
      go_wp2_with (first
        | (go_at_call 60; refine HNT.out.mono ?_; rintro e2 w2 ⟨own2, l2, va2, vs2, rfl, ho2, hH2, hM2⟩; have hh := HSP.out own2 l2 va2 vs2 w2 ho2 hH2 hM2; have ⟨⟨r0, r1, r2, r3, r4, r5, ⟨r6, r7, r8⟩, r9, r10, r11⟩, ⟨n0, n1, n2, n3, n4, n5⟩, hc⟩ := hh; have HC := Lib.hid hc; clear ho2 hH2 hM2 hh hc)
        | (go_at_call 61; refine HC.out.mono ?_; rintro e3 w3 ⟨rfl, hcs, hrl⟩; have ⟨p0, p1, p2, p3, p4, p5, ⟨p6, p7, p8⟩, p9, p10, p11⟩ := hcs; have HL := Lib.hid hrl; clear hcs hrl))
      go_roundw
      case rel => exact HL.out
      case measure => simp [intOf]; omega

end Go.Proofs.YtkfcgamdlckncaaGreat

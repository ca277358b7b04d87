/-
  The program's steps by their faults: a map of lists; StepsWith, IsSafe, IsBroken.
-/
import Derived.Test.YtgpaplhbjhbfjaaWrWm
import Derived.Test.YtgpaplhbjhbfjaaWvm
namespace Go.Proofs.Ytgpaplhbjhbfjaa
set_option linter.unusedVariables false
set_option linter.unusedSimpArgs false
open Go.RowKit Go.Shelf

attribute [local go_sem] Oper.semAt_some

/-- A region that draws its order, behind a name. -/
theorem latticeG {F : Fence} {n : Nat} {P : Program} {md : Region.Mode} {ops : Array Oper} {Q : Exit → Act → World → Prop} {fuel : Nat} {listed : Array Bool} {a : Act} {w : World}
    (h : ∀ G : Nat → Array Bool → Act → World → Prop, (∀ fuel listed a w, wpAnyIn F n P md ops Q fuel listed a w → G fuel listed a w) → (∀ fuel listed a w, G fuel listed a w → wpAnyIn F n P md ops Q fuel listed a w) → G fuel listed a w) : wpAnyIn F n P md ops Q fuel listed a w :=
  h (fun f l a w => wpAnyIn F n P md ops Q f l a w) (fun _ _ _ _ h => h) (fun _ _ _ _ h => h)

/-- What stands at a key: an empty list if there is none. -/
def vAt (M : VNotes) (j : Nat) : Value := (M j).getD (.slice none 0 0)

/-- What the map m holds: lists of one's own, no two in one block. -/
def GroupsI (m : Nat) (w2 : World) (L : Nat → List Nat) (own : Nat → Prop) (W' : World) : Prop :=
  Owns (oneB m) own w2 W' ∧ own m ∧ ∃ M : VNotes, MapV Try.prog 3 W' m M ∧ (∀ j, W'.ownsRow 0 3 1 (vAt M j) (L j).length ((L j).map fun k => i64 k)) ∧
    (∀ j g, (vAt M j).ownBlock = some g → own g ∧ w2.heap.size ≤ g) ∧ ∀ i j g, i ≠ j → (vAt M i).ownBlock = some g → (vAt M j).ownBlock ≠ some g

theorem GroupsI.stab {m : Nat} {w2 : World} (hm : m < w2.heap.size) {L : Nat → List Nat} {own : Nat → Prop} {W W' : World} (h : GroupsI m w2 L own W) (q : Keeps (fun k => w2.heap.size ≤ k ∧ ¬ own k) W W') : GroupsI m w2 L own W' := by
  obtain ⟨h1, h2, M, h3, h4, h5, h6⟩ := h
  exact ⟨h1.ahead q (fun i e => e.1), h2, M, h3.keeps q (fun e => by have := e.1; omega), fun j => q.ownsRow (h4 j) (fun g hg hl e => e.2 (h5 j g hg).1), h5, h6⟩

theorem GroupsI.start {m : Nat} {w2 : World} (h : MapV Try.prog 3 w2 m (fun _ => none)) : GroupsI m w2 (fun _ => []) (oneB m) w2 :=
  ⟨Owns.refl (by rintro k rfl; exact h.lt), rfl, _, h, fun j => ⟨rfl, .inl ⟨rfl, rfl⟩⟩, fun j g hg => by simp [vAt, Value.ownBlock] at hg, fun i j g _ hg => by simp [vAt, Value.ownBlock] at hg⟩

theorem zeroSl (w : World) : (zeroValue 24).run Try.prog w = .ok (.slice none 0 0) w := by kernel_rfl

/-- One place more. -/
theorem GroupsI.more {m : Nat} {w2 W : World} {L : Nat → List Nat} {own1 : Nat → Prop} (hm : m < w2.heap.size) (h : GroupsI m w2 L own1 W) (j b : Nat) (hj : j < 81) (hl : (L j).length ≤ 200) :
    ∃ a c, (∀ W1, Keeps noB W W1 → (Instr.lookup 91 (.map (some m)) (.int .i64 (j : Int)) false).run Try.prog W1 = .ok (.slice a (L j).length c) W1) ∧
      ∃ a' c' w', (Builtin.append_ #[24, 24] 24 #[.slice a (L j).length c, .slice (some ⟨W.heap.size, 0, none⟩) 1 1]).run Try.prog (W.drew.alloc (.cells #[.int .i64 (b : Int)] 3)) = .ok (.slice a' ((L j).length + 1) c') w' ∧ Keeps own1 W w' ∧
        ∃ w'', (Instr.mapUpdate 91 (.map (some m)) (.int .i64 (j : Int)) (.slice a' ((L j).length + 1) c')).run Try.prog w' = .ok () w'' ∧ ∃ own', Owns own1 own' W w'' ∧ GroupsI m w2 (fun i => if i = j then L j ++ [b] else L i) own' w'' := by
  obtain ⟨k3, hom, M, d3, d4, d5, d6⟩ := h
  obtain ⟨i0, hi, hz0, hz1, hz2⟩ := info_parts Try.infoI3
  obtain ⟨a, c, hv⟩ := row_shape (ok := fun _ => True) ⟨d4 j, fun _ _ => trivial⟩
  refine ⟨a, c, fun W1 q1 => ?_, ?_⟩
  · have := (d3.keeps q1 id).look Try.underlying3 Try.underlying91 (t := 91) (zeroSl W1) j hj
    rw [this]
    exact congrArg (fun v => Result.ok v W1) hv
  have hrow := d4 j
  rw [hv] at hrow
  have d4' : (W.drew.alloc (.cells #[.int .i64 (b : Int)] 3)).ownsRow 0 3 1 (.slice a (L j).length c) (L j).length ((L j).map fun k => i64 k) :=
    ((Keeps.refl noB W).drew.alloc _).ownsRow hrow (fun _ _ _ => id)
  have hc1 := cells_one W.drew (.int .i64 (b : Int)) 3
  obtain ⟨v', w', hr, ho', hg', hfr⟩ := run_append_fresh (P := Try.prog) (W.drew.alloc (.cells #[.int .i64 (b : Int)] 3)) 24 24 3 i0 (.int .i64 0) 1 8 Try.underlying24 hi hz0 hz1 hz2 rfl (by omega)
    (.slice a (L j).length c) (L j).length _ d4' ⟨W.heap.size, 0, none⟩ 1 1 [.int .i64 (b : Int)] rfl hc1 (fun u hu => by simp at hu; subst hu; rfl) (by unfold maxLen; omega) (by omega)
  obtain ⟨a', c', rfl⟩ := row_shape (ok := fun _ => True) ⟨ho', fun _ _ => trivial⟩
  have hs3 := k3.keeps.size
  have hdz : (W.drew.alloc (.cells #[.int .i64 (b : Int)] 3)).heap.size = W.heap.size + 1 := by rw [World.size_alloc]; rfl
  have hown : ∀ g, (Value.slice a (L j).length c).ownBlock = some g → own1 g ∧ w2.heap.size ≤ g := fun g hg => d5 j g (by rw [hv]; exact hg)
  have hkV : Keeps (fun g => (Value.slice a (L j).length c).ownBlock = some g) W w' := ((Keeps.refl _ W).drew.alloc _).grown hg' (fun k e => .inl e)
  have hkA : Keeps own1 W w' := hkV.mono (fun k e => (hown k e).1)
  refine ⟨a', c', w', hr, hkA, ?_⟩
  have hmr : ¬ (Value.slice a (L j).length c).ownBlock = some m := fun e => by have := (hown m e).2; omega
  obtain ⟨w'', hu, hM'', hkU⟩ := (d3.keeps hkV hmr).update Try.underlying3 Try.underlying91 (t := 91) hj (.slice a' ((L j).length + 1) c')
  have hnew : ∀ k, (Value.slice a' ((L j).length + 1) c').ownBlock = some k → (own1 k ∨ W.heap.size ≤ k) ∧ w2.heap.size ≤ k := by
    intro k hk
    rcases hfr with e | e
    · have := hown k (e.symm.trans hk); exact ⟨.inl this.1, this.2⟩
    · have := e k hk; rw [hdz] at this; exact ⟨.inr (by omega), by omega⟩
  have hkW : Keeps own1 W w'' := hkA.trans (hkU.mono (fun k e => by obtain rfl : k = m := e; exact hom))
  have hk : Owns own1 (fun k => own1 k ∨ (Value.slice a' ((L j).length + 1) c').ownBlock = some k) W w'' := by
    refine ⟨fun k e => e.elim .inl (fun e => (hnew k e).1), fun k e => ?_, hkW⟩
    rcases e with e | e
    · exact Nat.lt_of_lt_of_le (k3.lt k e) hkW.size
    · exact Nat.lt_of_lt_of_le (ho'.lt k e).2 hkU.size
  have hvp : ∀ i, vAt (putV j (.slice a' ((L j).length + 1) c') M) i = if i = j then .slice a' ((L j).length + 1) c' else vAt M i := by
    intro i
    unfold vAt putV
    by_cases e : i = j
    · rw [if_pos e, if_pos e]; rfl
    · rw [if_neg e, if_neg e]
  have hfar : ∀ i, i ≠ j → ∀ g, (vAt M i).ownBlock = some g → ¬ (Value.slice a' ((L j).length + 1) c').ownBlock = some g := by
    intro i hij g hg hg2
    rcases hfr with e | e
    · have h1 : (vAt M j).ownBlock = some g := by rw [hv]; exact e.symm.trans hg2
      exact d6 i j g hij hg h1
    · have h1 := e g hg2
      have h2 := ((d4 i).lt g hg).2
      rw [hdz] at h1
      omega
  refine ⟨w'', hu, _, hk, k3.trans hk, .inl hom, _, hM'', fun i => ?_, fun i g hg => ?_, fun i i2 g hne hg => ?_⟩
  · show w''.ownsRow 0 3 1 _ (if i = j then L j ++ [b] else L i).length ((if i = j then L j ++ [b] else L i).map fun k => i64 k)
    rw [hvp]
    by_cases e : i = j
    · rw [if_pos e, if_pos e]
      have e2 := hkU.ownsRow ho' (fun k hk hl e3 => by have : k = m := e3; have := (hnew k hk).2; omega)
      rw [List.length_append, List.map_append]
      exact e2
    · rw [if_neg e, if_neg e]
      exact hkU.ownsRow (hkV.ownsRow (d4 i) (fun g hg hl e3 => by have h1 : (vAt M j).ownBlock = some g := by rw [hv]; exact e3
                                                                  exact d6 i j g e hg h1)) (fun g hg hl e3 => by have : g = m := e3; have := (d5 i g hg).2; omega)
  · rw [hvp] at hg
    by_cases e : i = j
    · rw [if_pos e] at hg; exact ⟨.inr hg, (hnew g hg).2⟩
    · rw [if_neg e] at hg; exact ⟨.inl (d5 i g hg).1, (d5 i g hg).2⟩
  · rw [hvp] at hg ⊢
    by_cases e : i = j
    · rw [if_pos e] at hg
      have e2 : i2 ≠ j := fun e2 => hne (e.trans e2.symm)
      rw [if_neg e2]
      exact fun h => hfar i2 e2 g h hg
    · rw [if_neg e] at hg
      by_cases e2 : i2 = j
      · rw [if_pos e2]; exact hfar i e g hg
      · rw [if_neg e2]; exact d6 i i2 g hne hg

/-- Where the steps begin that have a fault. -/
def byN (x : Nd) (l : List PN) (j : Nat) : List Nat := (withL x j l).map (fun p => p.1.beg)
theorem byN_snoc (x : Nd) (l : List PN) (p : PN) : byN x (l ++ [p]) = fun i => if i = faultZ x p.1 then byN x l (faultZ x p.1) ++ [p.1.beg] else byN x l i := by
  funext i
  unfold byN withL
  rw [List.filter_append, List.map_append]
  by_cases h : i = faultZ x p.1
  · rw [if_pos h, h]; simp
  · rw [if_neg h]
    have : (faultZ x p.1 == i) = false := beq_eq_false_iff_ne.2 (fun e => h e.symm)
    simp [this]
theorem byN_len (x : Nd) (l : List PN) (j : Nat) : (byN x l j).length ≤ l.length := by
  unfold byN withL; rw [List.length_map]; exact List.length_filter_le _ _

/-- What stepsByFault hands back. -/
def ByPost (w : World) (res : Option Nd) (e : Ending) (w' : World) : Prop :=
  match res with
  | none => e = .returned (.tuple #[.map none, .bool false]) ∧ Keeps noB w w'
  | some x => ∃ m M, e = .returned (.tuple #[.map (some m), .bool true]) ∧ MapV Try.prog 3 w' m M ∧ (∀ j, w'.ownsRow 0 3 1 (vAt M j) (byN x (x.preD 0) j).length ((byN x (x.preD 0) j).map fun k => i64 k)) ∧
      (∀ j g, (vAt M j).ownBlock = some g → w.heap.size ≤ g) ∧ Keeps noB w w'

theorem resBy (W : World) (N : Nat) (v : Value) (b : Bool) (tmps : Array Value) (h2 : tmps.getD 2 undef = .pointer (some ⟨N, 0, none⟩)) (h3 : tmps.getD 3 undef = .bool b) (hv : v.oneCell' = true) (hc : W.cell? ⟨N, 0, none⟩ = some v) : (results Try.f65 tmps).run Try.prog W = .ok (.tuple #[v, .bool b]) W := by
  have h2' : tmps[2]?.getD undef = .pointer (some ⟨N, 0, none⟩) := by simpa using h2
  have h3' : tmps[3]?.getD undef = .bool b := by simpa using h3
  simp [results, Try.results65, go_sem, h2', h3', hc]

set_option maxRecDepth 100000 in
set_option maxHeartbeats 4000000 in
theorem by_none (s : ByteArray) (hs : s.size ≤ 1048576) (hp : progP s = none) (w : World) : Calls Try.prog 65 #[.string s] w (ByPost w none) := by
  refine (callsIn_wide (n := 9)).1 ?_
  obtain ⟨F, hF⟩ : ∃ F, F = Fence.wide := ⟨_, rfl⟩
  have hFf : ∀ f, F.fn f := by subst hF; exact fun _ => trivial
  have hdd : ∀ k : Nat, (F.depth.isSome = true → 1 ≤ k) := by subst hF; intro k h; simp [Fence.wide] at h
  have hro : F.round = none := by subst hF; rfl
  have hds : F.depth.isSome = false := by subst hF; rfl
  have HC : Hid (∀ m w, CallsIn F m Try.prog 61 #[.string s] w (FaultsPost s w none)) := fun m w => by
    rw [hF]; exact callsIn_wide.2 (faultsOf_none s hs hp w)
  rw [← hF]
  clear hF
  refine callsIn_of_wp_marks Try.func65 rfl (hFf _) ?_ hro
  simp only [Try.ntmps65, List.size_toArray, List.length_cons, List.length_nil, Nat.reduceAdd, Nat.reduceSub, Array.replicate_succ, Array.replicate_zero, List.push_toArray, List.append_toArray, List.nil_append, List.cons_append]
  have HB2 := Lib.hid (Blk.new w #[.map none] 91)
  have HK0 := Lib.hid ((Keeps.refl noB w).alloc (.cells #[.map none] 91))
  gi_wp2
  refine (HC.out _ _).mono ?_
  rintro e w1 ⟨rfl, q1⟩
  have b2 := q1.blk HB2.out id
  have k1 := HK0.out.trans q1
  have z0 := b2.free 0
  have y0 : w1.cell? ⟨w.heap.size, 0, none⟩ = some (.map none) := (b2.cell 0).trans rfl
  have HE : Hid (∀ W2, Keeps (fun k => k ∈ []) (w1.setCell ⟨w.heap.size, 0, none⟩ (.map none)) W2 → W2.cell? ⟨w.heap.size, 0, none⟩ = some (.map none) ∧ Keeps noB w W2) := fun W2 q =>
    ⟨((q.blk (b2.set 0 (.map none)) (fun e => by cases e)).cell 0).trans rfl, (k1.setCell (.inr (by show w.heap.size ≤ w.heap.size; omega)) _).trans (q.mono (fun _ e => by cases e))⟩
  clear b2 k1 q1
  gi_wp2
  refine leaves_marks [] _ List.nodup_nil (fun _ h => by cases h) (fun W' q _ => ?_)
  obtain ⟨e1, e2⟩ := HE.out W' q
  exact ⟨_, resBy W' _ _ _ _ rfl rfl rfl e1, rfl, e2⟩

set_option maxRecDepth 100000 in
set_option maxHeartbeats 4000000 in
theorem by_some (s : ByteArray) (hs : s.size ≤ 1048576) (x : Nd) (hp : progP s = some x) (w : World) : Calls Try.prog 65 #[.string s] w (ByPost w (some x)) := by
  refine (callsIn_wide (n := 9)).1 ?_
  obtain ⟨F, hF⟩ : ∃ F, F = Fence.wide := ⟨_, rfl⟩
  have hFf : ∀ f, F.fn f := by subst hF; exact fun _ => trivial
  have hdd : ∀ k : Nat, (F.depth.isSome = true → 1 ≤ k) := by subst hF; intro k h; simp [Fence.wide] at h
  have hro : F.round = none := by subst hF; rfl
  have hds : F.depth.isSome = false := by subst hF; rfl
  have HC : Hid (∀ m w, CallsIn F m Try.prog 61 #[.string s] w (FaultsPost s w (some x))) := fun m w => by
    rw [hF]; exact callsIn_wide.2 (faultsOf_some s hs x hp w)
  have hfew := progP_few hp
  have hlen := Nd.preD_len x 0
  rw [← hF]
  have HF := Lib.hid hF
  clear hF hp
  refine callsIn_of_wp_marks Try.func65 rfl (hFf _) ?_ hro
  simp only [Try.ntmps65, List.size_toArray, List.length_cons, List.length_nil, Nat.reduceAdd, Nat.reduceSub, Array.replicate_succ, Array.replicate_zero, List.push_toArray, List.append_toArray, List.nil_append, List.cons_append]
  have HB2 := Lib.hid (Blk.new w #[.map none] 91)
  have HK0 := Lib.hid ((Keeps.refl noB w).alloc (.cells #[.map none] 91))
  have hmm := @run_makeMap Try.prog
  gi_wp2
  refine (HC.out _ _).mono ?_
  rintro e w1 ⟨R, Q, rfl, hfo, q1⟩
  have b2 := q1.blk HB2.out id
  have k1 := HK0.out.trans q1
  have hM1 := q1.size
  rw [World.size_alloc] at hM1 hfo
  obtain ⟨N, hN⟩ : ∃ N, N = w.heap.size := ⟨_, rfl⟩
  rw [← hN] at b2 hM1 hfo ⊢
  have HQ := Lib.hid (And.intro k1 hN)
  have HFO := Lib.hid hfo
  have bA := b2.alloc (.map #[] 0)
  have z0 := bA.free 0
  have y0 : (w1.alloc (.map #[] 0)).cell? ⟨N, 0, none⟩ = some (.map none) := (bA.cell 0).trans rfl
  have hss : (w1.setCell ⟨N, 0, none⟩ (.map (some w1.heap.size))).heap.size = w1.heap.size := by simp [World.setCell]
  have bB := (b2.set 0 (.map (some w1.heap.size))).alloc (.map #[] 0)
  have mB := MapV.made Try.prog 3 (w1.setCell ⟨N, 0, none⟩ (.map (some w1.heap.size)))
  rw [hss] at mB
  have hNl := b2.lt
  have hs2 : ((w1.setCell ⟨N, 0, none⟩ (.map (some w1.heap.size))).alloc (.map #[] 0)).heap.size = w1.heap.size + 1 := by rw [World.size_alloc, hss]
  have HF2 : Hid (∀ W, Keeps noB ((w1.setCell ⟨N, 0, none⟩ (.map (some w1.heap.size))).alloc (.map #[] 0)) W → Keeps (oneB N) w1 W) := fun W qW => (((Keeps.refl _ _).setCell (p := ⟨N, 0, none⟩) (.inl (show oneB N N from rfl)) _).alloc _).trans (qW.mono (fun _ e => e.elim))
  clear q1 k1 hfo hN b2 bA hss
  unfold ptr
  gi_wp2
  generalize (w1.setCell ⟨N, 0, none⟩ (.map (some w1.heap.size))).alloc (.map #[] 0) = w2 at *
  obtain ⟨m, hm⟩ : ∃ m, m = w1.heap.size := ⟨_, rfl⟩
  rw [← hm] at mB hs2 bB hNl hM1
  have HS := Lib.hid (And.intro hs2 (And.intro hNl (And.intro hM1 hm)))
  have HG := Lib.hid (And.intro hlen hfew)
  have HBB := Lib.hid bB
  clear hm
  refine wp_range HF.out (gf := 85) (lb := #[ptr R, ptr Q]) (all := x.preD 0) (enc := encF x) (prot := between (N + 1) w1) (own := oneB m)
    rfl (enters_of Try.func85 (by kernel_rfl) rfl) (fun W q => HFO.out.iterM (may := oneB N) (fun k hk e => by have : k = N := e; omega) W (HF2.out W q)) (fun pre own W' => GroupsI m w2 (byN x pre) own W') (fun _ _ _ _ => False) ?hI ?hIx ?hown ?hprot ?hps ?h0 ?hround ?hdone ?hstop
  case hI => intro pre own W W' h q; exact h.stab (by omega) q
  case hIx => rintro c pre own W W' h q; exact h
  case hown => rintro k rfl; omega
  case hprot => intro k hk; exact ⟨fun e => by have := hk.2; have := HS.out.2.2.2; have : k = m := e; omega, by have := hk.2; have := HS.out.2.2.2; omega⟩
  case hps => rintro y args rfl; rfl
  case h0 => exact GroupsI.start mB
  case hround =>
    rintro l n pre p post args own1 W1 hall henc hI hlt hl hnl hll
    obtain rfl := henc
    have hpl : (byN x pre (faultZ x p.1)).length ≤ 80 := by
      obtain ⟨e1, e2⟩ := HG.out
      have := congrArg List.length hall
      rw [List.length_append, List.length_cons] at this
      have := byN_len x pre (faultZ x p.1)
      omega
    have hsn := byN_snoc x pre p
    have hfz : faultZ x p.1 ≤ 3 := faultK_le _ _
    clear hall
    obtain ⟨ff, hff⟩ : ∃ ff, ff = faultZ x p.1 := ⟨_, rfl⟩
    rw [← hff] at hpl hsn hfz ⊢
    have HSN := Lib.hid hsn
    clear hff hsn
    obtain ⟨bb, hbb⟩ : ∃ bb, bb = p.1.beg := ⟨_, rfl⟩
    rw [← hbb] at HSN ⊢
    clear hbb
    gi_wp2
    refine ⟨Keeps.refl _ _, fun W3 q3 hs3 => ?_⟩
    have hk13 : Keeps (fun k => w2.heap.size ≤ k ∧ ¬ own1 k) W1 W3 := q3.mono (fun k e => by obtain rfl : k = l := e; exact ⟨hl, hnl⟩)
    have I3 := hI.stab (by omega) hk13
    have hNo : ¬ own1 N := fun e => (I3.1.more N e).elim (fun e => by have : N = m := e; omega) (fun e => by omega)
    obtain ⟨sa, sc, hlk, sa', sc', w', hr, hkA, w'', hu, own', ho, hI'⟩ := I3.more (by omega) ff bb (by omega) (by omega)
    have c3 := I3.1.keeps.blk bB (fun e => by have : N = m := e; omega)
    have hc3 : ∀ W4, Keeps own1 W3 W4 → W4.cell? ⟨N, 0, none⟩ = some (.map (some m)) := fun W4 q4 => ((q4.blk c3 hNo).cell 0).trans rfl
    have x0 := hc3 W3.drew ((Keeps.refl _ _).drew)
    have x1 := hc3 (W3.drew.alloc (.cells #[.int .i64 (bb : Int)] 3)) (((Keeps.refl _ _).drew).alloc _)
    have x2 := hc3 w' hkA
    have l0 := hlk W3.drew ((Keeps.refl _ _).drew)
    have l1 := hlk (W3.drew.alloc (.cells #[.int .i64 (bb : Int)] 3)) (((Keeps.refl _ _).drew).alloc _)
    have HE : Hid (∃ own', Owns own1 own' W3 w'' ∧ GroupsI m w2 (byN x (pre ++ [p])) own' w'') := ⟨own', ho, by rw [HSN.out]; exact hI'⟩
    generalize (byN x pre ff).length = nn at *
    clear hI I3 hkA ho hI' hc3 hlk c3 hNo hk13 q3 HSN
    gi_wp2
    refine wpIn_region_any (by kernel_rfl) ?_
    refine latticeG (fun G hG hG' => ?_)
    have hsz : W3.heap.size = W3.drew.heap.size := rfl
    rw [hsz] at hr
    change G _ _ _ (World.drew W3)
    clear hsz
    generalize W3.drew = WA at *
    have hS01234567 : ∀ (listed : Array Bool) (a : Act), listed = #[true, true, true, true, true, true, true, true, false] → a = ({ tmps := #[Value.string s, undef, Value.pointer (some ⟨N, 0, none⟩), Value.bool true, Value.func (.func 85) #[] #[.pointer (some ⟨R, 0, none⟩), .pointer (some ⟨Q, 0, none⟩)], Value.int .i64 (bb : Int), Value.int .i64 (ff : Int), Value.tuple #[Value.func (.func 85) #[] #[.pointer (some ⟨R, 0, none⟩), .pointer (some ⟨Q, 0, none⟩)], .bool true], Value.string s, Value.tuple #[Value.func (.func 85) #[] #[.pointer (some ⟨R, 0, none⟩), .pointer (some ⟨Q, 0, none⟩)], .bool true], Value.func (.func 85) #[] #[.pointer (some ⟨R, 0, none⟩), .pointer (some ⟨Q, 0, none⟩)], Value.bool true, Value.bool true, Value.bool false, Value.map (some w1.heap.size), Value.func (.func 85) #[] #[.pointer (some ⟨R, 0, none⟩), .pointer (some ⟨Q, 0, none⟩)], Value.int .i64 (bb : Int), Value.int .i64 (ff : Int), Value.map (some m), Value.int .i64 (ff : Int), Value.map (some m), Value.int .i64 (ff : Int), Value.slice sa nn sc, Value.int .i64 (bb : Int), Value.slice (some ⟨WA.heap.size, 0, none⟩) 1 1, Value.slice sa' (nn + 1) sc', undef], defers := [] } : Act) → G 1 listed a w' := by
      rintro listed a rfl rfl
      refine hG _ _ _ _ (wpAnyIn_ready (rs := [8]) (by kernel_rfl) (by simp) ?_)
      refine AllReadyIn.cons rfl (fun K hK => ?_) ?_
      · go_simp
        refine hK _ _ ?_
        clear hK K
        refine wpAnyIn_done (by kernel_rfl) ?_ _
        gi_wp2
        exact HE.out
      exact AllReadyIn.nil
    have hS0123456 : ∀ (listed : Array Bool) (a : Act), listed = #[true, true, true, true, true, true, true, false, false] → a = ({ tmps := #[Value.string s, undef, Value.pointer (some ⟨N, 0, none⟩), Value.bool true, Value.func (.func 85) #[] #[.pointer (some ⟨R, 0, none⟩), .pointer (some ⟨Q, 0, none⟩)], Value.int .i64 (bb : Int), Value.int .i64 (ff : Int), Value.tuple #[Value.func (.func 85) #[] #[.pointer (some ⟨R, 0, none⟩), .pointer (some ⟨Q, 0, none⟩)], .bool true], Value.string s, Value.tuple #[Value.func (.func 85) #[] #[.pointer (some ⟨R, 0, none⟩), .pointer (some ⟨Q, 0, none⟩)], .bool true], Value.func (.func 85) #[] #[.pointer (some ⟨R, 0, none⟩), .pointer (some ⟨Q, 0, none⟩)], Value.bool true, Value.bool true, Value.bool false, Value.map (some w1.heap.size), Value.func (.func 85) #[] #[.pointer (some ⟨R, 0, none⟩), .pointer (some ⟨Q, 0, none⟩)], Value.int .i64 (bb : Int), Value.int .i64 (ff : Int), Value.map (some m), Value.int .i64 (ff : Int), Value.map (some m), Value.int .i64 (ff : Int), Value.slice sa nn sc, Value.int .i64 (bb : Int), Value.slice (some ⟨WA.heap.size, 0, none⟩) 1 1, undef, undef], defers := [] } : Act) → G 2 listed a (WA.alloc (.cells #[.int .i64 (bb : Int)] 3)) := by
      rintro listed a rfl rfl
      refine hG _ _ _ _ (wpAnyIn_ready (rs := [7]) (by kernel_rfl) (by simp) ?_)
      refine AllReadyIn.cons rfl (fun K hK => ?_) ?_
      · refine stepIn_append_run rfl _ _ _ _ rfl _ _ rfl rfl _ _ hr ?_
        exact hK _ _ (hG' _ _ _ _ (hS01234567 _ _ (by kernel_rfl) rfl))
      exact AllReadyIn.nil
    have hS012345 : ∀ (listed : Array Bool) (a : Act), listed = #[true, true, true, true, true, true, false, false, false] → a = ({ tmps := #[Value.string s, undef, Value.pointer (some ⟨N, 0, none⟩), Value.bool true, Value.func (.func 85) #[] #[.pointer (some ⟨R, 0, none⟩), .pointer (some ⟨Q, 0, none⟩)], Value.int .i64 (bb : Int), Value.int .i64 (ff : Int), Value.tuple #[Value.func (.func 85) #[] #[.pointer (some ⟨R, 0, none⟩), .pointer (some ⟨Q, 0, none⟩)], .bool true], Value.string s, Value.tuple #[Value.func (.func 85) #[] #[.pointer (some ⟨R, 0, none⟩), .pointer (some ⟨Q, 0, none⟩)], .bool true], Value.func (.func 85) #[] #[.pointer (some ⟨R, 0, none⟩), .pointer (some ⟨Q, 0, none⟩)], Value.bool true, Value.bool true, Value.bool false, Value.map (some w1.heap.size), Value.func (.func 85) #[] #[.pointer (some ⟨R, 0, none⟩), .pointer (some ⟨Q, 0, none⟩)], Value.int .i64 (bb : Int), Value.int .i64 (ff : Int), Value.map (some m), Value.int .i64 (ff : Int), Value.map (some m), Value.int .i64 (ff : Int), Value.slice sa nn sc, Value.int .i64 (bb : Int), undef, undef, undef], defers := [] } : Act) → G 3 listed a WA := by
      rintro listed a rfl rfl
      refine hG _ _ _ _ (wpAnyIn_ready (rs := [6]) (by kernel_rfl) (by simp) ?_)
      refine AllReadyIn.cons rfl (fun K hK => ?_) ?_
      · go_simp
        exact hK _ _ (hG' _ _ _ _ (hS0123456 _ _ (by kernel_rfl) rfl))
      exact AllReadyIn.nil
    have hS01234 : ∀ (listed : Array Bool) (a : Act), listed = #[true, true, true, true, true, false, false, false, false] → a = ({ tmps := #[Value.string s, undef, Value.pointer (some ⟨N, 0, none⟩), Value.bool true, Value.func (.func 85) #[] #[.pointer (some ⟨R, 0, none⟩), .pointer (some ⟨Q, 0, none⟩)], Value.int .i64 (bb : Int), Value.int .i64 (ff : Int), Value.tuple #[Value.func (.func 85) #[] #[.pointer (some ⟨R, 0, none⟩), .pointer (some ⟨Q, 0, none⟩)], .bool true], Value.string s, Value.tuple #[Value.func (.func 85) #[] #[.pointer (some ⟨R, 0, none⟩), .pointer (some ⟨Q, 0, none⟩)], .bool true], Value.func (.func 85) #[] #[.pointer (some ⟨R, 0, none⟩), .pointer (some ⟨Q, 0, none⟩)], Value.bool true, Value.bool true, Value.bool false, Value.map (some w1.heap.size), Value.func (.func 85) #[] #[.pointer (some ⟨R, 0, none⟩), .pointer (some ⟨Q, 0, none⟩)], Value.int .i64 (bb : Int), Value.int .i64 (ff : Int), Value.map (some m), Value.int .i64 (ff : Int), Value.map (some m), Value.int .i64 (ff : Int), Value.slice sa nn sc, undef, undef, undef, undef], defers := [] } : Act) → G 4 listed a WA := by
      rintro listed a rfl rfl
      refine hG _ _ _ _ (wpAnyIn_ready (rs := [5]) (by kernel_rfl) (by simp) ?_)
      refine AllReadyIn.cons rfl (fun K hK => ?_) ?_
      · go_simp
        exact hK _ _ (hG' _ _ _ _ (hS012345 _ _ (by kernel_rfl) rfl))
      exact AllReadyIn.nil
    have hS012356 : ∀ (listed : Array Bool) (a : Act), listed = #[true, true, true, true, false, true, true, false, false] → a = ({ tmps := #[Value.string s, undef, Value.pointer (some ⟨N, 0, none⟩), Value.bool true, Value.func (.func 85) #[] #[.pointer (some ⟨R, 0, none⟩), .pointer (some ⟨Q, 0, none⟩)], Value.int .i64 (bb : Int), Value.int .i64 (ff : Int), Value.tuple #[Value.func (.func 85) #[] #[.pointer (some ⟨R, 0, none⟩), .pointer (some ⟨Q, 0, none⟩)], .bool true], Value.string s, Value.tuple #[Value.func (.func 85) #[] #[.pointer (some ⟨R, 0, none⟩), .pointer (some ⟨Q, 0, none⟩)], .bool true], Value.func (.func 85) #[] #[.pointer (some ⟨R, 0, none⟩), .pointer (some ⟨Q, 0, none⟩)], Value.bool true, Value.bool true, Value.bool false, Value.map (some w1.heap.size), Value.func (.func 85) #[] #[.pointer (some ⟨R, 0, none⟩), .pointer (some ⟨Q, 0, none⟩)], Value.int .i64 (bb : Int), Value.int .i64 (ff : Int), Value.map (some m), Value.int .i64 (ff : Int), Value.map (some m), Value.int .i64 (ff : Int), undef, Value.int .i64 (bb : Int), Value.slice (some ⟨WA.heap.size, 0, none⟩) 1 1, undef, undef], defers := [] } : Act) → G 3 listed a (WA.alloc (.cells #[.int .i64 (bb : Int)] 3)) := by
      rintro listed a rfl rfl
      refine hG _ _ _ _ (wpAnyIn_ready (rs := [4]) (by kernel_rfl) (by simp) ?_)
      refine AllReadyIn.cons rfl (fun K hK => ?_) ?_
      · go_simp
        exact hK _ _ (hG' _ _ _ _ (hS0123456 _ _ (by kernel_rfl) rfl))
      exact AllReadyIn.nil
    have hS01235 : ∀ (listed : Array Bool) (a : Act), listed = #[true, true, true, true, false, true, false, false, false] → a = ({ tmps := #[Value.string s, undef, Value.pointer (some ⟨N, 0, none⟩), Value.bool true, Value.func (.func 85) #[] #[.pointer (some ⟨R, 0, none⟩), .pointer (some ⟨Q, 0, none⟩)], Value.int .i64 (bb : Int), Value.int .i64 (ff : Int), Value.tuple #[Value.func (.func 85) #[] #[.pointer (some ⟨R, 0, none⟩), .pointer (some ⟨Q, 0, none⟩)], .bool true], Value.string s, Value.tuple #[Value.func (.func 85) #[] #[.pointer (some ⟨R, 0, none⟩), .pointer (some ⟨Q, 0, none⟩)], .bool true], Value.func (.func 85) #[] #[.pointer (some ⟨R, 0, none⟩), .pointer (some ⟨Q, 0, none⟩)], Value.bool true, Value.bool true, Value.bool false, Value.map (some w1.heap.size), Value.func (.func 85) #[] #[.pointer (some ⟨R, 0, none⟩), .pointer (some ⟨Q, 0, none⟩)], Value.int .i64 (bb : Int), Value.int .i64 (ff : Int), Value.map (some m), Value.int .i64 (ff : Int), Value.map (some m), Value.int .i64 (ff : Int), undef, Value.int .i64 (bb : Int), undef, undef, undef], defers := [] } : Act) → G 4 listed a WA := by
      rintro listed a rfl rfl
      refine hG _ _ _ _ (wpAnyIn_ready (rs := [4, 6]) (by kernel_rfl) (by simp) ?_)
      refine AllReadyIn.cons rfl (fun K hK => ?_) ?_
      · go_simp
        exact hK _ _ (hG' _ _ _ _ (hS012345 _ _ (by kernel_rfl) rfl))
      refine AllReadyIn.cons rfl (fun K hK => ?_) ?_
      · go_simp
        exact hK _ _ (hG' _ _ _ _ (hS012356 _ _ (by kernel_rfl) rfl))
      exact AllReadyIn.nil
    have hS0123 : ∀ (listed : Array Bool) (a : Act), listed = #[true, true, true, true, false, false, false, false, false] → a = ({ tmps := #[Value.string s, undef, Value.pointer (some ⟨N, 0, none⟩), Value.bool true, Value.func (.func 85) #[] #[.pointer (some ⟨R, 0, none⟩), .pointer (some ⟨Q, 0, none⟩)], Value.int .i64 (bb : Int), Value.int .i64 (ff : Int), Value.tuple #[Value.func (.func 85) #[] #[.pointer (some ⟨R, 0, none⟩), .pointer (some ⟨Q, 0, none⟩)], .bool true], Value.string s, Value.tuple #[Value.func (.func 85) #[] #[.pointer (some ⟨R, 0, none⟩), .pointer (some ⟨Q, 0, none⟩)], .bool true], Value.func (.func 85) #[] #[.pointer (some ⟨R, 0, none⟩), .pointer (some ⟨Q, 0, none⟩)], Value.bool true, Value.bool true, Value.bool false, Value.map (some w1.heap.size), Value.func (.func 85) #[] #[.pointer (some ⟨R, 0, none⟩), .pointer (some ⟨Q, 0, none⟩)], Value.int .i64 (bb : Int), Value.int .i64 (ff : Int), Value.map (some m), Value.int .i64 (ff : Int), Value.map (some m), Value.int .i64 (ff : Int), undef, undef, undef, undef, undef], defers := [] } : Act) → G 5 listed a WA := by
      rintro listed a rfl rfl
      refine hG _ _ _ _ (wpAnyIn_ready (rs := [4, 5]) (by kernel_rfl) (by simp) ?_)
      refine AllReadyIn.cons rfl (fun K hK => ?_) ?_
      · go_simp
        exact hK _ _ (hG' _ _ _ _ (hS01234 _ _ (by kernel_rfl) rfl))
      refine AllReadyIn.cons rfl (fun K hK => ?_) ?_
      · go_simp
        exact hK _ _ (hG' _ _ _ _ (hS01235 _ _ (by kernel_rfl) rfl))
      exact AllReadyIn.nil
    have hS01256 : ∀ (listed : Array Bool) (a : Act), listed = #[true, true, true, false, false, true, true, false, false] → a = ({ tmps := #[Value.string s, undef, Value.pointer (some ⟨N, 0, none⟩), Value.bool true, Value.func (.func 85) #[] #[.pointer (some ⟨R, 0, none⟩), .pointer (some ⟨Q, 0, none⟩)], Value.int .i64 (bb : Int), Value.int .i64 (ff : Int), Value.tuple #[Value.func (.func 85) #[] #[.pointer (some ⟨R, 0, none⟩), .pointer (some ⟨Q, 0, none⟩)], .bool true], Value.string s, Value.tuple #[Value.func (.func 85) #[] #[.pointer (some ⟨R, 0, none⟩), .pointer (some ⟨Q, 0, none⟩)], .bool true], Value.func (.func 85) #[] #[.pointer (some ⟨R, 0, none⟩), .pointer (some ⟨Q, 0, none⟩)], Value.bool true, Value.bool true, Value.bool false, Value.map (some w1.heap.size), Value.func (.func 85) #[] #[.pointer (some ⟨R, 0, none⟩), .pointer (some ⟨Q, 0, none⟩)], Value.int .i64 (bb : Int), Value.int .i64 (ff : Int), Value.map (some m), Value.int .i64 (ff : Int), Value.map (some m), undef, undef, Value.int .i64 (bb : Int), Value.slice (some ⟨WA.heap.size, 0, none⟩) 1 1, undef, undef], defers := [] } : Act) → G 4 listed a (WA.alloc (.cells #[.int .i64 (bb : Int)] 3)) := by
      rintro listed a rfl rfl
      refine hG _ _ _ _ (wpAnyIn_ready (rs := [3]) (by kernel_rfl) (by simp) ?_)
      refine AllReadyIn.cons rfl (fun K hK => ?_) ?_
      · go_simp
        exact hK _ _ (hG' _ _ _ _ (hS012356 _ _ (by kernel_rfl) rfl))
      exact AllReadyIn.nil
    have hS0125 : ∀ (listed : Array Bool) (a : Act), listed = #[true, true, true, false, false, true, false, false, false] → a = ({ tmps := #[Value.string s, undef, Value.pointer (some ⟨N, 0, none⟩), Value.bool true, Value.func (.func 85) #[] #[.pointer (some ⟨R, 0, none⟩), .pointer (some ⟨Q, 0, none⟩)], Value.int .i64 (bb : Int), Value.int .i64 (ff : Int), Value.tuple #[Value.func (.func 85) #[] #[.pointer (some ⟨R, 0, none⟩), .pointer (some ⟨Q, 0, none⟩)], .bool true], Value.string s, Value.tuple #[Value.func (.func 85) #[] #[.pointer (some ⟨R, 0, none⟩), .pointer (some ⟨Q, 0, none⟩)], .bool true], Value.func (.func 85) #[] #[.pointer (some ⟨R, 0, none⟩), .pointer (some ⟨Q, 0, none⟩)], Value.bool true, Value.bool true, Value.bool false, Value.map (some w1.heap.size), Value.func (.func 85) #[] #[.pointer (some ⟨R, 0, none⟩), .pointer (some ⟨Q, 0, none⟩)], Value.int .i64 (bb : Int), Value.int .i64 (ff : Int), Value.map (some m), Value.int .i64 (ff : Int), Value.map (some m), undef, undef, Value.int .i64 (bb : Int), undef, undef, undef], defers := [] } : Act) → G 5 listed a WA := by
      rintro listed a rfl rfl
      refine hG _ _ _ _ (wpAnyIn_ready (rs := [3, 6]) (by kernel_rfl) (by simp) ?_)
      refine AllReadyIn.cons rfl (fun K hK => ?_) ?_
      · go_simp
        exact hK _ _ (hG' _ _ _ _ (hS01235 _ _ (by kernel_rfl) rfl))
      refine AllReadyIn.cons rfl (fun K hK => ?_) ?_
      · go_simp
        exact hK _ _ (hG' _ _ _ _ (hS01256 _ _ (by kernel_rfl) rfl))
      exact AllReadyIn.nil
    have hS012 : ∀ (listed : Array Bool) (a : Act), listed = #[true, true, true, false, false, false, false, false, false] → a = ({ tmps := #[Value.string s, undef, Value.pointer (some ⟨N, 0, none⟩), Value.bool true, Value.func (.func 85) #[] #[.pointer (some ⟨R, 0, none⟩), .pointer (some ⟨Q, 0, none⟩)], Value.int .i64 (bb : Int), Value.int .i64 (ff : Int), Value.tuple #[Value.func (.func 85) #[] #[.pointer (some ⟨R, 0, none⟩), .pointer (some ⟨Q, 0, none⟩)], .bool true], Value.string s, Value.tuple #[Value.func (.func 85) #[] #[.pointer (some ⟨R, 0, none⟩), .pointer (some ⟨Q, 0, none⟩)], .bool true], Value.func (.func 85) #[] #[.pointer (some ⟨R, 0, none⟩), .pointer (some ⟨Q, 0, none⟩)], Value.bool true, Value.bool true, Value.bool false, Value.map (some w1.heap.size), Value.func (.func 85) #[] #[.pointer (some ⟨R, 0, none⟩), .pointer (some ⟨Q, 0, none⟩)], Value.int .i64 (bb : Int), Value.int .i64 (ff : Int), Value.map (some m), Value.int .i64 (ff : Int), Value.map (some m), undef, undef, undef, undef, undef, undef], defers := [] } : Act) → G 6 listed a WA := by
      rintro listed a rfl rfl
      refine hG _ _ _ _ (wpAnyIn_ready (rs := [3, 5]) (by kernel_rfl) (by simp) ?_)
      refine AllReadyIn.cons rfl (fun K hK => ?_) ?_
      · go_simp
        exact hK _ _ (hG' _ _ _ _ (hS0123 _ _ (by kernel_rfl) rfl))
      refine AllReadyIn.cons rfl (fun K hK => ?_) ?_
      · go_simp
        exact hK _ _ (hG' _ _ _ _ (hS0125 _ _ (by kernel_rfl) rfl))
      exact AllReadyIn.nil
    have hS01356 : ∀ (listed : Array Bool) (a : Act), listed = #[true, true, false, true, false, true, true, false, false] → a = ({ tmps := #[Value.string s, undef, Value.pointer (some ⟨N, 0, none⟩), Value.bool true, Value.func (.func 85) #[] #[.pointer (some ⟨R, 0, none⟩), .pointer (some ⟨Q, 0, none⟩)], Value.int .i64 (bb : Int), Value.int .i64 (ff : Int), Value.tuple #[Value.func (.func 85) #[] #[.pointer (some ⟨R, 0, none⟩), .pointer (some ⟨Q, 0, none⟩)], .bool true], Value.string s, Value.tuple #[Value.func (.func 85) #[] #[.pointer (some ⟨R, 0, none⟩), .pointer (some ⟨Q, 0, none⟩)], .bool true], Value.func (.func 85) #[] #[.pointer (some ⟨R, 0, none⟩), .pointer (some ⟨Q, 0, none⟩)], Value.bool true, Value.bool true, Value.bool false, Value.map (some w1.heap.size), Value.func (.func 85) #[] #[.pointer (some ⟨R, 0, none⟩), .pointer (some ⟨Q, 0, none⟩)], Value.int .i64 (bb : Int), Value.int .i64 (ff : Int), Value.map (some m), Value.int .i64 (ff : Int), undef, Value.int .i64 (ff : Int), undef, Value.int .i64 (bb : Int), Value.slice (some ⟨WA.heap.size, 0, none⟩) 1 1, undef, undef], defers := [] } : Act) → G 4 listed a (WA.alloc (.cells #[.int .i64 (bb : Int)] 3)) := by
      rintro listed a rfl rfl
      refine hG _ _ _ _ (wpAnyIn_ready (rs := [2]) (by kernel_rfl) (by simp) ?_)
      refine AllReadyIn.cons rfl (fun K hK => ?_) ?_
      · go_simp
        exact hK _ _ (hG' _ _ _ _ (hS012356 _ _ (by kernel_rfl) rfl))
      exact AllReadyIn.nil
    have hS0135 : ∀ (listed : Array Bool) (a : Act), listed = #[true, true, false, true, false, true, false, false, false] → a = ({ tmps := #[Value.string s, undef, Value.pointer (some ⟨N, 0, none⟩), Value.bool true, Value.func (.func 85) #[] #[.pointer (some ⟨R, 0, none⟩), .pointer (some ⟨Q, 0, none⟩)], Value.int .i64 (bb : Int), Value.int .i64 (ff : Int), Value.tuple #[Value.func (.func 85) #[] #[.pointer (some ⟨R, 0, none⟩), .pointer (some ⟨Q, 0, none⟩)], .bool true], Value.string s, Value.tuple #[Value.func (.func 85) #[] #[.pointer (some ⟨R, 0, none⟩), .pointer (some ⟨Q, 0, none⟩)], .bool true], Value.func (.func 85) #[] #[.pointer (some ⟨R, 0, none⟩), .pointer (some ⟨Q, 0, none⟩)], Value.bool true, Value.bool true, Value.bool false, Value.map (some w1.heap.size), Value.func (.func 85) #[] #[.pointer (some ⟨R, 0, none⟩), .pointer (some ⟨Q, 0, none⟩)], Value.int .i64 (bb : Int), Value.int .i64 (ff : Int), Value.map (some m), Value.int .i64 (ff : Int), undef, Value.int .i64 (ff : Int), undef, Value.int .i64 (bb : Int), undef, undef, undef], defers := [] } : Act) → G 5 listed a WA := by
      rintro listed a rfl rfl
      refine hG _ _ _ _ (wpAnyIn_ready (rs := [2, 6]) (by kernel_rfl) (by simp) ?_)
      refine AllReadyIn.cons rfl (fun K hK => ?_) ?_
      · go_simp
        exact hK _ _ (hG' _ _ _ _ (hS01235 _ _ (by kernel_rfl) rfl))
      refine AllReadyIn.cons rfl (fun K hK => ?_) ?_
      · go_simp
        exact hK _ _ (hG' _ _ _ _ (hS01356 _ _ (by kernel_rfl) rfl))
      exact AllReadyIn.nil
    have hS013 : ∀ (listed : Array Bool) (a : Act), listed = #[true, true, false, true, false, false, false, false, false] → a = ({ tmps := #[Value.string s, undef, Value.pointer (some ⟨N, 0, none⟩), Value.bool true, Value.func (.func 85) #[] #[.pointer (some ⟨R, 0, none⟩), .pointer (some ⟨Q, 0, none⟩)], Value.int .i64 (bb : Int), Value.int .i64 (ff : Int), Value.tuple #[Value.func (.func 85) #[] #[.pointer (some ⟨R, 0, none⟩), .pointer (some ⟨Q, 0, none⟩)], .bool true], Value.string s, Value.tuple #[Value.func (.func 85) #[] #[.pointer (some ⟨R, 0, none⟩), .pointer (some ⟨Q, 0, none⟩)], .bool true], Value.func (.func 85) #[] #[.pointer (some ⟨R, 0, none⟩), .pointer (some ⟨Q, 0, none⟩)], Value.bool true, Value.bool true, Value.bool false, Value.map (some w1.heap.size), Value.func (.func 85) #[] #[.pointer (some ⟨R, 0, none⟩), .pointer (some ⟨Q, 0, none⟩)], Value.int .i64 (bb : Int), Value.int .i64 (ff : Int), Value.map (some m), Value.int .i64 (ff : Int), undef, Value.int .i64 (ff : Int), undef, undef, undef, undef, undef], defers := [] } : Act) → G 6 listed a WA := by
      rintro listed a rfl rfl
      refine hG _ _ _ _ (wpAnyIn_ready (rs := [2, 5]) (by kernel_rfl) (by simp) ?_)
      refine AllReadyIn.cons rfl (fun K hK => ?_) ?_
      · go_simp
        exact hK _ _ (hG' _ _ _ _ (hS0123 _ _ (by kernel_rfl) rfl))
      refine AllReadyIn.cons rfl (fun K hK => ?_) ?_
      · go_simp
        exact hK _ _ (hG' _ _ _ _ (hS0135 _ _ (by kernel_rfl) rfl))
      exact AllReadyIn.nil
    have hS0156 : ∀ (listed : Array Bool) (a : Act), listed = #[true, true, false, false, false, true, true, false, false] → a = ({ tmps := #[Value.string s, undef, Value.pointer (some ⟨N, 0, none⟩), Value.bool true, Value.func (.func 85) #[] #[.pointer (some ⟨R, 0, none⟩), .pointer (some ⟨Q, 0, none⟩)], Value.int .i64 (bb : Int), Value.int .i64 (ff : Int), Value.tuple #[Value.func (.func 85) #[] #[.pointer (some ⟨R, 0, none⟩), .pointer (some ⟨Q, 0, none⟩)], .bool true], Value.string s, Value.tuple #[Value.func (.func 85) #[] #[.pointer (some ⟨R, 0, none⟩), .pointer (some ⟨Q, 0, none⟩)], .bool true], Value.func (.func 85) #[] #[.pointer (some ⟨R, 0, none⟩), .pointer (some ⟨Q, 0, none⟩)], Value.bool true, Value.bool true, Value.bool false, Value.map (some w1.heap.size), Value.func (.func 85) #[] #[.pointer (some ⟨R, 0, none⟩), .pointer (some ⟨Q, 0, none⟩)], Value.int .i64 (bb : Int), Value.int .i64 (ff : Int), Value.map (some m), Value.int .i64 (ff : Int), undef, undef, undef, Value.int .i64 (bb : Int), Value.slice (some ⟨WA.heap.size, 0, none⟩) 1 1, undef, undef], defers := [] } : Act) → G 5 listed a (WA.alloc (.cells #[.int .i64 (bb : Int)] 3)) := by
      rintro listed a rfl rfl
      refine hG _ _ _ _ (wpAnyIn_ready (rs := [2, 3]) (by kernel_rfl) (by simp) ?_)
      refine AllReadyIn.cons rfl (fun K hK => ?_) ?_
      · go_simp
        exact hK _ _ (hG' _ _ _ _ (hS01256 _ _ (by kernel_rfl) rfl))
      refine AllReadyIn.cons rfl (fun K hK => ?_) ?_
      · go_simp
        exact hK _ _ (hG' _ _ _ _ (hS01356 _ _ (by kernel_rfl) rfl))
      exact AllReadyIn.nil
    have hS015 : ∀ (listed : Array Bool) (a : Act), listed = #[true, true, false, false, false, true, false, false, false] → a = ({ tmps := #[Value.string s, undef, Value.pointer (some ⟨N, 0, none⟩), Value.bool true, Value.func (.func 85) #[] #[.pointer (some ⟨R, 0, none⟩), .pointer (some ⟨Q, 0, none⟩)], Value.int .i64 (bb : Int), Value.int .i64 (ff : Int), Value.tuple #[Value.func (.func 85) #[] #[.pointer (some ⟨R, 0, none⟩), .pointer (some ⟨Q, 0, none⟩)], .bool true], Value.string s, Value.tuple #[Value.func (.func 85) #[] #[.pointer (some ⟨R, 0, none⟩), .pointer (some ⟨Q, 0, none⟩)], .bool true], Value.func (.func 85) #[] #[.pointer (some ⟨R, 0, none⟩), .pointer (some ⟨Q, 0, none⟩)], Value.bool true, Value.bool true, Value.bool false, Value.map (some w1.heap.size), Value.func (.func 85) #[] #[.pointer (some ⟨R, 0, none⟩), .pointer (some ⟨Q, 0, none⟩)], Value.int .i64 (bb : Int), Value.int .i64 (ff : Int), Value.map (some m), Value.int .i64 (ff : Int), undef, undef, undef, Value.int .i64 (bb : Int), undef, undef, undef], defers := [] } : Act) → G 6 listed a WA := by
      rintro listed a rfl rfl
      refine hG _ _ _ _ (wpAnyIn_ready (rs := [2, 3, 6]) (by kernel_rfl) (by simp) ?_)
      refine AllReadyIn.cons rfl (fun K hK => ?_) ?_
      · go_simp
        exact hK _ _ (hG' _ _ _ _ (hS0125 _ _ (by kernel_rfl) rfl))
      refine AllReadyIn.cons rfl (fun K hK => ?_) ?_
      · go_simp
        exact hK _ _ (hG' _ _ _ _ (hS0135 _ _ (by kernel_rfl) rfl))
      refine AllReadyIn.cons rfl (fun K hK => ?_) ?_
      · go_simp
        exact hK _ _ (hG' _ _ _ _ (hS0156 _ _ (by kernel_rfl) rfl))
      exact AllReadyIn.nil
    have hS01 : ∀ (listed : Array Bool) (a : Act), listed = #[true, true, false, false, false, false, false, false, false] → a = ({ tmps := #[Value.string s, undef, Value.pointer (some ⟨N, 0, none⟩), Value.bool true, Value.func (.func 85) #[] #[.pointer (some ⟨R, 0, none⟩), .pointer (some ⟨Q, 0, none⟩)], Value.int .i64 (bb : Int), Value.int .i64 (ff : Int), Value.tuple #[Value.func (.func 85) #[] #[.pointer (some ⟨R, 0, none⟩), .pointer (some ⟨Q, 0, none⟩)], .bool true], Value.string s, Value.tuple #[Value.func (.func 85) #[] #[.pointer (some ⟨R, 0, none⟩), .pointer (some ⟨Q, 0, none⟩)], .bool true], Value.func (.func 85) #[] #[.pointer (some ⟨R, 0, none⟩), .pointer (some ⟨Q, 0, none⟩)], Value.bool true, Value.bool true, Value.bool false, Value.map (some w1.heap.size), Value.func (.func 85) #[] #[.pointer (some ⟨R, 0, none⟩), .pointer (some ⟨Q, 0, none⟩)], Value.int .i64 (bb : Int), Value.int .i64 (ff : Int), Value.map (some m), Value.int .i64 (ff : Int), undef, undef, undef, undef, undef, undef, undef], defers := [] } : Act) → G 7 listed a WA := by
      rintro listed a rfl rfl
      refine hG _ _ _ _ (wpAnyIn_ready (rs := [2, 3, 5]) (by kernel_rfl) (by simp) ?_)
      refine AllReadyIn.cons rfl (fun K hK => ?_) ?_
      · go_simp
        exact hK _ _ (hG' _ _ _ _ (hS012 _ _ (by kernel_rfl) rfl))
      refine AllReadyIn.cons rfl (fun K hK => ?_) ?_
      · go_simp
        exact hK _ _ (hG' _ _ _ _ (hS013 _ _ (by kernel_rfl) rfl))
      refine AllReadyIn.cons rfl (fun K hK => ?_) ?_
      · go_simp
        exact hK _ _ (hG' _ _ _ _ (hS015 _ _ (by kernel_rfl) rfl))
      exact AllReadyIn.nil
    have hS0234567 : ∀ (listed : Array Bool) (a : Act), listed = #[true, false, true, true, true, true, true, true, false] → a = ({ tmps := #[Value.string s, undef, Value.pointer (some ⟨N, 0, none⟩), Value.bool true, Value.func (.func 85) #[] #[.pointer (some ⟨R, 0, none⟩), .pointer (some ⟨Q, 0, none⟩)], Value.int .i64 (bb : Int), Value.int .i64 (ff : Int), Value.tuple #[Value.func (.func 85) #[] #[.pointer (some ⟨R, 0, none⟩), .pointer (some ⟨Q, 0, none⟩)], .bool true], Value.string s, Value.tuple #[Value.func (.func 85) #[] #[.pointer (some ⟨R, 0, none⟩), .pointer (some ⟨Q, 0, none⟩)], .bool true], Value.func (.func 85) #[] #[.pointer (some ⟨R, 0, none⟩), .pointer (some ⟨Q, 0, none⟩)], Value.bool true, Value.bool true, Value.bool false, Value.map (some w1.heap.size), Value.func (.func 85) #[] #[.pointer (some ⟨R, 0, none⟩), .pointer (some ⟨Q, 0, none⟩)], Value.int .i64 (bb : Int), Value.int .i64 (ff : Int), Value.map (some m), undef, Value.map (some m), Value.int .i64 (ff : Int), Value.slice sa nn sc, Value.int .i64 (bb : Int), Value.slice (some ⟨WA.heap.size, 0, none⟩) 1 1, Value.slice sa' (nn + 1) sc', undef], defers := [] } : Act) → G 2 listed a w' := by
      rintro listed a rfl rfl
      refine hG _ _ _ _ (wpAnyIn_ready (rs := [1]) (by kernel_rfl) (by simp) ?_)
      refine AllReadyIn.cons rfl (fun K hK => ?_) ?_
      · go_simp
        exact hK _ _ (hG' _ _ _ _ (hS01234567 _ _ (by kernel_rfl) rfl))
      exact AllReadyIn.nil
    have hS023456 : ∀ (listed : Array Bool) (a : Act), listed = #[true, false, true, true, true, true, true, false, false] → a = ({ tmps := #[Value.string s, undef, Value.pointer (some ⟨N, 0, none⟩), Value.bool true, Value.func (.func 85) #[] #[.pointer (some ⟨R, 0, none⟩), .pointer (some ⟨Q, 0, none⟩)], Value.int .i64 (bb : Int), Value.int .i64 (ff : Int), Value.tuple #[Value.func (.func 85) #[] #[.pointer (some ⟨R, 0, none⟩), .pointer (some ⟨Q, 0, none⟩)], .bool true], Value.string s, Value.tuple #[Value.func (.func 85) #[] #[.pointer (some ⟨R, 0, none⟩), .pointer (some ⟨Q, 0, none⟩)], .bool true], Value.func (.func 85) #[] #[.pointer (some ⟨R, 0, none⟩), .pointer (some ⟨Q, 0, none⟩)], Value.bool true, Value.bool true, Value.bool false, Value.map (some w1.heap.size), Value.func (.func 85) #[] #[.pointer (some ⟨R, 0, none⟩), .pointer (some ⟨Q, 0, none⟩)], Value.int .i64 (bb : Int), Value.int .i64 (ff : Int), Value.map (some m), undef, Value.map (some m), Value.int .i64 (ff : Int), Value.slice sa nn sc, Value.int .i64 (bb : Int), Value.slice (some ⟨WA.heap.size, 0, none⟩) 1 1, undef, undef], defers := [] } : Act) → G 3 listed a (WA.alloc (.cells #[.int .i64 (bb : Int)] 3)) := by
      rintro listed a rfl rfl
      refine hG _ _ _ _ (wpAnyIn_ready (rs := [1, 7]) (by kernel_rfl) (by simp) ?_)
      refine AllReadyIn.cons rfl (fun K hK => ?_) ?_
      · go_simp
        exact hK _ _ (hG' _ _ _ _ (hS0123456 _ _ (by kernel_rfl) rfl))
      refine AllReadyIn.cons rfl (fun K hK => ?_) ?_
      · refine stepIn_append_run rfl _ _ _ _ rfl _ _ rfl rfl _ _ hr ?_
        exact hK _ _ (hG' _ _ _ _ (hS0234567 _ _ (by kernel_rfl) rfl))
      exact AllReadyIn.nil
    have hS02345 : ∀ (listed : Array Bool) (a : Act), listed = #[true, false, true, true, true, true, false, false, false] → a = ({ tmps := #[Value.string s, undef, Value.pointer (some ⟨N, 0, none⟩), Value.bool true, Value.func (.func 85) #[] #[.pointer (some ⟨R, 0, none⟩), .pointer (some ⟨Q, 0, none⟩)], Value.int .i64 (bb : Int), Value.int .i64 (ff : Int), Value.tuple #[Value.func (.func 85) #[] #[.pointer (some ⟨R, 0, none⟩), .pointer (some ⟨Q, 0, none⟩)], .bool true], Value.string s, Value.tuple #[Value.func (.func 85) #[] #[.pointer (some ⟨R, 0, none⟩), .pointer (some ⟨Q, 0, none⟩)], .bool true], Value.func (.func 85) #[] #[.pointer (some ⟨R, 0, none⟩), .pointer (some ⟨Q, 0, none⟩)], Value.bool true, Value.bool true, Value.bool false, Value.map (some w1.heap.size), Value.func (.func 85) #[] #[.pointer (some ⟨R, 0, none⟩), .pointer (some ⟨Q, 0, none⟩)], Value.int .i64 (bb : Int), Value.int .i64 (ff : Int), Value.map (some m), undef, Value.map (some m), Value.int .i64 (ff : Int), Value.slice sa nn sc, Value.int .i64 (bb : Int), undef, undef, undef], defers := [] } : Act) → G 4 listed a WA := by
      rintro listed a rfl rfl
      refine hG _ _ _ _ (wpAnyIn_ready (rs := [1, 6]) (by kernel_rfl) (by simp) ?_)
      refine AllReadyIn.cons rfl (fun K hK => ?_) ?_
      · go_simp
        exact hK _ _ (hG' _ _ _ _ (hS012345 _ _ (by kernel_rfl) rfl))
      refine AllReadyIn.cons rfl (fun K hK => ?_) ?_
      · go_simp
        exact hK _ _ (hG' _ _ _ _ (hS023456 _ _ (by kernel_rfl) rfl))
      exact AllReadyIn.nil
    have hS0234 : ∀ (listed : Array Bool) (a : Act), listed = #[true, false, true, true, true, false, false, false, false] → a = ({ tmps := #[Value.string s, undef, Value.pointer (some ⟨N, 0, none⟩), Value.bool true, Value.func (.func 85) #[] #[.pointer (some ⟨R, 0, none⟩), .pointer (some ⟨Q, 0, none⟩)], Value.int .i64 (bb : Int), Value.int .i64 (ff : Int), Value.tuple #[Value.func (.func 85) #[] #[.pointer (some ⟨R, 0, none⟩), .pointer (some ⟨Q, 0, none⟩)], .bool true], Value.string s, Value.tuple #[Value.func (.func 85) #[] #[.pointer (some ⟨R, 0, none⟩), .pointer (some ⟨Q, 0, none⟩)], .bool true], Value.func (.func 85) #[] #[.pointer (some ⟨R, 0, none⟩), .pointer (some ⟨Q, 0, none⟩)], Value.bool true, Value.bool true, Value.bool false, Value.map (some w1.heap.size), Value.func (.func 85) #[] #[.pointer (some ⟨R, 0, none⟩), .pointer (some ⟨Q, 0, none⟩)], Value.int .i64 (bb : Int), Value.int .i64 (ff : Int), Value.map (some m), undef, Value.map (some m), Value.int .i64 (ff : Int), Value.slice sa nn sc, undef, undef, undef, undef], defers := [] } : Act) → G 5 listed a WA := by
      rintro listed a rfl rfl
      refine hG _ _ _ _ (wpAnyIn_ready (rs := [1, 5]) (by kernel_rfl) (by simp) ?_)
      refine AllReadyIn.cons rfl (fun K hK => ?_) ?_
      · go_simp
        exact hK _ _ (hG' _ _ _ _ (hS01234 _ _ (by kernel_rfl) rfl))
      refine AllReadyIn.cons rfl (fun K hK => ?_) ?_
      · go_simp
        exact hK _ _ (hG' _ _ _ _ (hS02345 _ _ (by kernel_rfl) rfl))
      exact AllReadyIn.nil
    have hS02356 : ∀ (listed : Array Bool) (a : Act), listed = #[true, false, true, true, false, true, true, false, false] → a = ({ tmps := #[Value.string s, undef, Value.pointer (some ⟨N, 0, none⟩), Value.bool true, Value.func (.func 85) #[] #[.pointer (some ⟨R, 0, none⟩), .pointer (some ⟨Q, 0, none⟩)], Value.int .i64 (bb : Int), Value.int .i64 (ff : Int), Value.tuple #[Value.func (.func 85) #[] #[.pointer (some ⟨R, 0, none⟩), .pointer (some ⟨Q, 0, none⟩)], .bool true], Value.string s, Value.tuple #[Value.func (.func 85) #[] #[.pointer (some ⟨R, 0, none⟩), .pointer (some ⟨Q, 0, none⟩)], .bool true], Value.func (.func 85) #[] #[.pointer (some ⟨R, 0, none⟩), .pointer (some ⟨Q, 0, none⟩)], Value.bool true, Value.bool true, Value.bool false, Value.map (some w1.heap.size), Value.func (.func 85) #[] #[.pointer (some ⟨R, 0, none⟩), .pointer (some ⟨Q, 0, none⟩)], Value.int .i64 (bb : Int), Value.int .i64 (ff : Int), Value.map (some m), undef, Value.map (some m), Value.int .i64 (ff : Int), undef, Value.int .i64 (bb : Int), Value.slice (some ⟨WA.heap.size, 0, none⟩) 1 1, undef, undef], defers := [] } : Act) → G 4 listed a (WA.alloc (.cells #[.int .i64 (bb : Int)] 3)) := by
      rintro listed a rfl rfl
      refine hG _ _ _ _ (wpAnyIn_ready (rs := [1, 4]) (by kernel_rfl) (by simp) ?_)
      refine AllReadyIn.cons rfl (fun K hK => ?_) ?_
      · go_simp
        exact hK _ _ (hG' _ _ _ _ (hS012356 _ _ (by kernel_rfl) rfl))
      refine AllReadyIn.cons rfl (fun K hK => ?_) ?_
      · go_simp
        exact hK _ _ (hG' _ _ _ _ (hS023456 _ _ (by kernel_rfl) rfl))
      exact AllReadyIn.nil
    have hS0235 : ∀ (listed : Array Bool) (a : Act), listed = #[true, false, true, true, false, true, false, false, false] → a = ({ tmps := #[Value.string s, undef, Value.pointer (some ⟨N, 0, none⟩), Value.bool true, Value.func (.func 85) #[] #[.pointer (some ⟨R, 0, none⟩), .pointer (some ⟨Q, 0, none⟩)], Value.int .i64 (bb : Int), Value.int .i64 (ff : Int), Value.tuple #[Value.func (.func 85) #[] #[.pointer (some ⟨R, 0, none⟩), .pointer (some ⟨Q, 0, none⟩)], .bool true], Value.string s, Value.tuple #[Value.func (.func 85) #[] #[.pointer (some ⟨R, 0, none⟩), .pointer (some ⟨Q, 0, none⟩)], .bool true], Value.func (.func 85) #[] #[.pointer (some ⟨R, 0, none⟩), .pointer (some ⟨Q, 0, none⟩)], Value.bool true, Value.bool true, Value.bool false, Value.map (some w1.heap.size), Value.func (.func 85) #[] #[.pointer (some ⟨R, 0, none⟩), .pointer (some ⟨Q, 0, none⟩)], Value.int .i64 (bb : Int), Value.int .i64 (ff : Int), Value.map (some m), undef, Value.map (some m), Value.int .i64 (ff : Int), undef, Value.int .i64 (bb : Int), undef, undef, undef], defers := [] } : Act) → G 5 listed a WA := by
      rintro listed a rfl rfl
      refine hG _ _ _ _ (wpAnyIn_ready (rs := [1, 4, 6]) (by kernel_rfl) (by simp) ?_)
      refine AllReadyIn.cons rfl (fun K hK => ?_) ?_
      · go_simp
        exact hK _ _ (hG' _ _ _ _ (hS01235 _ _ (by kernel_rfl) rfl))
      refine AllReadyIn.cons rfl (fun K hK => ?_) ?_
      · go_simp
        exact hK _ _ (hG' _ _ _ _ (hS02345 _ _ (by kernel_rfl) rfl))
      refine AllReadyIn.cons rfl (fun K hK => ?_) ?_
      · go_simp
        exact hK _ _ (hG' _ _ _ _ (hS02356 _ _ (by kernel_rfl) rfl))
      exact AllReadyIn.nil
    have hS023 : ∀ (listed : Array Bool) (a : Act), listed = #[true, false, true, true, false, false, false, false, false] → a = ({ tmps := #[Value.string s, undef, Value.pointer (some ⟨N, 0, none⟩), Value.bool true, Value.func (.func 85) #[] #[.pointer (some ⟨R, 0, none⟩), .pointer (some ⟨Q, 0, none⟩)], Value.int .i64 (bb : Int), Value.int .i64 (ff : Int), Value.tuple #[Value.func (.func 85) #[] #[.pointer (some ⟨R, 0, none⟩), .pointer (some ⟨Q, 0, none⟩)], .bool true], Value.string s, Value.tuple #[Value.func (.func 85) #[] #[.pointer (some ⟨R, 0, none⟩), .pointer (some ⟨Q, 0, none⟩)], .bool true], Value.func (.func 85) #[] #[.pointer (some ⟨R, 0, none⟩), .pointer (some ⟨Q, 0, none⟩)], Value.bool true, Value.bool true, Value.bool false, Value.map (some w1.heap.size), Value.func (.func 85) #[] #[.pointer (some ⟨R, 0, none⟩), .pointer (some ⟨Q, 0, none⟩)], Value.int .i64 (bb : Int), Value.int .i64 (ff : Int), Value.map (some m), undef, Value.map (some m), Value.int .i64 (ff : Int), undef, undef, undef, undef, undef], defers := [] } : Act) → G 6 listed a WA := by
      rintro listed a rfl rfl
      refine hG _ _ _ _ (wpAnyIn_ready (rs := [1, 4, 5]) (by kernel_rfl) (by simp) ?_)
      refine AllReadyIn.cons rfl (fun K hK => ?_) ?_
      · go_simp
        exact hK _ _ (hG' _ _ _ _ (hS0123 _ _ (by kernel_rfl) rfl))
      refine AllReadyIn.cons rfl (fun K hK => ?_) ?_
      · go_simp
        exact hK _ _ (hG' _ _ _ _ (hS0234 _ _ (by kernel_rfl) rfl))
      refine AllReadyIn.cons rfl (fun K hK => ?_) ?_
      · go_simp
        exact hK _ _ (hG' _ _ _ _ (hS0235 _ _ (by kernel_rfl) rfl))
      exact AllReadyIn.nil
    have hS0256 : ∀ (listed : Array Bool) (a : Act), listed = #[true, false, true, false, false, true, true, false, false] → a = ({ tmps := #[Value.string s, undef, Value.pointer (some ⟨N, 0, none⟩), Value.bool true, Value.func (.func 85) #[] #[.pointer (some ⟨R, 0, none⟩), .pointer (some ⟨Q, 0, none⟩)], Value.int .i64 (bb : Int), Value.int .i64 (ff : Int), Value.tuple #[Value.func (.func 85) #[] #[.pointer (some ⟨R, 0, none⟩), .pointer (some ⟨Q, 0, none⟩)], .bool true], Value.string s, Value.tuple #[Value.func (.func 85) #[] #[.pointer (some ⟨R, 0, none⟩), .pointer (some ⟨Q, 0, none⟩)], .bool true], Value.func (.func 85) #[] #[.pointer (some ⟨R, 0, none⟩), .pointer (some ⟨Q, 0, none⟩)], Value.bool true, Value.bool true, Value.bool false, Value.map (some w1.heap.size), Value.func (.func 85) #[] #[.pointer (some ⟨R, 0, none⟩), .pointer (some ⟨Q, 0, none⟩)], Value.int .i64 (bb : Int), Value.int .i64 (ff : Int), Value.map (some m), undef, Value.map (some m), undef, undef, Value.int .i64 (bb : Int), Value.slice (some ⟨WA.heap.size, 0, none⟩) 1 1, undef, undef], defers := [] } : Act) → G 5 listed a (WA.alloc (.cells #[.int .i64 (bb : Int)] 3)) := by
      rintro listed a rfl rfl
      refine hG _ _ _ _ (wpAnyIn_ready (rs := [1, 3]) (by kernel_rfl) (by simp) ?_)
      refine AllReadyIn.cons rfl (fun K hK => ?_) ?_
      · go_simp
        exact hK _ _ (hG' _ _ _ _ (hS01256 _ _ (by kernel_rfl) rfl))
      refine AllReadyIn.cons rfl (fun K hK => ?_) ?_
      · go_simp
        exact hK _ _ (hG' _ _ _ _ (hS02356 _ _ (by kernel_rfl) rfl))
      exact AllReadyIn.nil
    have hS025 : ∀ (listed : Array Bool) (a : Act), listed = #[true, false, true, false, false, true, false, false, false] → a = ({ tmps := #[Value.string s, undef, Value.pointer (some ⟨N, 0, none⟩), Value.bool true, Value.func (.func 85) #[] #[.pointer (some ⟨R, 0, none⟩), .pointer (some ⟨Q, 0, none⟩)], Value.int .i64 (bb : Int), Value.int .i64 (ff : Int), Value.tuple #[Value.func (.func 85) #[] #[.pointer (some ⟨R, 0, none⟩), .pointer (some ⟨Q, 0, none⟩)], .bool true], Value.string s, Value.tuple #[Value.func (.func 85) #[] #[.pointer (some ⟨R, 0, none⟩), .pointer (some ⟨Q, 0, none⟩)], .bool true], Value.func (.func 85) #[] #[.pointer (some ⟨R, 0, none⟩), .pointer (some ⟨Q, 0, none⟩)], Value.bool true, Value.bool true, Value.bool false, Value.map (some w1.heap.size), Value.func (.func 85) #[] #[.pointer (some ⟨R, 0, none⟩), .pointer (some ⟨Q, 0, none⟩)], Value.int .i64 (bb : Int), Value.int .i64 (ff : Int), Value.map (some m), undef, Value.map (some m), undef, undef, Value.int .i64 (bb : Int), undef, undef, undef], defers := [] } : Act) → G 6 listed a WA := by
      rintro listed a rfl rfl
      refine hG _ _ _ _ (wpAnyIn_ready (rs := [1, 3, 6]) (by kernel_rfl) (by simp) ?_)
      refine AllReadyIn.cons rfl (fun K hK => ?_) ?_
      · go_simp
        exact hK _ _ (hG' _ _ _ _ (hS0125 _ _ (by kernel_rfl) rfl))
      refine AllReadyIn.cons rfl (fun K hK => ?_) ?_
      · go_simp
        exact hK _ _ (hG' _ _ _ _ (hS0235 _ _ (by kernel_rfl) rfl))
      refine AllReadyIn.cons rfl (fun K hK => ?_) ?_
      · go_simp
        exact hK _ _ (hG' _ _ _ _ (hS0256 _ _ (by kernel_rfl) rfl))
      exact AllReadyIn.nil
    have hS02 : ∀ (listed : Array Bool) (a : Act), listed = #[true, false, true, false, false, false, false, false, false] → a = ({ tmps := #[Value.string s, undef, Value.pointer (some ⟨N, 0, none⟩), Value.bool true, Value.func (.func 85) #[] #[.pointer (some ⟨R, 0, none⟩), .pointer (some ⟨Q, 0, none⟩)], Value.int .i64 (bb : Int), Value.int .i64 (ff : Int), Value.tuple #[Value.func (.func 85) #[] #[.pointer (some ⟨R, 0, none⟩), .pointer (some ⟨Q, 0, none⟩)], .bool true], Value.string s, Value.tuple #[Value.func (.func 85) #[] #[.pointer (some ⟨R, 0, none⟩), .pointer (some ⟨Q, 0, none⟩)], .bool true], Value.func (.func 85) #[] #[.pointer (some ⟨R, 0, none⟩), .pointer (some ⟨Q, 0, none⟩)], Value.bool true, Value.bool true, Value.bool false, Value.map (some w1.heap.size), Value.func (.func 85) #[] #[.pointer (some ⟨R, 0, none⟩), .pointer (some ⟨Q, 0, none⟩)], Value.int .i64 (bb : Int), Value.int .i64 (ff : Int), Value.map (some m), undef, Value.map (some m), undef, undef, undef, undef, undef, undef], defers := [] } : Act) → G 7 listed a WA := by
      rintro listed a rfl rfl
      refine hG _ _ _ _ (wpAnyIn_ready (rs := [1, 3, 5]) (by kernel_rfl) (by simp) ?_)
      refine AllReadyIn.cons rfl (fun K hK => ?_) ?_
      · go_simp
        exact hK _ _ (hG' _ _ _ _ (hS012 _ _ (by kernel_rfl) rfl))
      refine AllReadyIn.cons rfl (fun K hK => ?_) ?_
      · go_simp
        exact hK _ _ (hG' _ _ _ _ (hS023 _ _ (by kernel_rfl) rfl))
      refine AllReadyIn.cons rfl (fun K hK => ?_) ?_
      · go_simp
        exact hK _ _ (hG' _ _ _ _ (hS025 _ _ (by kernel_rfl) rfl))
      exact AllReadyIn.nil
    have hS0356 : ∀ (listed : Array Bool) (a : Act), listed = #[true, false, false, true, false, true, true, false, false] → a = ({ tmps := #[Value.string s, undef, Value.pointer (some ⟨N, 0, none⟩), Value.bool true, Value.func (.func 85) #[] #[.pointer (some ⟨R, 0, none⟩), .pointer (some ⟨Q, 0, none⟩)], Value.int .i64 (bb : Int), Value.int .i64 (ff : Int), Value.tuple #[Value.func (.func 85) #[] #[.pointer (some ⟨R, 0, none⟩), .pointer (some ⟨Q, 0, none⟩)], .bool true], Value.string s, Value.tuple #[Value.func (.func 85) #[] #[.pointer (some ⟨R, 0, none⟩), .pointer (some ⟨Q, 0, none⟩)], .bool true], Value.func (.func 85) #[] #[.pointer (some ⟨R, 0, none⟩), .pointer (some ⟨Q, 0, none⟩)], Value.bool true, Value.bool true, Value.bool false, Value.map (some w1.heap.size), Value.func (.func 85) #[] #[.pointer (some ⟨R, 0, none⟩), .pointer (some ⟨Q, 0, none⟩)], Value.int .i64 (bb : Int), Value.int .i64 (ff : Int), Value.map (some m), undef, undef, Value.int .i64 (ff : Int), undef, Value.int .i64 (bb : Int), Value.slice (some ⟨WA.heap.size, 0, none⟩) 1 1, undef, undef], defers := [] } : Act) → G 5 listed a (WA.alloc (.cells #[.int .i64 (bb : Int)] 3)) := by
      rintro listed a rfl rfl
      refine hG _ _ _ _ (wpAnyIn_ready (rs := [1, 2]) (by kernel_rfl) (by simp) ?_)
      refine AllReadyIn.cons rfl (fun K hK => ?_) ?_
      · go_simp
        exact hK _ _ (hG' _ _ _ _ (hS01356 _ _ (by kernel_rfl) rfl))
      refine AllReadyIn.cons rfl (fun K hK => ?_) ?_
      · go_simp
        exact hK _ _ (hG' _ _ _ _ (hS02356 _ _ (by kernel_rfl) rfl))
      exact AllReadyIn.nil
    have hS035 : ∀ (listed : Array Bool) (a : Act), listed = #[true, false, false, true, false, true, false, false, false] → a = ({ tmps := #[Value.string s, undef, Value.pointer (some ⟨N, 0, none⟩), Value.bool true, Value.func (.func 85) #[] #[.pointer (some ⟨R, 0, none⟩), .pointer (some ⟨Q, 0, none⟩)], Value.int .i64 (bb : Int), Value.int .i64 (ff : Int), Value.tuple #[Value.func (.func 85) #[] #[.pointer (some ⟨R, 0, none⟩), .pointer (some ⟨Q, 0, none⟩)], .bool true], Value.string s, Value.tuple #[Value.func (.func 85) #[] #[.pointer (some ⟨R, 0, none⟩), .pointer (some ⟨Q, 0, none⟩)], .bool true], Value.func (.func 85) #[] #[.pointer (some ⟨R, 0, none⟩), .pointer (some ⟨Q, 0, none⟩)], Value.bool true, Value.bool true, Value.bool false, Value.map (some w1.heap.size), Value.func (.func 85) #[] #[.pointer (some ⟨R, 0, none⟩), .pointer (some ⟨Q, 0, none⟩)], Value.int .i64 (bb : Int), Value.int .i64 (ff : Int), Value.map (some m), undef, undef, Value.int .i64 (ff : Int), undef, Value.int .i64 (bb : Int), undef, undef, undef], defers := [] } : Act) → G 6 listed a WA := by
      rintro listed a rfl rfl
      refine hG _ _ _ _ (wpAnyIn_ready (rs := [1, 2, 6]) (by kernel_rfl) (by simp) ?_)
      refine AllReadyIn.cons rfl (fun K hK => ?_) ?_
      · go_simp
        exact hK _ _ (hG' _ _ _ _ (hS0135 _ _ (by kernel_rfl) rfl))
      refine AllReadyIn.cons rfl (fun K hK => ?_) ?_
      · go_simp
        exact hK _ _ (hG' _ _ _ _ (hS0235 _ _ (by kernel_rfl) rfl))
      refine AllReadyIn.cons rfl (fun K hK => ?_) ?_
      · go_simp
        exact hK _ _ (hG' _ _ _ _ (hS0356 _ _ (by kernel_rfl) rfl))
      exact AllReadyIn.nil
    have hS03 : ∀ (listed : Array Bool) (a : Act), listed = #[true, false, false, true, false, false, false, false, false] → a = ({ tmps := #[Value.string s, undef, Value.pointer (some ⟨N, 0, none⟩), Value.bool true, Value.func (.func 85) #[] #[.pointer (some ⟨R, 0, none⟩), .pointer (some ⟨Q, 0, none⟩)], Value.int .i64 (bb : Int), Value.int .i64 (ff : Int), Value.tuple #[Value.func (.func 85) #[] #[.pointer (some ⟨R, 0, none⟩), .pointer (some ⟨Q, 0, none⟩)], .bool true], Value.string s, Value.tuple #[Value.func (.func 85) #[] #[.pointer (some ⟨R, 0, none⟩), .pointer (some ⟨Q, 0, none⟩)], .bool true], Value.func (.func 85) #[] #[.pointer (some ⟨R, 0, none⟩), .pointer (some ⟨Q, 0, none⟩)], Value.bool true, Value.bool true, Value.bool false, Value.map (some w1.heap.size), Value.func (.func 85) #[] #[.pointer (some ⟨R, 0, none⟩), .pointer (some ⟨Q, 0, none⟩)], Value.int .i64 (bb : Int), Value.int .i64 (ff : Int), Value.map (some m), undef, undef, Value.int .i64 (ff : Int), undef, undef, undef, undef, undef], defers := [] } : Act) → G 7 listed a WA := by
      rintro listed a rfl rfl
      refine hG _ _ _ _ (wpAnyIn_ready (rs := [1, 2, 5]) (by kernel_rfl) (by simp) ?_)
      refine AllReadyIn.cons rfl (fun K hK => ?_) ?_
      · go_simp
        exact hK _ _ (hG' _ _ _ _ (hS013 _ _ (by kernel_rfl) rfl))
      refine AllReadyIn.cons rfl (fun K hK => ?_) ?_
      · go_simp
        exact hK _ _ (hG' _ _ _ _ (hS023 _ _ (by kernel_rfl) rfl))
      refine AllReadyIn.cons rfl (fun K hK => ?_) ?_
      · go_simp
        exact hK _ _ (hG' _ _ _ _ (hS035 _ _ (by kernel_rfl) rfl))
      exact AllReadyIn.nil
    have hS056 : ∀ (listed : Array Bool) (a : Act), listed = #[true, false, false, false, false, true, true, false, false] → a = ({ tmps := #[Value.string s, undef, Value.pointer (some ⟨N, 0, none⟩), Value.bool true, Value.func (.func 85) #[] #[.pointer (some ⟨R, 0, none⟩), .pointer (some ⟨Q, 0, none⟩)], Value.int .i64 (bb : Int), Value.int .i64 (ff : Int), Value.tuple #[Value.func (.func 85) #[] #[.pointer (some ⟨R, 0, none⟩), .pointer (some ⟨Q, 0, none⟩)], .bool true], Value.string s, Value.tuple #[Value.func (.func 85) #[] #[.pointer (some ⟨R, 0, none⟩), .pointer (some ⟨Q, 0, none⟩)], .bool true], Value.func (.func 85) #[] #[.pointer (some ⟨R, 0, none⟩), .pointer (some ⟨Q, 0, none⟩)], Value.bool true, Value.bool true, Value.bool false, Value.map (some w1.heap.size), Value.func (.func 85) #[] #[.pointer (some ⟨R, 0, none⟩), .pointer (some ⟨Q, 0, none⟩)], Value.int .i64 (bb : Int), Value.int .i64 (ff : Int), Value.map (some m), undef, undef, undef, undef, Value.int .i64 (bb : Int), Value.slice (some ⟨WA.heap.size, 0, none⟩) 1 1, undef, undef], defers := [] } : Act) → G 6 listed a (WA.alloc (.cells #[.int .i64 (bb : Int)] 3)) := by
      rintro listed a rfl rfl
      refine hG _ _ _ _ (wpAnyIn_ready (rs := [1, 2, 3]) (by kernel_rfl) (by simp) ?_)
      refine AllReadyIn.cons rfl (fun K hK => ?_) ?_
      · go_simp
        exact hK _ _ (hG' _ _ _ _ (hS0156 _ _ (by kernel_rfl) rfl))
      refine AllReadyIn.cons rfl (fun K hK => ?_) ?_
      · go_simp
        exact hK _ _ (hG' _ _ _ _ (hS0256 _ _ (by kernel_rfl) rfl))
      refine AllReadyIn.cons rfl (fun K hK => ?_) ?_
      · go_simp
        exact hK _ _ (hG' _ _ _ _ (hS0356 _ _ (by kernel_rfl) rfl))
      exact AllReadyIn.nil
    have hS05 : ∀ (listed : Array Bool) (a : Act), listed = #[true, false, false, false, false, true, false, false, false] → a = ({ tmps := #[Value.string s, undef, Value.pointer (some ⟨N, 0, none⟩), Value.bool true, Value.func (.func 85) #[] #[.pointer (some ⟨R, 0, none⟩), .pointer (some ⟨Q, 0, none⟩)], Value.int .i64 (bb : Int), Value.int .i64 (ff : Int), Value.tuple #[Value.func (.func 85) #[] #[.pointer (some ⟨R, 0, none⟩), .pointer (some ⟨Q, 0, none⟩)], .bool true], Value.string s, Value.tuple #[Value.func (.func 85) #[] #[.pointer (some ⟨R, 0, none⟩), .pointer (some ⟨Q, 0, none⟩)], .bool true], Value.func (.func 85) #[] #[.pointer (some ⟨R, 0, none⟩), .pointer (some ⟨Q, 0, none⟩)], Value.bool true, Value.bool true, Value.bool false, Value.map (some w1.heap.size), Value.func (.func 85) #[] #[.pointer (some ⟨R, 0, none⟩), .pointer (some ⟨Q, 0, none⟩)], Value.int .i64 (bb : Int), Value.int .i64 (ff : Int), Value.map (some m), undef, undef, undef, undef, Value.int .i64 (bb : Int), undef, undef, undef], defers := [] } : Act) → G 7 listed a WA := by
      rintro listed a rfl rfl
      refine hG _ _ _ _ (wpAnyIn_ready (rs := [1, 2, 3, 6]) (by kernel_rfl) (by simp) ?_)
      refine AllReadyIn.cons rfl (fun K hK => ?_) ?_
      · go_simp
        exact hK _ _ (hG' _ _ _ _ (hS015 _ _ (by kernel_rfl) rfl))
      refine AllReadyIn.cons rfl (fun K hK => ?_) ?_
      · go_simp
        exact hK _ _ (hG' _ _ _ _ (hS025 _ _ (by kernel_rfl) rfl))
      refine AllReadyIn.cons rfl (fun K hK => ?_) ?_
      · go_simp
        exact hK _ _ (hG' _ _ _ _ (hS035 _ _ (by kernel_rfl) rfl))
      refine AllReadyIn.cons rfl (fun K hK => ?_) ?_
      · go_simp
        exact hK _ _ (hG' _ _ _ _ (hS056 _ _ (by kernel_rfl) rfl))
      exact AllReadyIn.nil
    have hS0 : ∀ (listed : Array Bool) (a : Act), listed = #[true, false, false, false, false, false, false, false, false] → a = ({ tmps := #[Value.string s, undef, Value.pointer (some ⟨N, 0, none⟩), Value.bool true, Value.func (.func 85) #[] #[.pointer (some ⟨R, 0, none⟩), .pointer (some ⟨Q, 0, none⟩)], Value.int .i64 (bb : Int), Value.int .i64 (ff : Int), Value.tuple #[Value.func (.func 85) #[] #[.pointer (some ⟨R, 0, none⟩), .pointer (some ⟨Q, 0, none⟩)], .bool true], Value.string s, Value.tuple #[Value.func (.func 85) #[] #[.pointer (some ⟨R, 0, none⟩), .pointer (some ⟨Q, 0, none⟩)], .bool true], Value.func (.func 85) #[] #[.pointer (some ⟨R, 0, none⟩), .pointer (some ⟨Q, 0, none⟩)], Value.bool true, Value.bool true, Value.bool false, Value.map (some w1.heap.size), Value.func (.func 85) #[] #[.pointer (some ⟨R, 0, none⟩), .pointer (some ⟨Q, 0, none⟩)], Value.int .i64 (bb : Int), Value.int .i64 (ff : Int), Value.map (some m), undef, undef, undef, undef, undef, undef, undef, undef], defers := [] } : Act) → G 8 listed a WA := by
      rintro listed a rfl rfl
      refine hG _ _ _ _ (wpAnyIn_ready (rs := [1, 2, 3, 5]) (by kernel_rfl) (by simp) ?_)
      refine AllReadyIn.cons rfl (fun K hK => ?_) ?_
      · go_simp
        exact hK _ _ (hG' _ _ _ _ (hS01 _ _ (by kernel_rfl) rfl))
      refine AllReadyIn.cons rfl (fun K hK => ?_) ?_
      · go_simp
        exact hK _ _ (hG' _ _ _ _ (hS02 _ _ (by kernel_rfl) rfl))
      refine AllReadyIn.cons rfl (fun K hK => ?_) ?_
      · go_simp
        exact hK _ _ (hG' _ _ _ _ (hS03 _ _ (by kernel_rfl) rfl))
      refine AllReadyIn.cons rfl (fun K hK => ?_) ?_
      · go_simp
        exact hK _ _ (hG' _ _ _ _ (hS05 _ _ (by kernel_rfl) rfl))
      exact AllReadyIn.nil
    have hS1234567 : ∀ (listed : Array Bool) (a : Act), listed = #[false, true, true, true, true, true, true, true, false] → a = ({ tmps := #[Value.string s, undef, Value.pointer (some ⟨N, 0, none⟩), Value.bool true, Value.func (.func 85) #[] #[.pointer (some ⟨R, 0, none⟩), .pointer (some ⟨Q, 0, none⟩)], Value.int .i64 (bb : Int), Value.int .i64 (ff : Int), Value.tuple #[Value.func (.func 85) #[] #[.pointer (some ⟨R, 0, none⟩), .pointer (some ⟨Q, 0, none⟩)], .bool true], Value.string s, Value.tuple #[Value.func (.func 85) #[] #[.pointer (some ⟨R, 0, none⟩), .pointer (some ⟨Q, 0, none⟩)], .bool true], Value.func (.func 85) #[] #[.pointer (some ⟨R, 0, none⟩), .pointer (some ⟨Q, 0, none⟩)], Value.bool true, Value.bool true, Value.bool false, Value.map (some w1.heap.size), Value.func (.func 85) #[] #[.pointer (some ⟨R, 0, none⟩), .pointer (some ⟨Q, 0, none⟩)], Value.int .i64 (bb : Int), Value.int .i64 (ff : Int), undef, Value.int .i64 (ff : Int), Value.map (some m), Value.int .i64 (ff : Int), Value.slice sa nn sc, Value.int .i64 (bb : Int), Value.slice (some ⟨WA.heap.size, 0, none⟩) 1 1, Value.slice sa' (nn + 1) sc', undef], defers := [] } : Act) → G 2 listed a w' := by
      rintro listed a rfl rfl
      refine hG _ _ _ _ (wpAnyIn_ready (rs := [0]) (by kernel_rfl) (by simp) ?_)
      refine AllReadyIn.cons rfl (fun K hK => ?_) ?_
      · go_simp
        exact hK _ _ (hG' _ _ _ _ (hS01234567 _ _ (by kernel_rfl) rfl))
      exact AllReadyIn.nil
    have hS123456 : ∀ (listed : Array Bool) (a : Act), listed = #[false, true, true, true, true, true, true, false, false] → a = ({ tmps := #[Value.string s, undef, Value.pointer (some ⟨N, 0, none⟩), Value.bool true, Value.func (.func 85) #[] #[.pointer (some ⟨R, 0, none⟩), .pointer (some ⟨Q, 0, none⟩)], Value.int .i64 (bb : Int), Value.int .i64 (ff : Int), Value.tuple #[Value.func (.func 85) #[] #[.pointer (some ⟨R, 0, none⟩), .pointer (some ⟨Q, 0, none⟩)], .bool true], Value.string s, Value.tuple #[Value.func (.func 85) #[] #[.pointer (some ⟨R, 0, none⟩), .pointer (some ⟨Q, 0, none⟩)], .bool true], Value.func (.func 85) #[] #[.pointer (some ⟨R, 0, none⟩), .pointer (some ⟨Q, 0, none⟩)], Value.bool true, Value.bool true, Value.bool false, Value.map (some w1.heap.size), Value.func (.func 85) #[] #[.pointer (some ⟨R, 0, none⟩), .pointer (some ⟨Q, 0, none⟩)], Value.int .i64 (bb : Int), Value.int .i64 (ff : Int), undef, Value.int .i64 (ff : Int), Value.map (some m), Value.int .i64 (ff : Int), Value.slice sa nn sc, Value.int .i64 (bb : Int), Value.slice (some ⟨WA.heap.size, 0, none⟩) 1 1, undef, undef], defers := [] } : Act) → G 3 listed a (WA.alloc (.cells #[.int .i64 (bb : Int)] 3)) := by
      rintro listed a rfl rfl
      refine hG _ _ _ _ (wpAnyIn_ready (rs := [0, 7]) (by kernel_rfl) (by simp) ?_)
      refine AllReadyIn.cons rfl (fun K hK => ?_) ?_
      · go_simp
        exact hK _ _ (hG' _ _ _ _ (hS0123456 _ _ (by kernel_rfl) rfl))
      refine AllReadyIn.cons rfl (fun K hK => ?_) ?_
      · refine stepIn_append_run rfl _ _ _ _ rfl _ _ rfl rfl _ _ hr ?_
        exact hK _ _ (hG' _ _ _ _ (hS1234567 _ _ (by kernel_rfl) rfl))
      exact AllReadyIn.nil
    have hS12345 : ∀ (listed : Array Bool) (a : Act), listed = #[false, true, true, true, true, true, false, false, false] → a = ({ tmps := #[Value.string s, undef, Value.pointer (some ⟨N, 0, none⟩), Value.bool true, Value.func (.func 85) #[] #[.pointer (some ⟨R, 0, none⟩), .pointer (some ⟨Q, 0, none⟩)], Value.int .i64 (bb : Int), Value.int .i64 (ff : Int), Value.tuple #[Value.func (.func 85) #[] #[.pointer (some ⟨R, 0, none⟩), .pointer (some ⟨Q, 0, none⟩)], .bool true], Value.string s, Value.tuple #[Value.func (.func 85) #[] #[.pointer (some ⟨R, 0, none⟩), .pointer (some ⟨Q, 0, none⟩)], .bool true], Value.func (.func 85) #[] #[.pointer (some ⟨R, 0, none⟩), .pointer (some ⟨Q, 0, none⟩)], Value.bool true, Value.bool true, Value.bool false, Value.map (some w1.heap.size), Value.func (.func 85) #[] #[.pointer (some ⟨R, 0, none⟩), .pointer (some ⟨Q, 0, none⟩)], Value.int .i64 (bb : Int), Value.int .i64 (ff : Int), undef, Value.int .i64 (ff : Int), Value.map (some m), Value.int .i64 (ff : Int), Value.slice sa nn sc, Value.int .i64 (bb : Int), undef, undef, undef], defers := [] } : Act) → G 4 listed a WA := by
      rintro listed a rfl rfl
      refine hG _ _ _ _ (wpAnyIn_ready (rs := [0, 6]) (by kernel_rfl) (by simp) ?_)
      refine AllReadyIn.cons rfl (fun K hK => ?_) ?_
      · go_simp
        exact hK _ _ (hG' _ _ _ _ (hS012345 _ _ (by kernel_rfl) rfl))
      refine AllReadyIn.cons rfl (fun K hK => ?_) ?_
      · go_simp
        exact hK _ _ (hG' _ _ _ _ (hS123456 _ _ (by kernel_rfl) rfl))
      exact AllReadyIn.nil
    have hS1234 : ∀ (listed : Array Bool) (a : Act), listed = #[false, true, true, true, true, false, false, false, false] → a = ({ tmps := #[Value.string s, undef, Value.pointer (some ⟨N, 0, none⟩), Value.bool true, Value.func (.func 85) #[] #[.pointer (some ⟨R, 0, none⟩), .pointer (some ⟨Q, 0, none⟩)], Value.int .i64 (bb : Int), Value.int .i64 (ff : Int), Value.tuple #[Value.func (.func 85) #[] #[.pointer (some ⟨R, 0, none⟩), .pointer (some ⟨Q, 0, none⟩)], .bool true], Value.string s, Value.tuple #[Value.func (.func 85) #[] #[.pointer (some ⟨R, 0, none⟩), .pointer (some ⟨Q, 0, none⟩)], .bool true], Value.func (.func 85) #[] #[.pointer (some ⟨R, 0, none⟩), .pointer (some ⟨Q, 0, none⟩)], Value.bool true, Value.bool true, Value.bool false, Value.map (some w1.heap.size), Value.func (.func 85) #[] #[.pointer (some ⟨R, 0, none⟩), .pointer (some ⟨Q, 0, none⟩)], Value.int .i64 (bb : Int), Value.int .i64 (ff : Int), undef, Value.int .i64 (ff : Int), Value.map (some m), Value.int .i64 (ff : Int), Value.slice sa nn sc, undef, undef, undef, undef], defers := [] } : Act) → G 5 listed a WA := by
      rintro listed a rfl rfl
      refine hG _ _ _ _ (wpAnyIn_ready (rs := [0, 5]) (by kernel_rfl) (by simp) ?_)
      refine AllReadyIn.cons rfl (fun K hK => ?_) ?_
      · go_simp
        exact hK _ _ (hG' _ _ _ _ (hS01234 _ _ (by kernel_rfl) rfl))
      refine AllReadyIn.cons rfl (fun K hK => ?_) ?_
      · go_simp
        exact hK _ _ (hG' _ _ _ _ (hS12345 _ _ (by kernel_rfl) rfl))
      exact AllReadyIn.nil
    have hS12356 : ∀ (listed : Array Bool) (a : Act), listed = #[false, true, true, true, false, true, true, false, false] → a = ({ tmps := #[Value.string s, undef, Value.pointer (some ⟨N, 0, none⟩), Value.bool true, Value.func (.func 85) #[] #[.pointer (some ⟨R, 0, none⟩), .pointer (some ⟨Q, 0, none⟩)], Value.int .i64 (bb : Int), Value.int .i64 (ff : Int), Value.tuple #[Value.func (.func 85) #[] #[.pointer (some ⟨R, 0, none⟩), .pointer (some ⟨Q, 0, none⟩)], .bool true], Value.string s, Value.tuple #[Value.func (.func 85) #[] #[.pointer (some ⟨R, 0, none⟩), .pointer (some ⟨Q, 0, none⟩)], .bool true], Value.func (.func 85) #[] #[.pointer (some ⟨R, 0, none⟩), .pointer (some ⟨Q, 0, none⟩)], Value.bool true, Value.bool true, Value.bool false, Value.map (some w1.heap.size), Value.func (.func 85) #[] #[.pointer (some ⟨R, 0, none⟩), .pointer (some ⟨Q, 0, none⟩)], Value.int .i64 (bb : Int), Value.int .i64 (ff : Int), undef, Value.int .i64 (ff : Int), Value.map (some m), Value.int .i64 (ff : Int), undef, Value.int .i64 (bb : Int), Value.slice (some ⟨WA.heap.size, 0, none⟩) 1 1, undef, undef], defers := [] } : Act) → G 4 listed a (WA.alloc (.cells #[.int .i64 (bb : Int)] 3)) := by
      rintro listed a rfl rfl
      refine hG _ _ _ _ (wpAnyIn_ready (rs := [0, 4]) (by kernel_rfl) (by simp) ?_)
      refine AllReadyIn.cons rfl (fun K hK => ?_) ?_
      · go_simp
        exact hK _ _ (hG' _ _ _ _ (hS012356 _ _ (by kernel_rfl) rfl))
      refine AllReadyIn.cons rfl (fun K hK => ?_) ?_
      · go_simp
        exact hK _ _ (hG' _ _ _ _ (hS123456 _ _ (by kernel_rfl) rfl))
      exact AllReadyIn.nil
    have hS1235 : ∀ (listed : Array Bool) (a : Act), listed = #[false, true, true, true, false, true, false, false, false] → a = ({ tmps := #[Value.string s, undef, Value.pointer (some ⟨N, 0, none⟩), Value.bool true, Value.func (.func 85) #[] #[.pointer (some ⟨R, 0, none⟩), .pointer (some ⟨Q, 0, none⟩)], Value.int .i64 (bb : Int), Value.int .i64 (ff : Int), Value.tuple #[Value.func (.func 85) #[] #[.pointer (some ⟨R, 0, none⟩), .pointer (some ⟨Q, 0, none⟩)], .bool true], Value.string s, Value.tuple #[Value.func (.func 85) #[] #[.pointer (some ⟨R, 0, none⟩), .pointer (some ⟨Q, 0, none⟩)], .bool true], Value.func (.func 85) #[] #[.pointer (some ⟨R, 0, none⟩), .pointer (some ⟨Q, 0, none⟩)], Value.bool true, Value.bool true, Value.bool false, Value.map (some w1.heap.size), Value.func (.func 85) #[] #[.pointer (some ⟨R, 0, none⟩), .pointer (some ⟨Q, 0, none⟩)], Value.int .i64 (bb : Int), Value.int .i64 (ff : Int), undef, Value.int .i64 (ff : Int), Value.map (some m), Value.int .i64 (ff : Int), undef, Value.int .i64 (bb : Int), undef, undef, undef], defers := [] } : Act) → G 5 listed a WA := by
      rintro listed a rfl rfl
      refine hG _ _ _ _ (wpAnyIn_ready (rs := [0, 4, 6]) (by kernel_rfl) (by simp) ?_)
      refine AllReadyIn.cons rfl (fun K hK => ?_) ?_
      · go_simp
        exact hK _ _ (hG' _ _ _ _ (hS01235 _ _ (by kernel_rfl) rfl))
      refine AllReadyIn.cons rfl (fun K hK => ?_) ?_
      · go_simp
        exact hK _ _ (hG' _ _ _ _ (hS12345 _ _ (by kernel_rfl) rfl))
      refine AllReadyIn.cons rfl (fun K hK => ?_) ?_
      · go_simp
        exact hK _ _ (hG' _ _ _ _ (hS12356 _ _ (by kernel_rfl) rfl))
      exact AllReadyIn.nil
    have hS123 : ∀ (listed : Array Bool) (a : Act), listed = #[false, true, true, true, false, false, false, false, false] → a = ({ tmps := #[Value.string s, undef, Value.pointer (some ⟨N, 0, none⟩), Value.bool true, Value.func (.func 85) #[] #[.pointer (some ⟨R, 0, none⟩), .pointer (some ⟨Q, 0, none⟩)], Value.int .i64 (bb : Int), Value.int .i64 (ff : Int), Value.tuple #[Value.func (.func 85) #[] #[.pointer (some ⟨R, 0, none⟩), .pointer (some ⟨Q, 0, none⟩)], .bool true], Value.string s, Value.tuple #[Value.func (.func 85) #[] #[.pointer (some ⟨R, 0, none⟩), .pointer (some ⟨Q, 0, none⟩)], .bool true], Value.func (.func 85) #[] #[.pointer (some ⟨R, 0, none⟩), .pointer (some ⟨Q, 0, none⟩)], Value.bool true, Value.bool true, Value.bool false, Value.map (some w1.heap.size), Value.func (.func 85) #[] #[.pointer (some ⟨R, 0, none⟩), .pointer (some ⟨Q, 0, none⟩)], Value.int .i64 (bb : Int), Value.int .i64 (ff : Int), undef, Value.int .i64 (ff : Int), Value.map (some m), Value.int .i64 (ff : Int), undef, undef, undef, undef, undef], defers := [] } : Act) → G 6 listed a WA := by
      rintro listed a rfl rfl
      refine hG _ _ _ _ (wpAnyIn_ready (rs := [0, 4, 5]) (by kernel_rfl) (by simp) ?_)
      refine AllReadyIn.cons rfl (fun K hK => ?_) ?_
      · go_simp
        exact hK _ _ (hG' _ _ _ _ (hS0123 _ _ (by kernel_rfl) rfl))
      refine AllReadyIn.cons rfl (fun K hK => ?_) ?_
      · go_simp
        exact hK _ _ (hG' _ _ _ _ (hS1234 _ _ (by kernel_rfl) rfl))
      refine AllReadyIn.cons rfl (fun K hK => ?_) ?_
      · go_simp
        exact hK _ _ (hG' _ _ _ _ (hS1235 _ _ (by kernel_rfl) rfl))
      exact AllReadyIn.nil
    have hS1256 : ∀ (listed : Array Bool) (a : Act), listed = #[false, true, true, false, false, true, true, false, false] → a = ({ tmps := #[Value.string s, undef, Value.pointer (some ⟨N, 0, none⟩), Value.bool true, Value.func (.func 85) #[] #[.pointer (some ⟨R, 0, none⟩), .pointer (some ⟨Q, 0, none⟩)], Value.int .i64 (bb : Int), Value.int .i64 (ff : Int), Value.tuple #[Value.func (.func 85) #[] #[.pointer (some ⟨R, 0, none⟩), .pointer (some ⟨Q, 0, none⟩)], .bool true], Value.string s, Value.tuple #[Value.func (.func 85) #[] #[.pointer (some ⟨R, 0, none⟩), .pointer (some ⟨Q, 0, none⟩)], .bool true], Value.func (.func 85) #[] #[.pointer (some ⟨R, 0, none⟩), .pointer (some ⟨Q, 0, none⟩)], Value.bool true, Value.bool true, Value.bool false, Value.map (some w1.heap.size), Value.func (.func 85) #[] #[.pointer (some ⟨R, 0, none⟩), .pointer (some ⟨Q, 0, none⟩)], Value.int .i64 (bb : Int), Value.int .i64 (ff : Int), undef, Value.int .i64 (ff : Int), Value.map (some m), undef, undef, Value.int .i64 (bb : Int), Value.slice (some ⟨WA.heap.size, 0, none⟩) 1 1, undef, undef], defers := [] } : Act) → G 5 listed a (WA.alloc (.cells #[.int .i64 (bb : Int)] 3)) := by
      rintro listed a rfl rfl
      refine hG _ _ _ _ (wpAnyIn_ready (rs := [0, 3]) (by kernel_rfl) (by simp) ?_)
      refine AllReadyIn.cons rfl (fun K hK => ?_) ?_
      · go_simp
        exact hK _ _ (hG' _ _ _ _ (hS01256 _ _ (by kernel_rfl) rfl))
      refine AllReadyIn.cons rfl (fun K hK => ?_) ?_
      · go_simp
        exact hK _ _ (hG' _ _ _ _ (hS12356 _ _ (by kernel_rfl) rfl))
      exact AllReadyIn.nil
    have hS125 : ∀ (listed : Array Bool) (a : Act), listed = #[false, true, true, false, false, true, false, false, false] → a = ({ tmps := #[Value.string s, undef, Value.pointer (some ⟨N, 0, none⟩), Value.bool true, Value.func (.func 85) #[] #[.pointer (some ⟨R, 0, none⟩), .pointer (some ⟨Q, 0, none⟩)], Value.int .i64 (bb : Int), Value.int .i64 (ff : Int), Value.tuple #[Value.func (.func 85) #[] #[.pointer (some ⟨R, 0, none⟩), .pointer (some ⟨Q, 0, none⟩)], .bool true], Value.string s, Value.tuple #[Value.func (.func 85) #[] #[.pointer (some ⟨R, 0, none⟩), .pointer (some ⟨Q, 0, none⟩)], .bool true], Value.func (.func 85) #[] #[.pointer (some ⟨R, 0, none⟩), .pointer (some ⟨Q, 0, none⟩)], Value.bool true, Value.bool true, Value.bool false, Value.map (some w1.heap.size), Value.func (.func 85) #[] #[.pointer (some ⟨R, 0, none⟩), .pointer (some ⟨Q, 0, none⟩)], Value.int .i64 (bb : Int), Value.int .i64 (ff : Int), undef, Value.int .i64 (ff : Int), Value.map (some m), undef, undef, Value.int .i64 (bb : Int), undef, undef, undef], defers := [] } : Act) → G 6 listed a WA := by
      rintro listed a rfl rfl
      refine hG _ _ _ _ (wpAnyIn_ready (rs := [0, 3, 6]) (by kernel_rfl) (by simp) ?_)
      refine AllReadyIn.cons rfl (fun K hK => ?_) ?_
      · go_simp
        exact hK _ _ (hG' _ _ _ _ (hS0125 _ _ (by kernel_rfl) rfl))
      refine AllReadyIn.cons rfl (fun K hK => ?_) ?_
      · go_simp
        exact hK _ _ (hG' _ _ _ _ (hS1235 _ _ (by kernel_rfl) rfl))
      refine AllReadyIn.cons rfl (fun K hK => ?_) ?_
      · go_simp
        exact hK _ _ (hG' _ _ _ _ (hS1256 _ _ (by kernel_rfl) rfl))
      exact AllReadyIn.nil
    have hS12 : ∀ (listed : Array Bool) (a : Act), listed = #[false, true, true, false, false, false, false, false, false] → a = ({ tmps := #[Value.string s, undef, Value.pointer (some ⟨N, 0, none⟩), Value.bool true, Value.func (.func 85) #[] #[.pointer (some ⟨R, 0, none⟩), .pointer (some ⟨Q, 0, none⟩)], Value.int .i64 (bb : Int), Value.int .i64 (ff : Int), Value.tuple #[Value.func (.func 85) #[] #[.pointer (some ⟨R, 0, none⟩), .pointer (some ⟨Q, 0, none⟩)], .bool true], Value.string s, Value.tuple #[Value.func (.func 85) #[] #[.pointer (some ⟨R, 0, none⟩), .pointer (some ⟨Q, 0, none⟩)], .bool true], Value.func (.func 85) #[] #[.pointer (some ⟨R, 0, none⟩), .pointer (some ⟨Q, 0, none⟩)], Value.bool true, Value.bool true, Value.bool false, Value.map (some w1.heap.size), Value.func (.func 85) #[] #[.pointer (some ⟨R, 0, none⟩), .pointer (some ⟨Q, 0, none⟩)], Value.int .i64 (bb : Int), Value.int .i64 (ff : Int), undef, Value.int .i64 (ff : Int), Value.map (some m), undef, undef, undef, undef, undef, undef], defers := [] } : Act) → G 7 listed a WA := by
      rintro listed a rfl rfl
      refine hG _ _ _ _ (wpAnyIn_ready (rs := [0, 3, 5]) (by kernel_rfl) (by simp) ?_)
      refine AllReadyIn.cons rfl (fun K hK => ?_) ?_
      · go_simp
        exact hK _ _ (hG' _ _ _ _ (hS012 _ _ (by kernel_rfl) rfl))
      refine AllReadyIn.cons rfl (fun K hK => ?_) ?_
      · go_simp
        exact hK _ _ (hG' _ _ _ _ (hS123 _ _ (by kernel_rfl) rfl))
      refine AllReadyIn.cons rfl (fun K hK => ?_) ?_
      · go_simp
        exact hK _ _ (hG' _ _ _ _ (hS125 _ _ (by kernel_rfl) rfl))
      exact AllReadyIn.nil
    have hS1356 : ∀ (listed : Array Bool) (a : Act), listed = #[false, true, false, true, false, true, true, false, false] → a = ({ tmps := #[Value.string s, undef, Value.pointer (some ⟨N, 0, none⟩), Value.bool true, Value.func (.func 85) #[] #[.pointer (some ⟨R, 0, none⟩), .pointer (some ⟨Q, 0, none⟩)], Value.int .i64 (bb : Int), Value.int .i64 (ff : Int), Value.tuple #[Value.func (.func 85) #[] #[.pointer (some ⟨R, 0, none⟩), .pointer (some ⟨Q, 0, none⟩)], .bool true], Value.string s, Value.tuple #[Value.func (.func 85) #[] #[.pointer (some ⟨R, 0, none⟩), .pointer (some ⟨Q, 0, none⟩)], .bool true], Value.func (.func 85) #[] #[.pointer (some ⟨R, 0, none⟩), .pointer (some ⟨Q, 0, none⟩)], Value.bool true, Value.bool true, Value.bool false, Value.map (some w1.heap.size), Value.func (.func 85) #[] #[.pointer (some ⟨R, 0, none⟩), .pointer (some ⟨Q, 0, none⟩)], Value.int .i64 (bb : Int), Value.int .i64 (ff : Int), undef, Value.int .i64 (ff : Int), undef, Value.int .i64 (ff : Int), undef, Value.int .i64 (bb : Int), Value.slice (some ⟨WA.heap.size, 0, none⟩) 1 1, undef, undef], defers := [] } : Act) → G 5 listed a (WA.alloc (.cells #[.int .i64 (bb : Int)] 3)) := by
      rintro listed a rfl rfl
      refine hG _ _ _ _ (wpAnyIn_ready (rs := [0, 2]) (by kernel_rfl) (by simp) ?_)
      refine AllReadyIn.cons rfl (fun K hK => ?_) ?_
      · go_simp
        exact hK _ _ (hG' _ _ _ _ (hS01356 _ _ (by kernel_rfl) rfl))
      refine AllReadyIn.cons rfl (fun K hK => ?_) ?_
      · go_simp
        exact hK _ _ (hG' _ _ _ _ (hS12356 _ _ (by kernel_rfl) rfl))
      exact AllReadyIn.nil
    have hS135 : ∀ (listed : Array Bool) (a : Act), listed = #[false, true, false, true, false, true, false, false, false] → a = ({ tmps := #[Value.string s, undef, Value.pointer (some ⟨N, 0, none⟩), Value.bool true, Value.func (.func 85) #[] #[.pointer (some ⟨R, 0, none⟩), .pointer (some ⟨Q, 0, none⟩)], Value.int .i64 (bb : Int), Value.int .i64 (ff : Int), Value.tuple #[Value.func (.func 85) #[] #[.pointer (some ⟨R, 0, none⟩), .pointer (some ⟨Q, 0, none⟩)], .bool true], Value.string s, Value.tuple #[Value.func (.func 85) #[] #[.pointer (some ⟨R, 0, none⟩), .pointer (some ⟨Q, 0, none⟩)], .bool true], Value.func (.func 85) #[] #[.pointer (some ⟨R, 0, none⟩), .pointer (some ⟨Q, 0, none⟩)], Value.bool true, Value.bool true, Value.bool false, Value.map (some w1.heap.size), Value.func (.func 85) #[] #[.pointer (some ⟨R, 0, none⟩), .pointer (some ⟨Q, 0, none⟩)], Value.int .i64 (bb : Int), Value.int .i64 (ff : Int), undef, Value.int .i64 (ff : Int), undef, Value.int .i64 (ff : Int), undef, Value.int .i64 (bb : Int), undef, undef, undef], defers := [] } : Act) → G 6 listed a WA := by
      rintro listed a rfl rfl
      refine hG _ _ _ _ (wpAnyIn_ready (rs := [0, 2, 6]) (by kernel_rfl) (by simp) ?_)
      refine AllReadyIn.cons rfl (fun K hK => ?_) ?_
      · go_simp
        exact hK _ _ (hG' _ _ _ _ (hS0135 _ _ (by kernel_rfl) rfl))
      refine AllReadyIn.cons rfl (fun K hK => ?_) ?_
      · go_simp
        exact hK _ _ (hG' _ _ _ _ (hS1235 _ _ (by kernel_rfl) rfl))
      refine AllReadyIn.cons rfl (fun K hK => ?_) ?_
      · go_simp
        exact hK _ _ (hG' _ _ _ _ (hS1356 _ _ (by kernel_rfl) rfl))
      exact AllReadyIn.nil
    have hS13 : ∀ (listed : Array Bool) (a : Act), listed = #[false, true, false, true, false, false, false, false, false] → a = ({ tmps := #[Value.string s, undef, Value.pointer (some ⟨N, 0, none⟩), Value.bool true, Value.func (.func 85) #[] #[.pointer (some ⟨R, 0, none⟩), .pointer (some ⟨Q, 0, none⟩)], Value.int .i64 (bb : Int), Value.int .i64 (ff : Int), Value.tuple #[Value.func (.func 85) #[] #[.pointer (some ⟨R, 0, none⟩), .pointer (some ⟨Q, 0, none⟩)], .bool true], Value.string s, Value.tuple #[Value.func (.func 85) #[] #[.pointer (some ⟨R, 0, none⟩), .pointer (some ⟨Q, 0, none⟩)], .bool true], Value.func (.func 85) #[] #[.pointer (some ⟨R, 0, none⟩), .pointer (some ⟨Q, 0, none⟩)], Value.bool true, Value.bool true, Value.bool false, Value.map (some w1.heap.size), Value.func (.func 85) #[] #[.pointer (some ⟨R, 0, none⟩), .pointer (some ⟨Q, 0, none⟩)], Value.int .i64 (bb : Int), Value.int .i64 (ff : Int), undef, Value.int .i64 (ff : Int), undef, Value.int .i64 (ff : Int), undef, undef, undef, undef, undef], defers := [] } : Act) → G 7 listed a WA := by
      rintro listed a rfl rfl
      refine hG _ _ _ _ (wpAnyIn_ready (rs := [0, 2, 5]) (by kernel_rfl) (by simp) ?_)
      refine AllReadyIn.cons rfl (fun K hK => ?_) ?_
      · go_simp
        exact hK _ _ (hG' _ _ _ _ (hS013 _ _ (by kernel_rfl) rfl))
      refine AllReadyIn.cons rfl (fun K hK => ?_) ?_
      · go_simp
        exact hK _ _ (hG' _ _ _ _ (hS123 _ _ (by kernel_rfl) rfl))
      refine AllReadyIn.cons rfl (fun K hK => ?_) ?_
      · go_simp
        exact hK _ _ (hG' _ _ _ _ (hS135 _ _ (by kernel_rfl) rfl))
      exact AllReadyIn.nil
    have hS156 : ∀ (listed : Array Bool) (a : Act), listed = #[false, true, false, false, false, true, true, false, false] → a = ({ tmps := #[Value.string s, undef, Value.pointer (some ⟨N, 0, none⟩), Value.bool true, Value.func (.func 85) #[] #[.pointer (some ⟨R, 0, none⟩), .pointer (some ⟨Q, 0, none⟩)], Value.int .i64 (bb : Int), Value.int .i64 (ff : Int), Value.tuple #[Value.func (.func 85) #[] #[.pointer (some ⟨R, 0, none⟩), .pointer (some ⟨Q, 0, none⟩)], .bool true], Value.string s, Value.tuple #[Value.func (.func 85) #[] #[.pointer (some ⟨R, 0, none⟩), .pointer (some ⟨Q, 0, none⟩)], .bool true], Value.func (.func 85) #[] #[.pointer (some ⟨R, 0, none⟩), .pointer (some ⟨Q, 0, none⟩)], Value.bool true, Value.bool true, Value.bool false, Value.map (some w1.heap.size), Value.func (.func 85) #[] #[.pointer (some ⟨R, 0, none⟩), .pointer (some ⟨Q, 0, none⟩)], Value.int .i64 (bb : Int), Value.int .i64 (ff : Int), undef, Value.int .i64 (ff : Int), undef, undef, undef, Value.int .i64 (bb : Int), Value.slice (some ⟨WA.heap.size, 0, none⟩) 1 1, undef, undef], defers := [] } : Act) → G 6 listed a (WA.alloc (.cells #[.int .i64 (bb : Int)] 3)) := by
      rintro listed a rfl rfl
      refine hG _ _ _ _ (wpAnyIn_ready (rs := [0, 2, 3]) (by kernel_rfl) (by simp) ?_)
      refine AllReadyIn.cons rfl (fun K hK => ?_) ?_
      · go_simp
        exact hK _ _ (hG' _ _ _ _ (hS0156 _ _ (by kernel_rfl) rfl))
      refine AllReadyIn.cons rfl (fun K hK => ?_) ?_
      · go_simp
        exact hK _ _ (hG' _ _ _ _ (hS1256 _ _ (by kernel_rfl) rfl))
      refine AllReadyIn.cons rfl (fun K hK => ?_) ?_
      · go_simp
        exact hK _ _ (hG' _ _ _ _ (hS1356 _ _ (by kernel_rfl) rfl))
      exact AllReadyIn.nil
    have hS15 : ∀ (listed : Array Bool) (a : Act), listed = #[false, true, false, false, false, true, false, false, false] → a = ({ tmps := #[Value.string s, undef, Value.pointer (some ⟨N, 0, none⟩), Value.bool true, Value.func (.func 85) #[] #[.pointer (some ⟨R, 0, none⟩), .pointer (some ⟨Q, 0, none⟩)], Value.int .i64 (bb : Int), Value.int .i64 (ff : Int), Value.tuple #[Value.func (.func 85) #[] #[.pointer (some ⟨R, 0, none⟩), .pointer (some ⟨Q, 0, none⟩)], .bool true], Value.string s, Value.tuple #[Value.func (.func 85) #[] #[.pointer (some ⟨R, 0, none⟩), .pointer (some ⟨Q, 0, none⟩)], .bool true], Value.func (.func 85) #[] #[.pointer (some ⟨R, 0, none⟩), .pointer (some ⟨Q, 0, none⟩)], Value.bool true, Value.bool true, Value.bool false, Value.map (some w1.heap.size), Value.func (.func 85) #[] #[.pointer (some ⟨R, 0, none⟩), .pointer (some ⟨Q, 0, none⟩)], Value.int .i64 (bb : Int), Value.int .i64 (ff : Int), undef, Value.int .i64 (ff : Int), undef, undef, undef, Value.int .i64 (bb : Int), undef, undef, undef], defers := [] } : Act) → G 7 listed a WA := by
      rintro listed a rfl rfl
      refine hG _ _ _ _ (wpAnyIn_ready (rs := [0, 2, 3, 6]) (by kernel_rfl) (by simp) ?_)
      refine AllReadyIn.cons rfl (fun K hK => ?_) ?_
      · go_simp
        exact hK _ _ (hG' _ _ _ _ (hS015 _ _ (by kernel_rfl) rfl))
      refine AllReadyIn.cons rfl (fun K hK => ?_) ?_
      · go_simp
        exact hK _ _ (hG' _ _ _ _ (hS125 _ _ (by kernel_rfl) rfl))
      refine AllReadyIn.cons rfl (fun K hK => ?_) ?_
      · go_simp
        exact hK _ _ (hG' _ _ _ _ (hS135 _ _ (by kernel_rfl) rfl))
      refine AllReadyIn.cons rfl (fun K hK => ?_) ?_
      · go_simp
        exact hK _ _ (hG' _ _ _ _ (hS156 _ _ (by kernel_rfl) rfl))
      exact AllReadyIn.nil
    have hS1 : ∀ (listed : Array Bool) (a : Act), listed = #[false, true, false, false, false, false, false, false, false] → a = ({ tmps := #[Value.string s, undef, Value.pointer (some ⟨N, 0, none⟩), Value.bool true, Value.func (.func 85) #[] #[.pointer (some ⟨R, 0, none⟩), .pointer (some ⟨Q, 0, none⟩)], Value.int .i64 (bb : Int), Value.int .i64 (ff : Int), Value.tuple #[Value.func (.func 85) #[] #[.pointer (some ⟨R, 0, none⟩), .pointer (some ⟨Q, 0, none⟩)], .bool true], Value.string s, Value.tuple #[Value.func (.func 85) #[] #[.pointer (some ⟨R, 0, none⟩), .pointer (some ⟨Q, 0, none⟩)], .bool true], Value.func (.func 85) #[] #[.pointer (some ⟨R, 0, none⟩), .pointer (some ⟨Q, 0, none⟩)], Value.bool true, Value.bool true, Value.bool false, Value.map (some w1.heap.size), Value.func (.func 85) #[] #[.pointer (some ⟨R, 0, none⟩), .pointer (some ⟨Q, 0, none⟩)], Value.int .i64 (bb : Int), Value.int .i64 (ff : Int), undef, Value.int .i64 (ff : Int), undef, undef, undef, undef, undef, undef, undef], defers := [] } : Act) → G 8 listed a WA := by
      rintro listed a rfl rfl
      refine hG _ _ _ _ (wpAnyIn_ready (rs := [0, 2, 3, 5]) (by kernel_rfl) (by simp) ?_)
      refine AllReadyIn.cons rfl (fun K hK => ?_) ?_
      · go_simp
        exact hK _ _ (hG' _ _ _ _ (hS01 _ _ (by kernel_rfl) rfl))
      refine AllReadyIn.cons rfl (fun K hK => ?_) ?_
      · go_simp
        exact hK _ _ (hG' _ _ _ _ (hS12 _ _ (by kernel_rfl) rfl))
      refine AllReadyIn.cons rfl (fun K hK => ?_) ?_
      · go_simp
        exact hK _ _ (hG' _ _ _ _ (hS13 _ _ (by kernel_rfl) rfl))
      refine AllReadyIn.cons rfl (fun K hK => ?_) ?_
      · go_simp
        exact hK _ _ (hG' _ _ _ _ (hS15 _ _ (by kernel_rfl) rfl))
      exact AllReadyIn.nil
    have hS234567 : ∀ (listed : Array Bool) (a : Act), listed = #[false, false, true, true, true, true, true, true, false] → a = ({ tmps := #[Value.string s, undef, Value.pointer (some ⟨N, 0, none⟩), Value.bool true, Value.func (.func 85) #[] #[.pointer (some ⟨R, 0, none⟩), .pointer (some ⟨Q, 0, none⟩)], Value.int .i64 (bb : Int), Value.int .i64 (ff : Int), Value.tuple #[Value.func (.func 85) #[] #[.pointer (some ⟨R, 0, none⟩), .pointer (some ⟨Q, 0, none⟩)], .bool true], Value.string s, Value.tuple #[Value.func (.func 85) #[] #[.pointer (some ⟨R, 0, none⟩), .pointer (some ⟨Q, 0, none⟩)], .bool true], Value.func (.func 85) #[] #[.pointer (some ⟨R, 0, none⟩), .pointer (some ⟨Q, 0, none⟩)], Value.bool true, Value.bool true, Value.bool false, Value.map (some w1.heap.size), Value.func (.func 85) #[] #[.pointer (some ⟨R, 0, none⟩), .pointer (some ⟨Q, 0, none⟩)], Value.int .i64 (bb : Int), Value.int .i64 (ff : Int), undef, undef, Value.map (some m), Value.int .i64 (ff : Int), Value.slice sa nn sc, Value.int .i64 (bb : Int), Value.slice (some ⟨WA.heap.size, 0, none⟩) 1 1, Value.slice sa' (nn + 1) sc', undef], defers := [] } : Act) → G 3 listed a w' := by
      rintro listed a rfl rfl
      refine hG _ _ _ _ (wpAnyIn_ready (rs := [0, 1]) (by kernel_rfl) (by simp) ?_)
      refine AllReadyIn.cons rfl (fun K hK => ?_) ?_
      · go_simp
        exact hK _ _ (hG' _ _ _ _ (hS0234567 _ _ (by kernel_rfl) rfl))
      refine AllReadyIn.cons rfl (fun K hK => ?_) ?_
      · go_simp
        exact hK _ _ (hG' _ _ _ _ (hS1234567 _ _ (by kernel_rfl) rfl))
      exact AllReadyIn.nil
    have hS23456 : ∀ (listed : Array Bool) (a : Act), listed = #[false, false, true, true, true, true, true, false, false] → a = ({ tmps := #[Value.string s, undef, Value.pointer (some ⟨N, 0, none⟩), Value.bool true, Value.func (.func 85) #[] #[.pointer (some ⟨R, 0, none⟩), .pointer (some ⟨Q, 0, none⟩)], Value.int .i64 (bb : Int), Value.int .i64 (ff : Int), Value.tuple #[Value.func (.func 85) #[] #[.pointer (some ⟨R, 0, none⟩), .pointer (some ⟨Q, 0, none⟩)], .bool true], Value.string s, Value.tuple #[Value.func (.func 85) #[] #[.pointer (some ⟨R, 0, none⟩), .pointer (some ⟨Q, 0, none⟩)], .bool true], Value.func (.func 85) #[] #[.pointer (some ⟨R, 0, none⟩), .pointer (some ⟨Q, 0, none⟩)], Value.bool true, Value.bool true, Value.bool false, Value.map (some w1.heap.size), Value.func (.func 85) #[] #[.pointer (some ⟨R, 0, none⟩), .pointer (some ⟨Q, 0, none⟩)], Value.int .i64 (bb : Int), Value.int .i64 (ff : Int), undef, undef, Value.map (some m), Value.int .i64 (ff : Int), Value.slice sa nn sc, Value.int .i64 (bb : Int), Value.slice (some ⟨WA.heap.size, 0, none⟩) 1 1, undef, undef], defers := [] } : Act) → G 4 listed a (WA.alloc (.cells #[.int .i64 (bb : Int)] 3)) := by
      rintro listed a rfl rfl
      refine hG _ _ _ _ (wpAnyIn_ready (rs := [0, 1, 7]) (by kernel_rfl) (by simp) ?_)
      refine AllReadyIn.cons rfl (fun K hK => ?_) ?_
      · go_simp
        exact hK _ _ (hG' _ _ _ _ (hS023456 _ _ (by kernel_rfl) rfl))
      refine AllReadyIn.cons rfl (fun K hK => ?_) ?_
      · go_simp
        exact hK _ _ (hG' _ _ _ _ (hS123456 _ _ (by kernel_rfl) rfl))
      refine AllReadyIn.cons rfl (fun K hK => ?_) ?_
      · refine stepIn_append_run rfl _ _ _ _ rfl _ _ rfl rfl _ _ hr ?_
        exact hK _ _ (hG' _ _ _ _ (hS234567 _ _ (by kernel_rfl) rfl))
      exact AllReadyIn.nil
    have hS2345 : ∀ (listed : Array Bool) (a : Act), listed = #[false, false, true, true, true, true, false, false, false] → a = ({ tmps := #[Value.string s, undef, Value.pointer (some ⟨N, 0, none⟩), Value.bool true, Value.func (.func 85) #[] #[.pointer (some ⟨R, 0, none⟩), .pointer (some ⟨Q, 0, none⟩)], Value.int .i64 (bb : Int), Value.int .i64 (ff : Int), Value.tuple #[Value.func (.func 85) #[] #[.pointer (some ⟨R, 0, none⟩), .pointer (some ⟨Q, 0, none⟩)], .bool true], Value.string s, Value.tuple #[Value.func (.func 85) #[] #[.pointer (some ⟨R, 0, none⟩), .pointer (some ⟨Q, 0, none⟩)], .bool true], Value.func (.func 85) #[] #[.pointer (some ⟨R, 0, none⟩), .pointer (some ⟨Q, 0, none⟩)], Value.bool true, Value.bool true, Value.bool false, Value.map (some w1.heap.size), Value.func (.func 85) #[] #[.pointer (some ⟨R, 0, none⟩), .pointer (some ⟨Q, 0, none⟩)], Value.int .i64 (bb : Int), Value.int .i64 (ff : Int), undef, undef, Value.map (some m), Value.int .i64 (ff : Int), Value.slice sa nn sc, Value.int .i64 (bb : Int), undef, undef, undef], defers := [] } : Act) → G 5 listed a WA := by
      rintro listed a rfl rfl
      refine hG _ _ _ _ (wpAnyIn_ready (rs := [0, 1, 6]) (by kernel_rfl) (by simp) ?_)
      refine AllReadyIn.cons rfl (fun K hK => ?_) ?_
      · go_simp
        exact hK _ _ (hG' _ _ _ _ (hS02345 _ _ (by kernel_rfl) rfl))
      refine AllReadyIn.cons rfl (fun K hK => ?_) ?_
      · go_simp
        exact hK _ _ (hG' _ _ _ _ (hS12345 _ _ (by kernel_rfl) rfl))
      refine AllReadyIn.cons rfl (fun K hK => ?_) ?_
      · go_simp
        exact hK _ _ (hG' _ _ _ _ (hS23456 _ _ (by kernel_rfl) rfl))
      exact AllReadyIn.nil
    have hS234 : ∀ (listed : Array Bool) (a : Act), listed = #[false, false, true, true, true, false, false, false, false] → a = ({ tmps := #[Value.string s, undef, Value.pointer (some ⟨N, 0, none⟩), Value.bool true, Value.func (.func 85) #[] #[.pointer (some ⟨R, 0, none⟩), .pointer (some ⟨Q, 0, none⟩)], Value.int .i64 (bb : Int), Value.int .i64 (ff : Int), Value.tuple #[Value.func (.func 85) #[] #[.pointer (some ⟨R, 0, none⟩), .pointer (some ⟨Q, 0, none⟩)], .bool true], Value.string s, Value.tuple #[Value.func (.func 85) #[] #[.pointer (some ⟨R, 0, none⟩), .pointer (some ⟨Q, 0, none⟩)], .bool true], Value.func (.func 85) #[] #[.pointer (some ⟨R, 0, none⟩), .pointer (some ⟨Q, 0, none⟩)], Value.bool true, Value.bool true, Value.bool false, Value.map (some w1.heap.size), Value.func (.func 85) #[] #[.pointer (some ⟨R, 0, none⟩), .pointer (some ⟨Q, 0, none⟩)], Value.int .i64 (bb : Int), Value.int .i64 (ff : Int), undef, undef, Value.map (some m), Value.int .i64 (ff : Int), Value.slice sa nn sc, undef, undef, undef, undef], defers := [] } : Act) → G 6 listed a WA := by
      rintro listed a rfl rfl
      refine hG _ _ _ _ (wpAnyIn_ready (rs := [0, 1, 5]) (by kernel_rfl) (by simp) ?_)
      refine AllReadyIn.cons rfl (fun K hK => ?_) ?_
      · go_simp
        exact hK _ _ (hG' _ _ _ _ (hS0234 _ _ (by kernel_rfl) rfl))
      refine AllReadyIn.cons rfl (fun K hK => ?_) ?_
      · go_simp
        exact hK _ _ (hG' _ _ _ _ (hS1234 _ _ (by kernel_rfl) rfl))
      refine AllReadyIn.cons rfl (fun K hK => ?_) ?_
      · go_simp
        exact hK _ _ (hG' _ _ _ _ (hS2345 _ _ (by kernel_rfl) rfl))
      exact AllReadyIn.nil
    have hS2356 : ∀ (listed : Array Bool) (a : Act), listed = #[false, false, true, true, false, true, true, false, false] → a = ({ tmps := #[Value.string s, undef, Value.pointer (some ⟨N, 0, none⟩), Value.bool true, Value.func (.func 85) #[] #[.pointer (some ⟨R, 0, none⟩), .pointer (some ⟨Q, 0, none⟩)], Value.int .i64 (bb : Int), Value.int .i64 (ff : Int), Value.tuple #[Value.func (.func 85) #[] #[.pointer (some ⟨R, 0, none⟩), .pointer (some ⟨Q, 0, none⟩)], .bool true], Value.string s, Value.tuple #[Value.func (.func 85) #[] #[.pointer (some ⟨R, 0, none⟩), .pointer (some ⟨Q, 0, none⟩)], .bool true], Value.func (.func 85) #[] #[.pointer (some ⟨R, 0, none⟩), .pointer (some ⟨Q, 0, none⟩)], Value.bool true, Value.bool true, Value.bool false, Value.map (some w1.heap.size), Value.func (.func 85) #[] #[.pointer (some ⟨R, 0, none⟩), .pointer (some ⟨Q, 0, none⟩)], Value.int .i64 (bb : Int), Value.int .i64 (ff : Int), undef, undef, Value.map (some m), Value.int .i64 (ff : Int), undef, Value.int .i64 (bb : Int), Value.slice (some ⟨WA.heap.size, 0, none⟩) 1 1, undef, undef], defers := [] } : Act) → G 5 listed a (WA.alloc (.cells #[.int .i64 (bb : Int)] 3)) := by
      rintro listed a rfl rfl
      refine hG _ _ _ _ (wpAnyIn_ready (rs := [0, 1, 4]) (by kernel_rfl) (by simp) ?_)
      refine AllReadyIn.cons rfl (fun K hK => ?_) ?_
      · go_simp
        exact hK _ _ (hG' _ _ _ _ (hS02356 _ _ (by kernel_rfl) rfl))
      refine AllReadyIn.cons rfl (fun K hK => ?_) ?_
      · go_simp
        exact hK _ _ (hG' _ _ _ _ (hS12356 _ _ (by kernel_rfl) rfl))
      refine AllReadyIn.cons rfl (fun K hK => ?_) ?_
      · go_simp
        exact hK _ _ (hG' _ _ _ _ (hS23456 _ _ (by kernel_rfl) rfl))
      exact AllReadyIn.nil
    have hS235 : ∀ (listed : Array Bool) (a : Act), listed = #[false, false, true, true, false, true, false, false, false] → a = ({ tmps := #[Value.string s, undef, Value.pointer (some ⟨N, 0, none⟩), Value.bool true, Value.func (.func 85) #[] #[.pointer (some ⟨R, 0, none⟩), .pointer (some ⟨Q, 0, none⟩)], Value.int .i64 (bb : Int), Value.int .i64 (ff : Int), Value.tuple #[Value.func (.func 85) #[] #[.pointer (some ⟨R, 0, none⟩), .pointer (some ⟨Q, 0, none⟩)], .bool true], Value.string s, Value.tuple #[Value.func (.func 85) #[] #[.pointer (some ⟨R, 0, none⟩), .pointer (some ⟨Q, 0, none⟩)], .bool true], Value.func (.func 85) #[] #[.pointer (some ⟨R, 0, none⟩), .pointer (some ⟨Q, 0, none⟩)], Value.bool true, Value.bool true, Value.bool false, Value.map (some w1.heap.size), Value.func (.func 85) #[] #[.pointer (some ⟨R, 0, none⟩), .pointer (some ⟨Q, 0, none⟩)], Value.int .i64 (bb : Int), Value.int .i64 (ff : Int), undef, undef, Value.map (some m), Value.int .i64 (ff : Int), undef, Value.int .i64 (bb : Int), undef, undef, undef], defers := [] } : Act) → G 6 listed a WA := by
      rintro listed a rfl rfl
      refine hG _ _ _ _ (wpAnyIn_ready (rs := [0, 1, 4, 6]) (by kernel_rfl) (by simp) ?_)
      refine AllReadyIn.cons rfl (fun K hK => ?_) ?_
      · go_simp
        exact hK _ _ (hG' _ _ _ _ (hS0235 _ _ (by kernel_rfl) rfl))
      refine AllReadyIn.cons rfl (fun K hK => ?_) ?_
      · go_simp
        exact hK _ _ (hG' _ _ _ _ (hS1235 _ _ (by kernel_rfl) rfl))
      refine AllReadyIn.cons rfl (fun K hK => ?_) ?_
      · go_simp
        exact hK _ _ (hG' _ _ _ _ (hS2345 _ _ (by kernel_rfl) rfl))
      refine AllReadyIn.cons rfl (fun K hK => ?_) ?_
      · go_simp
        exact hK _ _ (hG' _ _ _ _ (hS2356 _ _ (by kernel_rfl) rfl))
      exact AllReadyIn.nil
    have hS23 : ∀ (listed : Array Bool) (a : Act), listed = #[false, false, true, true, false, false, false, false, false] → a = ({ tmps := #[Value.string s, undef, Value.pointer (some ⟨N, 0, none⟩), Value.bool true, Value.func (.func 85) #[] #[.pointer (some ⟨R, 0, none⟩), .pointer (some ⟨Q, 0, none⟩)], Value.int .i64 (bb : Int), Value.int .i64 (ff : Int), Value.tuple #[Value.func (.func 85) #[] #[.pointer (some ⟨R, 0, none⟩), .pointer (some ⟨Q, 0, none⟩)], .bool true], Value.string s, Value.tuple #[Value.func (.func 85) #[] #[.pointer (some ⟨R, 0, none⟩), .pointer (some ⟨Q, 0, none⟩)], .bool true], Value.func (.func 85) #[] #[.pointer (some ⟨R, 0, none⟩), .pointer (some ⟨Q, 0, none⟩)], Value.bool true, Value.bool true, Value.bool false, Value.map (some w1.heap.size), Value.func (.func 85) #[] #[.pointer (some ⟨R, 0, none⟩), .pointer (some ⟨Q, 0, none⟩)], Value.int .i64 (bb : Int), Value.int .i64 (ff : Int), undef, undef, Value.map (some m), Value.int .i64 (ff : Int), undef, undef, undef, undef, undef], defers := [] } : Act) → G 7 listed a WA := by
      rintro listed a rfl rfl
      refine hG _ _ _ _ (wpAnyIn_ready (rs := [0, 1, 4, 5]) (by kernel_rfl) (by simp) ?_)
      refine AllReadyIn.cons rfl (fun K hK => ?_) ?_
      · go_simp
        exact hK _ _ (hG' _ _ _ _ (hS023 _ _ (by kernel_rfl) rfl))
      refine AllReadyIn.cons rfl (fun K hK => ?_) ?_
      · go_simp
        exact hK _ _ (hG' _ _ _ _ (hS123 _ _ (by kernel_rfl) rfl))
      refine AllReadyIn.cons rfl (fun K hK => ?_) ?_
      · go_simp
        exact hK _ _ (hG' _ _ _ _ (hS234 _ _ (by kernel_rfl) rfl))
      refine AllReadyIn.cons rfl (fun K hK => ?_) ?_
      · go_simp
        exact hK _ _ (hG' _ _ _ _ (hS235 _ _ (by kernel_rfl) rfl))
      exact AllReadyIn.nil
    have hS256 : ∀ (listed : Array Bool) (a : Act), listed = #[false, false, true, false, false, true, true, false, false] → a = ({ tmps := #[Value.string s, undef, Value.pointer (some ⟨N, 0, none⟩), Value.bool true, Value.func (.func 85) #[] #[.pointer (some ⟨R, 0, none⟩), .pointer (some ⟨Q, 0, none⟩)], Value.int .i64 (bb : Int), Value.int .i64 (ff : Int), Value.tuple #[Value.func (.func 85) #[] #[.pointer (some ⟨R, 0, none⟩), .pointer (some ⟨Q, 0, none⟩)], .bool true], Value.string s, Value.tuple #[Value.func (.func 85) #[] #[.pointer (some ⟨R, 0, none⟩), .pointer (some ⟨Q, 0, none⟩)], .bool true], Value.func (.func 85) #[] #[.pointer (some ⟨R, 0, none⟩), .pointer (some ⟨Q, 0, none⟩)], Value.bool true, Value.bool true, Value.bool false, Value.map (some w1.heap.size), Value.func (.func 85) #[] #[.pointer (some ⟨R, 0, none⟩), .pointer (some ⟨Q, 0, none⟩)], Value.int .i64 (bb : Int), Value.int .i64 (ff : Int), undef, undef, Value.map (some m), undef, undef, Value.int .i64 (bb : Int), Value.slice (some ⟨WA.heap.size, 0, none⟩) 1 1, undef, undef], defers := [] } : Act) → G 6 listed a (WA.alloc (.cells #[.int .i64 (bb : Int)] 3)) := by
      rintro listed a rfl rfl
      refine hG _ _ _ _ (wpAnyIn_ready (rs := [0, 1, 3]) (by kernel_rfl) (by simp) ?_)
      refine AllReadyIn.cons rfl (fun K hK => ?_) ?_
      · go_simp
        exact hK _ _ (hG' _ _ _ _ (hS0256 _ _ (by kernel_rfl) rfl))
      refine AllReadyIn.cons rfl (fun K hK => ?_) ?_
      · go_simp
        exact hK _ _ (hG' _ _ _ _ (hS1256 _ _ (by kernel_rfl) rfl))
      refine AllReadyIn.cons rfl (fun K hK => ?_) ?_
      · go_simp
        exact hK _ _ (hG' _ _ _ _ (hS2356 _ _ (by kernel_rfl) rfl))
      exact AllReadyIn.nil
    have hS25 : ∀ (listed : Array Bool) (a : Act), listed = #[false, false, true, false, false, true, false, false, false] → a = ({ tmps := #[Value.string s, undef, Value.pointer (some ⟨N, 0, none⟩), Value.bool true, Value.func (.func 85) #[] #[.pointer (some ⟨R, 0, none⟩), .pointer (some ⟨Q, 0, none⟩)], Value.int .i64 (bb : Int), Value.int .i64 (ff : Int), Value.tuple #[Value.func (.func 85) #[] #[.pointer (some ⟨R, 0, none⟩), .pointer (some ⟨Q, 0, none⟩)], .bool true], Value.string s, Value.tuple #[Value.func (.func 85) #[] #[.pointer (some ⟨R, 0, none⟩), .pointer (some ⟨Q, 0, none⟩)], .bool true], Value.func (.func 85) #[] #[.pointer (some ⟨R, 0, none⟩), .pointer (some ⟨Q, 0, none⟩)], Value.bool true, Value.bool true, Value.bool false, Value.map (some w1.heap.size), Value.func (.func 85) #[] #[.pointer (some ⟨R, 0, none⟩), .pointer (some ⟨Q, 0, none⟩)], Value.int .i64 (bb : Int), Value.int .i64 (ff : Int), undef, undef, Value.map (some m), undef, undef, Value.int .i64 (bb : Int), undef, undef, undef], defers := [] } : Act) → G 7 listed a WA := by
      rintro listed a rfl rfl
      refine hG _ _ _ _ (wpAnyIn_ready (rs := [0, 1, 3, 6]) (by kernel_rfl) (by simp) ?_)
      refine AllReadyIn.cons rfl (fun K hK => ?_) ?_
      · go_simp
        exact hK _ _ (hG' _ _ _ _ (hS025 _ _ (by kernel_rfl) rfl))
      refine AllReadyIn.cons rfl (fun K hK => ?_) ?_
      · go_simp
        exact hK _ _ (hG' _ _ _ _ (hS125 _ _ (by kernel_rfl) rfl))
      refine AllReadyIn.cons rfl (fun K hK => ?_) ?_
      · go_simp
        exact hK _ _ (hG' _ _ _ _ (hS235 _ _ (by kernel_rfl) rfl))
      refine AllReadyIn.cons rfl (fun K hK => ?_) ?_
      · go_simp
        exact hK _ _ (hG' _ _ _ _ (hS256 _ _ (by kernel_rfl) rfl))
      exact AllReadyIn.nil
    have hS2 : ∀ (listed : Array Bool) (a : Act), listed = #[false, false, true, false, false, false, false, false, false] → a = ({ tmps := #[Value.string s, undef, Value.pointer (some ⟨N, 0, none⟩), Value.bool true, Value.func (.func 85) #[] #[.pointer (some ⟨R, 0, none⟩), .pointer (some ⟨Q, 0, none⟩)], Value.int .i64 (bb : Int), Value.int .i64 (ff : Int), Value.tuple #[Value.func (.func 85) #[] #[.pointer (some ⟨R, 0, none⟩), .pointer (some ⟨Q, 0, none⟩)], .bool true], Value.string s, Value.tuple #[Value.func (.func 85) #[] #[.pointer (some ⟨R, 0, none⟩), .pointer (some ⟨Q, 0, none⟩)], .bool true], Value.func (.func 85) #[] #[.pointer (some ⟨R, 0, none⟩), .pointer (some ⟨Q, 0, none⟩)], Value.bool true, Value.bool true, Value.bool false, Value.map (some w1.heap.size), Value.func (.func 85) #[] #[.pointer (some ⟨R, 0, none⟩), .pointer (some ⟨Q, 0, none⟩)], Value.int .i64 (bb : Int), Value.int .i64 (ff : Int), undef, undef, Value.map (some m), undef, undef, undef, undef, undef, undef], defers := [] } : Act) → G 8 listed a WA := by
      rintro listed a rfl rfl
      refine hG _ _ _ _ (wpAnyIn_ready (rs := [0, 1, 3, 5]) (by kernel_rfl) (by simp) ?_)
      refine AllReadyIn.cons rfl (fun K hK => ?_) ?_
      · go_simp
        exact hK _ _ (hG' _ _ _ _ (hS02 _ _ (by kernel_rfl) rfl))
      refine AllReadyIn.cons rfl (fun K hK => ?_) ?_
      · go_simp
        exact hK _ _ (hG' _ _ _ _ (hS12 _ _ (by kernel_rfl) rfl))
      refine AllReadyIn.cons rfl (fun K hK => ?_) ?_
      · go_simp
        exact hK _ _ (hG' _ _ _ _ (hS23 _ _ (by kernel_rfl) rfl))
      refine AllReadyIn.cons rfl (fun K hK => ?_) ?_
      · go_simp
        exact hK _ _ (hG' _ _ _ _ (hS25 _ _ (by kernel_rfl) rfl))
      exact AllReadyIn.nil
    have hS356 : ∀ (listed : Array Bool) (a : Act), listed = #[false, false, false, true, false, true, true, false, false] → a = ({ tmps := #[Value.string s, undef, Value.pointer (some ⟨N, 0, none⟩), Value.bool true, Value.func (.func 85) #[] #[.pointer (some ⟨R, 0, none⟩), .pointer (some ⟨Q, 0, none⟩)], Value.int .i64 (bb : Int), Value.int .i64 (ff : Int), Value.tuple #[Value.func (.func 85) #[] #[.pointer (some ⟨R, 0, none⟩), .pointer (some ⟨Q, 0, none⟩)], .bool true], Value.string s, Value.tuple #[Value.func (.func 85) #[] #[.pointer (some ⟨R, 0, none⟩), .pointer (some ⟨Q, 0, none⟩)], .bool true], Value.func (.func 85) #[] #[.pointer (some ⟨R, 0, none⟩), .pointer (some ⟨Q, 0, none⟩)], Value.bool true, Value.bool true, Value.bool false, Value.map (some w1.heap.size), Value.func (.func 85) #[] #[.pointer (some ⟨R, 0, none⟩), .pointer (some ⟨Q, 0, none⟩)], Value.int .i64 (bb : Int), Value.int .i64 (ff : Int), undef, undef, undef, Value.int .i64 (ff : Int), undef, Value.int .i64 (bb : Int), Value.slice (some ⟨WA.heap.size, 0, none⟩) 1 1, undef, undef], defers := [] } : Act) → G 6 listed a (WA.alloc (.cells #[.int .i64 (bb : Int)] 3)) := by
      rintro listed a rfl rfl
      refine hG _ _ _ _ (wpAnyIn_ready (rs := [0, 1, 2]) (by kernel_rfl) (by simp) ?_)
      refine AllReadyIn.cons rfl (fun K hK => ?_) ?_
      · go_simp
        exact hK _ _ (hG' _ _ _ _ (hS0356 _ _ (by kernel_rfl) rfl))
      refine AllReadyIn.cons rfl (fun K hK => ?_) ?_
      · go_simp
        exact hK _ _ (hG' _ _ _ _ (hS1356 _ _ (by kernel_rfl) rfl))
      refine AllReadyIn.cons rfl (fun K hK => ?_) ?_
      · go_simp
        exact hK _ _ (hG' _ _ _ _ (hS2356 _ _ (by kernel_rfl) rfl))
      exact AllReadyIn.nil
    have hS35 : ∀ (listed : Array Bool) (a : Act), listed = #[false, false, false, true, false, true, false, false, false] → a = ({ tmps := #[Value.string s, undef, Value.pointer (some ⟨N, 0, none⟩), Value.bool true, Value.func (.func 85) #[] #[.pointer (some ⟨R, 0, none⟩), .pointer (some ⟨Q, 0, none⟩)], Value.int .i64 (bb : Int), Value.int .i64 (ff : Int), Value.tuple #[Value.func (.func 85) #[] #[.pointer (some ⟨R, 0, none⟩), .pointer (some ⟨Q, 0, none⟩)], .bool true], Value.string s, Value.tuple #[Value.func (.func 85) #[] #[.pointer (some ⟨R, 0, none⟩), .pointer (some ⟨Q, 0, none⟩)], .bool true], Value.func (.func 85) #[] #[.pointer (some ⟨R, 0, none⟩), .pointer (some ⟨Q, 0, none⟩)], Value.bool true, Value.bool true, Value.bool false, Value.map (some w1.heap.size), Value.func (.func 85) #[] #[.pointer (some ⟨R, 0, none⟩), .pointer (some ⟨Q, 0, none⟩)], Value.int .i64 (bb : Int), Value.int .i64 (ff : Int), undef, undef, undef, Value.int .i64 (ff : Int), undef, Value.int .i64 (bb : Int), undef, undef, undef], defers := [] } : Act) → G 7 listed a WA := by
      rintro listed a rfl rfl
      refine hG _ _ _ _ (wpAnyIn_ready (rs := [0, 1, 2, 6]) (by kernel_rfl) (by simp) ?_)
      refine AllReadyIn.cons rfl (fun K hK => ?_) ?_
      · go_simp
        exact hK _ _ (hG' _ _ _ _ (hS035 _ _ (by kernel_rfl) rfl))
      refine AllReadyIn.cons rfl (fun K hK => ?_) ?_
      · go_simp
        exact hK _ _ (hG' _ _ _ _ (hS135 _ _ (by kernel_rfl) rfl))
      refine AllReadyIn.cons rfl (fun K hK => ?_) ?_
      · go_simp
        exact hK _ _ (hG' _ _ _ _ (hS235 _ _ (by kernel_rfl) rfl))
      refine AllReadyIn.cons rfl (fun K hK => ?_) ?_
      · go_simp
        exact hK _ _ (hG' _ _ _ _ (hS356 _ _ (by kernel_rfl) rfl))
      exact AllReadyIn.nil
    have hS3 : ∀ (listed : Array Bool) (a : Act), listed = #[false, false, false, true, false, false, false, false, false] → a = ({ tmps := #[Value.string s, undef, Value.pointer (some ⟨N, 0, none⟩), Value.bool true, Value.func (.func 85) #[] #[.pointer (some ⟨R, 0, none⟩), .pointer (some ⟨Q, 0, none⟩)], Value.int .i64 (bb : Int), Value.int .i64 (ff : Int), Value.tuple #[Value.func (.func 85) #[] #[.pointer (some ⟨R, 0, none⟩), .pointer (some ⟨Q, 0, none⟩)], .bool true], Value.string s, Value.tuple #[Value.func (.func 85) #[] #[.pointer (some ⟨R, 0, none⟩), .pointer (some ⟨Q, 0, none⟩)], .bool true], Value.func (.func 85) #[] #[.pointer (some ⟨R, 0, none⟩), .pointer (some ⟨Q, 0, none⟩)], Value.bool true, Value.bool true, Value.bool false, Value.map (some w1.heap.size), Value.func (.func 85) #[] #[.pointer (some ⟨R, 0, none⟩), .pointer (some ⟨Q, 0, none⟩)], Value.int .i64 (bb : Int), Value.int .i64 (ff : Int), undef, undef, undef, Value.int .i64 (ff : Int), undef, undef, undef, undef, undef], defers := [] } : Act) → G 8 listed a WA := by
      rintro listed a rfl rfl
      refine hG _ _ _ _ (wpAnyIn_ready (rs := [0, 1, 2, 5]) (by kernel_rfl) (by simp) ?_)
      refine AllReadyIn.cons rfl (fun K hK => ?_) ?_
      · go_simp
        exact hK _ _ (hG' _ _ _ _ (hS03 _ _ (by kernel_rfl) rfl))
      refine AllReadyIn.cons rfl (fun K hK => ?_) ?_
      · go_simp
        exact hK _ _ (hG' _ _ _ _ (hS13 _ _ (by kernel_rfl) rfl))
      refine AllReadyIn.cons rfl (fun K hK => ?_) ?_
      · go_simp
        exact hK _ _ (hG' _ _ _ _ (hS23 _ _ (by kernel_rfl) rfl))
      refine AllReadyIn.cons rfl (fun K hK => ?_) ?_
      · go_simp
        exact hK _ _ (hG' _ _ _ _ (hS35 _ _ (by kernel_rfl) rfl))
      exact AllReadyIn.nil
    have hS56 : ∀ (listed : Array Bool) (a : Act), listed = #[false, false, false, false, false, true, true, false, false] → a = ({ tmps := #[Value.string s, undef, Value.pointer (some ⟨N, 0, none⟩), Value.bool true, Value.func (.func 85) #[] #[.pointer (some ⟨R, 0, none⟩), .pointer (some ⟨Q, 0, none⟩)], Value.int .i64 (bb : Int), Value.int .i64 (ff : Int), Value.tuple #[Value.func (.func 85) #[] #[.pointer (some ⟨R, 0, none⟩), .pointer (some ⟨Q, 0, none⟩)], .bool true], Value.string s, Value.tuple #[Value.func (.func 85) #[] #[.pointer (some ⟨R, 0, none⟩), .pointer (some ⟨Q, 0, none⟩)], .bool true], Value.func (.func 85) #[] #[.pointer (some ⟨R, 0, none⟩), .pointer (some ⟨Q, 0, none⟩)], Value.bool true, Value.bool true, Value.bool false, Value.map (some w1.heap.size), Value.func (.func 85) #[] #[.pointer (some ⟨R, 0, none⟩), .pointer (some ⟨Q, 0, none⟩)], Value.int .i64 (bb : Int), Value.int .i64 (ff : Int), undef, undef, undef, undef, undef, Value.int .i64 (bb : Int), Value.slice (some ⟨WA.heap.size, 0, none⟩) 1 1, undef, undef], defers := [] } : Act) → G 7 listed a (WA.alloc (.cells #[.int .i64 (bb : Int)] 3)) := by
      rintro listed a rfl rfl
      refine hG _ _ _ _ (wpAnyIn_ready (rs := [0, 1, 2, 3]) (by kernel_rfl) (by simp) ?_)
      refine AllReadyIn.cons rfl (fun K hK => ?_) ?_
      · go_simp
        exact hK _ _ (hG' _ _ _ _ (hS056 _ _ (by kernel_rfl) rfl))
      refine AllReadyIn.cons rfl (fun K hK => ?_) ?_
      · go_simp
        exact hK _ _ (hG' _ _ _ _ (hS156 _ _ (by kernel_rfl) rfl))
      refine AllReadyIn.cons rfl (fun K hK => ?_) ?_
      · go_simp
        exact hK _ _ (hG' _ _ _ _ (hS256 _ _ (by kernel_rfl) rfl))
      refine AllReadyIn.cons rfl (fun K hK => ?_) ?_
      · go_simp
        exact hK _ _ (hG' _ _ _ _ (hS356 _ _ (by kernel_rfl) rfl))
      exact AllReadyIn.nil
    have hS5 : ∀ (listed : Array Bool) (a : Act), listed = #[false, false, false, false, false, true, false, false, false] → a = ({ tmps := #[Value.string s, undef, Value.pointer (some ⟨N, 0, none⟩), Value.bool true, Value.func (.func 85) #[] #[.pointer (some ⟨R, 0, none⟩), .pointer (some ⟨Q, 0, none⟩)], Value.int .i64 (bb : Int), Value.int .i64 (ff : Int), Value.tuple #[Value.func (.func 85) #[] #[.pointer (some ⟨R, 0, none⟩), .pointer (some ⟨Q, 0, none⟩)], .bool true], Value.string s, Value.tuple #[Value.func (.func 85) #[] #[.pointer (some ⟨R, 0, none⟩), .pointer (some ⟨Q, 0, none⟩)], .bool true], Value.func (.func 85) #[] #[.pointer (some ⟨R, 0, none⟩), .pointer (some ⟨Q, 0, none⟩)], Value.bool true, Value.bool true, Value.bool false, Value.map (some w1.heap.size), Value.func (.func 85) #[] #[.pointer (some ⟨R, 0, none⟩), .pointer (some ⟨Q, 0, none⟩)], Value.int .i64 (bb : Int), Value.int .i64 (ff : Int), undef, undef, undef, undef, undef, Value.int .i64 (bb : Int), undef, undef, undef], defers := [] } : Act) → G 8 listed a WA := by
      rintro listed a rfl rfl
      refine hG _ _ _ _ (wpAnyIn_ready (rs := [0, 1, 2, 3, 6]) (by kernel_rfl) (by simp) ?_)
      refine AllReadyIn.cons rfl (fun K hK => ?_) ?_
      · go_simp
        exact hK _ _ (hG' _ _ _ _ (hS05 _ _ (by kernel_rfl) rfl))
      refine AllReadyIn.cons rfl (fun K hK => ?_) ?_
      · go_simp
        exact hK _ _ (hG' _ _ _ _ (hS15 _ _ (by kernel_rfl) rfl))
      refine AllReadyIn.cons rfl (fun K hK => ?_) ?_
      · go_simp
        exact hK _ _ (hG' _ _ _ _ (hS25 _ _ (by kernel_rfl) rfl))
      refine AllReadyIn.cons rfl (fun K hK => ?_) ?_
      · go_simp
        exact hK _ _ (hG' _ _ _ _ (hS35 _ _ (by kernel_rfl) rfl))
      refine AllReadyIn.cons rfl (fun K hK => ?_) ?_
      · go_simp
        exact hK _ _ (hG' _ _ _ _ (hS56 _ _ (by kernel_rfl) rfl))
      exact AllReadyIn.nil
    have hS : ∀ (listed : Array Bool) (a : Act), listed = #[false, false, false, false, false, false, false, false, false] → a = ({ tmps := #[Value.string s, undef, Value.pointer (some ⟨N, 0, none⟩), Value.bool true, Value.func (.func 85) #[] #[.pointer (some ⟨R, 0, none⟩), .pointer (some ⟨Q, 0, none⟩)], Value.int .i64 (bb : Int), Value.int .i64 (ff : Int), Value.tuple #[Value.func (.func 85) #[] #[.pointer (some ⟨R, 0, none⟩), .pointer (some ⟨Q, 0, none⟩)], .bool true], Value.string s, Value.tuple #[Value.func (.func 85) #[] #[.pointer (some ⟨R, 0, none⟩), .pointer (some ⟨Q, 0, none⟩)], .bool true], Value.func (.func 85) #[] #[.pointer (some ⟨R, 0, none⟩), .pointer (some ⟨Q, 0, none⟩)], Value.bool true, Value.bool true, Value.bool false, Value.map (some w1.heap.size), Value.func (.func 85) #[] #[.pointer (some ⟨R, 0, none⟩), .pointer (some ⟨Q, 0, none⟩)], Value.int .i64 (bb : Int), Value.int .i64 (ff : Int), undef, undef, undef, undef, undef, undef, undef, undef, undef], defers := [] } : Act) → G 9 listed a WA := by
      rintro listed a rfl rfl
      refine hG _ _ _ _ (wpAnyIn_ready (rs := [0, 1, 2, 3, 5]) (by kernel_rfl) (by simp) ?_)
      refine AllReadyIn.cons rfl (fun K hK => ?_) ?_
      · go_simp
        exact hK _ _ (hG' _ _ _ _ (hS0 _ _ (by kernel_rfl) rfl))
      refine AllReadyIn.cons rfl (fun K hK => ?_) ?_
      · go_simp
        exact hK _ _ (hG' _ _ _ _ (hS1 _ _ (by kernel_rfl) rfl))
      refine AllReadyIn.cons rfl (fun K hK => ?_) ?_
      · go_simp
        exact hK _ _ (hG' _ _ _ _ (hS2 _ _ (by kernel_rfl) rfl))
      refine AllReadyIn.cons rfl (fun K hK => ?_) ?_
      · go_simp
        exact hK _ _ (hG' _ _ _ _ (hS3 _ _ (by kernel_rfl) rfl))
      refine AllReadyIn.cons rfl (fun K hK => ?_) ?_
      · go_simp
        exact hK _ _ (hG' _ _ _ _ (hS5 _ _ (by kernel_rfl) rfl))
      exact AllReadyIn.nil
    exact hS _ _ (by kernel_rfl) rfl
  case hdone =>
    rintro D own' W' hb ⟨h3, hom, M, h4, h5, h6, h7⟩
    have hnew := hb.new
    have hs := HS.out
    have hN := HQ.out.2
    have hD2 : D ≠ N := by omega
    have bN := h3.keeps.blk HBB.out (fun e => by have : N = m := e; omega)
    have z0 := bN.free 0
    have y0 : W'.cell? ⟨N, 0, none⟩ = some (.map (some m)) := (bN.cell 0).trans rfl
    have HE : Hid (∀ W2, Keeps (fun k => k ∈ [D]) (W'.setCell ⟨N, 0, none⟩ (.map (some m))) W2 → W2.cell? ⟨N, 0, none⟩ = some (.map (some m)) ∧ ByPost w (some x) (.returned (.tuple #[.map (some m), .bool true])) W2) := fun W2 q => by
      have qs : Keeps (oneB N) W' (W'.setCell ⟨N, 0, none⟩ (.map (some m))) := (Keeps.refl _ _).setCell (p := ⟨N, 0, none⟩) (.inl (show oneB N N from rfl)) _
      have k1 : Keeps noB w W' := HQ.out.1.transNew (((HF2.out _ (Keeps.refl _ _)).mono (fun k e => (Or.inl e : k = N ∨ k = m))).trans (h3.keeps.mono (fun k e => (Or.inr e : k = N ∨ k = m)))) (fun i hi e => by rcases e with e | e <;> omega)
      refine ⟨((q.blk (bN.set 0 (.map (some m))) (fun e => by simp at e; omega)).cell 0).trans rfl, m, M, rfl, (h4.keeps qs (fun e => by have : m = N := e; omega)).keeps q (fun e => by simp at e; omega), fun j => ?_, fun j g hg => by have := (h6 j g hg).2; omega, ?_⟩
      · exact q.ownsRow (qs.ownsRow (h5 j) (fun g hg hl e => by have : g = N := e; have := (h6 j g hg).2; omega)) (fun g hg hl e => by simp at e; subst e; exact hb.free (h6 j g hg).1)
      · exact (k1.setCell (p := ⟨N, 0, none⟩) (.inr (by show w.heap.size ≤ N; omega)) _).transNew q (fun i hi e => by simp at e; omega)
    have hD : (W'.setCell ⟨N, 0, none⟩ (.map (some m))).heap[D]? = some (.deferred (some [])) := by
      rw [Below.heap_setCell _ _ _ _ hD2]
      exact hb.none
    have HD := Lib.hid hD
    clear h3 h4 h5 h6 h7 hb hD hnew hs hN hD2 bN
    dsimp only
    gi_wp2
    refine leaves_marks [D] _ (by simp) (fun D' hD' => by simp at hD'; subst hD'; exact HD.out) (fun W2 q _ => ?_)
    obtain ⟨e1, e2⟩ := HE.out W2 q
    exact ⟨_, resBy W2 _ _ _ _ rfl rfl rfl e1, e2⟩
  case hstop => intro D c pre post own' W' _ _ h; exact h.elim

end Go.Proofs.Ytgpaplhbjhbfjaa

/-
  Walks of the program: placesOf; the iterator over all of a program's places.
  What the program's faces know of each place in a range over a program's places.
  Walks of the program: placeAt.
-/
import Derived.Test.YtccpmhjffcceeaaIuW
import Derived.Test.YtccpmhjffcceeaaIfW
import Derived.Test.YtccpmhjffcceeaaIjW
import Derived.Test.YtccpmhjffcceeaaRtW
namespace Go.Proofs.Ytccpmhjffcceeaa
set_option linter.unusedVariables false
set_option linter.unusedSimpArgs false
open Go.RowKit Go.Shelf

/-- What lay from B on, and no later than the world w. -/
def between (B : Nat) (w : World) : Nat → Prop := fun g => B ≤ g ∧ g < w.heap.size

/-- The iterator over the places of program x: what placesOf hands back. -/
structure PlacesOk (s : ByteArray) (x : Nd) (b0 B : Nat) (w : World) : Prop where
  ok : x.Ok s 0
  root : x.scope = []
  small : s.size ≤ 80
  few : x.pre.len ≤ s.size
  lt : b0 ≤ w.heap.size
  blk : b0 ≤ B
  rep : ∃ v, RepI w (between b0 w) x v ∧ Blk w B #[v, str x.scope, i64 0] 48

def PlacesPost (s : ByteArray) (w : World) (res : Option Nd) (e : Ending) (w' : World) : Prop :=
  match res with
  | none => e = .returned (.tuple #[.nilFunc, .bool false]) ∧ Keeps noB w w'
  | some x => ∃ B, e = .returned (.tuple #[.func (.func 91) #[] #[ptr B], .bool true]) ∧ PlacesOk s x w.heap.size B w' ∧ Keeps noB w w'

theorem places_none (s : ByteArray) (hs : s.size ≤ 1048576) (hp : progP s = none) (w : World) : Calls Try.prog 40 #[.string s] w (PlacesPost s w none) := by
  have HR : Hid (∀ w, Calls Try.prog 46 #[.string s] w (ReadPost w none)) := fun w => by
    have := read_any s hs w; rwa [hp] at this
  clear hp
  go_enter Try.func40, Try.ntmps40
  go_wp2_with fail
  refine (HR.out _).mono ?_
  rintro e w1 ⟨rfl, q1⟩
  go_wp2_with fail
  go_ret2
  exact ⟨rfl, q1⟩

theorem places_some (s : ByteArray) (hs : s.size ≤ 1048576) (x : Nd) (hp : progP s = some x) (w : World) : Calls Try.prog 40 #[.string s] w (PlacesPost s w (some x)) := by
  have HR : Hid (∀ w, Calls Try.prog 46 #[.string s] w (ReadPost w (some x))) := fun w => by
    have := read_any s hs w; rwa [hp] at this
  have HP := Lib.hid hp
  clear hp
  go_enter Try.func40, Try.ntmps40
  go_wp2_with fail
  refine (HR.out _).mono ?_
  rintro e w1 ⟨g, rfl, hr, q1⟩
  have HN := Lib.hid hr
  clear hr
  unfold ptr
  go_wp2_with fail
  refine (placesWithin_any _ _ _ _).mono ?_
  rintro e w2 ⟨rfl, rfl⟩
  have HF : Hid (∀ w2, Keeps noB w1 w2 → ∀ B, Blk w2 B #[.iface 57 (ptr g), .string ⟨#[]⟩, .int .i64 0] 48 → w1.heap.size ≤ B → PlacesOk s x w.heap.size B w2 ∧ Keeps noB w w2) := by
    intro w2 q2 B hB hl
    obtain ⟨h1, h2, _, _, _, h6⟩ := progP_ok HP.out
    have hsz := q1.size
    have hsz2 := q2.size
    refine ⟨⟨h2, h1, h6, (progP_few HP.out).1, by omega, by omega, .iface 57 (ptr g), ?_, ?_⟩, q1.trans q2⟩
    · exact (Hands.of_keeps q2 (fun _ _ _ => id) (fun k hk hl => ⟨hk, by omega⟩)).repI _ _ HN.out
    · rw [h1]; exact hB
  go_wp2_with fail
  go_ret2
  exact ⟨_, rfl, HF.out _ ((Keeps.refl _ _).alloc _) _ (Blk.new _ _ _) (Nat.le_refl _)⟩

end Go.Proofs.Ytccpmhjffcceeaa

namespace Go.Proofs.Ytccpmhjffcceeaa
set_option linter.unusedVariables false
set_option linter.unusedSimpArgs false
open Go.RowKit Go.Shelf

theorem IterAt.prot {α : Type} {P : Program} {gf : FuncId} {lb : Array Value} {all : List α} {enc : α → Array Value → Prop} {prot prot' : Nat → Prop} {W : World} (h : IterAt P gf lb all enc prot W) (hp : ∀ k, prot k → prot' k) :
    IterAt P gf lb all enc prot' W := fun l J Jx own hJ hJx ho hpr hr h0 n => h l J Jx own hJ hJx ho (fun k e => hpr k (hp k e)) hr h0 n

theorem PlacesOk.iter {s : ByteArray} {x : Nd} {b0 B : Nat} {w1 : World} (hp : PlacesOk s x b0 B w1) (W : World) (q : Keeps noB w1 W) :
    IterAt Try.prog 91 #[ptr B] (x.preD 0) (encP w1 (between b0 w1)) (between b0 w1) W := by
  obtain ⟨v, hv, hb⟩ := hp.rep
  have hlt := hb.lt
  have hbB := hp.blk
  have hfew := hp.few
  have hsm := hp.small
  exact (within_all x.pre.len s x 0 v w1 W (between b0 w1) B rfl (by omega) hp.ok hp.small hv (fun k e => e.2) q.size (fun k e hl => q.block k hl id) (q.blk hb id)).prot
    (fun k e => e.elim id (fun e => by subst e; exact ⟨hbB, hlt⟩))

/-- A place that the iterator yields, in the world in which a round meets it. -/
theorem enc_open {w1 W : World} {b0 : Nat} {p : PN} {args : Array Value} (h : encP w1 (between b0 w1) p args) (hs : SameOn (between b0 w1) w1 W) :
    ∃ ty g sv, args = #[.agg #[.iface ty (.pointer (some ⟨g, 0, none⟩)), .string sv, .int .i64 (p.2 : Int)]] ∧ sv = ⟨p.1.scope.toArray⟩ ∧ StepIs W p.1 ty g ∧ TypeIs W p.1 ty g ∧ b0 ≤ g ∧ g < w1.heap.size := by
  obtain ⟨v, rfl, hr⟩ := h
  obtain ⟨ty, g, rfl⟩ := rep_iface _ _ _ _ hr
  obtain ⟨h1, h2, h3, h4⟩ := rep_step _ _ _ _ _ hr
  have hb := hs g h3 h4
  refine ⟨ty, g, ⟨p.1.scope.toArray⟩, rfl, rfl, ⟨h1.beg, h1.fin, (World.cell?_of_block (w := w1) (w' := W) (a := ⟨g, 0, none⟩) hb).trans h1.c0, (World.cell?_of_block (w := w1) (w' := W) (a := ⟨g, 1, none⟩) hb).trans h1.c1, h1.tys, fun e => (h1.val e).moved (fun j => World.cell?_of_block (w := w1) (w' := W) (a := ⟨g, j, none⟩) hb)⟩, ?_, h3.1, h4⟩
  rcases h2 with h2 | h2 | h2 | ⟨h5, h6, h7⟩ | h2
  · exact .inl h2
  · exact .inr (.inl h2)
  · exact .inr (.inr (.inl h2))
  · exact .inr (.inr (.inr (.inl ⟨h5, h6, (World.cell?_of_block (w := w1) (w' := W) (a := ⟨g, 2, none⟩) hb).trans h7⟩)))
  · exact .inr (.inr (.inr (.inr h2)))

theorem same_of_owns {w1 w2 W : World} {b0 : Nat} {own0 own : Nat → Prop} (q : Keeps noB w1 w2) (ho : Owns own0 own w2 W) (hd : ∀ k, between b0 w1 k → ¬ own0 k) : SameOn (between b0 w1) w1 W :=
  fun k hk hl => (ho.keeps.block k (Nat.lt_of_lt_of_le hl q.size) (hd k hk)).trans (q.block k hl id)

end Go.Proofs.Ytccpmhjffcceeaa

namespace Go.Proofs.Ytccpmhjffcceeaa
set_option linter.unusedVariables false
set_option linter.unusedSimpArgs false
open Go.RowKit Go.Shelf

attribute [local go_sem] Oper.semAt_some

/-- The place whose step begins at a byte. -/
def placeP (s : ByteArray) (at_ : Int) : Option PN := match progP s with | none => none | some x => (x.preD 0).find? (fun p => (p.1.beg : Int) == at_)

def PlaceAtPost (w : World) (res : Option PN) (e : Ending) (w' : World) : Prop :=
  (match res with
   | none => e = .returned (.tuple #[.agg #[.nilIface, .string ⟨#[]⟩, .int .i64 0], .bool false])
   | some p => ∃ ty g, e = .returned (.tuple #[.agg #[.iface ty (.pointer (some ⟨g, 0, none⟩)), .string ⟨p.1.scope.toArray⟩, .int .i64 (p.2 : Int)], .bool true]) ∧ StepIs w' p.1 ty g ∧ g < w'.heap.size) ∧ Keeps noB w w'

/-- A block of a place's three cells. -/
def Blk3 (W : World) (b : Nat) (x y z : Value) : Prop := Blk W b #[x, y, z] 48
/-- Three stores into a block. -/
def set3 (W : World) (b : Nat) (x y z : Value) : World := ((W.setCell ⟨b, 0, none⟩ x).setCell ⟨b, 1, none⟩ y).setCell ⟨b, 2, none⟩ z

theorem Blk3.set {W : World} {b : Nat} {x y z : Value} (h : Blk3 W b x y z) (x' y' z' : Value) : Blk3 (set3 W b x' y' z') b x' y' z' := by
  have e := (((show Blk W b _ _ from h).set 0 x').set 1 y').set 2 z'
  simpa [Blk3, set3] using e

theorem Keeps.set3 {may : Nat → Prop} {a w : World} (h : Keeps may a w) {b : Nat} (hb : may b ∨ a.heap.size ≤ b) (x y z : Value) : Keeps may a (set3 w b x y z) :=
  ((h.setCell (p := ⟨b, 0, none⟩) hb x).setCell (p := ⟨b, 1, none⟩) hb y).setCell (p := ⟨b, 2, none⟩) hb z

theorem set3_size (W : World) (b : Nat) (x y z : Value) : (Go.Proofs.Ytccpmhjffcceeaa.set3 W b x y z).heap.size = W.heap.size := by simp [Go.Proofs.Ytccpmhjffcceeaa.set3, World.setCell]

theorem resPlace (W : World) (b1 b2 : Nat) (x : Value) (y : ByteArray) (z : Int) (v : Bool) (hx : x.oneCell' = true) (tmps : Array Value) (h1 : tmps.getD 4 undef = .pointer (some ⟨b1, 0, none⟩)) (h2 : tmps.getD 5 undef = .pointer (some ⟨b2, 0, none⟩))
    (hb1 : Blk3 W b1 x (.string y) (.int .i64 z)) (hb2 : Blk W b2 #[.bool v] 4) :
    (results Try.f50 tmps).run Try.prog W = .ok (.tuple #[.agg #[x, .string y, .int .i64 z], .bool v]) W := by
  have q0 := (show Blk W b1 _ _ from hb1).cell 0
  have q1 := (show Blk W b1 _ _ from hb1).cell 1
  have q2 := (show Blk W b1 _ _ from hb1).cell 2
  have q3 := hb2.cell 0
  simp at q0 q1 q2 q3
  have h1' : tmps[4]?.getD undef = .pointer (some ⟨b1, 0, none⟩) := by simpa using h1
  have h2' : tmps[5]?.getD undef = .pointer (some ⟨b2, 0, none⟩) := by simpa using h2
  simp [results, Try.results50, go_sem, h1', h2', q0, q1, q2, q3]

/-- The two blocks of results. -/
def twoB (a b : Nat) : Nat → Prop := fun k => k = a ∨ k = b

set_option maxRecDepth 100000 in
set_option maxHeartbeats 4000000 in
theorem placeAt_none (s : ByteArray) (hs : s.size ≤ 1048576) (at_ : Int) (hp : progP s = none) (w : World) : Calls Try.prog 50 #[.string s, .int .i64 at_] w (PlaceAtPost w none) := by
  refine (callsIn_wide (n := 9)).1 ?_
  obtain ⟨F, hF⟩ : ∃ F, F = Fence.wide := ⟨_, rfl⟩
  have hFf : ∀ f, F.fn f := by subst hF; exact fun _ => trivial
  have hdd : ∀ k : Nat, (F.depth.isSome = true → 1 ≤ k) := by subst hF; intro k h; simp [Fence.wide] at h
  have hro : F.round = none := by subst hF; rfl
  have hds : F.depth.isSome = false := by subst hF; rfl
  have HC : Hid (∀ m w, CallsIn F m Try.prog 40 #[.string s] w (PlacesPost s w none)) := fun m w => by
    rw [hF]; exact callsIn_wide.2 (places_none s hs hp w)
  rw [← hF]
  clear hF
  refine callsIn_of_wp_marks Try.func50 rfl (hFf _) ?_ hro
  simp only [Try.ntmps50, List.size_toArray, List.length_cons, List.length_nil, Nat.reduceAdd, Nat.reduceSub, Array.replicate_succ, Array.replicate_zero, List.push_toArray, List.append_toArray, List.nil_append, List.cons_append]
  have HB1 := Lib.hid (((Blk.new (w.alloc (.cells #[.int .i64 at_] 3)) #[.nilIface, .string ⟨#[]⟩, .int .i64 0] 48)).alloc (.cells #[.bool false] 4))
  have HB2 := Lib.hid (Blk.new ((w.alloc (.cells #[.int .i64 at_] 3)).alloc (.cells #[.nilIface, .string ⟨#[]⟩, .int .i64 0] 48)) #[.bool false] 4)
  have HK0 := Lib.hid ((((Keeps.refl noB w).alloc (.cells #[.int .i64 at_] 3)).alloc (.cells #[.nilIface, .string ⟨#[]⟩, .int .i64 0] 48)).alloc (.cells #[.bool false] 4))
  gi_wp2
  refine (HC.out _ _).mono ?_
  rintro e w1 ⟨rfl, q1⟩
  have b1 := q1.blk HB1.out id
  have b2 := q1.blk HB2.out id
  have k1 := HK0.out.trans q1
  rw [World.size_alloc] at b1
  rw [World.size_alloc, World.size_alloc] at b2
  have z0 := b1.free 0
  have z1 := b1.free 1
  have z2 := b1.free 2
  have z3 := b2.free 0
  have y0 := b1.cell 0
  have y1 := b1.cell 1
  have y2 := b1.cell 2
  have y3 := b2.cell 0
  simp at y0 y1 y2 y3
  have HE : Hid (∀ W2, Keeps (fun k => k ∈ []) (set3 w1 (w.heap.size + 1) .nilIface (.string ⟨#[]⟩) (.int .i64 0) |>.setCell ⟨w.heap.size + 1 + 1, 0, none⟩ (.bool false)) W2 → Blk3 W2 (w.heap.size + 1) .nilIface (.string ⟨#[]⟩) (.int .i64 0) ∧ Blk W2 (w.heap.size + 1 + 1) #[.bool false] 4 ∧ Keeps noB w W2) := by
    intro W2 q
    have c1 : Blk3 _ _ _ _ _ := (show Blk3 w1 _ _ _ _ from b1).set .nilIface (.string ⟨#[]⟩) (.int .i64 0)
    have c2 := ((Keeps.refl (oneB (w.heap.size + 1)) w1).set3 (b := w.heap.size + 1) (.inl rfl) .nilIface (.string ⟨#[]⟩) (.int .i64 0)).blk b2 (fun e => by have : w.heap.size + 1 + 1 = w.heap.size + 1 := e; omega)
    have c3 := (show Blk _ _ _ _ from c1).setOther (a := ⟨w.heap.size + 1 + 1, 0, none⟩) (by show w.heap.size + 1 + 1 ≠ w.heap.size + 1; omega) (.bool false)
    have c4 := c2.set 0 (.bool false)
    simp at c4
    exact ⟨q.blk c3 (fun e => by cases e), q.blk c4 (fun e => by cases e), ((k1.set3 (.inr (by omega)) _ _ _).setCell (.inr (by show w.heap.size ≤ w.heap.size + 1 + 1; omega)) _).trans (q.mono (fun _ e => by cases e))⟩
  clear b1 b2 k1 q1
  gi_wp2
  refine leaves_marks [] _ List.nodup_nil (fun _ h => by cases h) (fun W' q _ => ?_)
  obtain ⟨e1, e2, e3⟩ := HE.out W' q
  exact ⟨_, resPlace W' _ _ _ _ _ _ rfl _ rfl rfl e1 e2, rfl, e3⟩


/-- So far no step begins there. -/
def PlaceI (M : Nat) (at_ : Int) (w1 : World) (pre : List PN) (own : Nat → Prop) (W' : World) : Prop :=
  own = twoB (M + 1) (M + 2) ∧ Owns (twoB (M + 1) (M + 2)) own w1 W' ∧ Blk3 W' (M + 1) .nilIface (.string ⟨#[]⟩) (.int .i64 0) ∧ Blk W' (M + 2) #[.bool false] 4 ∧ ∀ p ∈ pre, ((p.1.beg : Int) == at_) = false
/-- It has been found. -/
def PlaceX (M : Nat) (at_ : Int) (w1 : World) (c : Code) (pre : List PN) (own : Nat → Prop) (W' : World) : Prop :=
  c = .ret ∧ own = twoB (M + 1) (M + 2) ∧ Owns (twoB (M + 1) (M + 2)) own w1 W' ∧ ∃ pre' p ty g, pre = pre' ++ [p] ∧ (∀ q ∈ pre', ((q.1.beg : Int) == at_) = false) ∧ ((p.1.beg : Int) == at_) = true ∧
    Blk3 W' (M + 1) (.iface ty (.pointer (some ⟨g, 0, none⟩))) (.string ⟨p.1.scope.toArray⟩) (.int .i64 (p.2 : Int)) ∧ Blk W' (M + 2) #[.bool true] 4 ∧ StepIs W' p.1 ty g ∧ g < w1.heap.size ∧ M + 3 ≤ g

theorem find_none {at_ : Int} {l : List PN} (h : ∀ p ∈ l, ((p.1.beg : Int) == at_) = false) : l.find? (fun p => (p.1.beg : Int) == at_) = none := by
  rw [List.find?_eq_none]; intro p hp; simp [h p hp]

theorem find_some {at_ : Int} {pre post : List PN} {p : PN} (h : ∀ p ∈ pre, ((p.1.beg : Int) == at_) = false) (hp : ((p.1.beg : Int) == at_) = true) : (pre ++ [p] ++ post).find? (fun p => (p.1.beg : Int) == at_) = some p := by
  rw [List.append_assoc, List.find?_append, find_none h]
  simp [hp]

set_option maxRecDepth 100000 in
set_option maxHeartbeats 4000000 in
theorem placeAt_some (s : ByteArray) (hs : s.size ≤ 1048576) (at_ : Int) (x : Nd) (hp : progP s = some x) (w : World) : Calls Try.prog 50 #[.string s, .int .i64 at_] w (PlaceAtPost w (placeP s at_)) := by
  refine (callsIn_wide (n := 9)).1 ?_
  obtain ⟨F, hF⟩ : ∃ F, F = Fence.wide := ⟨_, rfl⟩
  have hFf : ∀ f, F.fn f := by subst hF; exact fun _ => trivial
  have hdd : ∀ k : Nat, (F.depth.isSome = true → 1 ≤ k) := by subst hF; intro k h; simp [Fence.wide] at h
  have hro : F.round = none := by subst hF; rfl
  have hds : F.depth.isSome = false := by subst hF; rfl
  have HC : Hid (∀ m w, CallsIn F m Try.prog 40 #[.string s] w (PlacesPost s w (some x))) := fun m w => by
    rw [hF]; exact callsIn_wide.2 (places_some s hs x hp w)
  rw [← hF]
  have HF := Lib.hid hF
  have HPP : Hid (placeP s at_ = (x.preD 0).find? (fun p => (p.1.beg : Int) == at_)) := by unfold placeP; rw [hp]; exact rfl
  clear hF hp
  refine callsIn_of_wp_marks Try.func50 rfl (hFf _) ?_ hro
  simp only [Try.ntmps50, List.size_toArray, List.length_cons, List.length_nil, Nat.reduceAdd, Nat.reduceSub, Array.replicate_succ, Array.replicate_zero, List.push_toArray, List.append_toArray, List.nil_append, List.cons_append]
  have HB0 := Lib.hid (((Blk.new w #[.int .i64 at_] 3).alloc (.cells #[.nilIface, .string ⟨#[]⟩, .int .i64 0] 48)).alloc (.cells #[.bool false] 4))
  have HB1 := Lib.hid (((Blk.new (w.alloc (.cells #[.int .i64 at_] 3)) #[.nilIface, .string ⟨#[]⟩, .int .i64 0] 48)).alloc (.cells #[.bool false] 4))
  have HB2 := Lib.hid (Blk.new ((w.alloc (.cells #[.int .i64 at_] 3)).alloc (.cells #[.nilIface, .string ⟨#[]⟩, .int .i64 0] 48)) #[.bool false] 4)
  have HK0 := Lib.hid ((((Keeps.refl noB w).alloc (.cells #[.int .i64 at_] 3)).alloc (.cells #[.nilIface, .string ⟨#[]⟩, .int .i64 0] 48)).alloc (.cells #[.bool false] 4))
  gi_wp2
  refine (HC.out _ _).mono ?_
  rintro e w1 ⟨B, rfl, hpl, q1⟩
  have b0 := q1.blk HB0.out id
  have b1 := q1.blk HB1.out id
  have b2 := q1.blk HB2.out id
  have k1 := HK0.out.trans q1
  have hM1 := q1.size
  rw [World.size_alloc] at b1
  rw [World.size_alloc, World.size_alloc] at b2
  rw [World.size_alloc, World.size_alloc, World.size_alloc] at hM1 hpl
  obtain ⟨M, hM⟩ : ∃ M, M = w.heap.size := ⟨_, rfl⟩
  rw [← hM] at b0 b1 b2 hM1 hpl ⊢
  have HQ := Lib.hid (And.intro k1 hM)
  clear q1 k1 hM
  gi_wp2
  refine wp_range HF.out (gf := 91) (lb := #[ptr B]) (all := x.preD 0) (enc := encP w1 (between (M + 3) w1)) (prot := between (M + 3) w1) (own := twoB (M + 1) (M + 2))
    rfl (enters_of Try.func91 (by kernel_rfl) rfl) (fun W q => hpl.iter W q) (PlaceI M at_ w1) (PlaceX M at_ w1) ?hI ?hIx ?hown ?hprot ?hps ?h0 ?hround ?hdone ?hstop
  case hI =>
    rintro pre own W W' ⟨rfl, h3, h4, h5, h6⟩ q
    exact ⟨rfl, h3.ahead q (fun i e => e.1), q.blk h4 (fun e => by have := e.1; omega), q.blk h5 (fun e => by have := e.1; omega), h6⟩
  case hIx =>
    rintro c pre own W W' ⟨h0, rfl, h3, pre', p, ty, g, h4, h5, h6, h7, h8, h9, hg, hg3⟩ q
    have hs3 := h3.keeps.size
    exact ⟨h0, rfl, h3.ahead q (fun i e => e.1), pre', p, ty, g, h4, h5, h6, q.blk h7 (fun e => by have := e.1; omega), q.blk h8 (fun e => by have := e.1; omega), h9.keeps q (by omega) (fun e => by have := e.1; omega), hg, hg3⟩
  case hown => rintro k (rfl | rfl) <;> omega
  case hprot => intro k hk; exact ⟨fun e => by have := hk.1; rcases e with e | e <;> omega, hk.2⟩
  case hps => rintro y args ⟨v', rfl, _⟩; rfl
  case h0 => exact ⟨rfl, Owns.refl (by rintro k (rfl | rfl) <;> omega), b1, b2, fun p hp => by cases hp⟩
  case hround =>
    rintro l m pre p post args own1 W1 hall henc ⟨rfl, h3, h4, h5, h6⟩ hlt hl hnl hll
    obtain ⟨ty, g, sv, rfl, hsv, hst, hty, hg1, hg2⟩ := enc_open henc (same_of_owns (Keeps.refl _ _) h3 (fun k e => by have := e.1; intro e2; rcases e2 with e2 | e2 <;> omega))
    have hh3 := h3.keeps.size
    have f0 := h3.keeps.blk b0 (fun e => by rcases e with e | e <;> omega)
    have HSV := Lib.hid hsv
    clear henc hty hall hsv
    have h4l := (show Blk W1 _ _ _ from h4).lt
    have h5l := h5.lt
    gi_wp2
    refine ⟨(Keeps.refl _ _).alloc _, fun W3 q3 hs3 => ?_⟩
    have hk13 : Keeps (fun k => w1.heap.size ≤ k ∧ ¬ twoB (M + 1) (M + 2) k) W1 W3 := (((Keeps.refl noB _).alloc _).mono (fun _ e => e.elim)).trans (q3.mono (fun k e => by obtain rfl : k = l := e; exact ⟨hl, hnl⟩))
    have b5 : Blk W3 W1.heap.size #[.iface ty (.pointer (some ⟨g, 0, none⟩)), .string sv, .int .i64 (p.2 : Int)] 48 := q3.blk (Blk.new _ _ _) (show W1.heap.size ≠ l by omega)
    have c4 : Blk3 W3 (M + 1) .nilIface (.string ⟨#[]⟩) (.int .i64 0) := hk13.blk h4 (fun e => by have := e.1; omega)
    have c5 := hk13.blk h5 (fun e => by have := e.1; omega)
    have c0 := hk13.blk f0 (fun e => by have := e.1; omega)
    have hst3 := hst.keeps hk13 (by omega) (fun e => by have := e.1; omega)
    have z0 := (show Blk W3 _ _ _ from c4).free 0
    have z1 := (show Blk W3 _ _ _ from c4).free 1
    have z2 := (show Blk W3 _ _ _ from c4).free 2
    have z3 := c5.free 0
    have y0 := (show Blk W3 _ _ _ from c4).cell 0
    have y1 := (show Blk W3 _ _ _ from c4).cell 1
    have y2 := (show Blk W3 _ _ _ from c4).cell 2
    have y3 := c5.cell 0
    have y4 := c0.cell 0
    have r0 := b5.cell 0
    have r1 := b5.cell 1
    have r2 := b5.cell 2
    simp at r0 r1 r2 y0 y1 y2 y3 y4
    have HK3 : Owns (twoB (M + 1) (M + 2)) (twoB (M + 1) (M + 2)) w1 W3 := h3.ahead hk13 (fun i e => e.1)
    have hbeg := hst3.beg
    simp [go_sem] at hbeg
    have HBG : Hid (∀ m k, CallsIn F m Try.prog 186 #[.pointer (some ⟨g, 0, none⟩)] (W3.drewN k) (fun e w' => e = .returned (.int .i64 (p.1.beg : Int)) ∧ w' = W3.drewN k)) := fun m k => by
      rw [HF.out]; exact callsIn_wide.2 (begin_any g _ _ hst3.c0)
    have HY1 : Hid (((p.1.beg : Int) == at_) = true → ∀ nq, ∃ own', Owns (twoB (M + 1) (M + 2)) own' W3 ((set3 (W3.drewN nq) (M + 1) (.iface ty (.pointer (some ⟨g, 0, none⟩))) (.string sv) (.int .i64 (p.2 : Int))).setCell ⟨M + 2, 0, none⟩ (.bool true)) ∧
        PlaceX M at_ w1 .ret (pre ++ [p]) own' ((set3 (W3.drewN nq) (M + 1) (.iface ty (.pointer (some ⟨g, 0, none⟩))) (.string sv) (.int .i64 (p.2 : Int))).setCell ⟨M + 2, 0, none⟩ (.bool true))) := by
      intro hkk nq
      have k4 : Keeps (twoB (M + 1) (M + 2)) W3 ((set3 (W3.drewN nq) (M + 1) (.iface ty (.pointer (some ⟨g, 0, none⟩))) (.string sv) (.int .i64 (p.2 : Int))).setCell ⟨M + 2, 0, none⟩ (.bool true)) :=
        (((Keeps.refl _ _).drewN nq).set3 (.inl (.inl rfl)) _ _ _).setCell (.inl (show twoB (M + 1) (M + 2) (M + 2) from .inr rfl)) _
      have hk : Owns (twoB (M + 1) (M + 2)) (twoB (M + 1) (M + 2)) W3 _ := ⟨fun k e => .inl e, fun k e => Nat.lt_of_lt_of_le (HK3.lt k e) k4.size, k4⟩
      have d4 : Blk3 _ _ _ _ _ := (show Blk3 (W3.drewN nq) (M + 1) _ _ _ from c4).set (.iface ty (.pointer (some ⟨g, 0, none⟩))) (.string sv) (.int .i64 (p.2 : Int))
      have d5 := ((Keeps.refl (oneB (M + 1)) (W3.drewN nq)).set3 (b := M + 1) (.inl rfl) (.iface ty (.pointer (some ⟨g, 0, none⟩))) (.string sv) (.int .i64 (p.2 : Int))).blk (show Blk (W3.drewN nq) _ _ _ from c5) (fun e => by have : M + 2 = M + 1 := e; omega)
      have d6 := (show Blk _ _ _ _ from d4).setOther (a := ⟨M + 2, 0, none⟩) (by show M + 2 ≠ M + 1; omega) (.bool true)
      have d7 := d5.set 0 (.bool true)
      simp at d7
      refine ⟨_, hk, rfl, rfl, HK3.trans hk, pre, p, ty, g, rfl, h6, hkk, ?_, d7, hst3.keeps k4 (by have := hk13.size; omega) (fun e => by rcases e with e | e <;> omega), hg2, hg1⟩
      rw [← HSV.out]
      exact d6
    have HY2 : Hid (((p.1.beg : Int) == at_) = false → ∀ nq, ∃ own', Owns (twoB (M + 1) (M + 2)) own' W3 (W3.drewN nq) ∧ PlaceI M at_ w1 (pre ++ [p]) own' (W3.drewN nq)) := by
      intro hkk nq
      have hk : Owns (twoB (M + 1) (M + 2)) (twoB (M + 1) (M + 2)) W3 (W3.drewN nq) := ⟨fun k e => .inl e, HK3.lt, (Keeps.refl _ _).drewN nq⟩
      refine ⟨_, hk, rfl, HK3.trans hk, c4, c5, fun q hq => ?_⟩
      rcases List.mem_append.1 hq with hq | hq
      · exact h6 q hq
      · simp at hq; subst hq; exact hkk
    clear HK3 b5 c4 c5 c0 h3 h4 h5 h6 hk13 hst hst3 q3 f0 b0 b1 b2 hpl
    cases hkk : ((p.1.beg : Int) == at_) with
    | true =>
      have HE := Lib.hid (HY1.out hkk)
      clear HY1 HY2
      gi_wp2
      refine wpIn_region_quiet_round hro (by kernel_rfl) (by kernel_rfl) (by kernel_rfl) ?_
      repeat (gi_big_quiet_step ((refine CallsIn.quiet_of_same (HBG.out _ _))))
      refine wpQuietIn_nil ?_
      intro _ hw'
      obtain ⟨nq, hw''⟩ := hw'
      subst hw''
      gi_wp2
      exact HE.out nq
    | false =>
      have HE := Lib.hid (HY2.out hkk)
      clear HY1 HY2
      gi_wp2
      refine wpIn_region_quiet_round hro (by kernel_rfl) (by kernel_rfl) (by kernel_rfl) ?_
      repeat (gi_big_quiet_step ((refine CallsIn.quiet_of_same (HBG.out _ _))))
      refine wpQuietIn_nil ?_
      intro _ hw'
      obtain ⟨nq, hw''⟩ := hw'
      subst hw''
      gi_wp2
      exact HE.out nq
  case hdone =>
    rintro D own' W' hb ⟨rfl, h3, h4, h5, h6⟩
    have hres : placeP s at_ = none := by rw [HPP.out]; exact find_none h6
    have hnew := hb.new
    have z0 := (show Blk W' _ _ _ from h4).free 0
    have z1 := (show Blk W' _ _ _ from h4).free 1
    have z2 := (show Blk W' _ _ _ from h4).free 2
    have z3 := h5.free 0
    have y0 := (show Blk W' _ _ _ from h4).cell 0
    have y1 := (show Blk W' _ _ _ from h4).cell 1
    have y2 := (show Blk W' _ _ _ from h4).cell 2
    have y3 := h5.cell 0
    simp at y0 y1 y2 y3
    have HE : Hid (∀ W2, Keeps (fun k => k ∈ [D]) ((set3 W' (M + 1) .nilIface (.string ⟨#[]⟩) (.int .i64 0)).setCell ⟨M + 2, 0, none⟩ (.bool false)) W2 → Blk3 W2 (M + 1) .nilIface (.string ⟨#[]⟩) (.int .i64 0) ∧ Blk W2 (M + 2) #[.bool false] 4 ∧ Keeps noB w W2) := by
      intro W2 q
      have d4 : Blk3 _ _ _ _ _ := h4.set .nilIface (.string ⟨#[]⟩) (.int .i64 0)
      have d5 := ((Keeps.refl (oneB (M + 1)) W').set3 (b := M + 1) (.inl rfl) .nilIface (.string ⟨#[]⟩) (.int .i64 0)).blk h5 (fun e => by have : M + 2 = M + 1 := e; omega)
      have d6 := (show Blk _ _ _ _ from d4).setOther (a := ⟨M + 2, 0, none⟩) (by show M + 2 ≠ M + 1; omega) (.bool false)
      have d7 := d5.set 0 (.bool false)
      simp at d7
      have k2 : Keeps noB w W' := HQ.out.1.transNew h3.keeps (fun i hi e => by have := HQ.out.2; rcases e with e | e <;> omega)
      exact ⟨q.blk d6 (fun e => by simp at e; omega), q.blk d7 (fun e => by simp at e; omega), ((k2.set3 (.inr (by have := HQ.out.2; omega)) _ _ _).setCell (.inr (by show w.heap.size ≤ M + 2; have := HQ.out.2; omega)) _).transNew q (fun i hi e => by simp at e; have := HQ.out.2; omega)⟩
    have hD : ((set3 W' (M + 1) .nilIface (.string ⟨#[]⟩) (.int .i64 0)).setCell ⟨M + 2, 0, none⟩ (.bool false)).heap[D]? = some (.deferred (some [])) := by
      unfold set3
      rw [Below.heap_setCell _ _ _ _ (show D ≠ M + 2 by omega), Below.heap_setCell _ _ _ _ (show D ≠ M + 1 by omega), Below.heap_setCell _ _ _ _ (show D ≠ M + 1 by omega), Below.heap_setCell _ _ _ _ (show D ≠ M + 1 by omega)]
      exact hb.none
    have HD := Lib.hid hD
    have HS := Lib.hid hres
    clear h3 h4 h5 h6 hb hres hD hnew
    dsimp only
    gi_wp2
    refine leaves_marks [D] _ (by simp) (fun D' hD' => by simp at hD'; subst hD'; exact HD.out) (fun W2 q _ => ?_)
    obtain ⟨e1, e2, e3⟩ := HE.out W2 q
    refine ⟨_, resPlace W2 _ _ _ _ _ _ rfl _ rfl rfl e1 e2, ?_⟩
    rw [HS.out]
    exact ⟨rfl, e3⟩
  case hstop =>
    rintro D c pre post own' W' hb hall ⟨rfl, rfl, h3, pre', p, ty, g, rfl, h5, h6, h7, h8, h9, hg, hg3⟩
    have hres : placeP s at_ = some p := by rw [HPP.out, hall]; exact find_some h5 h6
    have hnew := hb.new
    have hs3 := h3.keeps.size
    have HE : Hid (∀ W2, Keeps (fun k => k ∈ [D]) W' W2 → Blk3 W2 (M + 1) (.iface ty (.pointer (some ⟨g, 0, none⟩))) (.string ⟨p.1.scope.toArray⟩) (.int .i64 (p.2 : Int)) ∧ Blk W2 (M + 2) #[.bool true] 4 ∧ Keeps noB w W2 ∧ StepIs W2 p.1 ty g ∧ g < W2.heap.size) := by
      intro W2 q
      have k2 : Keeps noB w W' := HQ.out.1.transNew h3.keeps (fun i hi e => by have := HQ.out.2; rcases e with e | e <;> omega)
      exact ⟨q.blk h7 (fun e => by simp at e; omega), q.blk h8 (fun e => by simp at e; omega), k2.transNew q (fun i hi e => by simp at e; have := HQ.out.2; omega), h9.keeps q (by omega) (fun e => by simp at e; omega), by have := q.size; omega⟩
    have HD := Lib.hid hb.none
    have HS := Lib.hid hres
    clear h3 h5 h6 h7 h8 h9 hb hres hnew hall hs3
    dsimp only
    gi_wp2
    refine leaves_marks [D] _ (by simp) (fun D' hD' => by simp at hD'; subst hD'; exact HD.out) (fun W2 q _ => ?_)
    obtain ⟨e1, e2, e3, e4, e5⟩ := HE.out W2 q
    refine ⟨_, resPlace W2 _ _ _ _ _ _ rfl _ rfl rfl e1 e2, ?_⟩
    rw [HS.out]
    exact ⟨⟨ty, g, rfl, e4, e5⟩, e3⟩

theorem placeAt_any (s : ByteArray) (hs : s.size ≤ 1048576) (at_ : Int) (w : World) : Calls Try.prog 50 #[.string s, .int .i64 at_] w (PlaceAtPost w (placeP s at_)) := by
  cases hp : progP s with
  | none =>
    have e : placeP s at_ = none := by unfold placeP; rw [hp]
    rw [e]; exact placeAt_none s hs at_ hp w
  | some x => exact placeAt_some s hs at_ x hp w

end Go.Proofs.Ytccpmhjffcceeaa

/-
  Walks of the program: placesOf; the iterator over all of a program's places.
  What the program's faces know of each place in a range over a program's places.
-/
import Derived.Test.YtfnaikopogojbaaIu
import Derived.Test.YtfnaikopogojbaaIfW
namespace Go.Proofs.Ytfnaikopogojbaa
set_option linter.unusedVariables false
set_option linter.unusedSimpArgs false
open Go.RowKit Go.Shelf

/-- What lay from B on, and no later than the world w. -/
def between (B : Nat) (w : World) : Nat → Prop := fun g => B ≤ g ∧ g < w.heap.size

/-- The iterator over the places of program x: what placesOf hands back. -/
structure PlacesOk (s : ByteArray) (x : Nd) (b0 B : Nat) (w : World) : Prop where
  ok : x.Ok s 0
  root : x.scope = []
  small : s.size ≤ 80
  few : x.pre.len ≤ s.size
  lt : b0 ≤ w.heap.size
  blk : b0 ≤ B
  rep : ∃ v, RepI w (between b0 w) x v ∧ Blk w B #[v, str x.scope, i64 0] 64

def PlacesPost (s : ByteArray) (w : World) (res : Option Nd) (e : Ending) (w' : World) : Prop :=
  match res with
  | none => e = .returned (.tuple #[.nilFunc, .bool false]) ∧ Keeps noB w w'
  | some x => ∃ B, e = .returned (.tuple #[.func (.func 100) #[] #[ptr B], .bool true]) ∧ PlacesOk s x w.heap.size B w' ∧ Keeps noB w w'

theorem places_none (s : ByteArray) (hs : s.size ≤ 1048576) (hp : progP s = none) (w : World) : Calls Try.prog 57 #[.string s] w (PlacesPost s w none) := by
  have HR : Hid (∀ w, Calls Try.prog 63 #[.string s] w (ReadPost w none)) := fun w => by
    have := read_any s hs w; rwa [hp] at this
  clear hp
  go_enter Try.func57, Try.ntmps57
  go_wp2_with fail
  refine (HR.out _).mono ?_
  rintro e w1 ⟨rfl, q1⟩
  go_wp2_with fail
  go_ret2
  exact ⟨rfl, q1⟩

theorem places_some (s : ByteArray) (hs : s.size ≤ 1048576) (x : Nd) (hp : progP s = some x) (w : World) : Calls Try.prog 57 #[.string s] w (PlacesPost s w (some x)) := by
  have HR : Hid (∀ w, Calls Try.prog 63 #[.string s] w (ReadPost w (some x))) := fun w => by
    have := read_any s hs w; rwa [hp] at this
  have HP := Lib.hid hp
  clear hp
  go_enter Try.func57, Try.ntmps57
  go_wp2_with fail
  refine (HR.out _).mono ?_
  rintro e w1 ⟨g, rfl, hr, q1⟩
  have HN := Lib.hid hr
  clear hr
  unfold ptr
  go_wp2_with fail
  refine (placesWithin_any _ _ _ _).mono ?_
  rintro e w2 ⟨rfl, rfl⟩
  have HF : Hid (∀ w2, Keeps noB w1 w2 → ∀ B, Blk w2 B #[.iface 73 (ptr g), .string ⟨#[]⟩, .int .i64 0] 64 → w1.heap.size ≤ B → PlacesOk s x w.heap.size B w2 ∧ Keeps noB w w2) := by
    intro w2 q2 B hB hl
    obtain ⟨h1, h2, _, _, _, h6⟩ := progP_ok HP.out
    have hsz := q1.size
    have hsz2 := q2.size
    refine ⟨⟨h2, h1, h6, (progP_few HP.out).1, by omega, by omega, .iface 73 (ptr g), ?_, ?_⟩, q1.trans q2⟩
    · exact (Hands.of_keeps q2 (fun _ _ _ => id) (fun k hk hl => ⟨hk, by omega⟩)).repI _ _ HN.out
    · rw [h1]; exact hB
  go_wp2_with fail
  go_ret2
  exact ⟨_, rfl, HF.out _ ((Keeps.refl _ _).alloc _) _ (Blk.new _ _ _) (Nat.le_refl _)⟩

end Go.Proofs.Ytfnaikopogojbaa

namespace Go.Proofs.Ytfnaikopogojbaa
set_option linter.unusedVariables false
set_option linter.unusedSimpArgs false
open Go.RowKit Go.Shelf

theorem IterAt.prot {α : Type} {P : Program} {gf : FuncId} {lb : Array Value} {all : List α} {enc : α → Array Value → Prop} {prot prot' : Nat → Prop} {W : World} (h : IterAt P gf lb all enc prot W) (hp : ∀ k, prot k → prot' k) :
    IterAt P gf lb all enc prot' W := fun l J Jx own hJ hJx ho hpr hr h0 n => h l J Jx own hJ hJx ho (fun k e => hpr k (hp k e)) hr h0 n

theorem PlacesOk.iter {s : ByteArray} {x : Nd} {b0 B : Nat} {w1 : World} (hp : PlacesOk s x b0 B w1) (W : World) (q : Keeps noB w1 W) :
    IterAt Try.prog 100 #[ptr B] (x.preD 0) (encP w1 (between b0 w1)) (between b0 w1) W := by
  obtain ⟨v, hv, hb⟩ := hp.rep
  have hlt := hb.lt
  have hbB := hp.blk
  have hfew := hp.few
  have hsm := hp.small
  exact (within_all x.pre.len s x 0 v w1 W (between b0 w1) B rfl (by omega) hp.ok hp.small hv (fun k e => e.2) q.size (fun k e hl => q.block k hl id) (q.blk hb id)).prot
    (fun k e => e.elim id (fun e => by subst e; exact ⟨hbB, hlt⟩))

/-- What a step's methods and its first cells answer. -/
structure StepIs (W : World) (z : Nd) (ty : TypeId) (g : Nat) : Prop where
  beg : ∀ W', (callMethod (.iface ty (.pointer (some ⟨g, 0, none⟩))) "loop.example/endsoflife/impl.begin" #[]).run Try.prog W' = .ok (.enter 167 #[.pointer (some ⟨g, 0, none⟩)]) W'
  fin : ∀ W', (callMethod (.iface ty (.pointer (some ⟨g, 0, none⟩))) "loop.example/endsoflife/impl.end" #[]).run Try.prog W' = .ok (.enter 166 #[.pointer (some ⟨g, 0, none⟩)]) W'
  c0 : W.cell? ⟨g, 0, none⟩ = some (.int .i64 (z.beg : Int))
  c1 : W.cell? ⟨g, 1, none⟩ = some (.int .i64 (z.fin : Int))

theorem StepIs.keeps {W W' : World} {z : Nd} {ty : TypeId} {g : Nat} {may : Nat → Prop} (h : StepIs W z ty g) (q : Keeps may W W') (hl : g < W.heap.size) (hm : ¬ may g) : StepIs W' z ty g :=
  ⟨h.beg, h.fin, (q.cell (p := ⟨g, 0, none⟩) hl hm).trans h.c0, (q.cell (p := ⟨g, 1, none⟩) hl hm).trans h.c1⟩

theorem begin_any (g : Nat) (k : Int) (w : World) (hc : w.cell? ⟨g, 0, none⟩ = some (.int .i64 k)) : Calls Try.prog 167 #[.pointer (some ⟨g, 0, none⟩)] w (fun e w' => e = .returned (.int .i64 k) ∧ w' = w) := by
  go_enter Try.func167, Try.ntmps167
  go_wp2
  go_ret
  exact ⟨rfl, rfl⟩

theorem end_any (g : Nat) (k : Int) (w : World) (hc : w.cell? ⟨g, 1, none⟩ = some (.int .i64 k)) : Calls Try.prog 166 #[.pointer (some ⟨g, 0, none⟩)] w (fun e w' => e = .returned (.int .i64 k) ∧ w' = w) := by
  go_enter Try.func166, Try.ntmps166
  go_wp2
  go_ret
  exact ⟨rfl, rfl⟩

theorem begV (g : Nat) (W' : World) : (callMethod (.iface 192 (.pointer (some ⟨g, 0, none⟩))) "loop.example/endsoflife/impl.begin" #[]).run Try.prog W' = .ok (.enter 167 #[.pointer (some ⟨g, 0, none⟩)]) W' := by kernel_rfl
theorem begL (g : Nat) (W' : World) : (callMethod (.iface 196 (.pointer (some ⟨g, 0, none⟩))) "loop.example/endsoflife/impl.begin" #[]).run Try.prog W' = .ok (.enter 167 #[.pointer (some ⟨g, 0, none⟩)]) W' := by kernel_rfl
theorem begB (g : Nat) (W' : World) : (callMethod (.iface 84 (.pointer (some ⟨g, 0, none⟩))) "loop.example/endsoflife/impl.begin" #[]).run Try.prog W' = .ok (.enter 167 #[.pointer (some ⟨g, 0, none⟩)]) W' := by kernel_rfl
theorem begO (g : Nat) (W' : World) : (callMethod (.iface 85 (.pointer (some ⟨g, 0, none⟩))) "loop.example/endsoflife/impl.begin" #[]).run Try.prog W' = .ok (.enter 167 #[.pointer (some ⟨g, 0, none⟩)]) W' := by kernel_rfl
theorem begS (g : Nat) (W' : World) : (callMethod (.iface 73 (.pointer (some ⟨g, 0, none⟩))) "loop.example/endsoflife/impl.begin" #[]).run Try.prog W' = .ok (.enter 167 #[.pointer (some ⟨g, 0, none⟩)]) W' := by kernel_rfl
theorem finV (g : Nat) (W' : World) : (callMethod (.iface 192 (.pointer (some ⟨g, 0, none⟩))) "loop.example/endsoflife/impl.end" #[]).run Try.prog W' = .ok (.enter 166 #[.pointer (some ⟨g, 0, none⟩)]) W' := by kernel_rfl
theorem finL (g : Nat) (W' : World) : (callMethod (.iface 196 (.pointer (some ⟨g, 0, none⟩))) "loop.example/endsoflife/impl.end" #[]).run Try.prog W' = .ok (.enter 166 #[.pointer (some ⟨g, 0, none⟩)]) W' := by kernel_rfl
theorem finB (g : Nat) (W' : World) : (callMethod (.iface 84 (.pointer (some ⟨g, 0, none⟩))) "loop.example/endsoflife/impl.end" #[]).run Try.prog W' = .ok (.enter 166 #[.pointer (some ⟨g, 0, none⟩)]) W' := by kernel_rfl
theorem finO (g : Nat) (W' : World) : (callMethod (.iface 85 (.pointer (some ⟨g, 0, none⟩))) "loop.example/endsoflife/impl.end" #[]).run Try.prog W' = .ok (.enter 166 #[.pointer (some ⟨g, 0, none⟩)]) W' := by kernel_rfl
theorem finS (g : Nat) (W' : World) : (callMethod (.iface 73 (.pointer (some ⟨g, 0, none⟩))) "loop.example/endsoflife/impl.end" #[]).run Try.prog W' = .ok (.enter 166 #[.pointer (some ⟨g, 0, none⟩)]) W' := by kernel_rfl

/-- Of which type a step is. -/
def TypeIs (W : World) (z : Nd) (ty : TypeId) (g : Nat) : Prop :=
  (ty = 192 ∧ (z.kind = 43 ∨ z.kind = 46 ∨ z.kind = 45 ∨ z.kind = 126 ∨ z.kind = 61)) ∨ (ty = 196 ∧ (z.kind = 94 ∨ z.kind = 33)) ∨ (ty = 85 ∧ z.kind = 42) ∨
  (ty = 73 ∧ z.kind = 123 ∧ W.cell? ⟨g, 2, none⟩ = some (str z.vars)) ∨ (ty = 84 ∧ z.kind = 63)

theorem rep_step : ∀ (z : Nd) (w : World) (ok : Nat → Prop) (ty : TypeId) (g : Nat), RepI w ok z (.iface ty (ptr g)) → StepIs w z ty g ∧ TypeIs w z ty g ∧ ok g ∧ g < w.heap.size
  | .mk c k e vs _ .nil, w, ok, ty, g, h => by
    simp only [RepI] at h
    obtain ⟨g', hg, h1⟩ := h
    rcases h1 with ⟨hc, t, h1, h2, h3⟩ | ⟨hc, t, u, h1, h2, h3⟩ | ⟨hc, h1, h2, h3⟩
    all_goals
      obtain ⟨rfl, rfl⟩ : ty = _ ∧ g = g' := by simpa [ptr] using h2
      have r0 := h3.cell 0
      have r1 := h3.cell 1
      simp [i64] at r0 r1
    · exact ⟨⟨begV g, finV g, r0, r1⟩, .inl ⟨rfl, by rcases hc with h | h | h | h <;> simp [Nd.kind, h]⟩, hg, h3.lt⟩
    · exact ⟨⟨begV g, finV g, r0, r1⟩, .inl ⟨rfl, by simp [Nd.kind, hc]⟩, hg, h3.lt⟩
    · exact ⟨⟨begL g, finL g, r0, r1⟩, .inr (.inl ⟨rfl, by simpa [Nd.kind] using hc⟩), hg, h3.lt⟩
  | .mk c k e vs _ (.cons x .nil), w, ok, ty, g, h => by
    simp only [RepI] at h
    obtain ⟨vx, n, xs, ⟨g', hg, h1⟩, _⟩ := h
    rcases h1 with ⟨hc, h1, h2, h3⟩ | ⟨hc, h2, h3⟩
    all_goals
      obtain ⟨rfl, rfl⟩ : ty = _ ∧ g = g' := by simpa [ptr] using h2
      have r0 := h3.cell 0
      have r1 := h3.cell 1
      simp [i64] at r0 r1
    · exact ⟨⟨begO g, finO g, r0, r1⟩, .inr (.inr (.inl ⟨rfl, hc⟩)), hg, h3.lt⟩
    · exact ⟨⟨begS g, finS g, r0, r1⟩, .inr (.inr (.inr (.inl ⟨rfl, hc, by have r2 := h3.cell 2; exact r2⟩))), hg, h3.lt⟩
  | .mk c k e vs _ (.cons x (.cons y .nil)), w, ok, ty, g, h => by
    simp only [RepI] at h
    obtain ⟨vx, vy, n, xs, m, ys, ⟨g', hg, hc, h1, h2, h3⟩, _⟩ := h
    obtain ⟨rfl, rfl⟩ : ty = _ ∧ g = g' := by simpa [ptr] using h2
    have r0 := h3.cell 0
    have r1 := h3.cell 1
    simp [i64] at r0 r1
    exact ⟨⟨begB g, finB g, r0, r1⟩, .inr (.inr (.inr (.inr ⟨rfl, hc⟩))), hg, h3.lt⟩
  | .mk _ _ _ _ _ (.cons _ (.cons _ (.cons _ _))), _, _, _, _, h => by simp only [RepI] at h

/-- A place that the iterator yields, in the world in which a round meets it. -/
theorem enc_open {w1 W : World} {b0 : Nat} {p : PN} {args : Array Value} (h : encP w1 (between b0 w1) p args) (hs : SameOn (between b0 w1) w1 W) :
    ∃ ty g sv, args = #[.agg #[.iface ty (.pointer (some ⟨g, 0, none⟩)), .string sv, .int .i64 (p.2 : Int)]] ∧ sv = ⟨p.1.scope.toArray⟩ ∧ StepIs W p.1 ty g ∧ TypeIs W p.1 ty g ∧ b0 ≤ g ∧ g < w1.heap.size := by
  obtain ⟨v, rfl, hr⟩ := h
  obtain ⟨ty, g, rfl⟩ := rep_iface _ _ _ _ hr
  obtain ⟨h1, h2, h3, h4⟩ := rep_step _ _ _ _ _ hr
  have hb := hs g h3 h4
  refine ⟨ty, g, ⟨p.1.scope.toArray⟩, rfl, rfl, ⟨h1.beg, h1.fin, (World.cell?_of_block (w := w1) (w' := W) (a := ⟨g, 0, none⟩) hb).trans h1.c0, (World.cell?_of_block (w := w1) (w' := W) (a := ⟨g, 1, none⟩) hb).trans h1.c1⟩, ?_, h3.1, h4⟩
  rcases h2 with h2 | h2 | h2 | ⟨h5, h6, h7⟩ | h2
  · exact .inl h2
  · exact .inr (.inl h2)
  · exact .inr (.inr (.inl h2))
  · exact .inr (.inr (.inr (.inl ⟨h5, h6, (World.cell?_of_block (w := w1) (w' := W) (a := ⟨g, 2, none⟩) hb).trans h7⟩)))
  · exact .inr (.inr (.inr (.inr h2)))

theorem same_of_owns {w1 w2 W : World} {b0 : Nat} {own0 own : Nat → Prop} (q : Keeps noB w1 w2) (ho : Owns own0 own w2 W) (hd : ∀ k, between b0 w1 k → ¬ own0 k) : SameOn (between b0 w1) w1 W :=
  fun k hk hl => (ho.keeps.block k (Nat.lt_of_lt_of_le hl q.size) (hd k hk)).trans (q.block k hl id)

end Go.Proofs.Ytfnaikopogojbaa

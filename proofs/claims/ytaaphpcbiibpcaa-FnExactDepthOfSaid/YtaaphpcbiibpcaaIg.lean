/-
  Walks of the program's face to its reader: readProgram and its deferred closure; ProgramValid.
-/
import Derived.Test.YtaaphpcbiibpcaaIf
namespace Go.Proofs.Ytaaphpcbiibpcaa
set_option linter.unusedVariables false
set_option linter.unusedSimpArgs false
open Go.RowKit

theorem catch_panicking (p q : Addr) (x y : Value) (u : TypeId) (pv : Value) (older : List PanicEntry) (w : World) (hc : w.cell? p = some x) (hz : w.frozen? p = false)
    (hc2 : w.cell? q = some y) (hz2 : w.frozen? q = false) (hne : p.block ≠ q.block) :
    CallsD Try.prog 75 #[.pointer (some p), .pointer (some q)] (.panicking ({ v := .iface u pv, recovered := false } :: older)) w fun e u' w' =>
      e = .returned (.tuple #[]) ∧ u' = .panicking ({ v := .iface u pv, recovered := true } :: older) ∧ w' = (w.setCell p (.pointer none)).setCell q (.bool false) := by
  have hc3 : (w.setCell p (.pointer none)).cell? q = some y := by
    rw [World.cell?_setCell_other _ _ _ _ (fun e => hne (congrArg Addr.block e))]; exact hc2
  refine callsD_of_wpS Try.func75 rfl fun c₀ cs hu => ?_
  apply wpS_seq
  apply wpS_region
  simp [wpOpsS, go_sem, recoverD, hu, Try.ntmps75, Exit.thenS]
  refine wpS_cond (t := true) (by simp [Act.eval, Array.replicate]) ?_
  simp only [if_true]
  apply wpS_region
  simp [wpOpsS, go_sem, hc, hz, hc3, hz2, bodyPostS, results, Try.results75]

theorem catch_idle (p q : Addr) (w : World) :
    CallsD Try.prog 75 #[.pointer (some p), .pointer (some q)] .returning w fun e u' w' => e = .returned (.tuple #[]) ∧ u' = .returning ∧ w' = w := by
  refine callsD_of_wpS Try.func75 rfl fun c₀ cs hu => ?_
  apply wpS_seq
  apply wpS_region
  simp [wpOpsS, go_sem, recoverD, hu, Try.ntmps75, Exit.thenS]
  refine wpS_cond (t := false) (by simp [Act.eval, Array.replicate]) ?_
  simp only [Bool.false_eq_true, if_false]
  refine wpS_of_wp (wp_skip ?_)
  cases c₀
  simp_all [bodyPostS, results, Try.results75]

def ReadPost (w : World) (res : Option Nd) (e : Ending) (w' : World) : Prop :=
  match res with
  | none => e = .returned (.tuple #[.pointer none, .bool false]) ∧ Keeps noB w w'
  | some x => ∃ g, e = .returned (.tuple #[ptr g, .bool true]) ∧ RepI w' (fromB w.heap.size) x (.iface 66 (ptr g)) ∧ Keeps noB w w'

set_option maxRecDepth 100000 in
set_option maxHeartbeats 2000000 in
theorem read_long (s : ByteArray) (hs : 80 < s.size) (hs' : s.size ≤ 1048576) (w : World) : Calls Try.prog 53 #[.string s] w (ReadPost w none) := by
  have hmf : ∀ (fn : Fn) (first cap : Array Value) (w : World), (Instr.makeFunc fn first cap).run Try.prog w = .ok (.func fn first cap) w := fun _ _ _ _ => rfl
  have hz : (80 : Int) < (s.size : Int) := by omega
  go_enter_defers Try.func53, Try.ntmps53
  go_wp2_with fail
  refine leaves_cons (f := 75) (args := #[.pointer (some ⟨w.heap.size, 0, none⟩), .pointer (some ⟨w.heap.size + 1, 0, none⟩)]) (by simp) (by simp [go_sem]) ?_
  refine (catch_idle ⟨w.heap.size, 0, none⟩ ⟨w.heap.size + 1, 0, none⟩ _).mono ?_
  rintro e u' w'' ⟨rfl, rfl, rfl⟩
  simp [Leaves, settle, results, Try.results53, go_sem]
  exact ⟨rfl, ((Keeps.refl _ w).alloc _).alloc _⟩

/-- The named results' two blocks, at the door. -/
def Named (N : Nat) (x y : Value) (w : World) : Prop := Blk w N #[x] 66 ∧ Blk w (N + 1) #[y] 4

theorem Named.keeps {N : Nat} {x y : Value} {w w' : World} (h : Named N x y w) {may : Nat → Prop} (q : Keeps may w w') (h1 : ¬ may N) (h2 : ¬ may (N + 1)) : Named N x y w' := ⟨q.blk h.1 h1, q.blk h.2 h2⟩

/-- The world in which the reader has been laid. -/
def world0 (s : ByteArray) (w : World) : World :=
  (((w.alloc (.cells #[.pointer none] 66)).alloc (.cells #[.bool false] 4)).alloc (.cells #[.string s, .int .i64 0, .int .i64 0, .string ⟨#[]⟩] 127))

theorem named0 (s : ByteArray) (w : World) : Named w.heap.size (.pointer none) (.bool false) (world0 s w) := by
  refine ⟨((Blk.new w _ _).alloc _).alloc _, (blk_new (by simp) _ _).alloc _⟩
theorem rd0 (s : ByteArray) (w : World) : Rd (world0 s w) (w.heap.size + 2) s 0 0 ⟨#[]⟩ := blk_new (by simp) _ _
theorem keeps0 (s : ByteArray) (w : World) : Keeps noB w (world0 s w) := (((Keeps.refl _ w).alloc _).alloc _).alloc _
theorem size0 (s : ByteArray) (w : World) : (world0 s w).heap.size = w.heap.size + 3 := by simp [world0]

theorem keepsNew {w w0 w1 : World} {b : Nat} (q0 : Keeps noB w w0) (hb : w.heap.size ≤ b) (q : Keeps (oneB b) w0 w1) : Keeps noB w w1 :=
  q0.transNew q (fun i hi e => by simp [oneB] at e; omega)

set_option maxRecDepth 100000 in
set_option maxHeartbeats 2000000 in
theorem read_brace (s : ByteArray) (hs : s.size ≤ 80) (hc : at? s 0 ≠ some 123) (w : World) : Calls Try.prog 53 #[.string s] w (ReadPost w none) := by
  have hmf : ∀ (fn : Fn) (first cap : Array Value) (w : World), (Instr.makeFunc fn first cap).run Try.prog w = .ok (.func fn first cap) w := fun _ _ _ _ => rfl
  have hz : (s.size : Int) ≤ 80 := by omega
  have H := Lib.hid (need_false (w.heap.size + 2) s 0 0 ⟨#[]⟩ 123 (world0 s w) (rd0 s w) (Nat.zero_le _) hs hc)
  have HN := Lib.hid (named0 s w)
  have HK := Lib.hid (keeps0 s w)
  clear hc
  go_enter_defers Try.func53, Try.ntmps53
  go_wp2_with fail
  refine H.out.mono ?_
  rintro e w1 ⟨⟨m, rfl⟩, q1⟩
  go_wp2_with fail
  refine leaves_cons (f := 75) (args := #[.pointer (some ⟨w.heap.size, 0, none⟩), .pointer (some ⟨w.heap.size + 1, 0, none⟩)]) (by simp) (by simp [go_sem]) ?_
  obtain ⟨n1, n2⟩ := HN.out.keeps q1 (by simp [oneB]) (by simp [oneB])
  refine (catch_panicking ⟨w.heap.size, 0, none⟩ ⟨w.heap.size + 1, 0, none⟩ _ _ 130 _ [] _ (n1.cell 0) (n1.free 0) (n2.cell 0) (n2.free 0) (by simp)).mono ?_
  rintro e u' w'' ⟨rfl, rfl, rfl⟩
  have m1 := (n1.set 0 (.pointer none)).setOther (a := ⟨w.heap.size + 1, 0, none⟩) (by simp) (.bool false)
  have m2 := (n2.setOther (a := ⟨w.heap.size, 0, none⟩) (by simp) (.pointer none)).set 0 (.bool false)
  have c1 := m1.cell 0
  have c2 := m2.cell 0
  simp [Leaves, settle, results, Try.results53, go_sem, c1, c2]
  exact ⟨rfl, ((keepsNew HK.out (by omega) q1).setCell (p := ⟨w.heap.size, 0, none⟩) (.inr (Nat.le_refl _)) _).setCell (p := ⟨w.heap.size + 1, 0, none⟩) (.inr (Nat.le_succ _)) _⟩

theorem Rd.toNat0 {w : World} {b : Nat} {s : ByteArray} {k d : Nat} {ar : ByteArray} (h : Rd w b s k d ar) : Blk w b #[.string s, .int .i64 k, .int .i64 d, .string ar] 127 := h

set_option maxRecDepth 100000 in
set_option maxHeartbeats 2000000 in
theorem read_scope_none (s : ByteArray) (hs : s.size ≤ 80) (hc : at? s 0 = some 123) (hp : scopeP s (8 * s.size + 8) [] 0 0 = none) (w : World) : Calls Try.prog 53 #[.string s] w (ReadPost w none) := by
  have hmf : ∀ (fn : Fn) (first cap : Array Value) (w : World), (Instr.makeFunc fn first cap).run Try.prog w = .ok (.func fn first cap) w := fun _ _ _ _ => rfl
  have hz : (s.size : Int) ≤ 80 := by omega
  have H := Lib.hid (need_true (w.heap.size + 2) s 0 0 ⟨#[]⟩ 123 (world0 s w) (rd0 s w) hs hc)
  have H2 := Lib.hid (fun w1 r => (all_ok (8 * s.size + 8)).2.1 (w.heap.size + 2) s 0 0 ⟨#[]⟩ w1 r hs (at?_lt hc) (Nat.zero_le _) (by omega) (by omega))
  have HN := Lib.hid (named0 s w)
  have HK := Lib.hid (keeps0 s w)
  have HP := Lib.hid hp
  clear hc hp
  go_enter_defers Try.func53, Try.ntmps53
  go_wp2_with fail
  refine H.out.mono ?_
  rintro e w1 ⟨rfl, r1, q1⟩
  go_wp2_with fail
  refine (H2.out w1 r1).mono ?_
  intro e w2 hpost
  have hpost : ScopePost (w.heap.size + 2) s 0 ⟨#[]⟩ w1 (scopeP s (8 * s.size + 8) [] 0 0) e w2 := hpost
  rw [HP.out] at hpost
  obtain ⟨⟨m, rfl⟩, q2⟩ := hpost
  go_wp2_with fail
  refine leaves_cons (f := 75) (args := #[.pointer (some ⟨w.heap.size, 0, none⟩), .pointer (some ⟨w.heap.size + 1, 0, none⟩)]) (by simp) (by simp [go_sem]) ?_
  have q := q1.trans q2
  obtain ⟨n1, n2⟩ := HN.out.keeps q (by simp [oneB]) (by simp [oneB])
  refine (catch_panicking ⟨w.heap.size, 0, none⟩ ⟨w.heap.size + 1, 0, none⟩ _ _ 130 _ [] _ (n1.cell 0) (n1.free 0) (n2.cell 0) (n2.free 0) (by simp)).mono ?_
  rintro e u' w'' ⟨rfl, rfl, rfl⟩
  have m1 := (n1.set 0 (.pointer none)).setOther (a := ⟨w.heap.size + 1, 0, none⟩) (by simp) (.bool false)
  have m2 := (n2.setOther (a := ⟨w.heap.size, 0, none⟩) (by simp) (.pointer none)).set 0 (.bool false)
  have c1 := m1.cell 0
  have c2 := m2.cell 0
  simp [Leaves, settle, results, Try.results53, go_sem, c1, c2]
  exact ⟨rfl, ((keepsNew HK.out (by omega) q).setCell (p := ⟨w.heap.size, 0, none⟩) (.inr (Nat.le_refl _)) _).setCell (p := ⟨w.heap.size + 1, 0, none⟩) (.inr (Nat.le_succ _)) _⟩

set_option maxRecDepth 100000 in
set_option maxHeartbeats 2000000 in
theorem read_short (s : ByteArray) (hs : s.size ≤ 80) (hc : at? s 0 = some 123) (x : Nd) (k : Nat) (hp : scopeP s (8 * s.size + 8) [] 0 0 = some (x, k)) (hk : k ≠ s.size) (w : World) : Calls Try.prog 53 #[.string s] w (ReadPost w none) := by
  have hmf : ∀ (fn : Fn) (first cap : Array Value) (w : World), (Instr.makeFunc fn first cap).run Try.prog w = .ok (.func fn first cap) w := fun _ _ _ _ => rfl
  have hz : (s.size : Int) ≤ 80 := by omega
  have hk2 := ((goes s _).scope _ _ _ _ _ hp).2
  have hkz : (k : Int) < (s.size : Int) := by omega
  have H := Lib.hid (need_true (w.heap.size + 2) s 0 0 ⟨#[]⟩ 123 (world0 s w) (rd0 s w) hs hc)
  have H2 := Lib.hid (fun w1 r => (all_ok (8 * s.size + 8)).2.1 (w.heap.size + 2) s 0 0 ⟨#[]⟩ w1 r hs (at?_lt hc) (Nat.zero_le _) (by omega) (by omega))
  have HN := Lib.hid (named0 s w)
  have HK := Lib.hid (keeps0 s w)
  have HP := Lib.hid hp
  clear hc hp hk hk2
  go_enter_defers Try.func53, Try.ntmps53
  go_wp2_with fail
  refine H.out.mono ?_
  rintro e w1 ⟨rfl, r1, q1⟩
  go_wp2_with fail
  refine (H2.out w1 r1).mono ?_
  intro e w2 hpost
  have hpost : ScopePost (w.heap.size + 2) s 0 ⟨#[]⟩ w1 (scopeP s (8 * s.size + 8) [] 0 0) e w2 := hpost
  rw [HP.out] at hpost
  obtain ⟨g, ⟨rfl, r2, q2⟩, hx⟩ := hpost
  clear hx
  obtain ⟨n1, n2⟩ := HN.out.keeps (q1.trans q2) (by simp [oneB]) (by simp [oneB])
  have cN := n1.cell 0
  have fN := n1.free 0
  have hptr : ptr g = .pointer (some ⟨g, 0, none⟩) := rfl
  have d1 := (r2.toNat0.setOther (a := ⟨w.heap.size, 0, none⟩) (by simp) (.pointer (some ⟨g, 0, none⟩))).cell 1
  go_wp2_with fail
  refine leaves_cons (f := 75) (args := #[.pointer (some ⟨w.heap.size, 0, none⟩), .pointer (some ⟨w.heap.size + 1, 0, none⟩)]) (by simp) (by simp [go_sem]) ?_
  have q := q1.trans q2
  have n1' := n1.set 0 (.pointer (some ⟨g, 0, none⟩))
  have n2' := n2.setOther (a := ⟨w.heap.size, 0, none⟩) (by simp) (.pointer (some ⟨g, 0, none⟩))
  refine (catch_panicking ⟨w.heap.size, 0, none⟩ ⟨w.heap.size + 1, 0, none⟩ _ _ 130 _ [] _ (n1'.cell 0) (n1'.free 0) (n2'.cell 0) (n2'.free 0) (by simp)).mono ?_
  rintro e u' w'' ⟨rfl, rfl, rfl⟩
  have m1 := (n1'.set 0 (.pointer none)).setOther (a := ⟨w.heap.size + 1, 0, none⟩) (by simp) (.bool false)
  have m2 := (n2'.setOther (a := ⟨w.heap.size, 0, none⟩) (by simp) (.pointer none)).set 0 (.bool false)
  have c1 := m1.cell 0
  have c2 := m2.cell 0
  simp [Leaves, settle, results, Try.results53, go_sem, c1, c2]
  exact ⟨rfl, (((keepsNew HK.out (by omega) q).setCell (p := ⟨w.heap.size, 0, none⟩) (.inr (Nat.le_refl _)) _).setCell (p := ⟨w.heap.size, 0, none⟩) (.inr (Nat.le_refl _)) _).setCell (p := ⟨w.heap.size + 1, 0, none⟩) (.inr (Nat.le_succ _)) _⟩

set_option maxRecDepth 100000 in
set_option maxHeartbeats 2000000 in
theorem read_good (s : ByteArray) (hs : s.size ≤ 80) (hc : at? s 0 = some 123) (x : Nd) (hp : scopeP s (8 * s.size + 8) [] 0 0 = some (x, s.size)) (w : World) : Calls Try.prog 53 #[.string s] w (ReadPost w (some x)) := by
  have hmf : ∀ (fn : Fn) (first cap : Array Value) (w : World), (Instr.makeFunc fn first cap).run Try.prog w = .ok (.func fn first cap) w := fun _ _ _ _ => rfl
  have hz : (s.size : Int) ≤ 80 := by omega
  have H := Lib.hid (need_true (w.heap.size + 2) s 0 0 ⟨#[]⟩ 123 (world0 s w) (rd0 s w) hs hc)
  have H2 := Lib.hid (fun w1 r => (all_ok (8 * s.size + 8)).2.1 (w.heap.size + 2) s 0 0 ⟨#[]⟩ w1 r hs (at?_lt hc) (Nat.zero_le _) (by omega) (by omega))
  have HN := Lib.hid (named0 s w)
  have HK := Lib.hid (keeps0 s w)
  have HP := Lib.hid hp
  clear hc hp
  go_enter_defers Try.func53, Try.ntmps53
  go_wp2_with fail
  refine H.out.mono ?_
  rintro e w1 ⟨rfl, r1, q1⟩
  go_wp2_with fail
  refine (H2.out w1 r1).mono ?_
  intro e w2 hpost
  have hpost : ScopePost (w.heap.size + 2) s 0 ⟨#[]⟩ w1 (scopeP s (8 * s.size + 8) [] 0 0) e w2 := hpost
  rw [HP.out] at hpost
  obtain ⟨g, ⟨rfl, r2, q2⟩, hx⟩ := hpost
  have HX := Lib.hid hx
  clear hx
  obtain ⟨n1, n2⟩ := HN.out.keeps (q1.trans q2) (by simp [oneB]) (by simp [oneB])
  have n1' := n1.set 0 (.pointer (some ⟨g, 0, none⟩))
  have n2' := n2.setOther (a := ⟨w.heap.size, 0, none⟩) (by simp) (.pointer (some ⟨g, 0, none⟩))
  have cN := n1.cell 0
  have fN := n1.free 0
  have fM := n2.free 0
  have cN' := n1'.cell 0
  have cM' := n2'.cell 0
  have hptr : ptr g = .pointer (some ⟨g, 0, none⟩) := rfl
  have d1 := (r2.toNat0.setOther (a := ⟨w.heap.size, 0, none⟩) (by simp) (.pointer (some ⟨g, 0, none⟩))).cell 1
  have n1'' := n1'.set 0 (.pointer (some ⟨g, 0, none⟩))
  have n2'' := n2'.setOther (a := ⟨w.heap.size, 0, none⟩) (by simp) (.pointer (some ⟨g, 0, none⟩))
  have cM'' := n2''.cell 0
  go_wp2_with fail
  refine leaves_cons (f := 75) (args := #[.pointer (some ⟨w.heap.size, 0, none⟩), .pointer (some ⟨w.heap.size + 1, 0, none⟩)]) (by simp) (by simp [go_sem]) ?_
  refine (catch_idle ⟨w.heap.size, 0, none⟩ ⟨w.heap.size + 1, 0, none⟩ _).mono ?_
  rintro e u' w'' ⟨rfl, rfl, rfl⟩
  have m1 := n1''.setOther (a := ⟨w.heap.size + 1, 0, none⟩) (by simp) (.bool true)
  have m2 := n2''.set 0 (.bool true)
  have e1 := m1.cell 0
  have e2 := m2.cell 0
  clear cN fN fM cN' cM' d1 cM''
  simp [Leaves, settle, results, Try.results53, go_sem, e1, e2]
  have s1 := q1.size
  have s2 := q2.size
  rw [size0] at s1
  have qa : Keeps (fun i => i = w.heap.size ∨ i = w.heap.size + 1) w2 (((w2.setCell ⟨w.heap.size, 0, none⟩ (.pointer (some ⟨g, 0, none⟩))).setCell ⟨w.heap.size, 0, none⟩ (.pointer (some ⟨g, 0, none⟩))).setCell ⟨w.heap.size + 1, 0, none⟩ (.bool true)) :=
    (((Keeps.refl _ w2).setCell (.inl (.inl rfl)) _).setCell (.inl (.inl rfl)) _).setCell (.inl (.inr rfl)) _
  refine ⟨g, rfl, ?_, (keepsNew HK.out (by omega) (q1.trans q2)).transNew qa (fun i hi e => by omega)⟩
  exact (Hands.of_keeps (ok := fromB w1.heap.size) (ok' := fromB w.heap.size) qa (fun i hi _ e => by simp [fromB] at hi; omega) (fun i hi _ => by simp [fromB] at hi ⊢; omega)).repI x _ HX.out

/-- readProgram, whatever the text. -/
theorem read_any (s : ByteArray) (hs : s.size ≤ 1048576) (w : World) : Calls Try.prog 53 #[.string s] w (ReadPost w (progP s)) := by
  unfold progP
  split
  · exact read_long s (by omega) hs w
  split
  · rename_i h1 hc
    cases hp : scopeP s (8 * s.size + 8) [] 0 0 with
    | none => exact read_scope_none s (by omega) hc hp w
    | some p =>
      obtain ⟨x, k⟩ := p
      simp only
      split
      · rename_i hk; subst hk; exact read_good s (by omega) hc x hp w
      · rename_i hk; exact read_short s (by omega) hc x k hp hk w
  · rename_i h1 hc
    exact read_brace s (by omega) hc w

def ValidPost (w : World) (s : ByteArray) (e : Ending) (w' : World) : Prop := e = .returned (.bool (progP s).isSome) ∧ Keeps noB w w'

set_option maxHeartbeats 1000000 in
theorem implValid (s : ByteArray) (hs : s.size ≤ 1048576) (w : World) : Calls Try.prog 16 #[.string s] w (ValidPost w s) := by
  have H := Lib.hid (read_any s hs w)
  unfold ValidPost
  generalize progP s = res at *
  cases res with
  | none =>
    go_enter Try.func16, Try.ntmps16
    go_wp2_with fail
    refine H.out.mono ?_
    rintro e w1 ⟨rfl, q1⟩
    go_wp2_with fail
    go_ret
    exact ⟨rfl, q1⟩
  | some x =>
    go_enter Try.func16, Try.ntmps16
    go_wp2_with fail
    refine H.out.mono ?_
    rintro e w1 ⟨g, rfl, _, q1⟩
    go_wp2_with fail
    go_ret
    exact ⟨rfl, q1⟩

end Go.Proofs.Ytaaphpcbiibpcaa

/-
  The reader that the model's drawers read: opened on an argument of bytes; an element of a list of texts and of a list of numbers.
-/
import Derived.Test.YthpjkickpodmcaaGa
namespace Go.Proofs.Ythpjkickpodmcaa
set_option linter.unusedVariables false
set_option linter.unusedSimpArgs false
open Go.RowKit

def OpenPost (w : World) (e : Ending) (w' : World) : Prop :=
  ∃ g, e = .returned (.pointer (some ⟨g, 0, none⟩)) ∧ w.heap.size ≤ g ∧ DrAt w' g 0 ∧ Keeps noB w w'

theorem DrAt.made {w : World} {p : Option Addr} {c m : Nat} (hm : m ≤ 2000) (h : ArgB w.heap.size w (.slice p m c) m) : OpenPost w (.returned (.pointer (some ⟨w.heap.size, 0, none⟩))) (w.alloc (.cells #[.slice p m c, .int .i64 0] 93)) :=
  ⟨w.heap.size, rfl, Nat.le_refl _, ⟨_, m, hm, Blk.new w _ _, h.keeps ((Keeps.refl noB w).alloc _) (Nat.le_refl _) (fun _ _ => id)⟩, (Keeps.refl noB w).alloc _⟩

set_option maxRecDepth 100000 in
set_option maxHeartbeats 4000000 in
theorem open_any (v : Value) (n : Nat) (w : World) (h : ArgB w.heap.size w v n) (hn : n ≤ 1048576) : Calls Try.prog 34 #[v] w (OpenPost w) := by
  obtain ⟨p, c, rfl, hc, hh⟩ := h
  by_cases h2 : 2000 < n
  · have HP : Hid (OpenPost w (.returned (.pointer (some ⟨w.heap.size, 0, none⟩))) (w.alloc (.cells #[.slice p 2000 c, .int .i64 0] 93))) := Lib.hid (DrAt.made (Nat.le_refl _) ⟨p, c, rfl, by omega, fun i hi => hh i (by omega)⟩)
    obtain ⟨b, o, x, rfl, _⟩ := hh 0 (by omega)
    clear hh
    have h3 : (2000 : Int) < (n : Int) := by omega
    have h4 : 2000 ≤ c := by omega
    have h5 : (2000 : Int) ≤ (c : Int) := by omega
    go_enter Try.func34, Try.ntmps34
    go_wp2_with fail
    go_ret
    exact HP.out
  · have HP : Hid (OpenPost w (.returned (.pointer (some ⟨w.heap.size, 0, none⟩))) (w.alloc (.cells #[.slice p n c, .int .i64 0] 93))) := Lib.hid (DrAt.made (by omega) ⟨p, c, rfl, by omega, hh⟩)
    clear hh
    have h3 : ¬ (2000 : Int) < (n : Int) := by omega
    go_enter Try.func34, Try.ntmps34
    go_wp2_with fail
    go_ret
    exact HP.out

def DrOfPost (w : World) (g t : Nat) (P : ByteArray → Prop) (e : Ending) (w' : World) : Prop :=
  ∃ s : ByteArray, e = .returned (.string s) ∧ P s ∧ DrAt w' g (t + 1) ∧ Keeps (oneB g) w w'

set_option maxRecDepth 100000 in
set_option maxHeartbeats 4000000 in
theorem drOf_any (g t b k : Nat) (cs : Array Value) (T : TypeId) (P : ByteArray → Prop) (w : World) (h : DrAt w g t) (ht : t ≤ 100000) (hb : Blk w b cs T) (hne : b ≠ g) (hk0 : 0 < k) (hk : k ≤ 100)
    (hP : ∀ i, i < k → ∃ s : ByteArray, cs[i]? = some (.string s) ∧ P s) :
    Calls Try.prog 56 #[.pointer (some ⟨g, 0, none⟩), .slice (some ⟨b, 0, none⟩) k k] w (DrOfPost w g t P) := by
  have HC := Lib.hid (pick_any g t k w h ht (by omega))
  have HB : Hid (∀ x w', x < k → Keeps (oneB g) w w' → ∃ s : ByteArray, w'.cell? ⟨b, x, none⟩ = some (.string s) ∧ P s) := Lib.hid (fun x w' hx q => by
    obtain ⟨s, h1, h2⟩ := hP x hx
    exact ⟨s, ((q.blk hb (fun e => hne e)).cell x).trans h1, h2⟩)
  clear h hb hP
  go_enter Try.func56, Try.ntmps56
  go_wp2_with fail
  refine HC.out.mono ?_
  rintro e w1 ⟨x, rfl, hx, hr, q⟩
  have hxk : x < k := by omega
  obtain ⟨s, hs, hp⟩ := HB.out x w1 hxk q
  have hxi : (x : Int) < (k : Int) := by omega
  have HE : Hid (DrOfPost w g t P (.returned (.string s)) w1) := Lib.hid ⟨s, rfl, hp, hr, q⟩
  clear hr q hp
  go_wp2_with fail
  go_ret
  exact HE.out

def NumPickPost (w : World) (g t : Nat) (P : Int → Prop) (e : Ending) (w' : World) : Prop :=
  ∃ s : Int, e = .returned (.int .i64 s) ∧ P s ∧ DrAt w' g (t + 1) ∧ Keeps (oneB g) w w'

set_option maxRecDepth 100000 in
set_option maxHeartbeats 4000000 in
theorem numOf_any (g t b k : Nat) (cs : Array Value) (T : TypeId) (P : Int → Prop) (w : World) (h : DrAt w g t) (ht : t ≤ 100000) (hb : Blk w b cs T) (hne : b ≠ g) (hk0 : 0 < k) (hk : k ≤ 100)
    (hP : ∀ i, i < k → ∃ s : Int, cs[i]? = some (.int .i64 s) ∧ P s) :
    Calls Try.prog 67 #[.pointer (some ⟨g, 0, none⟩), .slice (some ⟨b, 0, none⟩) k k] w (NumPickPost w g t P) := by
  have HC := Lib.hid (pick_any g t k w h ht (by omega))
  have HB : Hid (∀ x w', x < k → Keeps (oneB g) w w' → ∃ s : Int, w'.cell? ⟨b, x, none⟩ = some (.int .i64 s) ∧ P s) := Lib.hid (fun x w' hx q => by
    obtain ⟨s, h1, h2⟩ := hP x hx
    exact ⟨s, ((q.blk hb (fun e => hne e)).cell x).trans h1, h2⟩)
  clear h hb hP
  go_enter Try.func67, Try.ntmps67
  go_wp2_with fail
  refine HC.out.mono ?_
  rintro e w1 ⟨x, rfl, hx, hr, q⟩
  have hxk : x < k := by omega
  obtain ⟨s, hs, hp⟩ := HB.out x w1 hxk q
  have hxi : (x : Int) < (k : Int) := by omega
  have HE : Hid (NumPickPost w g t P (.returned (.int .i64 s)) w1) := Lib.hid ⟨s, rfl, hp, hr, q⟩
  clear hr q hp
  go_wp2_with fail
  go_ret
  exact HE.out

end Go.Proofs.Ythpjkickpodmcaa

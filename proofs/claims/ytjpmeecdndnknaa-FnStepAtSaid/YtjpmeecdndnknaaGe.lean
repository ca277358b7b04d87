/-
  The model's drawers: a program; a text that is mostly a program.
-/
import Derived.Test.YtjpmeecdndnknaaGc
import Derived.Test.YtjpmeecdndnknaaGd
import Derived.Test.YtjpmeecdndnknaaSz
import Derived.Test.YtjpmeecdndnknaaWqe
import Derived.Test.YtjpmeecdndnknaaRf
namespace Go.Proofs.Ytjpmeecdndnknaa
set_option linter.unusedVariables false
set_option linter.unusedSimpArgs false
open Go.RowKit

def GoodPost (w : World) (g t : Nat) (e : Ending) (w' : World) : Prop :=
  ∃ (s : ByteArray) (t' : Nat), e = .returned (.string s) ∧ 1 ≤ s.size ∧ s.size ≤ 2000 ∧ t' ≤ t + 1250 ∧ DrAt w' g t' ∧ Keeps (oneB g) w w'

set_option maxRecDepth 100000 in
set_option maxHeartbeats 8000000 in
theorem good_any (g t : Nat) (w : World) (h : DrAt w g t) (ht : t ≤ 45000) : Calls Try.prog 43 #[.pointer (some ⟨g, 0, none⟩)] w (GoodPost w g t) := by
  have H1 := Lib.hid (pick_any g t 3 w h (by omega) (by omega))
  clear h
  go_enter Try.func43, Try.ntmps43
  go_wp2_with fail
  refine H1.out.mono ?_
  rintro e w1 ⟨j, rfl, hj, hr, q⟩
  have J1 := Lib.hid (And.intro hr q)
  clear hr q H1
  by_cases hj0 : j = 0
  · subst hj0
    have H2 := Lib.hid (pick_any g (t + 1) 15 w1 J1.out.1 (by omega) (by omega))
    go_wp2_with fail
    refine H2.out.mono ?_
    rintro e w2 ⟨k, rfl, hk, hr, q⟩
    have J2 := Lib.hid (And.intro hr (J1.out.2.trans q))
    clear hr q H2
    have H3 := Lib.hid (known_any k (by omega) w2)
    go_wp2_with fail
    refine H3.out.mono ?_
    rintro e w3 ⟨s, rfl, hs1, hs2, q⟩
    have HE : Hid (GoodPost w g t (.returned (.string s)) w3) := Lib.hid ⟨s, t + 1 + 1, rfl, hs1, by omega, by omega, J2.out.1.keeps q, J2.out.2.trans (q.mono (fun _ e => e.elim))⟩
    clear q H3
    go_wp2_with fail
    go_ret
    exact HE.out
  · have hj1 : ¬ (j : Int) = 0 := by omega
    have HO : Hid (∀ T, Calls Try.prog 42 #[.pointer (some ⟨g, 0, none⟩), .slice (some ⟨w1.heap.size, 0, none⟩) 3 3] (w1.alloc (.cells #[.string ⟨#[97, 98]⟩, .string ⟨#[97]⟩, .string ⟨#[97, 98, 99]⟩] T)) (DrOfPost (w1.alloc (.cells #[.string ⟨#[97, 98]⟩, .string ⟨#[97]⟩, .string ⟨#[97, 98, 99]⟩] T)) g (t + 1) (fun s => 1 ≤ s.size ∧ s.size ≤ 3))) := Lib.hid (fun T => by
      refine drOf_any g (t + 1) w1.heap.size 3 _ T _ _ (J1.out.1.keeps ((Keeps.refl noB w1).alloc _)) (by omega) (Blk.new w1 _ _) (by have := J1.out.1.lt; omega) (by omega) (by omega) ?_
      intro i hi
      have h : i = 0 ∨ i = 1 ∨ i = 2 := by omega
      rcases h with rfl | rfl | rfl
      · exact ⟨_, rfl, by decide, by decide⟩
      · exact ⟨_, rfl, by decide, by decide⟩
      · exact ⟨_, rfl, by decide, by decide⟩)
    go_wp2_with fail
    refine (HO.out _).mono ?_
    rintro e w2 ⟨vs, rfl, ⟨hv1, hv2⟩, hr, q⟩
    have J2 := Lib.hid (And.intro hr ((J1.out.2.alloc _).trans q))
    clear hr q HO
    have y1 : (⟨#[123]⟩ : ByteArray).size = 1 := rfl
    have y2 : (⟨#[58]⟩ : ByteArray).size = 1 := rfl
    have y3 : (⟨#[125]⟩ : ByteArray).size = 1 := rfl
    obtain ⟨c1, z1, r1⟩ := add_run ⟨#[123]⟩ vs (by omega) (by omega)
    obtain ⟨c2, z2, r2⟩ := add_run c1 ⟨#[58]⟩ (by omega) (by omega)
    have H3 := Lib.hid (body_two vs g (t + 1 + 1) w2 hv1 (by omega) J2.out.1 (by omega))
    go_wp2_with fail
    refine H3.out.mono ?_
    rintro e w3 ⟨x, t3, rfl, hx, ht3, hr, q⟩
    have J3 := Lib.hid (And.intro hr (J2.out.2.trans q))
    clear hr q H3
    obtain ⟨c3, z3, r3⟩ := add_run c2 x (by omega) (by omega)
    obtain ⟨c4, z4, r4⟩ := add_run c3 ⟨#[125]⟩ (by omega) (by omega)
    have H4 := Lib.hid (specValid c4 (by omega) w3)
    obtain ⟨b, hb⟩ : ∃ b, (progP c4).isSome = b := ⟨_, rfl⟩
    rw [hb] at H4
    clear hb
    go_wp2_with fail
    refine H4.out.mono ?_
    rintro e w4 ⟨rfl, q⟩
    have J4 := Lib.hid (And.intro (J3.out.1.keeps q) (J3.out.2.trans (q.mono (fun _ e => e.elim))))
    clear q H4
    cases b with
    | true =>
      go_wp2_with fail
      go_ret
      exact ⟨c4, t3, rfl, by omega, by omega, by omega, J4.out.1, J4.out.2⟩
    | false =>
      go_wp2_with fail
      go_ret
      exact ⟨_, t3, rfl, by decide, by decide, by omega, J4.out.1, J4.out.2⟩

end Go.Proofs.Ytjpmeecdndnknaa

/-
  The model's drawers: a program; a text that is mostly a program.
  The model's drawers: a text that is mostly a program.
-/
import Derived.Test.YthpjkickpodmcaaGc
import Derived.Test.YthpjkickpodmcaaGd
import Derived.Test.YthpjkickpodmcaaSz
import Derived.Test.YthpjkickpodmcaaWqe
import Derived.Test.YthpjkickpodmcaaRf
namespace Go.Proofs.Ythpjkickpodmcaa
set_option linter.unusedVariables false
set_option linter.unusedSimpArgs false
open Go.RowKit

def GoodPost (w : World) (g t : Nat) (e : Ending) (w' : World) : Prop :=
  ∃ (s : ByteArray) (t' : Nat), e = .returned (.string s) ∧ 1 ≤ s.size ∧ s.size ≤ 2000 ∧ t' ≤ t + 1250 ∧ DrAt w' g t' ∧ Keeps (oneB g) w w'

set_option maxRecDepth 100000 in
set_option maxHeartbeats 8000000 in
theorem good_any (g t : Nat) (w : World) (h : DrAt w g t) (ht : t ≤ 45000) : Calls Try.prog 54 #[.pointer (some ⟨g, 0, none⟩)] w (GoodPost w g t) := by
  have H1 := Lib.hid (pick_any g t 3 w h (by omega) (by omega))
  clear h
  go_enter Try.func54, Try.ntmps54
  go_wp2_with fail
  refine H1.out.mono ?_
  rintro e w1 ⟨j, rfl, hj, hr, q⟩
  have J1 := Lib.hid (And.intro hr q)
  clear hr q H1
  by_cases hj0 : j = 0
  · subst hj0
    have H2 := Lib.hid (pick_any g (t + 1) 15 w1 J1.out.1 (by omega) (by omega))
    go_wp2_with fail
    refine H2.out.mono ?_
    rintro e w2 ⟨k, rfl, hk, hr, q⟩
    have J2 := Lib.hid (And.intro hr (J1.out.2.trans q))
    clear hr q H2
    have H3 := Lib.hid (known_any k (by omega) w2)
    go_wp2_with fail
    refine H3.out.mono ?_
    rintro e w3 ⟨s, rfl, hs1, hs2, q⟩
    have HE : Hid (GoodPost w g t (.returned (.string s)) w3) := Lib.hid ⟨s, t + 1 + 1, rfl, hs1, by omega, by omega, J2.out.1.keeps q, J2.out.2.trans (q.mono (fun _ e => e.elim))⟩
    clear q H3
    go_wp2_with fail
    go_ret
    exact HE.out
  · have hj1 : ¬ (j : Int) = 0 := by omega
    have HO : Hid (∀ T, Calls Try.prog 56 #[.pointer (some ⟨g, 0, none⟩), .slice (some ⟨w1.heap.size, 0, none⟩) 3 3] (w1.alloc (.cells #[.string ⟨#[97, 98]⟩, .string ⟨#[97]⟩, .string ⟨#[97, 98, 99]⟩] T)) (DrOfPost (w1.alloc (.cells #[.string ⟨#[97, 98]⟩, .string ⟨#[97]⟩, .string ⟨#[97, 98, 99]⟩] T)) g (t + 1) (fun s => 1 ≤ s.size ∧ s.size ≤ 3))) := Lib.hid (fun T => by
      refine drOf_any g (t + 1) w1.heap.size 3 _ T _ _ (J1.out.1.keeps ((Keeps.refl noB w1).alloc _)) (by omega) (Blk.new w1 _ _) (by have := J1.out.1.lt; omega) (by omega) (by omega) ?_
      intro i hi
      have h : i = 0 ∨ i = 1 ∨ i = 2 := by omega
      rcases h with rfl | rfl | rfl
      · exact ⟨_, rfl, by decide, by decide⟩
      · exact ⟨_, rfl, by decide, by decide⟩
      · exact ⟨_, rfl, by decide, by decide⟩)
    go_wp2_with fail
    refine (HO.out _).mono ?_
    rintro e w2 ⟨vs, rfl, ⟨hv1, hv2⟩, hr, q⟩
    have J2 := Lib.hid (And.intro hr ((J1.out.2.alloc _).trans q))
    clear hr q HO
    have y1 : (⟨#[123]⟩ : ByteArray).size = 1 := rfl
    have y2 : (⟨#[58]⟩ : ByteArray).size = 1 := rfl
    have y3 : (⟨#[125]⟩ : ByteArray).size = 1 := rfl
    obtain ⟨c1, z1, r1⟩ := add_run ⟨#[123]⟩ vs (by omega) (by omega)
    obtain ⟨c2, z2, r2⟩ := add_run c1 ⟨#[58]⟩ (by omega) (by omega)
    have H3 := Lib.hid (body_two vs g (t + 1 + 1) w2 hv1 (by omega) J2.out.1 (by omega))
    go_wp2_with fail
    refine H3.out.mono ?_
    rintro e w3 ⟨x, t3, rfl, hx, ht3, hr, q⟩
    have J3 := Lib.hid (And.intro hr (J2.out.2.trans q))
    clear hr q H3
    obtain ⟨c3, z3, r3⟩ := add_run c2 x (by omega) (by omega)
    obtain ⟨c4, z4, r4⟩ := add_run c3 ⟨#[125]⟩ (by omega) (by omega)
    have H4 := Lib.hid (specValid c4 (by omega) w3)
    obtain ⟨b, hb⟩ : ∃ b, (progP c4).isSome = b := ⟨_, rfl⟩
    rw [hb] at H4
    clear hb
    go_wp2_with fail
    refine H4.out.mono ?_
    rintro e w4 ⟨rfl, q⟩
    have J4 := Lib.hid (And.intro (J3.out.1.keeps q) (J3.out.2.trans (q.mono (fun _ e => e.elim))))
    clear q H4
    cases b with
    | true =>
      go_wp2_with fail
      go_ret
      exact ⟨c4, t3, rfl, by omega, by omega, by omega, J4.out.1, J4.out.2⟩
    | false =>
      go_wp2_with fail
      go_ret
      exact ⟨_, t3, rfl, by decide, by decide, by omega, J4.out.1, J4.out.2⟩

end Go.Proofs.Ythpjkickpodmcaa

namespace Go.Proofs.Ythpjkickpodmcaa
set_option linter.unusedVariables false
set_option linter.unusedSimpArgs false
open Go.RowKit

def AnyPost (w : World) (g t : Nat) (e : Ending) (w' : World) : Prop :=
  ∃ (s : ByteArray) (t' : Nat), e = .returned (.string s) ∧ s.size ≤ 3000 ∧ t' ≤ t + 1300 ∧ DrAt w' g t' ∧ Keeps (oneB g) w w'

theorem resAny (W : World) (v : Value) (tmps : Array Value) (h : tmps.getD 2 undef = v) : (results Try.f33 tmps).run Try.prog W = .ok v W := by
  have h' : tmps[2]?.getD undef = v := by simpa using h
  simp [results, Try.results33, go_sem, h']

set_option maxRecDepth 100000 in
set_option maxHeartbeats 8000000 in
theorem any_any (g t : Nat) (w : World) (h : DrAt w g t) (ht : t ≤ 40000) : Calls Try.prog 33 #[.pointer (some ⟨g, 0, none⟩)] w (AnyPost w g t) := by
  have HG := Lib.hid (good_any g t w h (by omega))
  clear h
  refine (callsIn_wide (n := 9)).1 ?_
  obtain ⟨F, hF⟩ : ∃ F, F = Fence.wide := ⟨_, rfl⟩
  have hFf : ∀ f, F.fn f := by subst hF; exact fun _ => trivial
  have hdd : ∀ k : Nat, (F.depth.isSome = true → 1 ≤ k) := by subst hF; intro k h; simp [Fence.wide] at h
  have hro : F.round = none := by subst hF; rfl
  have hds : F.depth.isSome = false := by subst hF; rfl
  rw [← hF]
  have HF := Lib.hid hF
  clear hF
  have HGc : Hid (∀ n', CallsIn F n' Try.prog 54 #[.pointer (some ⟨g, 0, none⟩)] w (GoodPost w g t)) := Lib.hid (fun n' => by rw [HF.out]; exact callsIn_wide.2 HG.out)
  have HPc : Hid (∀ n' W t1 k, DrAt W g t1 → t1 ≤ 100000 → k ≤ 100000 → CallsIn F n' Try.prog 55 #[.pointer (some ⟨g, 0, none⟩), .int .i64 ((k : Nat) : Int)] W (PickPost W g t1 k)) := Lib.hid (fun n' W t1 k a b c => by rw [HF.out]; exact callsIn_wide.2 (pick_any g t1 k W a b c))
  have HOc : Hid (∀ n' W t1 T, DrAt W g t1 → t1 ≤ 100000 → CallsIn F n' Try.prog 56 #[.pointer (some ⟨g, 0, none⟩), .slice (some ⟨W.heap.size, 0, none⟩) 7 7] (W.alloc (.cells #[.string ⟨#[]⟩, .string ⟨#[123]⟩, .string ⟨#[125]⟩, .string ⟨#[43]⟩, .string ⟨#[97]⟩, .string ⟨#[91]⟩, .string ⟨#[43, 99]⟩] T)) (DrOfPost (W.alloc (.cells #[.string ⟨#[]⟩, .string ⟨#[123]⟩, .string ⟨#[125]⟩, .string ⟨#[43]⟩, .string ⟨#[97]⟩, .string ⟨#[91]⟩, .string ⟨#[43, 99]⟩] T)) g t1 (fun s => s.size ≤ 2))) := Lib.hid (fun n' W t1 T a b => by
    rw [HF.out]
    refine callsIn_wide.2 (drOf_any g t1 W.heap.size 7 _ T _ _ (a.keeps ((Keeps.refl noB W).alloc _)) b (Blk.new W _ _) (by have := a.lt; omega) (by omega) (by omega) ?_)
    intro i hi
    have h : i = 0 ∨ i = 1 ∨ i = 2 ∨ i = 3 ∨ i = 4 ∨ i = 5 ∨ i = 6 := by omega
    rcases h with rfl | rfl | rfl | rfl | rfl | rfl | rfl <;> exact ⟨_, rfl, by decide⟩)
  clear HG
  refine callsIn_of_wp_marks Try.func33 rfl (hFf _) ?_ hro
  simp only [Try.ntmps33, List.size_toArray, List.length_cons, List.length_nil, Nat.reduceAdd, Nat.reduceSub, Array.replicate_succ, Array.replicate_zero, List.push_toArray, List.append_toArray, List.nil_append, List.cons_append]
  gi_wp2
  refine CallsIn.mono (HGc.out _) ?_
  rintro e w1 ⟨s, t1, rfl, hs1, hs2, ht1, hr, q⟩
  have J1 := Lib.hid (And.intro hr q)
  clear hr q HGc
  gi_wp2
  refine CallsIn.mono (HPc.out _ _ t1 14 J1.out.1 (by omega) (by omega)) ?_
  rintro e w2 ⟨j, rfl, hj, hr, q⟩
  have J2 := Lib.hid (And.intro hr (J1.out.2.trans q))
  clear hr q J1
  by_cases hj0 : j = 0
  · subst hj0
    gi_wp2
    refine CallsIn.mono (HPc.out _ _ (t1 + 1) s.size J2.out.1 (by omega) (by omega)) ?_
    rintro e w3 ⟨k, rfl, hk, hr, q⟩
    have hk' : k < s.size := by omega
    have J3 := Lib.hid (And.intro hr (J2.out.2.trans q))
    clear hr q J2 hk
    obtain ⟨u, hu1, hsl1⟩ := slice_to s k (by omega)
    gi_wp2
    refine wpIn_region_seqP (fun _ => True) [(0, true), (1, true), (2, true), (3, true), (7, true), (8, true), (9, true), (4, false), (5, false), (6, true), (10, false), (11, true), (12, true), (13, true), (14, true)] hro hFf (by kernel_rfl) (by kernel_rfl) (by kernel_rfl) rfl (by kernel_rfl) trivial ?_
    refine seqH_take (.string s) rfl rfl (fun W4 _ => by go_simp) (fun K hK => ?_)
    go_simp
    refine hK _ ?_
    clear hK K
    refine seqH_take (.int .i64 (k : Int)) rfl rfl (fun W4 _ => by go_simp) (fun K hK => ?_)
    go_simp
    refine hK _ ?_
    clear hK K
    refine seqH_take (.string u) rfl rfl (fun W4 _ => by go_simp) (fun K hK => ?_)
    go_simp
    refine hK _ ?_
    clear hK K
    refine seqH_take (.pointer (some ⟨g, 0, none⟩)) rfl rfl (fun W4 _ => by go_simp) (fun K hK => ?_)
    go_simp
    refine hK _ ?_
    clear hK K
    refine seqH_take (.string s) rfl rfl (fun W4 _ => by go_simp) (fun K hK => ?_)
    go_simp
    refine hK _ ?_
    clear hK K
    refine seqH_take (.int .i64 (k : Int)) rfl rfl (fun W4 _ => by go_simp) (fun K hK => ?_)
    go_simp
    refine hK _ ?_
    clear hK K
    refine seqH_take (.pointer (some ⟨g, 0, none⟩)) rfl rfl (fun W4 _ => by go_simp) (fun K hK => ?_)
    go_simp
    refine hK _ ?_
    clear hK K
    refine seqH_loud rfl (fun K hK => ?_)
    gi_wp2
    refine hK _ _ trivial ?_
    clear hK K
    refine seqH_loud rfl (fun K hK => ?_)
    gi_wp2
    refine CallsIn.mono (HOc.out _ _ (t1 + 1 + 1) _ (J3.out.1.keeps ((Keeps.refl noB w3).drew)) (by omega)) ?_
    rintro e w4 ⟨x, rfl, hx, hr, q⟩
    have J4 := Lib.hid (And.intro hr ((J3.out.2.drew.alloc _).trans q))
    clear hr q J3
    gi_wp2
    refine hK _ _ trivial ?_
    clear hK K
    obtain ⟨c1, z1, r1⟩ := add_run u x (by omega) (by omega)
    refine seqH_take (.string c1) rfl rfl (fun W4 _ => by go_simp) (fun K hK => ?_)
    go_simp
    refine hK _ ?_
    clear hK K
    refine seqH_loud rfl (fun K hK => ?_)
    gi_wp2
    refine CallsIn.mono (HPc.out _ _ (t1 + 1 + 1 + 1) 2 J4.out.1 (by omega) (by omega)) ?_
    rintro e w5 ⟨b, rfl, hb, hr, q⟩
    have J5 := Lib.hid (And.intro hr (J4.out.2.trans q))
    clear hr q J4
    gi_wp2
    refine hK _ _ trivial ?_
    clear hK K
    have hkb : k + b ≤ s.size := by omega
    have hb2 : (b : Int) ≤ 2 := by omega
    have hk6 : (k : Int) ≤ 3000 := by omega
    obtain ⟨u2, hu2, hsl2⟩ := slice_from s (k + b) hkb
    have hsl2 : ∀ wx, (Instr.slice 9 (.string s) (some (.int .i64 ((k : Int) + (b : Int)))) none none).run Try.prog wx = .ok (.string u2) wx := hsl2
    obtain ⟨c2, z2, r2⟩ := add_run c1 u2 (by omega) (by omega)
    have hwr : IntKind.i64.wrap ((k : Int) + (b : Int)) = (k : Int) + (b : Int) := by
      simp [IntKind.wrap, IntKind.bits, IntKind.signed]
      omega
    have HWR := Lib.hid hwr
    clear hwr
    refine seqH_take (.int .i64 ((k : Int) + (b : Int))) rfl rfl (fun W4 _ => by go_simp; exact HWR.out) (fun K hK => ?_)
    go_simp
    refine hK _ ?_
    clear hK K
    refine seqH_take (.string u2) rfl rfl (fun W4 _ => by go_simp) (fun K hK => ?_)
    go_simp
    refine hK _ ?_
    clear hK K
    refine seqH_take (.string c2) rfl rfl (fun W4 _ => by go_simp) (fun K hK => ?_)
    go_simp
    refine hK _ ?_
    clear hK K
    refine seqH_take (.string c2) rfl rfl (fun W4 _ => by go_simp) (fun K hK => ?_)
    go_simp
    refine hK _ ?_
    clear hK K
    simp only [wpSeqH, noPanic]
    gi_wp2
    refine leaves_marks [] _ List.nodup_nil (fun _ h => by cases h) (fun W' q _ => ?_)
    exact ⟨_, resAny W' (.string c2) _ rfl, c2, t1 + 1 + 1 + 1 + 1, rfl, by omega, by omega, J5.out.1.keeps (q.mono (fun _ e => by cases e)), J5.out.2.trans (q.mono (fun _ e => by cases e))⟩
  · have hj1 : (0 : Int) < (j : Int) := by omega
    gi_wp2
    refine leaves_marks [] _ List.nodup_nil (fun _ h => by cases h) (fun W' q _ => ?_)
    exact ⟨_, resAny W' (.string s) _ rfl, s, t1 + 1, rfl, by omega, by omega, J2.out.1.keeps (q.mono (fun _ e => by cases e)), J2.out.2.trans (q.mono (fun _ e => by cases e))⟩

end Go.Proofs.Ythpjkickpodmcaa

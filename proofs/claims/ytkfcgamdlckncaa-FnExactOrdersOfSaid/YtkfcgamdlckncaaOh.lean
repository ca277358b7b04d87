/-
  The program's programsInOrder and OrdersOf.
-/
import Derived.Test.YtkfcgamdlckncaaOg
namespace Go.Proofs.Ytkfcgamdlckncaa
set_option linter.unusedVariables false
set_option linter.unusedSimpArgs false
open Go.RowKit Go.Shelf

attribute [local go_sem] Oper.semAt_some

/-- A program whose outermost letters are put in order: at most four. -/
def ordX (p : ByteArray) : Option Nd := (progP p).bind (fun x => if x.vars.length ≤ 4 then some x else none)
/-- What OrdersOf answers. -/
def ordersP (p : ByteArray) : Option (List (List UInt8)) := (ordX p).map ordersL

theorem ordX_some {p : ByteArray} {x : Nd} (h : ordX p = some x) : progP p = some x ∧ x.vars.length ≤ 4 := by
  unfold ordX at h
  cases hp : progP p with
  | none => rw [hp] at h; cases h
  | some y =>
    rw [hp, Option.bind_some] at h
    split at h
    · injection h with h; subst h; exact ⟨rfl, by assumption⟩
    · cases h

theorem orders_few {p : ByteArray} {x : Nd} (h : ordX p = some x) : (ordersL x).length ≤ 256 := by
  obtain ⟨h1, h2⟩ := ordX_some h
  refine permsP_len (Nat.le_trans (once_len _ _ (lets_once _) (fun v hv => ?_)) h2)
  have h3 := mem_lets.1 hv
  exact (bits_mem (fun u hu => ((root_is h1).decl.each u hu).1) h3.1).1 h3.2

def InOrdPost (w : World) (p : ByteArray) (res : Option Nd) (e : Ending) (w' : World) : Prop :=
  match res with
  | none => e = .returned (.tuple #[.nilFunc, .bool false]) ∧ Keeps noB w w'
  | some x => ∃ RB PB g, e = .returned (.tuple #[.func (.func 76) #[] #[.pointer (some ⟨RB, 0, none⟩), .pointer (some ⟨PB, 0, none⟩)], .bool true]) ∧ OrdAt p x RB PB g w' ∧ w.heap.size ≤ RB ∧ w.heap.size ≤ PB ∧ w.heap.size ≤ g ∧ Keeps noB w w'

theorem root_new {w : World} {B : Nat} {z : Nd} {g : Nat} (h : RepI w (fromB B) z (.iface 62 (ptr g))) : B ≤ g := by
  obtain ⟨_, _, h3, _⟩ := rep_step z w (fromB B) _ g h
  exact h3

set_option maxRecDepth 100000 in
set_option maxHeartbeats 4000000 in
theorem inOrder_any (p : ByteArray) (hs : p.size ≤ 1048576) (w : World) : Calls Try.prog 56 #[.string p] w (InOrdPost w p (ordX p)) := by
  have HR := Lib.hid (fun w => read_any p hs w)
  have q0 : Keeps noB w (w.alloc (.cells #[.string p] 9)) := (Keeps.refl _ _).alloc _
  have b0 := Blk.new w #[.string p] 9
  have HQ0 := Lib.hid (And.intro q0 b0)
  unfold ordX
  cases hp : progP p with
  | none =>
    rw [hp] at HR
    simp only [Option.bind_none, InOrdPost]
    clear hp q0 b0
    go_enter Try.func56, Try.ntmps56
    go_wp2_with fail
    refine (HR.out _).mono ?_
    rintro e w1 ⟨rfl, q1⟩
    have HQ := Lib.hid ((HQ0.out.1.trans q1).alloc (.cells #[.pointer none] 62))
    clear q1
    go_wp2_with fail
    go_ret2
    exact ⟨rfl, HQ.out⟩
  | some x =>
    rw [hp] at HR
    simp only [Option.bind_some]
    have hri := root_is hp
    have h6 := hri.six
    by_cases h4 : x.vars.length ≤ 4
    · rw [if_pos h4]
      clear hp hri q0 b0
      go_enter Try.func56, Try.ntmps56
      go_wp2_with fail
      refine (HR.out _).mono ?_
      rintro e w1 ⟨g, rfl, hr, q1⟩
      obtain ⟨hc, hg⟩ := root_cell hr
      have hgn := root_new hr
      unfold str at hc
      obtain ⟨VS, hVS⟩ : ∃ VS : ByteArray, (⟨x.vars.toArray⟩ : ByteArray) = VS := ⟨_, rfl⟩
      rw [hVS] at hc
      have hVL : VS.size = x.vars.length := by rw [← hVS]; rfl
      have HVL := Lib.hid (And.intro hVS hVL)
      unfold ptr
      have h2 : Keeps noB w1 (w1.alloc (.cells #[.pointer (some ⟨g, 0, none⟩)] 62)) := (Keeps.refl _ _).alloc _
      have hB := Blk.new w1 #[.pointer (some ⟨g, 0, none⟩)] 62
      have hgc := (h2.cell (p := ⟨g, 2, none⟩) hg id).trans hc
      have hrc := (hB.cell 0).trans rfl
      have hP := h2.blk (q1.blk HQ0.out.2 id) id
      have HE := Lib.hid (And.intro hB (And.intro hP (And.intro (HQ0.out.1.trans q1) (And.intro h2 (And.intro hgn (And.intro hg hgc))))))
      have hgl : g < (w1.alloc (.cells #[.pointer (some ⟨g, 0, none⟩)] 62)).heap.size := Nat.lt_of_lt_of_le hg h2.size
      have hvs : (VS.size : Int) ≤ 4 := by have := HVL.out.2; omega
      clear hr q1 hc hg hgn hVS hVL h2 hB hP
      go_wp2_with fail
      go_ret2
      obtain ⟨hB, hP, hk, h2, hgn, hg, hgc⟩ := HE.out
      have hks := hk.size
      have h0s := HQ0.out.1.size
      refine ⟨w1.heap.size, w.heap.size, g, rfl, ⟨?_, hP, ?_, Nat.lt_of_lt_of_le hg h2.size⟩, hks, Nat.le_refl _, by simp at hgn; omega, hk.trans h2⟩
      · simpa using hB
      · unfold str; rw [HVL.out.1]; exact hgc
    · rw [if_neg h4]
      clear hp hri q0 b0
      go_enter Try.func56, Try.ntmps56
      go_wp2_with fail
      refine (HR.out _).mono ?_
      rintro e w1 ⟨g, rfl, hr, q1⟩
      obtain ⟨hc, hg⟩ := root_cell hr
      have hgn := root_new hr
      unfold str at hc
      obtain ⟨VS, hVS⟩ : ∃ VS : ByteArray, (⟨x.vars.toArray⟩ : ByteArray) = VS := ⟨_, rfl⟩
      rw [hVS] at hc
      have hVL : VS.size = x.vars.length := by rw [← hVS]; rfl
      have HVL := Lib.hid (And.intro hVS hVL)
      unfold ptr
      have h2 : Keeps noB w1 (w1.alloc (.cells #[.pointer (some ⟨g, 0, none⟩)] 62)) := (Keeps.refl _ _).alloc _
      have hB := Blk.new w1 #[.pointer (some ⟨g, 0, none⟩)] 62
      have hgc := (h2.cell (p := ⟨g, 2, none⟩) hg id).trans hc
      have hrc := (hB.cell 0).trans rfl
      have hP := h2.blk (q1.blk HQ0.out.2 id) id
      have HE := Lib.hid (And.intro hB (And.intro hP (And.intro (HQ0.out.1.trans q1) (And.intro h2 (And.intro hgn (And.intro hg hgc))))))
      have hgl : g < (w1.alloc (.cells #[.pointer (some ⟨g, 0, none⟩)] 62)).heap.size := Nat.lt_of_lt_of_le hg h2.size
      have hvs : 4 < (VS.size : Int) := by have := HVL.out.2; omega
      clear hr q1 hc hg hgn hVS hVL h2 hB hP
      go_wp2_with fail
      go_ret2
      obtain ⟨hB, hP, hk, h2, hgn, hg, hgc⟩ := HE.out
      have hks := hk.size
      exact ⟨rfl, hk.trans h2⟩

end Go.Proofs.Ytkfcgamdlckncaa

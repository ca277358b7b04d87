/-
  Lives sorted by their last use by slices.SortFunc.
-/
import Derived.Test.YthgocacabadflaaDoorSa
import Derived.Test.YthgocacabadflaaDoorShelfS
namespace Go.Proofs.YthgocacabadflaaDoor
set_option linter.unusedVariables false
set_option linter.unusedSimpArgs false
open Go.RowKit Go.Shelf

theorem swoU : Sort.SWO (ltOf cfU) where
  irrefl x := by rw [ltU]; simp
  trans x y z h1 h2 := by rw [ltU] at *; simp at *; omega
  ntrans x y z h1 h2 := by rw [ltU] at *; simp at *; omega

set_option maxHeartbeats 1000000 in
theorem sort_lives (w : World) (g cap : Nat) (s : List Lf) (h : LRow w (.slice (some ⟨g, 0, none⟩) s.length cap) s) (hn : 0 < s.length) (hl : s.length ≤ 600) :
    Calls Tryd.prog 60 #[.slice (some ⟨g, 0, none⟩) s.length cap, .func (.func 61) #[] #[]] w fun e w' =>
      e = .returned (.tuple #[]) ∧ ∃ s' : List Lf, s'.Perm s ∧ s'.Pairwise (fun f g => f.u ≤ g.u) ∧ LRow w' (.slice (some ⟨g, 0, none⟩) s.length cap) s' ∧ Keeps (oneB g) w w' := by
  have eg : ∀ args w, (callFunc 61 args).run Tryd.prog w = .ok (.enter 61 args) w := enters_of Tryd.func61 (by kernel_rfl) rfl
  have hg : g < w.heap.size := (h.lt g rfl).2
  have hcon := AnyQ.slices_SortFunc Tryd.sortLife 3 Tryd.isAgg41 Tryd.sizeOf41 encLf (fun _ => rfl) (fun x v hv => by simp [encLf] at hv; rcases hv with rfl | rfl | rfl <;> rfl) cfU swoU 61 #[] g 0 cap s.toArray w eg (byUse_lays g 0 s.toArray.size w) (holds_lives h) hg (by simp; omega)
  have hsz : s.toArray.size = s.length := by simp
  rw [hsz] at hcon
  refine hcon.mono ?_
  rintro e w' ⟨rfl, d', n, os, hp, hs, rfl⟩
  obtain ⟨p1, p2, p3⟩ := hp
  have hd : d'.toList.length = s.length := by simpa using p1
  have hperm : d'.toList.Perm s := by
    have e1 : (d'.extract 0 s.length) = d' := by rw [← hd]; simp
    have e2 : (s.toArray.extract 0 s.length) = s.toArray := by rw [← hsz]; simp
    rw [e1, e2] at p3
    simpa using p3
  obtain ⟨r1, r2⟩ := lrow_sorted (s' := d'.toList) h hn hd n os
  rw [hd] at r1
  have ed : d'.toList.toArray = d' := by simp
  rw [ed] at r1 r2
  refine ⟨rfl, d'.toList, hperm, ?_, r1, r2⟩
  rw [List.pairwise_iff_getElem]
  intro i j hi hj hij
  have h1 := hs i j (Nat.zero_le _) hij (by omega)
  rw [ltU, getElem!_pos d' j (by simpa using hj), getElem!_pos d' i (by simpa using hi)] at h1
  have h2 := of_decide_eq_false h1
  simp only [Array.getElem_toList]
  omega

end Go.Proofs.YthgocacabadflaaDoor

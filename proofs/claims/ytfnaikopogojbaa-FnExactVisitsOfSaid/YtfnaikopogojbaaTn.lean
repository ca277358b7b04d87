/-
  Walks of the model's run: VisitsOf.
-/
import Derived.Test.YtfnaikopogojbaaTlW
import Derived.Test.YtfnaikopogojbaaKu
namespace Go.Proofs.Ytfnaikopogojbaa
set_option linter.unusedVariables false
set_option linter.unusedSimpArgs false
open Go.RowKit

theorem resVisS (W : World) (v b : Value) (tmps : Array Value) (h4 : tmps.getD 4 undef = v) (h5 : tmps.getD 5 undef = b) : (results Try.f36 tmps).run Try.prog W = .ok (.tuple #[v, b]) W := by
  have h4' : tmps[4]?.getD undef = v := by simpa using h4
  have h5' : tmps[5]?.getD undef = b := by simpa using h5
  simp [results, Try.results36, go_sem, h4', h5']

set_option maxRecDepth 100000 in
set_option maxHeartbeats 2000000 in
theorem svisits_any (s ch : ByteArray) (hs : s.size ≤ 1048576) (hC : ch.size ≤ 1048576) (w : World) : Calls Try.prog 36 #[.string s, .string ch] w (VisitsPost w (visitsP s ch)) := by
  have h := runM_any s ch hs hC w
  unfold visitsP
  cases hr : runP s ch with
  | none =>
    rw [hr] at h
    have HC := Lib.hid h
    clear h hr
    go_enter Try.func36, Try.ntmps36
    go_wp2_with (go_at_call 75; refine HC.out.mono ?_; rintro e w1 ⟨b, rfl, q⟩; have HQ := Lib.hid q; clear q)
    refine bodyPost_ret (resVisS _ _ _ _ rfl rfl) rfl ?_
    exact ⟨_, [], rfl, ⟨World.ownsRow_made w1 #[] 0 (Nat.zero_le _) (by simp [maxLen]) rfl, fun g e => by have := HQ.out.size; simp [Value.ownBlock] at e; subst e; exact this⟩, HQ.out.alloc _, Nat.zero_le _, rfl⟩
  | some o =>
    rw [hr] at h
    have HC := Lib.hid h
    have HV := Lib.hid (runP_few hr)
    clear h hr
    simp only
    cases ho : o.right with
    | false =>
      rw [if_neg (by simp)]
      have HC : Hid (Calls Try.prog 75 #[.string s, .string ch] w (fun e w' => ∃ b, e = .returned (.tuple #[.pointer (some ⟨b, 0, none⟩), .bool false]) ∧ Keeps noB w w')) := HC.out.mono (fun e w' hq => by
        obtain ⟨b, own', vv, he, q, _⟩ := hq
        rw [ho] at he
        exact ⟨b, he, q⟩)
      clear ho
      go_enter Try.func36, Try.ntmps36
      go_wp2_with (go_at_call 75; refine HC.out.mono ?_; rintro e w1 ⟨b, rfl, q⟩; have HQ := Lib.hid q; clear q)
      refine bodyPost_ret (resVisS _ _ _ _ rfl rfl) rfl ?_
      exact ⟨_, [], rfl, ⟨World.ownsRow_made w1 #[] 0 (Nat.zero_le _) (by simp [maxLen]) rfl, fun g e => by have := HQ.out.size; simp [Value.ownBlock] at e; subst e; exact this⟩, HQ.out.alloc _, Nat.zero_le _, rfl⟩
    | true =>
      rw [if_pos rfl]
      have HC : Hid (Calls Try.prog 75 #[.string s, .string ch] w (fun e w' => ∃ b vv, e = .returned (.tuple #[.pointer (some ⟨b, 0, none⟩), .bool true]) ∧ w'.cell? ⟨b, 14, none⟩ = some vv ∧ Row w' (fromB w.heap.size) 47 2 vv o.st.vis.length (vsCells o.st.vis) ∧ Keeps noB w w')) := HC.out.mono (fun e w' hq => by
        obtain ⟨b, own', vv, he, q, hf, hown⟩ := hq
        rw [ho] at he
        exact ⟨b, vv, he, hf.blk.cell 14, ⟨hf.vis, fun g hg => (hown g (hf.ownV g hg).1).1⟩, q⟩)
      clear ho
      go_enter Try.func36, Try.ntmps36
      go_wp2_with (go_at_call 75; refine HC.out.mono ?_; rintro e w1 ⟨b, vv, rfl, y14, hrow, q⟩; obtain ⟨a, c, rfl⟩ := row_shape hrow; have HQ := Lib.hid (And.intro hrow q); clear hrow q)
      refine bodyPost_ret (resVisS _ _ _ _ rfl rfl) rfl ?_
      exact ⟨_, o.st.vis, rfl, HQ.out.1, HQ.out.2, HV.out, rfl⟩

end Go.Proofs.Ytfnaikopogojbaa

/-
  Walks of the program's sets of variables: setOf; what is known behind a step with variables.
-/
import Derived.Test.YtlilkmemgomnjaaVb
import Derived.Lib.ConvBytes
namespace Go.Proofs.Ytlilkmemgomnjaa
set_option linter.unusedVariables false
set_option linter.unusedSimpArgs false
open Go.RowKit

/-- A text as bytes of its own. -/
theorem bytes_ownK (w : World) (ls : ByteArray) (hs : ls.size ≤ 1000) : ∃ C W2, (convert 9 22 (.string ls)).run Try.prog w = .ok (.slice (some ⟨w.heap.size, 0, none⟩) ls.size C) W2 ∧ Keeps noB w W2 ∧ W2.heap.size = w.heap.size + 1 ∧ ls.size ≤ C ∧
    ∀ i, i < ls.size → W2.cell? ⟨w.heap.size, i, none⟩ = some (.int .u8 ((ls.data.toList.getD i 0).toNat : Int)) := by
  refine ⟨_, _, Lib.run_convert_string_bytes w 9 22 5 ls Try.underlying9 Try.underlying22 Try.underlying5, ?_, Lib.bytesWorld_size w _ ls, grownCap_ge _ _ _ _, fun i hi => Lib.bytesWorld_cell w _ ls i hi⟩
  exact ⟨rfl, rfl, rfl, by rw [Lib.bytesWorld_size]; omega, fun k hk _ => Lib.bytesWorld_at_old w _ ls k hk⟩

/-- A letter as a text. -/
theorem conv_letter (w : World) {v : UInt8} (h : ltr v) : (convert 5 9 (.int .u8 (v.toNat : Int))).run Try.prog w = .ok (str [v]) w := by
  rcases six_letters h with rfl | rfl | rfl | rfl | rfl | rfl <;>
    simp [convert, go_sem, run_underlying Try.underlying5, run_underlying Try.underlying9] <;> rfl

/-- What the loop over letters holds. -/
def SetAt (w : World) (l : List UInt8) (v3 v9 : Value) (wr : World) : Prop :=
  ∃ i, i ≤ l.length ∧ v9 = .int .i64 (i : Int) ∧ v3 = .int .u8 (bitsV (l.take i) : Int) ∧ wr = w

theorem bitsV_snoc (l : List UInt8) (v : UInt8) : bitsV (l ++ [v]) = bitsV l ||| bitV v := by
  unfold bitsV; rw [List.foldl_append]; rfl

theorem shift_val {v : UInt8} (hv : ltr v) : (2 : Int) ^ ((v.toNat : Int) - 97).toNat % 256 = (bitV v : Int) := by
  rcases six_letters hv with rfl | rfl | rfl | rfl | rfl | rfl <;> decide

theorem bitsV_one (v : UInt8) : bitsV [v] = bitV v := by simp [bitsV]

set_option maxRecDepth 100000 in
set_option maxHeartbeats 2000000 in
theorem setOf_any (l : List UInt8) (hl : ∀ v ∈ l, ltr v) (hn : l.length ≤ 1000) (w : World) : Calls Try.prog 136 #[str l] w (fun e' w' => e' = .returned (.int .u8 (bitsV l : Int)) ∧ Keeps noB w w') := by
  obtain ⟨sv, hsv⟩ : ∃ sv : ByteArray, sv = ⟨l.toArray⟩ := ⟨_, rfl⟩
  unfold str
  rw [← hsv]
  have hsz : sv.size = l.length := by rw [hsv]; simp [ByteArray.size]
  obtain ⟨C, W2, hcv, hk2, hs2, hC, hce⟩ := bytes_ownK w sv (by omega)
  have hsd : sv.data.toList = l := by rw [hsv]
  have HC : Hid (∀ i, i < sv.size → ∃ v, W2.cell? ⟨w.heap.size, i, none⟩ = some (.int .u8 (v.toNat : Int)) ∧ ltr v ∧ bitsV (l.take i) < 64 ∧ bitsV (l.take (i + 1)) = bitsV (l.take i) ||| bitV v) := fun i hi => by
    have hil : i < l.length := by omega
    have hg : l[i]? = some l[i] := List.getElem?_eq_getElem hil
    have hgd : l.getD i 0 = l[i] := by rw [List.getD_eq_getElem?_getD, hg]; rfl
    refine ⟨l[i], ?_, hl _ (List.getElem_mem hil), bitsV_lt (fun v hv => hl v (List.mem_of_mem_take hv)), ?_⟩
    · have := hce i hi
      rw [hsd, hgd] at this
      exact this
    · rw [List.take_add_one, hg]; exact bitsV_snoc _ _
  have HP : Hid (SetAt W2 l (.int .u8 0) (.int .i64 0) W2) := ⟨0, Nat.zero_le _, rfl, rfl, rfl⟩
  have HQ := Lib.hid (And.intro hk2 hsz)
  have hsz1 : (sv.size : Int) ≤ 1000 := by omega
  have hlt0 : w.heap.size < W2.heap.size := by omega
  clear hsv hsz hk2 hs2 hC hce hsd hl hn
  go_enter Try.func136, Try.ntmps136
  go_wp2_with fail
  go_loopw [3, 9] (fun v3 v9 wr => SetAt W2 l v3 v9 wr) (fun _ v9 _ => sv.size - (intOf v9).toNat)
  case atStart => exact HP.out
  case round =>
    clear HP hcv
    obtain ⟨i, hil, rfl, rfl, rfl⟩ := hrel
    by_cases hi : i < sv.size
    · obtain ⟨v, hc, hv, hb, hnx⟩ := HC.out i hi
      have hsh := Lib.hid (shift_val hv)
      have hor := Lib.hid (bOr hb (bitV_lt hv))
      have HN : Hid (SetAt wr l (.int .u8 (bitsV (l.take (i + 1)) : Int)) (.int .i64 ((i : Int) + 1)) wr) := ⟨i + 1, by have := HQ.out.2; omega, by simp, rfl, rfl⟩
      rw [hnx] at HN
      have hv1 : (97 : Int) ≤ (v.toNat : Int) := by have := hv.1; omega
      have hv2 : (v.toNat : Int) ≤ 102 := by have := hv.2; omega
      have hii : (i : Int) < (sv.size : Int) := by omega
      clear hnx hv HC hil
      generalize (v.toNat : Int) = vi at *
      generalize bitsV (l.take i) ||| bitV v = nx at *
      generalize bitsV (l.take i) = cu at *
      generalize bitV v = bt at *
      go_wp2_with fail
      rw [hsh.out, hor.out]
      exact ⟨HN.out, by simp [intOf]; omega⟩
    · have hie : i = l.length := by have := HQ.out.2; omega
      have HE : Hid (bitsV (l.take i) = bitsV l) := Lib.hid (by rw [hie, List.take_length])
      rw [HE.out]
      clear HC
      have hii : ¬ (i : Int) < (sv.size : Int) := by omega
      go_wp2_with fail
      go_ret
      exact ⟨rfl, HQ.out.1⟩

end Go.Proofs.Ytlilkmemgomnjaa

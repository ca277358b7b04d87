/-
  Walks of the program's sets of variables: setOf; what is known behind a step with variables.
  Walks of the program's survey: behind.
-/
import Derived.Test.YtkfcgamdlckncaaGreatVb
import Derived.Lib.ConvBytes
import Derived.Test.YtkfcgamdlckncaaGreatIjW
namespace Go.Proofs.YtkfcgamdlckncaaGreat
set_option linter.unusedVariables false
set_option linter.unusedSimpArgs false
open Go.RowKit

/-- A text as bytes of its own. -/
theorem bytes_ownK (w : World) (ls : ByteArray) (hs : ls.size ≤ 1000) : ∃ C W2, (convert 9 80 (.string ls)).run Tryz.prog w = .ok (.slice (some ⟨w.heap.size, 0, none⟩) ls.size C) W2 ∧ Keeps noB w W2 ∧ W2.heap.size = w.heap.size + 1 ∧ ls.size ≤ C ∧
    ∀ i, i < ls.size → W2.cell? ⟨w.heap.size, i, none⟩ = some (.int .u8 ((ls.data.toList.getD i 0).toNat : Int)) := by
  refine ⟨_, _, Lib.run_convert_string_bytes w 9 80 5 ls Tryz.underlying9 Tryz.underlying80 Tryz.underlying5, ?_, Lib.bytesWorld_size w _ ls, grownCap_ge _ _ _ _, fun i hi => Lib.bytesWorld_cell w _ ls i hi⟩
  exact ⟨rfl, rfl, rfl, by rw [Lib.bytesWorld_size]; omega, fun k hk _ => Lib.bytesWorld_at_old w _ ls k hk⟩

/-- A letter as a text. -/
theorem conv_letter (w : World) {v : UInt8} (h : ltr v) : (convert 5 9 (.int .u8 (v.toNat : Int))).run Tryz.prog w = .ok (str [v]) w := by
  rcases six_letters h with rfl | rfl | rfl | rfl | rfl | rfl <;>
    simp [convert, go_sem, run_underlying Tryz.underlying5, run_underlying Tryz.underlying9] <;> rfl

/-- What the loop over letters holds. -/
def SetAt (w : World) (l : List UInt8) (v3 v9 : Value) (wr : World) : Prop :=
  ∃ i, i ≤ l.length ∧ v9 = .int .i64 (i : Int) ∧ v3 = .int .u8 (bitsV (l.take i) : Int) ∧ wr = w

theorem bitsV_snoc (l : List UInt8) (v : UInt8) : bitsV (l ++ [v]) = bitsV l ||| bitV v := by
  unfold bitsV; rw [List.foldl_append]; rfl

theorem shift_val {v : UInt8} (hv : ltr v) : (2 : Int) ^ ((v.toNat : Int) - 97).toNat % 256 = (bitV v : Int) := by
  rcases six_letters hv with rfl | rfl | rfl | rfl | rfl | rfl <;> decide

theorem bitsV_one (v : UInt8) : bitsV [v] = bitV v := by simp [bitsV]

set_option maxRecDepth 100000 in
set_option maxHeartbeats 2000000 in
theorem setOf_any (l : List UInt8) (hl : ∀ v ∈ l, ltr v) (hn : l.length ≤ 1000) (w : World) : Calls Tryz.prog 92 #[str l] w (fun e' w' => e' = .returned (.int .u8 (bitsV l : Int)) ∧ Keeps noB w w') := by
  obtain ⟨sv, hsv⟩ : ∃ sv : ByteArray, sv = ⟨l.toArray⟩ := ⟨_, rfl⟩
  unfold str
  rw [← hsv]
  have hsz : sv.size = l.length := by rw [hsv]; simp [ByteArray.size]
  obtain ⟨C, W2, hcv, hk2, hs2, hC, hce⟩ := bytes_ownK w sv (by omega)
  have hsd : sv.data.toList = l := by rw [hsv]
  have HC : Hid (∀ i, i < sv.size → ∃ v, W2.cell? ⟨w.heap.size, i, none⟩ = some (.int .u8 (v.toNat : Int)) ∧ ltr v ∧ bitsV (l.take i) < 64 ∧ bitsV (l.take (i + 1)) = bitsV (l.take i) ||| bitV v) := fun i hi => by
    have hil : i < l.length := by omega
    have hg : l[i]? = some l[i] := List.getElem?_eq_getElem hil
    have hgd : l.getD i 0 = l[i] := by rw [List.getD_eq_getElem?_getD, hg]; rfl
    refine ⟨l[i], ?_, hl _ (List.getElem_mem hil), bitsV_lt (fun v hv => hl v (List.mem_of_mem_take hv)), ?_⟩
    · have := hce i hi
      rw [hsd, hgd] at this
      exact this
    · rw [List.take_add_one, hg]; exact bitsV_snoc _ _
  have HP : Hid (SetAt W2 l (.int .u8 0) (.int .i64 0) W2) := ⟨0, Nat.zero_le _, rfl, rfl, rfl⟩
  have HQ := Lib.hid (And.intro hk2 hsz)
  have hsz1 : (sv.size : Int) ≤ 1000 := by omega
  have hlt0 : w.heap.size < W2.heap.size := by omega
  clear hsv hsz hk2 hs2 hC hce hsd hl hn
  go_enter Tryz.func92, Tryz.ntmps92
  go_wp2_with fail
  go_loopw [3, 9] (fun v3 v9 wr => SetAt W2 l v3 v9 wr) (fun _ v9 _ => sv.size - (intOf v9).toNat)
  case atStart => exact HP.out
  case round =>
    clear HP hcv
    obtain ⟨i, hil, rfl, rfl, rfl⟩ := hrel
    by_cases hi : i < sv.size
    · obtain ⟨v, hc, hv, hb, hnx⟩ := HC.out i hi
      have hsh := Lib.hid (shift_val hv)
      have hor := Lib.hid (bOr hb (bitV_lt hv))
      have HN : Hid (SetAt wr l (.int .u8 (bitsV (l.take (i + 1)) : Int)) (.int .i64 ((i : Int) + 1)) wr) := ⟨i + 1, by have := HQ.out.2; omega, by simp, rfl, rfl⟩
      rw [hnx] at HN
      have hv1 : (97 : Int) ≤ (v.toNat : Int) := by have := hv.1; omega
      have hv2 : (v.toNat : Int) ≤ 102 := by have := hv.2; omega
      have hii : (i : Int) < (sv.size : Int) := by omega
      clear hnx hv HC hil
      generalize (v.toNat : Int) = vi at *
      generalize bitsV (l.take i) ||| bitV v = nx at *
      generalize bitsV (l.take i) = cu at *
      generalize bitV v = bt at *
      go_wp2_with fail
      rw [hsh.out, hor.out]
      exact ⟨HN.out, by simp [intOf]; omega⟩
    · have hie : i = l.length := by have := HQ.out.2; omega
      have HE : Hid (bitsV (l.take i) = bitsV l) := Lib.hid (by rw [hie, List.take_length])
      rw [HE.out]
      clear HC
      have hii : ¬ (i : Int) < (sv.size : Int) := by omega
      go_wp2_with fail
      go_ret
      exact ⟨rfl, HQ.out.1⟩

end Go.Proofs.YtkfcgamdlckncaaGreat

namespace Go.Proofs.YtkfcgamdlckncaaGreat
set_option linter.unusedVariables false
set_option linter.unusedSimpArgs false
open Go.RowKit

/-- What behind has at hand: its two boxes and the step. -/
structure BehAt (w w1 : World) (a b : Int) (g : Nat) (c v u : Int) : Prop where
  q : Keeps noB w w1
  a0 : w1.cell? ⟨w.heap.size, 0, none⟩ = some (.int .u8 a)
  a1 : w1.cell? ⟨w.heap.size, 1, none⟩ = some (.int .u8 b)
  b0 : w1.cell? ⟨w.heap.size + 1, 0, none⟩ = some (.int .u8 0)
  b1 : w1.cell? ⟨w.heap.size + 1, 1, none⟩ = some (.int .u8 0)
  z0 : w1.frozen? ⟨w.heap.size + 1, 0, none⟩ = false
  z1 : w1.frozen? ⟨w.heap.size + 1, 1, none⟩ = false
  g2 : w1.cell? ⟨g, 2, none⟩ = some (.int .u8 c)
  g3 : w1.cell? ⟨g, 3, none⟩ = some (.int .u8 v)
  g4 : w1.cell? ⟨g, 4, none⟩ = some (.int .u8 u)

theorem behAt {w w1 : World} {a b : Int} {g k e : Nat} {c v u : UInt8} (hg : Blk w g #[i64 k, i64 e, u8 c, u8 v, u8 u] 143)
    (q : Keeps noB ((w.alloc (.cells #[.int .u8 a, .int .u8 b] 111)).alloc (.cells #[.int .u8 0, .int .u8 0] 111)) w1) :
    BehAt w w1 a b g (c.toNat : Int) (v.toNat : Int) (u.toNat : Int) ∧ ∀ x y, ((w1.setCell ⟨w.heap.size + 1, 0, none⟩ x).setCell ⟨w.heap.size + 1, 1, none⟩ y).cell? ⟨w.heap.size + 1, 0, none⟩ = some x ∧
    ((w1.setCell ⟨w.heap.size + 1, 0, none⟩ x).setCell ⟨w.heap.size + 1, 1, none⟩ y).cell? ⟨w.heap.size + 1, 1, none⟩ = some y ∧ Keeps noB w ((w1.setCell ⟨w.heap.size + 1, 0, none⟩ x).setCell ⟨w.heap.size + 1, 1, none⟩ y) := by
  obtain ⟨t0, t1, t2, t3, t4, t5, t6, t7⟩ := twoAt w w1 a b q
  have hb := t0.blk hg id
  exact ⟨⟨t0, t1, t2, t3, t4, t5, t6, (hb.cell 2).trans rfl, (hb.cell 3).trans rfl, (hb.cell 4).trans rfl⟩, t7⟩

/-- What behind's regions hold. -/
def BehS (w : World) (a b : Int) (g : Nat) (v u : Int) (Z : World → Nat → Value) (w' : World) : Prop :=
  Keeps noB w w' ∧ w'.cell? ⟨w.heap.size, 0, none⟩ = some (.int .u8 a) ∧ w'.cell? ⟨w.heap.size, 1, none⟩ = some (.int .u8 b) ∧
      w'.cell? ⟨w.heap.size + 1, 0, none⟩ = some (Z w' 0) ∧ w'.cell? ⟨w.heap.size + 1, 1, none⟩ = some (Z w' 1) ∧ w'.frozen? ⟨w.heap.size + 1, 0, none⟩ = false ∧ w'.frozen? ⟨w.heap.size + 1, 1, none⟩ = false ∧ w'.cell? ⟨g, 3, none⟩ = some (.int .u8 v) ∧ w'.cell? ⟨g, 4, none⟩ = some (.int .u8 u)

theorem beh_S {w w' : World} {a b : Int} {g : Nat} {c v u : Int} (hg : g < w.heap.size) (Z : World → Nat → Value) (hZ : ∀ W j, Z W j = (W.cell? ⟨w.heap.size + 1, j, none⟩).getD undef) (h : BehAt w w' a b g c v u) : BehS w a b g v u Z w' := by
  refine ⟨h.q, h.a0, h.a1, ?_, ?_, h.z0, h.z1, h.g3, h.g4⟩
  · rw [hZ, h.b0]; rfl
  · rw [hZ, h.b1]; rfl

theorem cell_set2 {w' : World} {N : Nat} {x0 x1 : Value} (h0 : w'.cell? ⟨N, 0, none⟩ = some x0) (h1 : w'.cell? ⟨N, 1, none⟩ = some x1) (x y : Value) :
    ((w'.setCell ⟨N, 0, none⟩ x).setCell ⟨N, 1, none⟩ y).cell? ⟨N, 0, none⟩ = some x ∧ ((w'.setCell ⟨N, 0, none⟩ x).setCell ⟨N, 1, none⟩ y).cell? ⟨N, 1, none⟩ = some y := by
  have e1 : (w'.setCell ⟨N, 0, none⟩ x).cell? ⟨N, 1, none⟩ = some x1 := by rw [World.cell?_setCell_other _ _ _ _ (by simp)]; exact h1
  refine ⟨?_, ?_⟩
  · rw [World.cell?_setCell_other _ _ _ _ (by simp)]
    exact World.cell?_setCell_same _ _ _ h0
  · exact World.cell?_setCell_same _ _ _ e1

theorem beh_S2 {w w' : World} {a b : Int} {g : Nat} {v u : Int} (hg : g < w.heap.size) (Z : World → Nat → Value) (hZ : ∀ W j, Z W j = (W.cell? ⟨w.heap.size + 1, j, none⟩).getD undef) (h : BehS w a b g v u Z w') (x y : Value) :
    BehS w a b g v u Z ((w'.setCell ⟨w.heap.size + 1, 0, none⟩ x).setCell ⟨w.heap.size + 1, 1, none⟩ y) := by
  obtain ⟨q, a0, a1, b0, b1, z0, z1, g3, g4⟩ := h
  obtain ⟨e0, e1⟩ := cell_set2 b0 b1 x y
  have q' : Keeps noB w ((w'.setCell ⟨w.heap.size + 1, 0, none⟩ x).setCell ⟨w.heap.size + 1, 1, none⟩ y) :=
    (q.setCell (.inr (by show w.heap.size ≤ w.heap.size + 1; omega)) x).setCell (.inr (by show w.heap.size ≤ w.heap.size + 1; omega)) y
  have ho : ∀ A : Addr, A.block ≠ w.heap.size + 1 → ((w'.setCell ⟨w.heap.size + 1, 0, none⟩ x).setCell ⟨w.heap.size + 1, 1, none⟩ y).cell? A = w'.cell? A := fun A hA => by
    rw [World.cell?_setCell_other _ _ _ _ (fun e => hA (by rw [← e])), World.cell?_setCell_other _ _ _ _ (fun e => hA (by rw [← e]))]
  refine ⟨q', ?_, ?_, ?_, ?_, ?_, ?_, ?_, ?_⟩
  · rw [ho _ (by show w.heap.size ≠ w.heap.size + 1; omega)]; exact a0
  · rw [ho _ (by show w.heap.size ≠ w.heap.size + 1; omega)]; exact a1
  · rw [hZ, e0]; rfl
  · rw [hZ, e1]; rfl
  · rw [World.frozen?_setCell, World.frozen?_setCell]; exact z0
  · rw [World.frozen?_setCell, World.frozen?_setCell]; exact z1
  · rw [ho _ (by show g ≠ w.heap.size + 1; omega)]; exact g3
  · rw [ho _ (by show g ≠ w.heap.size + 1; omega)]; exact g4

theorem beh_S3 {w w' : World} {a b : Int} {g : Nat} {v u : Int} (hg : g < w.heap.size) (Z : World → Nat → Value) (hZ : ∀ W j, Z W j = (W.cell? ⟨w.heap.size + 1, j, none⟩).getD undef) (h : BehS w a b g v u Z w') {w2 : World} (k : Keeps noB w' w2) : BehS w a b g v u Z w2 := by
  obtain ⟨q, a0, a1, b0, b1, z0, z1, g3, g4⟩ := h
  have hl : w.heap.size + 1 < w'.heap.size := by
    rcases Nat.lt_or_ge (w.heap.size + 1) w'.heap.size with h | h
    · exact h
    · exfalso
      have : w'.heap[w.heap.size + 1]? = none := Array.getElem?_eq_none h
      simp [World.cell?, this] at b0
  have hq := q.size
  have e : ∀ (i j : Nat), i < w'.heap.size → w2.cell? ⟨i, j, none⟩ = w'.cell? ⟨i, j, none⟩ := fun i j hi => k.cell (p := ⟨i, j, none⟩) hi id
  have f : ∀ (i j : Nat), i < w'.heap.size → w2.frozen? ⟨i, j, none⟩ = w'.frozen? ⟨i, j, none⟩ := fun i j hi => k.frozen (p := ⟨i, j, none⟩) hi id
  refine ⟨q.trans k, (e _ _ (by omega)).trans a0, (e _ _ (by omega)).trans a1, ?_, ?_, (f _ _ hl).trans z0, (f _ _ hl).trans z1, (e _ _ (by omega)).trans g3, (e _ _ (by omega)).trans g4⟩
  · rw [hZ, e _ _ hl, b0]; rfl
  · rw [hZ, e _ _ hl, b1]; rfl

theorem cell_back {w : World} {b i : Nat} {x z : Value} (h : (w.setCell ⟨b, i, none⟩ x).cell? ⟨b, i, none⟩ = some z) : z = x := by
  cases e : w.cell? ⟨b, i, none⟩ with
  | some u => rw [World.cell?_setCell_same _ _ _ e] at h; exact (Option.some.inj h).symm
  | none =>
    exfalso
    simp only [World.setCell, World.cell?, Array.getElem?_modify, if_true] at h e
    cases hb : w.heap[b]? with
    | none => rw [hb] at h; cases h
    | some o =>
      rw [hb] at h e
      cases o <;> simp at h e <;> first | (rw [Array.getElem?_eq_none (by simpa using e)] at h; cases h) | skip

theorem beh_S4 {w w' : World} {a b : Int} {g : Nat} {v u : Int} {Z : World → Nat → Value} {x y : Value} (h : BehS w a b g v u Z ((w'.setCell ⟨w.heap.size + 1, 0, none⟩ x).setCell ⟨w.heap.size + 1, 1, none⟩ y)) :
    ((w'.setCell ⟨w.heap.size + 1, 0, none⟩ x).setCell ⟨w.heap.size + 1, 1, none⟩ y).cell? ⟨w.heap.size + 1, 0, none⟩ = some x ∧ ((w'.setCell ⟨w.heap.size + 1, 0, none⟩ x).setCell ⟨w.heap.size + 1, 1, none⟩ y).cell? ⟨w.heap.size + 1, 1, none⟩ = some y ∧
    Keeps noB w ((w'.setCell ⟨w.heap.size + 1, 0, none⟩ x).setCell ⟨w.heap.size + 1, 1, none⟩ y) := by
  obtain ⟨q, a0, a1, b0, b1, z0, z1, g3, g4⟩ := h
  have e1 := cell_back b1
  have b0' := b0
  rw [World.cell?_setCell_other _ _ _ _ (by simp)] at b0'
  have e0 := cell_back b0'
  exact ⟨by rw [b0, e0], by rw [b1, e1], q⟩

set_option maxRecDepth 100000 in
set_option maxHeartbeats 4000000 in
theorem behind_make (k : Kn) (hk : k.Wf) {v u : UInt8} (hv : ltr v) (g b e : Nat) (w : World) (hg : Blk w g #[i64 b, i64 e, u8 43, u8 v, u8 u] 143) :
    Calls Tryz.prog 71 #[knV k, .pointer (some ⟨g, 0, none⟩)] w (fun e' w' => e' = .returned (knV (k.changed (bitV v) 0)) ∧ Keeps noB w w') := by
  have HT := Lib.hid (fun w1 => setOf_any [v] (fun x hx => by rw [List.mem_singleton.1 hx]; exact hv) (by simp) w1)
  have hcv := fun w => conv_letter w hv
  rw [bitsV_one] at HT
  have hb := bitV_lt hv
  have HC := Lib.hid (fun w => changed_any k hk (f := bitV v) (e := 0) hb (by omega) w)
  generalize k.changed (bitV v) 0 = kr at *
  have HB := Lib.hid (fun w1 q => behAt (w := w) (w1 := w1) (a := (k.may : Int)) (b := (k.must : Int)) hg q)
  have hgl := hg.lt
  obtain ⟨km, ku⟩ := k
  obtain ⟨rm, ru⟩ := kr
  unfold knV at *
  unfold str at *
  simp only at *
  clear hk hg hb
  generalize bitV v = bv at *
  have HQ : Hid (Keeps noB ((w.alloc (.cells #[.int .u8 (km : Int), .int .u8 (ku : Int)] 111)).alloc (.cells #[.int .u8 0, .int .u8 0] 111)) ((w.alloc (.cells #[.int .u8 (km : Int), .int .u8 (ku : Int)] 111)).alloc (.cells #[.int .u8 0, .int .u8 0] 111))) := Keeps.refl _ _
  have hg0 := (HB.out _ HQ.out).1.g2
  have hg3 := (HB.out _ HQ.out).1.g3
  have hc0 : ((43 : UInt8).toNat : Int) = 43 := by decide
  rw [hc0] at HB hg0
  clear hc0 hv
  obtain ⟨vi, hvi⟩ : ∃ vi : Int, (v.toNat : Int) = vi := ⟨_, rfl⟩
  rw [hvi] at HB hg3 hcv
  obtain ⟨ui, hui⟩ : ∃ ui : Int, (u.toNat : Int) = ui := ⟨_, rfl⟩
  rw [hui] at HB
  clear hvi hui
  obtain ⟨tv, htv⟩ : ∃ tv : ByteArray, tv = ⟨[v].toArray⟩ := ⟨_, rfl⟩
  rw [← htv] at HT hcv
  clear htv
  go_enter Tryz.func71, Tryz.ntmps71
  go_wp2_with (first
    | (go_at_call 92; refine (HT.out _).mono ?_; rintro e1 w1 ⟨rfl, q1⟩; have q1 := HQ.out.trans q1; have hh := (HB.out w1 q1).1; have ⟨t0, t1, t2, t3, t4, t5, t6, t7, t8, t9⟩ := hh; have HQ1 := Lib.hid q1; clear q1 hh t0)
    | (go_at_call 93; refine (HC.out _).mono ?_; rintro e2 w2 ⟨rfl, q2⟩; have q2 := HQ1.out.trans q2; have hh := (HB.out w2 q2).1; have ⟨s0, s1, s2, s3, s4, s5, s6, s7, s8, s9⟩ := hh; have HF := Lib.hid ((HB.out w2 q2).2 (.int .u8 (rm : Int)) (.int .u8 (ru : Int))); clear q2 hh s0))
  obtain ⟨f0, f1, f2⟩ := HF.out
  exact bodyPost_ret (resKn Tryz.results71 _ (w.heap.size + 1) _ _ _ rfl f0 f1) rfl ⟨rfl, f2⟩

set_option maxRecDepth 100000 in
set_option maxHeartbeats 4000000 in
theorem behind_drop (k : Kn) (hk : k.Wf) {v u : UInt8} (hv : ltr v) (g b e : Nat) (w : World) (hg : Blk w g #[i64 b, i64 e, u8 126, u8 v, u8 u] 143) :
    Calls Tryz.prog 71 #[knV k, .pointer (some ⟨g, 0, none⟩)] w (fun e' w' => e' = .returned (knV (k.changed 0 (bitV v))) ∧ Keeps noB w w') := by
  have HT := Lib.hid (fun w1 => setOf_any [v] (fun x hx => by rw [List.mem_singleton.1 hx]; exact hv) (by simp) w1)
  have hcv := fun w => conv_letter w hv
  rw [bitsV_one] at HT
  have hb := bitV_lt hv
  have HC := Lib.hid (fun w => changed_any k hk (f := 0) (e := bitV v) (by omega) hb w)
  generalize k.changed 0 (bitV v) = kr at *
  have HB := Lib.hid (fun w1 q => behAt (w := w) (w1 := w1) (a := (k.may : Int)) (b := (k.must : Int)) hg q)
  have hgl := hg.lt
  obtain ⟨km, ku⟩ := k
  obtain ⟨rm, ru⟩ := kr
  unfold knV at *
  unfold str at *
  simp only at *
  clear hk hg hb
  generalize bitV v = bv at *
  have HQ : Hid (Keeps noB ((w.alloc (.cells #[.int .u8 (km : Int), .int .u8 (ku : Int)] 111)).alloc (.cells #[.int .u8 0, .int .u8 0] 111)) ((w.alloc (.cells #[.int .u8 (km : Int), .int .u8 (ku : Int)] 111)).alloc (.cells #[.int .u8 0, .int .u8 0] 111))) := Keeps.refl _ _
  have hg0 := (HB.out _ HQ.out).1.g2
  have hg3 := (HB.out _ HQ.out).1.g3
  have hc0 : ((126 : UInt8).toNat : Int) = 126 := by decide
  rw [hc0] at HB hg0
  clear hc0 hv
  obtain ⟨vi, hvi⟩ : ∃ vi : Int, (v.toNat : Int) = vi := ⟨_, rfl⟩
  rw [hvi] at HB hg3 hcv
  obtain ⟨ui, hui⟩ : ∃ ui : Int, (u.toNat : Int) = ui := ⟨_, rfl⟩
  rw [hui] at HB
  clear hvi hui
  obtain ⟨tv, htv⟩ : ∃ tv : ByteArray, tv = ⟨[v].toArray⟩ := ⟨_, rfl⟩
  rw [← htv] at HT hcv
  clear htv
  go_enter Tryz.func71, Tryz.ntmps71
  go_wp2_with (first
    | (go_at_call 92; refine (HT.out _).mono ?_; rintro e1 w1 ⟨rfl, q1⟩; have q1 := HQ.out.trans q1; have hh := (HB.out w1 q1).1; have ⟨t0, t1, t2, t3, t4, t5, t6, t7, t8, t9⟩ := hh; have HQ1 := Lib.hid q1; clear q1 hh t0)
    | (go_at_call 93; refine (HC.out _).mono ?_; rintro e2 w2 ⟨rfl, q2⟩; have q2 := HQ1.out.trans q2; have hh := (HB.out w2 q2).1; have ⟨s0, s1, s2, s3, s4, s5, s6, s7, s8, s9⟩ := hh; have HF := Lib.hid ((HB.out w2 q2).2 (.int .u8 (rm : Int)) (.int .u8 (ru : Int))); clear q2 hh s0))
  obtain ⟨f0, f1, f2⟩ := HF.out
  exact bodyPost_ret (resKn Tryz.results71 _ (w.heap.size + 1) _ _ _ rfl f0 f1) rfl ⟨rfl, f2⟩

set_option maxRecDepth 100000 in
set_option maxHeartbeats 4000000 in
theorem behind_use (k : Kn) (hk : k.Wf) {v u : UInt8} (hv : ltr v) (g b e : Nat) (w : World) (hg : Blk w g #[i64 b, i64 e, u8 46, u8 v, u8 u] 143) :
    Calls Tryz.prog 71 #[knV k, .pointer (some ⟨g, 0, none⟩)] w (fun e' w' => e' = .returned (knV ((k.needs v).changed (bitV v) 0)) ∧ Keeps noB w w') := by
  have HT := Lib.hid (fun w1 => setOf_any [v] (fun x hx => by rw [List.mem_singleton.1 hx]; exact hv) (by simp) w1)
  have hcv := fun w => conv_letter w hv
  rw [bitsV_one] at HT
  have hb := bitV_lt hv
  have HN := Lib.hid (fun w => needing_any k hk hv w)
  have HC := Lib.hid (fun w => changed_any (k.needs v) (wf_needs hk v) (f := bitV v) (e := 0) hb (by omega) w)
  generalize k.needs v = kn at *
  generalize kn.changed (bitV v) 0 = kr at *
  have HB := Lib.hid (fun w1 q => behAt (w := w) (w1 := w1) (a := (k.may : Int)) (b := (k.must : Int)) hg q)
  have hgl := hg.lt
  obtain ⟨km, ku⟩ := k
  obtain ⟨rm, ru⟩ := kr
  obtain ⟨nm, nu⟩ := kn
  unfold knV at *
  unfold str at *
  simp only at *
  clear hk hg hb
  generalize bitV v = bv at *
  have HQ : Hid (Keeps noB ((w.alloc (.cells #[.int .u8 (km : Int), .int .u8 (ku : Int)] 111)).alloc (.cells #[.int .u8 0, .int .u8 0] 111)) ((w.alloc (.cells #[.int .u8 (km : Int), .int .u8 (ku : Int)] 111)).alloc (.cells #[.int .u8 0, .int .u8 0] 111))) := Keeps.refl _ _
  have hg0 := (HB.out _ HQ.out).1.g2
  have hg3 := (HB.out _ HQ.out).1.g3
  have hc0 : ((46 : UInt8).toNat : Int) = 46 := by decide
  rw [hc0] at HB hg0
  clear hc0 hv
  obtain ⟨vi, hvi⟩ : ∃ vi : Int, (v.toNat : Int) = vi := ⟨_, rfl⟩
  rw [hvi] at HB hg3 hcv HN
  obtain ⟨ui, hui⟩ : ∃ ui : Int, (u.toNat : Int) = ui := ⟨_, rfl⟩
  rw [hui] at HB
  clear hvi hui
  obtain ⟨tv, htv⟩ : ∃ tv : ByteArray, tv = ⟨[v].toArray⟩ := ⟨_, rfl⟩
  rw [← htv] at HT hcv
  clear htv
  go_enter Tryz.func71, Tryz.ntmps71
  go_wp2_with (go_at_call 92; refine (HT.out _).mono ?_; rintro e1 w1 ⟨rfl, q1⟩; have q1 := HQ.out.trans q1; have hh := (HB.out w1 q1).1; have ⟨t0, t1, t2, t3, t4, t5, t6, t7, t8, t9⟩ := hh; have HQ1 := Lib.hid q1; clear q1 hh t0)
  obtain ⟨Z, hZ⟩ : ∃ Z : World → Nat → Value, ∀ W j, Z W j = (W.cell? ⟨w.heap.size + 1, j, none⟩).getD undef := ⟨_, fun _ _ => rfl⟩
  have HZ := Lib.hid hZ
  have HS := Lib.hid (fun w' q => beh_S (w := w) (w' := w') hgl Z hZ (HB.out w' q).1)
  have HS2 := Lib.hid (fun w' q x y => beh_S2 (w := w) (w' := w') (a := (km : Int)) (b := (ku : Int)) (g := g) (v := vi) (u := ui) hgl Z hZ q x y)
  have HS3 := Lib.hid (fun w' w2 q (hk : Keeps noB w' w2) => beh_S3 (w := w) (w' := w') (a := (km : Int)) (b := (ku : Int)) (g := g) (v := vi) (u := ui) hgl Z hZ q hk)
  have HS4 := Lib.hid (fun w' x y q => beh_S4 (w := w) (w' := w') (a := (km : Int)) (b := (ku : Int)) (g := g) (v := vi) (u := ui) (Z := Z) (x := x) (y := y) q)
  clear hZ
  go_region_held3 (fun w' => Keeps noB w w' ∧ w'.cell? ⟨w.heap.size, 0, none⟩ = some (.int .u8 (km : Int)) ∧ w'.cell? ⟨w.heap.size, 1, none⟩ = some (.int .u8 (ku : Int)) ∧
      w'.cell? ⟨w.heap.size + 1, 0, none⟩ = some (Z w' 0) ∧ w'.cell? ⟨w.heap.size + 1, 1, none⟩ = some (Z w' 1) ∧ w'.frozen? ⟨w.heap.size + 1, 0, none⟩ = false ∧ w'.frozen? ⟨w.heap.size + 1, 1, none⟩ = false ∧ w'.cell? ⟨g, 3, none⟩ = some (.int .u8 vi) ∧ w'.cell? ⟨g, 4, none⟩ = some (.int .u8 ui))
    (first | exact HS.out _ HQ1.out.drew | exact HS3.out _ _ (by assumption) hk | exact HS2.out _ (by assumption) _ _)
    (first
    | (go_at_call 94; refine (HN.out _).mono ?_; rintro e w' ⟨rfl, hk⟩)
    | (go_at_call 93; refine (HC.out _).mono ?_; rintro e w' ⟨rfl, hk⟩))
  all_goals
    go_wp2_with fail
    exact bodyPost_ret (resKn Tryz.results71 _ (w.heap.size + 1) _ _ _ rfl (HS4.out _ _ _ (by assumption)).1 (HS4.out _ _ _ (by assumption)).2.1) rfl ⟨rfl, (HS4.out _ _ _ (by assumption)).2.2⟩

set_option maxRecDepth 100000 in
set_option maxHeartbeats 4000000 in
theorem behind_end (k : Kn) (hk : k.Wf) {v u : UInt8} (hv : ltr v) (g b e : Nat) (w : World) (hg : Blk w g #[i64 b, i64 e, u8 45, u8 v, u8 u] 143) :
    Calls Tryz.prog 71 #[knV k, .pointer (some ⟨g, 0, none⟩)] w (fun e' w' => e' = .returned (knV ((k.needs v).changed 0 (bitV v))) ∧ Keeps noB w w') := by
  have HT := Lib.hid (fun w1 => setOf_any [v] (fun x hx => by rw [List.mem_singleton.1 hx]; exact hv) (by simp) w1)
  have hcv := fun w => conv_letter w hv
  rw [bitsV_one] at HT
  have hb := bitV_lt hv
  have HN := Lib.hid (fun w => needing_any k hk hv w)
  have HC := Lib.hid (fun w => changed_any (k.needs v) (wf_needs hk v) (f := 0) (e := bitV v) (by omega) hb w)
  generalize k.needs v = kn at *
  generalize kn.changed 0 (bitV v) = kr at *
  have HB := Lib.hid (fun w1 q => behAt (w := w) (w1 := w1) (a := (k.may : Int)) (b := (k.must : Int)) hg q)
  have hgl := hg.lt
  obtain ⟨km, ku⟩ := k
  obtain ⟨rm, ru⟩ := kr
  obtain ⟨nm, nu⟩ := kn
  unfold knV at *
  unfold str at *
  simp only at *
  clear hk hg hb
  generalize bitV v = bv at *
  have HQ : Hid (Keeps noB ((w.alloc (.cells #[.int .u8 (km : Int), .int .u8 (ku : Int)] 111)).alloc (.cells #[.int .u8 0, .int .u8 0] 111)) ((w.alloc (.cells #[.int .u8 (km : Int), .int .u8 (ku : Int)] 111)).alloc (.cells #[.int .u8 0, .int .u8 0] 111))) := Keeps.refl _ _
  have hg0 := (HB.out _ HQ.out).1.g2
  have hg3 := (HB.out _ HQ.out).1.g3
  have hc0 : ((45 : UInt8).toNat : Int) = 45 := by decide
  rw [hc0] at HB hg0
  clear hc0 hv
  obtain ⟨vi, hvi⟩ : ∃ vi : Int, (v.toNat : Int) = vi := ⟨_, rfl⟩
  rw [hvi] at HB hg3 hcv HN
  obtain ⟨ui, hui⟩ : ∃ ui : Int, (u.toNat : Int) = ui := ⟨_, rfl⟩
  rw [hui] at HB
  clear hvi hui
  obtain ⟨tv, htv⟩ : ∃ tv : ByteArray, tv = ⟨[v].toArray⟩ := ⟨_, rfl⟩
  rw [← htv] at HT hcv
  clear htv
  go_enter Tryz.func71, Tryz.ntmps71
  go_wp2_with (go_at_call 92; refine (HT.out _).mono ?_; rintro e1 w1 ⟨rfl, q1⟩; have q1 := HQ.out.trans q1; have hh := (HB.out w1 q1).1; have ⟨t0, t1, t2, t3, t4, t5, t6, t7, t8, t9⟩ := hh; have HQ1 := Lib.hid q1; clear q1 hh t0)
  obtain ⟨Z, hZ⟩ : ∃ Z : World → Nat → Value, ∀ W j, Z W j = (W.cell? ⟨w.heap.size + 1, j, none⟩).getD undef := ⟨_, fun _ _ => rfl⟩
  have HZ := Lib.hid hZ
  have HS := Lib.hid (fun w' q => beh_S (w := w) (w' := w') hgl Z hZ (HB.out w' q).1)
  have HS2 := Lib.hid (fun w' q x y => beh_S2 (w := w) (w' := w') (a := (km : Int)) (b := (ku : Int)) (g := g) (v := vi) (u := ui) hgl Z hZ q x y)
  have HS3 := Lib.hid (fun w' w2 q (hk : Keeps noB w' w2) => beh_S3 (w := w) (w' := w') (a := (km : Int)) (b := (ku : Int)) (g := g) (v := vi) (u := ui) hgl Z hZ q hk)
  have HS4 := Lib.hid (fun w' x y q => beh_S4 (w := w) (w' := w') (a := (km : Int)) (b := (ku : Int)) (g := g) (v := vi) (u := ui) (Z := Z) (x := x) (y := y) q)
  clear hZ
  go_region_held3 (fun w' => Keeps noB w w' ∧ w'.cell? ⟨w.heap.size, 0, none⟩ = some (.int .u8 (km : Int)) ∧ w'.cell? ⟨w.heap.size, 1, none⟩ = some (.int .u8 (ku : Int)) ∧
      w'.cell? ⟨w.heap.size + 1, 0, none⟩ = some (Z w' 0) ∧ w'.cell? ⟨w.heap.size + 1, 1, none⟩ = some (Z w' 1) ∧ w'.frozen? ⟨w.heap.size + 1, 0, none⟩ = false ∧ w'.frozen? ⟨w.heap.size + 1, 1, none⟩ = false ∧ w'.cell? ⟨g, 3, none⟩ = some (.int .u8 vi) ∧ w'.cell? ⟨g, 4, none⟩ = some (.int .u8 ui))
    (first | exact HS.out _ HQ1.out.drew | exact HS3.out _ _ (by assumption) hk | exact HS2.out _ (by assumption) _ _)
    (first
    | (go_at_call 94; refine (HN.out _).mono ?_; rintro e w' ⟨rfl, hk⟩)
    | (go_at_call 93; refine (HC.out _).mono ?_; rintro e w' ⟨rfl, hk⟩))
  all_goals
    go_wp2_with fail
    exact bodyPost_ret (resKn Tryz.results71 _ (w.heap.size + 1) _ _ _ rfl (HS4.out _ _ _ (by assumption)).1 (HS4.out _ _ _ (by assumption)).2.1) rfl ⟨rfl, (HS4.out _ _ _ (by assumption)).2.2⟩

set_option maxRecDepth 100000 in
set_option maxHeartbeats 4000000 in
theorem behind_move (k : Kn) (hk : k.Wf) {v u : UInt8} (hv : ltr v) (hu : ltr u) (g b e : Nat) (w : World) (hg : Blk w g #[i64 b, i64 e, u8 61, u8 v, u8 u] 143) :
    Calls Tryz.prog 71 #[knV k, .pointer (some ⟨g, 0, none⟩)] w (fun e' w' => e' = .returned (knV ((k.needs u).changed (bitV v) (bitV u))) ∧ Keeps noB w w') := by
  have HT := Lib.hid (fun w1 => setOf_any [v] (fun x hx => by rw [List.mem_singleton.1 hx]; exact hv) (by simp) w1)
  have hcv := fun w => conv_letter w hv
  have HU := Lib.hid (fun w1 => setOf_any [u] (fun x hx => by rw [List.mem_singleton.1 hx]; exact hu) (by simp) w1)
  have hcu := fun w => conv_letter w hu
  rw [bitsV_one] at HU
  rw [bitsV_one] at HT
  have hb := bitV_lt hv
  have hbu := bitV_lt hu
  have HN := Lib.hid (fun w => needing_any k hk hu w)
  have HC := Lib.hid (fun w => changed_any (k.needs u) (wf_needs hk u) (f := bitV v) (e := bitV u) hb hbu w)
  generalize k.needs u = kn at *
  generalize kn.changed (bitV v) (bitV u) = kr at *
  have HB := Lib.hid (fun w1 q => behAt (w := w) (w1 := w1) (a := (k.may : Int)) (b := (k.must : Int)) hg q)
  have hgl := hg.lt
  obtain ⟨km, ku⟩ := k
  obtain ⟨rm, ru⟩ := kr
  obtain ⟨nm, nu⟩ := kn
  unfold knV at *
  unfold str at *
  simp only at *
  clear hk hg hb hbu
  generalize bitV v = bv at *
  generalize bitV u = bu at *
  have HQ : Hid (Keeps noB ((w.alloc (.cells #[.int .u8 (km : Int), .int .u8 (ku : Int)] 111)).alloc (.cells #[.int .u8 0, .int .u8 0] 111)) ((w.alloc (.cells #[.int .u8 (km : Int), .int .u8 (ku : Int)] 111)).alloc (.cells #[.int .u8 0, .int .u8 0] 111))) := Keeps.refl _ _
  have hg0 := (HB.out _ HQ.out).1.g2
  have hg3 := (HB.out _ HQ.out).1.g3
  have hc0 : ((61 : UInt8).toNat : Int) = 61 := by decide
  rw [hc0] at HB hg0
  clear hc0 hv hu
  obtain ⟨vi, hvi⟩ : ∃ vi : Int, (v.toNat : Int) = vi := ⟨_, rfl⟩
  rw [hvi] at HB hg3 hcv
  obtain ⟨ui, hui⟩ : ∃ ui : Int, (u.toNat : Int) = ui := ⟨_, rfl⟩
  rw [hui] at HB hcu HN
  clear hvi hui
  obtain ⟨tv, htv⟩ : ∃ tv : ByteArray, tv = ⟨[v].toArray⟩ := ⟨_, rfl⟩
  rw [← htv] at HT hcv
  clear htv
  obtain ⟨tu, htu⟩ : ∃ tu : ByteArray, tu = ⟨[u].toArray⟩ := ⟨_, rfl⟩
  rw [← htu] at HU hcu
  clear htu
  go_enter Tryz.func71, Tryz.ntmps71
  go_wp2_with (go_at_call 92; refine (HT.out _).mono ?_; rintro e1 w1 ⟨rfl, q1⟩; have q1 := HQ.out.trans q1; have hh := (HB.out w1 q1).1; have ⟨t0, t1, t2, t3, t4, t5, t6, t7, t8, t9⟩ := hh; have HQ1 := Lib.hid q1; clear q1 hh t0)
  obtain ⟨Z, hZ⟩ : ∃ Z : World → Nat → Value, ∀ W j, Z W j = (W.cell? ⟨w.heap.size + 1, j, none⟩).getD undef := ⟨_, fun _ _ => rfl⟩
  have HZ := Lib.hid hZ
  have HS := Lib.hid (fun w' q => beh_S (w := w) (w' := w') hgl Z hZ (HB.out w' q).1)
  have HS2 := Lib.hid (fun w' q x y => beh_S2 (w := w) (w' := w') (a := (km : Int)) (b := (ku : Int)) (g := g) (v := vi) (u := ui) hgl Z hZ q x y)
  have HS3 := Lib.hid (fun w' w2 q (hk : Keeps noB w' w2) => beh_S3 (w := w) (w' := w') (a := (km : Int)) (b := (ku : Int)) (g := g) (v := vi) (u := ui) hgl Z hZ q hk)
  have HS4 := Lib.hid (fun w' x y q => beh_S4 (w := w) (w' := w') (a := (km : Int)) (b := (ku : Int)) (g := g) (v := vi) (u := ui) (Z := Z) (x := x) (y := y) q)
  clear hZ
  go_region_held3 (fun w' => Keeps noB w w' ∧ w'.cell? ⟨w.heap.size, 0, none⟩ = some (.int .u8 (km : Int)) ∧ w'.cell? ⟨w.heap.size, 1, none⟩ = some (.int .u8 (ku : Int)) ∧
      w'.cell? ⟨w.heap.size + 1, 0, none⟩ = some (Z w' 0) ∧ w'.cell? ⟨w.heap.size + 1, 1, none⟩ = some (Z w' 1) ∧ w'.frozen? ⟨w.heap.size + 1, 0, none⟩ = false ∧ w'.frozen? ⟨w.heap.size + 1, 1, none⟩ = false ∧ w'.cell? ⟨g, 3, none⟩ = some (.int .u8 vi) ∧ w'.cell? ⟨g, 4, none⟩ = some (.int .u8 ui))
    (first | exact HS.out _ HQ1.out.drew | exact HS3.out _ _ (by assumption) hk | exact HS2.out _ (by assumption) _ _)
    (first
    | (go_at_call 94; refine (HN.out _).mono ?_; rintro e w' ⟨rfl, hk⟩)
    | (go_at_call 92; refine (HU.out _).mono ?_; rintro e w' ⟨rfl, hk⟩)
    | (go_at_call 93; refine (HC.out _).mono ?_; rintro e w' ⟨rfl, hk⟩))
  all_goals
    go_wp2_with fail
    exact bodyPost_ret (resKn Tryz.results71 _ (w.heap.size + 1) _ _ _ rfl (HS4.out _ _ _ (by assumption)).1 (HS4.out _ _ _ (by assumption)).2.1) rfl ⟨rfl, (HS4.out _ _ _ (by assumption)).2.2⟩

/-- What is known behind a step with variables. -/
theorem behind_any (k : Kn) (hk : k.Wf) (c : UInt8) (vs : List UInt8) (hl : ∀ v ∈ vs, ltr v) (g b e : Nat) (u0 : UInt8) (w : World)
    (h : ((c = 43 ∨ c = 46 ∨ c = 45 ∨ c = 126) ∧ ∃ t, vs = [t] ∧ Blk w g #[i64 b, i64 e, u8 c, u8 t, u8 0] 143) ∨ (c = 61 ∧ ∃ t u, vs = [t, u] ∧ Blk w g #[i64 b, i64 e, u8 c, u8 t, u8 u] 143)) :
    Calls Tryz.prog 71 #[knV k, .pointer (some ⟨g, 0, none⟩)] w (fun e' w' => e' = .returned (knV (valK c vs k)) ∧ Keeps noB w w') := by
  rcases h with ⟨hc, t, rfl, hb⟩ | ⟨rfl, t, u, rfl, hb⟩
  · have ht := hl t (by simp)
    rcases hc with rfl | rfl | rfl | rfl
    · exact behind_make k hk ht g b e w hb
    · exact behind_use k hk ht g b e w hb
    · exact behind_end k hk ht g b e w hb
    · exact behind_drop k hk ht g b e w hb
  · exact behind_move k hk (hl t (by simp)) (hl u (by simp)) g b e w hb

end Go.Proofs.YtkfcgamdlckncaaGreat

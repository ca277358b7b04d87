/-
  The model's l7Text.
-/
import Derived.Test.YthgocacabadflaaDoorSc
import Derived.Test.YthgocacabadflaaDoorAa
import Derived.StillTailTactics
import Derived.Deep.RegionWith
import Derived.Deep.RegionLaw
import Derived.BigQuiet
import Derived.BigRegion
import Derived.Deep.QuietTactic
import Derived.Deep.Cut
namespace Go.Proofs.YthgocacabadflaaDoor
set_option linter.unusedVariables false
set_option linter.unusedSimpArgs false
open Go.RowKit
open Go.Lib (decDigits)

theorem conv_byte' (A : Nat) (c : UInt8) (n : Int) (hn : n = (c.toNat : Int)) (W : World) (h : W.cell? ⟨A, 0, none⟩ = some (.int .u8 n)) : (convert 72 9 (.slice (some ⟨A, 0, none⟩) 1 1)).run Tryd.prog W = .ok (.string ⟨#[c]⟩) W := by
  subst hn
  refine run_convert_bytes_back (P := Tryd.prog) W 72 9 5 ⟨A, 0, none⟩ 1 [c] Tryd.underlying72 Tryd.underlying5 Tryd.underlying9 (fun j hj => ?_)
  obtain rfl : j = 0 := by simpa using hj
  simpa [Addr.add] using h

/-- The text of events. -/
def textT (L : List Ev) : ByteArray := if L = [] then ⟨#[45]⟩ else ⟨(textE L).toArray⟩
def headT (L : List Ev) (i : Nat) : List UInt8 := if i = 0 then [] else textE (L.take i) ++ [32]
theorem text_next {L : List Ev} {i : Nat} {e : Ev} (h : L[i]? = some e) : textE (L.take (i + 1)) = headT L i ++ wordE e := by
  rw [List.take_add_one, h]
  show textE (L.take i ++ [e]) = _
  rw [textE_snoc]
  unfold headT
  have hi := (List.getElem?_eq_some_iff.1 h).1
  by_cases h0 : i = 0
  · subst h0; simp
  · rw [if_neg h0, if_neg (by intro e; have := congrArg List.length e; rw [List.length_take, Nat.min_eq_left (by omega)] at this; exact h0 this)]

/-- What the loop of l7Text holds. -/
def TxAt (w : World) (L : List Ev) (N : Nat) (vo vi : Value) (wr : World) : Prop :=
  ∃ i : Nat, i ≤ N ∧ vi = .int .i64 (i : Int) ∧ vo = .string ⟨(textE (L.take i)).toArray⟩ ∧ Keeps noB w wr

set_option maxRecDepth 100000 in
set_option maxHeartbeats 8000000 in
theorem stext_any (L : List Ev) (v : Value) (w : World) (hl : L.length ≤ 1200) (hsm : ∀ e ∈ L, e.n < 1000) (h : ERow w v L) : Calls Tryd.prog 33 #[v] w fun e w' => e = .returned (.string (textT L)) ∧ Keeps noB w w' := by
  obtain ⟨a, c, hv⟩ := row_shape (ok := fun _ => True) ⟨h, fun _ _ => trivial⟩
  obtain ⟨N, hN⟩ : ∃ N, N = L.length := ⟨_, rfl⟩
  rw [← hN] at hv hl
  subst hv
  have HR : Hid (∀ i wr, Keeps noB w wr → i < N → ∃ g e, a = some ⟨g, 0, none⟩ ∧ N ≤ c ∧ L[i]? = some e ∧ wr.cell? ⟨g, i * 2, none⟩ = some (.int .u8 (e.k.toNat : Int)) ∧ wr.cell? ⟨g, i * 2 + 1, none⟩ = some (.int .i64 (e.n : Int))) := Lib.hid (fun i wr q hi => by
    obtain ⟨g, d, e, hc, hgl, hh⟩ := row_capM (ok := fun _ => True) h (by omega)
    simp only [Value.slice.injEq] at e
    obtain ⟨rfl, _, rfl⟩ := e
    have hm := List.getElem?_eq_getElem (l := L) (i := i) (by omega)
    obtain ⟨g0, g1⟩ := evC_get L i _ hm
    rw [show 2 * i = i * 2 by omega] at g0 g1
    exact ⟨g, _, rfl, by omega, hm, (q.cell (p := ⟨g, i * 2, none⟩) hgl id).trans (hh _ _ g0).1, (q.cell (p := ⟨g, i * 2 + 1, none⟩) hgl id).trans (hh _ _ g1).1⟩)
  have HL := Lib.hid (fun i => textE_len (L.take i) (fun e he => hsm e (List.mem_of_mem_take he)))
  have HS := Lib.hid hsm
  have HN := Lib.hid hN
  have HD := Lib.hid (fun n w h => dec_any n h w)
  clear h hN hsm
  go_enter Tryd.func33, Tryd.ntmps33
  go_wp2_with fail
  go_loopw [3, 8] (fun vo vi wr => TxAt w L N vo vi wr) (fun _ vi _ => N - (intOf vi).toNat)
  case atStart => exact ⟨0, Nat.zero_le _, rfl, rfl, Keeps.refl _ _⟩
  case round =>
    obtain ⟨i, hin, rfl, rfl, hq⟩ := hrel
    by_cases hlt : i < N
    · obtain ⟨g, e, rfl, hc, hm, r1, r2⟩ := HR.out i wr hq hlt
      have hi1 : (i : Int) < (N : Int) := by omega
      have hi2 : (N : Int) ≤ (c : Int) := by omega
      have hi6 : (i : Int) ≤ 1200 := by omega
      have hen := HS.out e (List.mem_of_getElem? hm)
      have hx := HL.out i
      have hxl : (textE (L.take i)).length ≤ 6000 := by rw [List.length_take] at hx; omega
      obtain ⟨X, hX⟩ : ∃ X : ByteArray, X = ⟨(textE (L.take i)).toArray⟩ := ⟨_, rfl⟩
      have hXs : X.size ≤ 6000 := by rw [hX]; show (textE (L.take i)).toArray.size ≤ _; simpa using hxl
      rw [← hX]
      have hXP := Lib.hid hX
      clear hX
      obtain ⟨kv, hkv⟩ : ∃ kv : Int, kv = (e.k.toNat : Int) := ⟨_, rfl⟩
      rw [← hkv] at r1
      have hcv := fun A W h => conv_byte' A e.k kv hkv W h
      obtain ⟨D, hD⟩ : ∃ D : ByteArray, D = ⟨(decDigits e.n).toArray⟩ := ⟨_, rfl⟩
      have hDs : D.size ≤ 3 := by rw [hD]; show (decDigits e.n).toArray.size ≤ 3; simpa using dec_len hen
      have HDC : Hid (∀ W, Calls Tryd.prog 44 #[.int .i64 (e.n : Int)] W fun e' w' => e' = .returned (.string D) ∧ Keeps noB W w') := Lib.hid (fun W => by rw [hD]; exact HD.out e.n W hen)
      have HF := Lib.hid (And.intro (text_next hm) hD)
      have HQ := Lib.hid hq
      obtain ⟨n, hn⟩ : ∃ n : Int, n = (e.n : Int) := ⟨_, rfl⟩
      rw [← hn] at r2 HDC
      clear hx hxl hm hkv hD hn hq hen
      by_cases h0 : i = 0
      · have hz : ¬ (0 : Int) < (i : Int) := by omega
        obtain ⟨S, hS⟩ : ∃ S, S = X := ⟨_, rfl⟩
        have hSs : S.size ≤ 6001 := by rw [hS]; omega
        have HSP : Hid (S.data.toList = headT L i) := Lib.hid (by rw [hS]; rw [hXP.out, h0]; rfl)
        clear h0
        go_upto_region 7 with fail
        rw [← hS]
        clear hS
        have hsA : S.size + (⟨#[e.k]⟩ : ByteArray).size ≤ 9223372036854775807 := by show S.size + 1 ≤ _; omega
        have hsB : S.size + 1 ≤ 9223372036854775807 := by omega
        have hsC : (S ++ ⟨#[e.k]⟩).size + D.size ≤ 9223372036854775807 := by rw [ByteArray.size_append]; show S.size + 1 + D.size ≤ _; omega
        have hsD : S.size + 1 + D.size ≤ 9223372036854775807 := by omega
        have hsF : ¬ 9223372036854775807 < S.size + 1 := by omega
        have hsG : ¬ 9223372036854775807 < S.size + 1 + D.size := by omega
        have hb0 : (wr.alloc (.cells #[.int .u8 kv, .int .i64 n] 39)).cell? ⟨wr.heap.size, 0, none⟩ = some (.int .u8 kv) := (Blk.new wr #[.int .u8 kv, .int .i64 n] 39).cell 0
        have hb1 : (wr.alloc (.cells #[.int .u8 kv, .int .i64 n] 39)).cell? ⟨wr.heap.size, 1, none⟩ = some (.int .i64 n) := (Blk.new wr #[.int .u8 kv, .int .i64 n] 39).cell 1
        have hbs : wr.heap.size < (wr.alloc (.cells #[.int .u8 kv, .int .i64 n] 39)).heap.size := by rw [World.size_alloc]; omega
        have HQ1 := Lib.hid (HQ.out.alloc (.cells #[.int .u8 kv, .int .i64 n] 39))
        have HE : Hid (∀ W', Keeps noB w W' → TxAt w L N (.string (S ++ ⟨#[e.k]⟩ ++ D)) (.int .i64 ((i : Int) + 1)) W') := Lib.hid (fun W' q => ⟨i + 1, hlt, by go_num, by
          rw [HF.out.1, HF.out.2]
          congr 1
          apply ByteArray.ext
          apply Array.ext'
          rw [ByteArray.data_append, ByteArray.data_append, Array.toList_append, Array.toList_append, HSP.out]
          simp [wordE], q⟩)
        clear HSP
        generalize (wr.alloc (.cells #[.int .u8 kv, .int .i64 n] 39)) = W1 at *
        generalize wr.heap.size = B at *
        have hbn : ¬ B = W1.heap.size := by omega
        clear r1 r2 hi2
        go_region_law (first | (go_simp; go_at_call 44; refine (HDC.out _).mono ?_; rintro e5 w5 ⟨rfl, q5⟩
                                have Q5 : Hid (Keeps noB w w5) := Lib.hid (HQ1.out.trans (by first | exact (Keeps.refl noB W1).drew.trans q5 | exact ((Keeps.refl noB W1).alloc _).drew.trans q5))
                                have y0 : w5.cell? ⟨B, 0, none⟩ = some (.int .u8 kv) := (by first | exact (q5.cell (p := ⟨B, 0, none⟩) hbs id).trans hb0 | exact (q5.cell (p := ⟨B, 0, none⟩) (by simp [World.size_alloc] <;> omega) id).trans ((((Keeps.refl noB W1).alloc _).cell (p := ⟨B, 0, none⟩) hbs id).trans hb0))
                                (first | (have y1 : w5.cell? ⟨W1.heap.size, 0, none⟩ = some (.int .u8 kv) := (q5.cell (p := ⟨W1.heap.size, 0, none⟩) (by simp [World.size_alloc]) id).trans ((Blk.new W1 #[.int .u8 kv] 5).cell 0)) | skip)
                                clear q5))
        all_goals
          go_wp2_with fail
          go_roundw
          case rel => first | exact HE.out _ Q5.out | exact HE.out _ (Q5.out.alloc _)
          case measure => simp [intOf]; omega
      · have hz : (0 : Int) < (i : Int) := by omega
        have hs1 : X.size + (⟨#[32]⟩ : ByteArray).size ≤ 9223372036854775807 := by show X.size + 1 ≤ _; omega
        obtain ⟨S, hS⟩ : ∃ S, S = X ++ ⟨#[32]⟩ := ⟨_, rfl⟩
        have hSs : S.size ≤ 6001 := by rw [hS]; rw [ByteArray.size_append]; show X.size + 1 ≤ _; omega
        have HSP : Hid (S.data.toList = headT L i) := Lib.hid (by rw [hS]; rw [ByteArray.data_append, Array.toList_append, hXP.out]; unfold headT; rw [if_neg h0])
        clear h0
        go_upto_region 7 with fail
        rw [← hS]
        clear hS hs1
        have hsA : S.size + (⟨#[e.k]⟩ : ByteArray).size ≤ 9223372036854775807 := by show S.size + 1 ≤ _; omega
        have hsB : S.size + 1 ≤ 9223372036854775807 := by omega
        have hsC : (S ++ ⟨#[e.k]⟩).size + D.size ≤ 9223372036854775807 := by rw [ByteArray.size_append]; show S.size + 1 + D.size ≤ _; omega
        have hsD : S.size + 1 + D.size ≤ 9223372036854775807 := by omega
        have hsF : ¬ 9223372036854775807 < S.size + 1 := by omega
        have hsG : ¬ 9223372036854775807 < S.size + 1 + D.size := by omega
        have hb0 : (wr.alloc (.cells #[.int .u8 kv, .int .i64 n] 39)).cell? ⟨wr.heap.size, 0, none⟩ = some (.int .u8 kv) := (Blk.new wr #[.int .u8 kv, .int .i64 n] 39).cell 0
        have hb1 : (wr.alloc (.cells #[.int .u8 kv, .int .i64 n] 39)).cell? ⟨wr.heap.size, 1, none⟩ = some (.int .i64 n) := (Blk.new wr #[.int .u8 kv, .int .i64 n] 39).cell 1
        have hbs : wr.heap.size < (wr.alloc (.cells #[.int .u8 kv, .int .i64 n] 39)).heap.size := by rw [World.size_alloc]; omega
        have HQ1 := Lib.hid (HQ.out.alloc (.cells #[.int .u8 kv, .int .i64 n] 39))
        have HE : Hid (∀ W', Keeps noB w W' → TxAt w L N (.string (S ++ ⟨#[e.k]⟩ ++ D)) (.int .i64 ((i : Int) + 1)) W') := Lib.hid (fun W' q => ⟨i + 1, hlt, by go_num, by
          rw [HF.out.1, HF.out.2]
          congr 1
          apply ByteArray.ext
          apply Array.ext'
          rw [ByteArray.data_append, ByteArray.data_append, Array.toList_append, Array.toList_append, HSP.out]
          simp [wordE], q⟩)
        clear HSP
        generalize (wr.alloc (.cells #[.int .u8 kv, .int .i64 n] 39)) = W1 at *
        generalize wr.heap.size = B at *
        have hbn : ¬ B = W1.heap.size := by omega
        clear r1 r2 hi2
        go_region_law (first | (go_simp; go_at_call 44; refine (HDC.out _).mono ?_; rintro e5 w5 ⟨rfl, q5⟩
                                have Q5 : Hid (Keeps noB w w5) := Lib.hid (HQ1.out.trans (by first | exact (Keeps.refl noB W1).drew.trans q5 | exact ((Keeps.refl noB W1).alloc _).drew.trans q5))
                                have y0 : w5.cell? ⟨B, 0, none⟩ = some (.int .u8 kv) := (by first | exact (q5.cell (p := ⟨B, 0, none⟩) hbs id).trans hb0 | exact (q5.cell (p := ⟨B, 0, none⟩) (by simp [World.size_alloc] <;> omega) id).trans ((((Keeps.refl noB W1).alloc _).cell (p := ⟨B, 0, none⟩) hbs id).trans hb0))
                                (first | (have y1 : w5.cell? ⟨W1.heap.size, 0, none⟩ = some (.int .u8 kv) := (q5.cell (p := ⟨W1.heap.size, 0, none⟩) (by simp [World.size_alloc]) id).trans ((Blk.new W1 #[.int .u8 kv] 5).cell 0)) | skip)
                                clear q5))
        all_goals
          go_wp2_with fail
          go_roundw
          case rel => first | exact HE.out _ Q5.out | exact HE.out _ (Q5.out.alloc _)
          case measure => simp [intOf]; omega
    · have hi1 : ¬ (i : Int) < (N : Int) := by omega
      have hiN : L.take i = L := List.take_of_length_le (by have := HN.out; omega)
      rw [hiN]
      have HQ := Lib.hid hq
      by_cases h0 : L = []
      · have HT : Hid (textT L = ⟨#[45]⟩) := Lib.hid (by unfold textT; rw [if_pos h0])
        have hx : textE L = [] := by rw [h0]; rfl
        rw [hx]
        clear hq hiN h0 hx
        go_wp2_with fail
        go_ret
        exact ⟨by rw [HT.out]; rfl, HQ.out⟩
      · have hne := textE_ne h0
        have HT : Hid (textT L = ⟨(textE L).toArray⟩) := Lib.hid (by unfold textT; rw [if_neg h0])
        have hem : (textE L).isEmpty = false := by cases hx : textE L with | nil => exact absurd hx hne | cons _ _ => rfl
        clear hq hiN h0
        generalize textE L = X at *
        go_wp2_with fail
        go_ret
        exact ⟨by rw [HT.out]; rfl, HQ.out⟩


end Go.Proofs.YthgocacabadflaaDoor

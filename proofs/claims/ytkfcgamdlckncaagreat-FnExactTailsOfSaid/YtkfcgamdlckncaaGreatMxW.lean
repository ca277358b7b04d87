/-
  The digits of a number.
  Walks of the law's own helper markText.
  Walks of the law's own helpers on lists of texts: eqStringS, markStringS, heldStringS.
-/
import Derived.Test.YtkfcgamdlckncaaGreatPureW
import Derived.Lib.ItoaNum
import Derived.Test.YtkfcgamdlckncaaGreatTz
import Derived.Test.YtkfcgamdlckncaaGreatIuW
import Derived.Deep.RegionWith
import Derived.BigQuiet
import Derived.Deep.QuietTactic
namespace Go.Proofs.YtkfcgamdlckncaaGreat
set_option linter.unusedVariables false
set_option linter.unusedSimpArgs false

theorem dec_small {n : Nat} (h : n ≤ 9) : Lib.decDigits n = [UInt8.ofNat (48 + n)] := by rw [Lib.decDigits, dif_pos (by omega)]
theorem dec_big {n : Nat} (h : 9 < n) : Lib.decDigits n = Lib.decDigits (n / 10) ++ [UInt8.ofNat (48 + n % 10)] := by rw [Lib.decDigits, dif_neg (by omega)]

theorem dec_len : ∀ (j u : Nat), u < 10 ^ (j + 1) → (Lib.decDigits u).length ≤ j + 1
  | 0, u, h => by
    have h9 : u ≤ 9 := by rw [Nat.zero_add, Nat.pow_one] at h; omega
    rw [dec_small h9]; exact Nat.le_refl _
  | j + 1, u, h => by
    by_cases h9 : u ≤ 9
    · rw [dec_small h9]; simp
    · rw [dec_big (by omega), List.length_append]
      have := dec_len j (u / 10) (by rw [Nat.pow_succ] at h; omega)
      simp; omega

theorem digit_nat {k : Nat} (h : k ≤ 9) : ((UInt8.ofNat (48 + k)).toNat : Int) = 48 + (k : Int) := by
  rw [UInt8.toNat_ofNat']
  omega

end Go.Proofs.YtkfcgamdlckncaaGreat

namespace Go.Proofs.YtkfcgamdlckncaaGreat
set_option linter.unusedVariables false
set_option linter.unusedSimpArgs false
open Go.RowKit

/-- The text with which the laws mark a string. -/
def markT (k : Nat) : List UInt8 := 109 :: Lib.decDigits k

/-- What the loop of markText holds. -/
def MarkTAt (w : World) (n : Nat) (v0 v3 : Value) (wr : World) : Prop :=
  ∃ (m : Nat) (out : ByteArray), v0 = .int .i64 (m : Int) ∧ v3 = .string out ∧ (m ≠ 0 → Lib.decDigits m ++ out.data.toList = Lib.decDigits n) ∧ (m = 0 → out.data.toList = Lib.decDigits n) ∧ out.size + m ≤ n ∧ Keeps noB w wr

set_option maxRecDepth 100000 in
set_option maxHeartbeats 2000000 in
theorem markText_any (n : Nat) (hn : n ≤ 1000000) (h0 : 0 < n) (w : World) : Calls Tryz.prog 20 #[.int .i64 (n : Int)] w (fun e w' => e = .returned (str (markT n)) ∧ Keeps noB w w') := by
  have HP : Hid (MarkTAt w n (.int .i64 (n : Int)) (.string ⟨#[]⟩) w) := ⟨n, ⟨#[]⟩, rfl, rfl, fun _ => List.append_nil _, fun e => by omega, Nat.le_of_eq (Nat.zero_add n), Keeps.refl _ _⟩
  have hn2 : ¬ (n : Int) ≤ 0 := by omega
  go_enter Tryz.func20, Tryz.ntmps20
  go_wp2_with fail
  go_loopw [0, 3] (fun v0 v3 wr => MarkTAt w n v0 v3 wr) (fun v0 _ _ => (intOf v0).toNat)
  case atStart => exact HP.out
  case round =>
    clear HP hn2
    obtain ⟨m, out, rfl, rfl, hd, hd0, hmn, q⟩ := hrel
    have hos' : 1 + out.size ≤ 9223372036854775807 := by omega
    by_cases h9 : 0 < m
    · obtain ⟨c, hce⟩ : ∃ c, UInt8.ofNat (48 + m % 10) = c := ⟨_, rfl⟩
      have hc := digit_nat (k := m % 10) (by omega)
      rw [hce] at hc
      have hconv := fun W => conv_new W wr.heap.size c
      rw [hc] at hconv
      have ht : (m : Int).tmod 10 = ((m % 10 : Nat) : Int) := (Int.ofNat_tmod m 10).symm
      have hq : (m : Int).tdiv 10 = ((m / 10 : Nat) : Int) := (Int.ofNat_tdiv m 10).symm
      have hdm := hd (by omega)
      have HN : Hid (∀ W, Keeps noB wr W → MarkTAt w n (.int .i64 ((m / 10 : Nat) : Int)) (.string (⟨#[c]⟩ ++ out)) W ∧ (intOf (.int .i64 ((m / 10 : Nat) : Int))).toNat < (intOf (.int .i64 (m : Int))).toNat) := fun W qq =>
        ⟨⟨m / 10, _, rfl, rfl, fun hne => by
          rw [ByteArray.data_append, Array.toList_append, ← List.append_assoc]
          show (Lib.decDigits (m / 10) ++ [c]) ++ _ = _
          rw [← hce, ← dec_big (by omega)]; exact hdm, fun he => by
          have hml : m % 10 = m := by omega
          rw [ByteArray.data_append, Array.toList_append, ← hdm, dec_small (by omega), ← hce, hml], by rw [ByteArray.size_append]; show 1 + out.size + _ ≤ _; omega, q.trans qq⟩, by simp [intOf]; omega⟩
      have hr0 : (0 : Int) ≤ ((m % 10 : Nat) : Int) := by omega
      have hr1 : ((m % 10 : Nat) : Int) ≤ 9 := by omega
      have hq0 : (0 : Int) ≤ ((m / 10 : Nat) : Int) := by omega
      have hq1 : ((m / 10 : Nat) : Int) ≤ 1000000 := by omega
      have hm1 : (m : Int) ≤ 1000000 := by omega
      have h9' : (0 : Int) < (m : Int) := by omega
      have hwr : IntKind.u8.wrap (48 + ((m % 10 : Nat) : Int)) = 48 + ((m % 10 : Nat) : Int) := by rw [IntKind.wrap]; simp [IntKind.signed, IntKind.bits]; omega
      clear hd hd0 hc q h9 hce hmn hdm
      generalize ((m % 10 : Nat) : Int) = r at *
      generalize ((m / 10 : Nat) : Int) = d at *
      go_wp2_with fail
      refine HN.out _ ((Keeps.refl _ _).alloc _)
    · have hm0 : m = 0 := by omega
      subst hm0
      have HE : Hid (Value.string (⟨#[109]⟩ ++ out) = str (markT n) ∧ Keeps noB w wr) :=
        ⟨str_eq (by rw [ByteArray.data_append, Array.toList_append, hd0 rfl]; rfl), q⟩
      clear hd hd0 q h9 hmn
      go_wp2_with fail
      go_ret
      exact ⟨congrArg Ending.returned HE.out.1, HE.out.2⟩

end Go.Proofs.YtkfcgamdlckncaaGreat

namespace Go.Proofs.YtkfcgamdlckncaaGreat
set_option linter.unusedVariables false
set_option linter.unusedSimpArgs false
open Go.RowKit

/-- A row of texts. -/
def TRow (w : World) (v : Value) (n : Nat) (l : List ByteArray) : Prop := w.ownsRow 0 9 1 v n (l.map Value.string)

theorem TRow.keeps {may : Nat → Prop} {w w' : World} {v : Value} {n : Nat} {l : List ByteArray} (h : TRow w v n l) (q : Keeps may w w') (hm : ∀ g, v.ownBlock = some g → ¬ may g) : TRow w' v n l :=
  q.ownsRow h (fun g hg _ => hm g hg)

theorem TRow.len {w : World} {v : Value} {n : Nat} {l : List ByteArray} (h : TRow w v n l) : l.length = n := by
  have := h.1; simpa using this

theorem TRow.get {w : World} {v : Value} {n : Nat} {l : List ByteArray} (h : TRow w v n l) (hn : 0 < n) :
    ∃ g c, v = .slice (some ⟨g, 0, none⟩) n c ∧ n ≤ c ∧ g < w.heap.size ∧ ∀ i t, l[i]? = some t → w.cell? ⟨g, i, none⟩ = some (.string t) ∧ w.frozen? ⟨g, i, none⟩ = false := by
  obtain ⟨g, c, rfl, _, hg, hc⟩ := row_get (ok := fun _ => True) ⟨h, fun _ _ => trivial⟩ hn
  rcases h.2 with ⟨e, _⟩ | ⟨g', c', cur, e, _, hh, hnc, _⟩
  · cases e
  · simp only [Value.slice.injEq, Option.some.injEq, Addr.mk.injEq, and_true, true_and] at e
    obtain ⟨rfl, rfl⟩ := e
    exact ⟨g, c, rfl, hnc, hg, fun i t ht => ⟨hc i _ (by rw [List.getElem?_map, ht]; rfl), (show Blk w g cur 9 from hh).free i⟩⟩

theorem TRow.set {w : World} {g n c : Nat} {l : List ByteArray} (h : TRow w (.slice (some ⟨g, 0, none⟩) n c) n l) (i : Nat) (t : ByteArray) :
    TRow (w.setCell ⟨g, i, none⟩ (.string t)) (.slice (some ⟨g, 0, none⟩) n c) n (l.set i t) := by
  obtain ⟨h1, h2⟩ := h
  refine ⟨by simpa using h1, ?_⟩
  rcases h2 with ⟨e, _⟩ | ⟨g', c', cur, e, hb, hh, hnc, hcm, hcs, htk⟩
  · cases e
  · simp only [Value.slice.injEq, Option.some.injEq, Addr.mk.injEq, and_true, true_and] at e
    obtain ⟨rfl, rfl⟩ := e
    refine .inr ⟨g, c, cur.setIfInBounds i (.string t), rfl, hb, (show Blk w g cur 9 from hh).set i _, hnc, hcm, by simpa using hcs, ?_⟩
    rw [Array.toList_setIfInBounds, List.take_set, htk, List.map_set]

set_option maxRecDepth 100000 in
set_option maxHeartbeats 2000000 in
theorem eqTexts_same (a1 a2 : Option Addr) (c1 c2 n : Nat) (l : List ByteArray) (w : World) (h1 : TRow w (.slice a1 n c1) n l) (h2 : TRow w (.slice a2 n c2) n l) (hn : n ≤ 100000) :
    Calls Tryz.prog 8 #[.slice a1 n c1, .slice a2 n c2] w (fun e w' => e = .returned (.bool true) ∧ Keeps noB w w') := by
  have HR : Hid (∀ i, i < n → ∃ g1 g2 t, a1 = some ⟨g1, 0, none⟩ ∧ a2 = some ⟨g2, 0, none⟩ ∧ n ≤ c1 ∧ n ≤ c2 ∧ ∀ wr, Keeps noB w wr → wr.cell? ⟨g1, i, none⟩ = some (.string t) ∧ wr.cell? ⟨g2, i, none⟩ = some (.string t)) := by
    intro i hi
    obtain ⟨g1, d1, e1, hc1, hg1, hh1⟩ := h1.get (by omega)
    obtain ⟨g2, d2, e2, hc2, hg2, hh2⟩ := h2.get (by omega)
    simp only [Value.slice.injEq, true_and] at e1 e2
    obtain ⟨rfl, rfl⟩ := e1
    obtain ⟨rfl, rfl⟩ := e2
    have hil : i < l.length := by have := h1.len; omega
    have hp : l[i]? = some l[i] := List.getElem?_eq_getElem hil
    exact ⟨g1, g2, _, rfl, rfl, hc1, hc2, fun wr q => ⟨(q.cell (p := ⟨g1, i, none⟩) hg1 id).trans (hh1 i _ hp).1, (q.cell (p := ⟨g2, i, none⟩) hg2 id).trans (hh2 i _ hp).1⟩⟩
  clear h1 h2
  have hnn : ((n : Int) != (n : Int)) = false := by simp
  go_enter Tryz.func8, Tryz.ntmps8
  go_wp2_with fail
  go_loopw [5] (fun v5 wr => ∃ i : Nat, i ≤ n ∧ v5 = .int .i64 (i : Int) ∧ Keeps noB w wr) (fun v5 _ => n - (intOf v5).toNat)
  case atStart => exact ⟨0, Nat.zero_le _, rfl, Keeps.refl _ _⟩
  case round =>
    obtain ⟨i, hin, rfl, q⟩ := hrel
    by_cases hlt : i < n
    · obtain ⟨g1, g2, t, rfl, rfl, hc1, hc2, hcell⟩ := HR.out i hlt
      obtain ⟨r1, r2⟩ := hcell _ q
      have HQ := Lib.hid q
      have hbb : (t.toList != t.toList) = false := by simp
      clear hcell q
      have hi1 : (i : Int) < (n : Int) := by omega
      have hi0 : (0 : Int) ≤ (i : Int) := by omega
      go_wp2_with fail
      go_quiet (fail)
      go_wp2_with fail
      go_roundw
      case rel => exact ⟨i + 1, by omega, by go_num, HQ.out.drewN _⟩
      case measure => simp [intOf]; omega
    · have HQ := Lib.hid q
      clear q
      go_wp2_with fail
      go_ret
      exact ⟨rfl, HQ.out⟩

/-- The i-th mark of a list of texts. -/
def markS (k i : Nat) : ByteArray := ⟨(markT (k + i)).toArray⟩
def marksS (k n : Nat) : List ByteArray := (List.range n).map (markS k)

theorem marksS_step (k i n : Nat) (l : List ByteArray) (hl : l.length = n) (hi : i < n) : (marksS k i ++ l.drop i).set i (markS k i) = marksS k (i + 1) ++ l.drop (i + 1) := by
  have hm : (marksS k i).length = i := by simp [marksS]
  rw [List.set_append_right _ _ (by omega), hm, Nat.sub_self, List.drop_eq_getElem_cons (by omega)]
  simp [marksS, List.range_succ, List.set]

def MarkSPost (w : World) (v : Value) (n k : Nat) (e : Ending) (w' : World) : Prop :=
  e = .returned (.int .i64 ((k + n : Nat) : Int)) ∧ TRow w' v n (marksS k n) ∧ Keeps (fun b => v.ownBlock = some b) w w'

/-- What the loop of markStringS holds. -/
def MarkSAt (w : World) (a : Option Addr) (n c k : Nat) (l : List ByteArray) (v1 v5 : Value) (wr : World) : Prop :=
  ∃ (i kk : Nat), i ≤ n ∧ kk = k + i ∧ v1 = .int .i64 (kk : Int) ∧ v5 = .int .i64 (i : Int) ∧ TRow wr (.slice a n c) n (marksS k i ++ l.drop i) ∧ Keeps (fun b => (Value.slice a n c).ownBlock = some b) w wr

set_option maxRecDepth 100000 in
set_option maxHeartbeats 2000000 in
theorem mark_texts (a : Option Addr) (c n : Nat) (l : List ByteArray) (k : Nat) (w : World) (h : TRow w (.slice a n c) n l) (hn : n ≤ 10000) (hk : k ≤ 1000) (hk0 : 0 < k) :
    Calls Tryz.prog 9 #[.slice a n c, .int .i64 (k : Int)] w (MarkSPost w (.slice a n c) n k) := by
  have HL := Lib.hid h.len
  have HP : Hid (MarkSAt w a n c k l (.int .i64 (k : Int)) (.int .i64 0) w) := ⟨0, k, Nat.zero_le _, rfl, rfl, rfl, h, Keeps.refl _ _⟩
  clear h
  go_enter Tryz.func9, Tryz.ntmps9
  go_wp2_with fail
  go_loopw [1, 5] (fun v1 v5 wr => MarkSAt w a n c k l v1 v5 wr) (fun _ v5 _ => n - (intOf v5).toNat)
  case atStart => exact HP.out
  case round =>
    clear HP
    obtain ⟨i, kk, hin, hkk, rfl, rfl, hrow, q⟩ := hrel
    by_cases hlt : i < n
    · obtain ⟨g, d, e, hc, hg, hcell⟩ := hrow.get (by omega)
      simp only [Value.slice.injEq, true_and] at e
      obtain ⟨rfl, rfl⟩ := e
      have hil : i < (marksS k i ++ l.drop i).length := by rw [hrow.len]; exact hlt
      obtain ⟨p, hp⟩ : ∃ p, (marksS k i ++ l.drop i)[i]? = some p := ⟨_, List.getElem?_eq_getElem hil⟩
      have HT : Hid (∀ w, Calls Tryz.prog 20 #[.int .i64 (kk : Int)] w (fun e w' => e = .returned (str (markT kk)) ∧ Keeps noB w w')) := fun w => markText_any kk (by omega) (by omega) w
      have HX : Hid (∀ w2, Keeps noB wr w2 → w2.frozen? ⟨g, i, none⟩ = false ∧ (∃ x, w2.cell? ⟨g, i, none⟩ = some x) ∧
          MarkSAt w (some ⟨g, 0, none⟩) n c k l (.int .i64 ((kk : Int) + 1)) (.int .i64 ((i : Int) + 1)) (w2.setCell ⟨g, i, none⟩ (.string ⟨(markT kk).toArray⟩))) := by
        intro w2 q2
        have h2 := hrow.keeps q2 (fun _ _ e => e)
        have h3 := h2.set i ⟨(markT kk).toArray⟩
        obtain ⟨g', d', e', _, _, hc2⟩ := h2.get (by omega)
        simp only [Value.slice.injEq, Option.some.injEq, Addr.mk.injEq, and_true, true_and] at e'
        obtain ⟨rfl, rfl⟩ := e'
        obtain ⟨x2, y2⟩ := hc2 i _ hp
        refine ⟨y2, ⟨_, x2⟩, i + 1, kk + 1, by omega, by omega, by simp, by simp, ?_, ?_⟩
        · rw [← marksS_step k i n l HL.out hlt]
          rw [hkk] at h3
          rw [hkk]
          exact h3
        · exact (q.trans (q2.mono (fun _ e => e.elim))).setCell (p := ⟨g, i, none⟩) (.inl (show (Value.slice (some ⟨g, 0, none⟩) n c).ownBlock = some g from rfl)) _
      have hi1 : (i : Int) < (n : Int) := by omega
      have hi0 : (0 : Int) ≤ (i : Int) := by omega
      have hi2 : (i : Int) ≤ 10000 := by omega
      have hk1 : (kk : Int) ≤ 100000 := by omega
      have hkz : (0 : Int) ≤ (kk : Int) := by omega
      have hcn : (n : Int) ≤ (c : Int) := by omega
      generalize markT kk = mt at HT HX
      unfold str at HT
      clear hcell hrow q hp hkk hil
      generalize (kk : Int) = kv at *
      go_wp2_with (go_at_call 20; refine (HT.out _).mono ?_; rintro e w2 ⟨rfl, q2⟩; have ⟨y2, ⟨x2, hx2⟩, hE⟩ := HX.out _ q2; have HE := Lib.hid hE; clear q2 hE)
      go_roundw
      case rel => exact HE.out
      case measure => simp [intOf]; omega
    · have hie : i = n := by omega
      have HE : Hid (MarkSPost w (.slice a n c) n k (.returned (.int .i64 (kk : Int))) wr) := by
        subst hie
        rw [List.drop_of_length_le (by have := HL.out; omega), List.append_nil] at hrow
        exact ⟨by rw [hkk], hrow, q⟩
      clear hrow q hie hkk
      go_wp2_with fail
      go_ret
      exact HE.out

/-- What the loop of heldStringS holds. -/
def HeldSAt (w : World) (n k : Nat) (v1 v5 : Value) (wr : World) : Prop := ∃ i kk : Nat, i ≤ n ∧ kk = k + i ∧ v1 = .int .i64 (kk : Int) ∧ v5 = .int .i64 (i : Int) ∧ Keeps noB w wr

set_option maxRecDepth 100000 in
set_option maxHeartbeats 2000000 in
theorem held_texts (a : Option Addr) (c n k : Nat) (w : World) (h : TRow w (.slice a n c) n (marksS k n)) (hn : n ≤ 10000) (hk : k ≤ 1000) (hk0 : 0 < k) :
    Calls Tryz.prog 10 #[.slice a n c, .int .i64 (k : Int)] w (fun e w' => e = .returned (.int .i64 ((k + n : Nat) : Int)) ∧ Keeps noB w w') := by
  have HR : Hid (∀ i, i < n → ∃ g, a = some ⟨g, 0, none⟩ ∧ n ≤ c ∧ ∀ wr, Keeps noB w wr → wr.cell? ⟨g, i, none⟩ = some (.string ⟨(markT (k + i)).toArray⟩)) := by
    intro i hi
    obtain ⟨g, d, e, hc, hg, hh⟩ := h.get (by omega)
    simp only [Value.slice.injEq, true_and] at e
    obtain ⟨rfl, rfl⟩ := e
    have hp : (marksS k n)[i]? = some (markS k i) := by simp [marksS, hi]
    exact ⟨g, rfl, hc, fun wr q => (q.cell (p := ⟨g, i, none⟩) hg id).trans (hh i _ hp).1⟩
  clear h
  go_enter Tryz.func10, Tryz.ntmps10
  go_wp2_with fail
  go_loopw [1, 5] (fun v1 v5 wr => HeldSAt w n k v1 v5 wr) (fun _ v5 _ => n - (intOf v5).toNat)
  case atStart => exact ⟨0, k, Nat.zero_le _, rfl, rfl, rfl, Keeps.refl _ _⟩
  case round =>
    obtain ⟨i, kk, hin, hkk, rfl, rfl, q⟩ := hrel
    by_cases hlt : i < n
    · obtain ⟨g, rfl, hc, hcell⟩ := HR.out i hlt
      rw [← hkk] at hcell
      have HT : Hid (∀ w, Calls Tryz.prog 20 #[.int .i64 (kk : Int)] w (fun e w' => e = .returned (str (markT kk)) ∧ Keeps noB w w')) := fun w => markText_any kk (by omega) (by omega) w
      have HX : Hid (∀ w2, Keeps noB wr w2 → w2.cell? ⟨g, i, none⟩ = some (.string ⟨(markT kk).toArray⟩) ∧ Keeps noB w w2) := fun w2 q2 => ⟨hcell w2 (q.trans q2), q.trans q2⟩
      have hi1 : (i : Int) < (n : Int) := by omega
      have hi0 : (0 : Int) ≤ (i : Int) := by omega
      have hi2 : (i : Int) ≤ 10000 := by omega
      have hk1 : (kk : Int) ≤ 100000 := by omega
      have hkz : (0 : Int) ≤ (kk : Int) := by omega
      have hcn : (n : Int) ≤ (c : Int) := by omega
      have HKK : Hid (kk + 1 = k + (i + 1)) := Lib.hid (by omega)
      generalize markT kk = mt at HT HX
      unfold str at HT
      obtain ⟨mb, hmb⟩ : ∃ mb : ByteArray, mb = ⟨mt.toArray⟩ := ⟨_, rfl⟩
      rw [← hmb] at HT HX
      have hbb : (mb.toList != mb.toList) = false := by simp
      have ry := (HX.out wr (Keeps.refl _ _)).1
      clear hcell q hkk hmb
      go_wp2_with fail
      go_region_with (go_at_call 20; refine (HT.out _).mono ?_; rintro e w2 ⟨rfl, q2⟩; have ⟨y2, hE⟩ := HX.out _ ((Keeps.refl noB wr).drew.trans q2); have HE := Lib.hid hE; clear q2 hE)
      all_goals
        go_wp2_with fail
      all_goals
        exact ⟨⟨i + 1, kk + 1, hlt, HKK.out, by simp, by simp, HE.out⟩, by simp [intOf]; omega⟩
    · have hie : i = n := by omega
      subst hie
      have HE : Hid ((kk : Int) = ((k + i : Nat) : Int) ∧ Keeps noB w wr) := ⟨by rw [hkk], q⟩
      clear q hkk
      go_wp2_with fail
      go_ret
      exact ⟨congrArg (fun z => Ending.returned (.int .i64 z)) HE.out.1, HE.out.2⟩

end Go.Proofs.YtkfcgamdlckncaaGreat

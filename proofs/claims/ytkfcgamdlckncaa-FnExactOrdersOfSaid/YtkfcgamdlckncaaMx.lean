/-
  Walks of the law's own helpers on lists of texts: eqStringS, markStringS, heldStringS.
-/
import Derived.Test.YtkfcgamdlckncaaMt
import Derived.Test.YtkfcgamdlckncaaIuW
import Derived.Deep.RegionWith
import Derived.BigQuiet
import Derived.Deep.QuietTactic
namespace Go.Proofs.Ytkfcgamdlckncaa
set_option linter.unusedVariables false
set_option linter.unusedSimpArgs false
open Go.RowKit

/-- A row of texts. -/
def TRow (w : World) (v : Value) (n : Nat) (l : List ByteArray) : Prop := w.ownsRow 0 9 1 v n (l.map Value.string)

theorem TRow.keeps {may : Nat → Prop} {w w' : World} {v : Value} {n : Nat} {l : List ByteArray} (h : TRow w v n l) (q : Keeps may w w') (hm : ∀ g, v.ownBlock = some g → ¬ may g) : TRow w' v n l :=
  q.ownsRow h (fun g hg _ => hm g hg)

theorem TRow.len {w : World} {v : Value} {n : Nat} {l : List ByteArray} (h : TRow w v n l) : l.length = n := by
  have := h.1; simpa using this

theorem TRow.get {w : World} {v : Value} {n : Nat} {l : List ByteArray} (h : TRow w v n l) (hn : 0 < n) :
    ∃ g c, v = .slice (some ⟨g, 0, none⟩) n c ∧ n ≤ c ∧ g < w.heap.size ∧ ∀ i t, l[i]? = some t → w.cell? ⟨g, i, none⟩ = some (.string t) ∧ w.frozen? ⟨g, i, none⟩ = false := by
  obtain ⟨g, c, rfl, _, hg, hc⟩ := row_get (ok := fun _ => True) ⟨h, fun _ _ => trivial⟩ hn
  rcases h.2 with ⟨e, _⟩ | ⟨g', c', cur, e, _, hh, hnc, _⟩
  · cases e
  · simp only [Value.slice.injEq, Option.some.injEq, Addr.mk.injEq, and_true, true_and] at e
    obtain ⟨rfl, rfl⟩ := e
    exact ⟨g, c, rfl, hnc, hg, fun i t ht => ⟨hc i _ (by rw [List.getElem?_map, ht]; rfl), (show Blk w g cur 9 from hh).free i⟩⟩

theorem TRow.set {w : World} {g n c : Nat} {l : List ByteArray} (h : TRow w (.slice (some ⟨g, 0, none⟩) n c) n l) (i : Nat) (t : ByteArray) :
    TRow (w.setCell ⟨g, i, none⟩ (.string t)) (.slice (some ⟨g, 0, none⟩) n c) n (l.set i t) := by
  obtain ⟨h1, h2⟩ := h
  refine ⟨by simpa using h1, ?_⟩
  rcases h2 with ⟨e, _⟩ | ⟨g', c', cur, e, hb, hh, hnc, hcm, hcs, htk⟩
  · cases e
  · simp only [Value.slice.injEq, Option.some.injEq, Addr.mk.injEq, and_true, true_and] at e
    obtain ⟨rfl, rfl⟩ := e
    refine .inr ⟨g, c, cur.setIfInBounds i (.string t), rfl, hb, (show Blk w g cur 9 from hh).set i _, hnc, hcm, by simpa using hcs, ?_⟩
    rw [Array.toList_setIfInBounds, List.take_set, htk, List.map_set]

set_option maxRecDepth 100000 in
set_option maxHeartbeats 2000000 in
theorem eqTexts_same (a1 a2 : Option Addr) (c1 c2 n : Nat) (l : List ByteArray) (w : World) (h1 : TRow w (.slice a1 n c1) n l) (h2 : TRow w (.slice a2 n c2) n l) (hn : n ≤ 100000) :
    Calls Try.prog 30 #[.slice a1 n c1, .slice a2 n c2] w (fun e w' => e = .returned (.bool true) ∧ Keeps noB w w') := by
  have HR : Hid (∀ i, i < n → ∃ g1 g2 t, a1 = some ⟨g1, 0, none⟩ ∧ a2 = some ⟨g2, 0, none⟩ ∧ n ≤ c1 ∧ n ≤ c2 ∧ ∀ wr, Keeps noB w wr → wr.cell? ⟨g1, i, none⟩ = some (.string t) ∧ wr.cell? ⟨g2, i, none⟩ = some (.string t)) := by
    intro i hi
    obtain ⟨g1, d1, e1, hc1, hg1, hh1⟩ := h1.get (by omega)
    obtain ⟨g2, d2, e2, hc2, hg2, hh2⟩ := h2.get (by omega)
    simp only [Value.slice.injEq, true_and] at e1 e2
    obtain ⟨rfl, rfl⟩ := e1
    obtain ⟨rfl, rfl⟩ := e2
    have hil : i < l.length := by have := h1.len; omega
    have hp : l[i]? = some l[i] := List.getElem?_eq_getElem hil
    exact ⟨g1, g2, _, rfl, rfl, hc1, hc2, fun wr q => ⟨(q.cell (p := ⟨g1, i, none⟩) hg1 id).trans (hh1 i _ hp).1, (q.cell (p := ⟨g2, i, none⟩) hg2 id).trans (hh2 i _ hp).1⟩⟩
  clear h1 h2
  have hnn : ((n : Int) != (n : Int)) = false := by simp
  go_enter Try.func30, Try.ntmps30
  go_wp2_with fail
  go_loopw [5] (fun v5 wr => ∃ i : Nat, i ≤ n ∧ v5 = .int .i64 (i : Int) ∧ Keeps noB w wr) (fun v5 _ => n - (intOf v5).toNat)
  case atStart => exact ⟨0, Nat.zero_le _, rfl, Keeps.refl _ _⟩
  case round =>
    obtain ⟨i, hin, rfl, q⟩ := hrel
    by_cases hlt : i < n
    · obtain ⟨g1, g2, t, rfl, rfl, hc1, hc2, hcell⟩ := HR.out i hlt
      obtain ⟨r1, r2⟩ := hcell _ q
      have HQ := Lib.hid q
      have hbb : (t.toList != t.toList) = false := by simp
      clear hcell q
      have hi1 : (i : Int) < (n : Int) := by omega
      have hi0 : (0 : Int) ≤ (i : Int) := by omega
      go_wp2_with fail
      go_quiet (fail)
      go_wp2_with fail
      go_roundw
      case rel => exact ⟨i + 1, by omega, by go_num, HQ.out.drewN _⟩
      case measure => simp [intOf]; omega
    · have HQ := Lib.hid q
      clear q
      go_wp2_with fail
      go_ret
      exact ⟨rfl, HQ.out⟩

/-- The i-th mark of a list of texts. -/
def markS (k i : Nat) : ByteArray := ⟨(markT (k + i)).toArray⟩
def marksS (k n : Nat) : List ByteArray := (List.range n).map (markS k)

theorem marksS_step (k i n : Nat) (l : List ByteArray) (hl : l.length = n) (hi : i < n) : (marksS k i ++ l.drop i).set i (markS k i) = marksS k (i + 1) ++ l.drop (i + 1) := by
  have hm : (marksS k i).length = i := by simp [marksS]
  rw [List.set_append_right _ _ (by omega), hm, Nat.sub_self, List.drop_eq_getElem_cons (by omega)]
  simp [marksS, List.range_succ, List.set]

def MarkSPost (w : World) (v : Value) (n k : Nat) (e : Ending) (w' : World) : Prop :=
  e = .returned (.int .i64 ((k + n : Nat) : Int)) ∧ TRow w' v n (marksS k n) ∧ Keeps (fun b => v.ownBlock = some b) w w'

/-- What the loop of markStringS holds. -/
def MarkSAt (w : World) (a : Option Addr) (n c k : Nat) (l : List ByteArray) (v1 v5 : Value) (wr : World) : Prop :=
  ∃ (i kk : Nat), i ≤ n ∧ kk = k + i ∧ v1 = .int .i64 (kk : Int) ∧ v5 = .int .i64 (i : Int) ∧ TRow wr (.slice a n c) n (marksS k i ++ l.drop i) ∧ Keeps (fun b => (Value.slice a n c).ownBlock = some b) w wr

set_option maxRecDepth 100000 in
set_option maxHeartbeats 2000000 in
theorem mark_texts (a : Option Addr) (c n : Nat) (l : List ByteArray) (k : Nat) (w : World) (h : TRow w (.slice a n c) n l) (hn : n ≤ 10000) (hk : k ≤ 1000) (hk0 : 0 < k) :
    Calls Try.prog 31 #[.slice a n c, .int .i64 (k : Int)] w (MarkSPost w (.slice a n c) n k) := by
  have HL := Lib.hid h.len
  have HP : Hid (MarkSAt w a n c k l (.int .i64 (k : Int)) (.int .i64 0) w) := ⟨0, k, Nat.zero_le _, rfl, rfl, rfl, h, Keeps.refl _ _⟩
  clear h
  go_enter Try.func31, Try.ntmps31
  go_wp2_with fail
  go_loopw [1, 5] (fun v1 v5 wr => MarkSAt w a n c k l v1 v5 wr) (fun _ v5 _ => n - (intOf v5).toNat)
  case atStart => exact HP.out
  case round =>
    clear HP
    obtain ⟨i, kk, hin, hkk, rfl, rfl, hrow, q⟩ := hrel
    by_cases hlt : i < n
    · obtain ⟨g, d, e, hc, hg, hcell⟩ := hrow.get (by omega)
      simp only [Value.slice.injEq, true_and] at e
      obtain ⟨rfl, rfl⟩ := e
      have hil : i < (marksS k i ++ l.drop i).length := by rw [hrow.len]; exact hlt
      obtain ⟨p, hp⟩ : ∃ p, (marksS k i ++ l.drop i)[i]? = some p := ⟨_, List.getElem?_eq_getElem hil⟩
      have HT : Hid (∀ w, Calls Try.prog 57 #[.int .i64 (kk : Int)] w (fun e w' => e = .returned (str (markT kk)) ∧ Keeps noB w w')) := fun w => markText_any kk (by omega) (by omega) w
      have HX : Hid (∀ w2, Keeps noB wr w2 → w2.frozen? ⟨g, i, none⟩ = false ∧ (∃ x, w2.cell? ⟨g, i, none⟩ = some x) ∧
          MarkSAt w (some ⟨g, 0, none⟩) n c k l (.int .i64 ((kk : Int) + 1)) (.int .i64 ((i : Int) + 1)) (w2.setCell ⟨g, i, none⟩ (.string ⟨(markT kk).toArray⟩))) := by
        intro w2 q2
        have h2 := hrow.keeps q2 (fun _ _ e => e)
        have h3 := h2.set i ⟨(markT kk).toArray⟩
        obtain ⟨g', d', e', _, _, hc2⟩ := h2.get (by omega)
        simp only [Value.slice.injEq, Option.some.injEq, Addr.mk.injEq, and_true, true_and] at e'
        obtain ⟨rfl, rfl⟩ := e'
        obtain ⟨x2, y2⟩ := hc2 i _ hp
        refine ⟨y2, ⟨_, x2⟩, i + 1, kk + 1, by omega, by omega, by simp, by simp, ?_, ?_⟩
        · rw [← marksS_step k i n l HL.out hlt]
          rw [hkk] at h3
          rw [hkk]
          exact h3
        · exact (q.trans (q2.mono (fun _ e => e.elim))).setCell (p := ⟨g, i, none⟩) (.inl (show (Value.slice (some ⟨g, 0, none⟩) n c).ownBlock = some g from rfl)) _
      have hi1 : (i : Int) < (n : Int) := by omega
      have hi0 : (0 : Int) ≤ (i : Int) := by omega
      have hi2 : (i : Int) ≤ 10000 := by omega
      have hk1 : (kk : Int) ≤ 100000 := by omega
      have hkz : (0 : Int) ≤ (kk : Int) := by omega
      have hcn : (n : Int) ≤ (c : Int) := by omega
      generalize markT kk = mt at HT HX
      unfold str at HT
      clear hcell hrow q hp hkk hil
      generalize (kk : Int) = kv at *
      go_wp2_with (go_at_call 57; refine (HT.out _).mono ?_; rintro e w2 ⟨rfl, q2⟩; have ⟨y2, ⟨x2, hx2⟩, hE⟩ := HX.out _ q2; have HE := Lib.hid hE; clear q2 hE)
      go_roundw
      case rel => exact HE.out
      case measure => simp [intOf]; omega
    · have hie : i = n := by omega
      have HE : Hid (MarkSPost w (.slice a n c) n k (.returned (.int .i64 (kk : Int))) wr) := by
        subst hie
        rw [List.drop_of_length_le (by have := HL.out; omega), List.append_nil] at hrow
        exact ⟨by rw [hkk], hrow, q⟩
      clear hrow q hie hkk
      go_wp2_with fail
      go_ret
      exact HE.out

/-- What the loop of heldStringS holds. -/
def HeldSAt (w : World) (n k : Nat) (v1 v5 : Value) (wr : World) : Prop := ∃ i kk : Nat, i ≤ n ∧ kk = k + i ∧ v1 = .int .i64 (kk : Int) ∧ v5 = .int .i64 (i : Int) ∧ Keeps noB w wr

set_option maxRecDepth 100000 in
set_option maxHeartbeats 2000000 in
theorem held_texts (a : Option Addr) (c n k : Nat) (w : World) (h : TRow w (.slice a n c) n (marksS k n)) (hn : n ≤ 10000) (hk : k ≤ 1000) (hk0 : 0 < k) :
    Calls Try.prog 32 #[.slice a n c, .int .i64 (k : Int)] w (fun e w' => e = .returned (.int .i64 ((k + n : Nat) : Int)) ∧ Keeps noB w w') := by
  have HR : Hid (∀ i, i < n → ∃ g, a = some ⟨g, 0, none⟩ ∧ n ≤ c ∧ ∀ wr, Keeps noB w wr → wr.cell? ⟨g, i, none⟩ = some (.string ⟨(markT (k + i)).toArray⟩)) := by
    intro i hi
    obtain ⟨g, d, e, hc, hg, hh⟩ := h.get (by omega)
    simp only [Value.slice.injEq, true_and] at e
    obtain ⟨rfl, rfl⟩ := e
    have hp : (marksS k n)[i]? = some (markS k i) := by simp [marksS, hi]
    exact ⟨g, rfl, hc, fun wr q => (q.cell (p := ⟨g, i, none⟩) hg id).trans (hh i _ hp).1⟩
  clear h
  go_enter Try.func32, Try.ntmps32
  go_wp2_with fail
  go_loopw [1, 5] (fun v1 v5 wr => HeldSAt w n k v1 v5 wr) (fun _ v5 _ => n - (intOf v5).toNat)
  case atStart => exact ⟨0, k, Nat.zero_le _, rfl, rfl, rfl, Keeps.refl _ _⟩
  case round =>
    obtain ⟨i, kk, hin, hkk, rfl, rfl, q⟩ := hrel
    by_cases hlt : i < n
    · obtain ⟨g, rfl, hc, hcell⟩ := HR.out i hlt
      rw [← hkk] at hcell
      have HT : Hid (∀ w, Calls Try.prog 57 #[.int .i64 (kk : Int)] w (fun e w' => e = .returned (str (markT kk)) ∧ Keeps noB w w')) := fun w => markText_any kk (by omega) (by omega) w
      have HX : Hid (∀ w2, Keeps noB wr w2 → w2.cell? ⟨g, i, none⟩ = some (.string ⟨(markT kk).toArray⟩) ∧ Keeps noB w w2) := fun w2 q2 => ⟨hcell w2 (q.trans q2), q.trans q2⟩
      have hi1 : (i : Int) < (n : Int) := by omega
      have hi0 : (0 : Int) ≤ (i : Int) := by omega
      have hi2 : (i : Int) ≤ 10000 := by omega
      have hk1 : (kk : Int) ≤ 100000 := by omega
      have hkz : (0 : Int) ≤ (kk : Int) := by omega
      have hcn : (n : Int) ≤ (c : Int) := by omega
      have HKK : Hid (kk + 1 = k + (i + 1)) := Lib.hid (by omega)
      generalize markT kk = mt at HT HX
      unfold str at HT
      obtain ⟨mb, hmb⟩ : ∃ mb : ByteArray, mb = ⟨mt.toArray⟩ := ⟨_, rfl⟩
      rw [← hmb] at HT HX
      have hbb : (mb.toList != mb.toList) = false := by simp
      have ry := (HX.out wr (Keeps.refl _ _)).1
      clear hcell q hkk hmb
      go_wp2_with fail
      go_region_with (go_at_call 57; refine (HT.out _).mono ?_; rintro e w2 ⟨rfl, q2⟩; have ⟨y2, hE⟩ := HX.out _ ((Keeps.refl noB wr).drew.trans q2); have HE := Lib.hid hE; clear q2 hE)
      all_goals
        go_wp2_with fail
      all_goals
        exact ⟨⟨i + 1, kk + 1, hlt, HKK.out, by simp, by simp, HE.out⟩, by simp [intOf]; omega⟩
    · have hie : i = n := by omega
      subst hie
      have HE : Hid ((kk : Int) = ((k + i : Nat) : Int) ∧ Keeps noB w wr) := ⟨by rw [hkk], q⟩
      clear q hkk
      go_wp2_with fail
      go_ret
      exact ⟨congrArg (fun z => Ending.returned (.int .i64 z)) HE.out.1, HE.out.2⟩

end Go.Proofs.Ytkfcgamdlckncaa

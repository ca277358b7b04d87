/-
  The model's l13Cut: the words of a text.
-/
import Derived.Test.YthgocacabadflaaDoorPg
import Derived.Test.YthgocacabadflaaDoorMm
import Derived.Test.YthgocacabadflaaDoorChecked
import Derived.WalkKit
import Derived.Deep.RegionLaw
import Derived.Deep.QuietTactic
import Derived.BigQuiet
import Derived.Outline
import Derived.Deep.DeepCutAuto
import Derived.Deep.Cut
import Derived.Deep.CutBlock
import Derived.Lib.Hide
namespace Go.Proofs.YthgocacabadflaaDoor
set_option linter.unusedVariables false
set_option linter.unusedSimpArgs false
open Go.RowKit

theorem Tryd.infoS9 : (Tryd.prog.info? 9).map (fun i => (i.zero, i.size, i.bytes)) = some (some (.string ⟨#[]⟩), 1, 16) := by kernel_rfl

theorem str_eq {a : ByteArray} {l : List UInt8} (h : a.data.toList = l) : Value.string a = str l := by
  subst h; cases a; simp [str]
theorem cut_str (s : ByteArray) (f i : Nat) : (s.extract f i).data.toList = (s.data.toList.drop f).take (i - f) := by
  rw [ByteArray.data_extract]
  simp [Array.toList_extract]
theorem at_str {s : ByteArray} {k : Nat} (h : k < s.size) : s.data.toList[k]? = some s[k] := by
  have : k < s.data.toList.length := by simpa using h
  rw [List.getElem?_eq_getElem this]; rfl

def CutPost (w : World) (ws : List (List UInt8)) (e : Ending) (w' : World) : Prop :=
  ∃ v, e = .returned v ∧ w'.ownsRow 0 9 1 v ws.length (ws.map str) ∧ (∀ g, v.ownBlock = some g → w.heap.size ≤ g) ∧ Keeps noB w w'

/-- What the loop of l13Cut holds. -/
def CutAt (w : World) (s : ByteArray) (vo vf vi : Value) (wr : World) : Prop :=
  ∃ (i f : Nat) (ws : List (List UInt8)), vi = .int .i64 (i : Int) ∧ vf = .int .i64 (f : Int) ∧ ws.length ≤ i ∧
    ((i ≤ s.size ∧ f ≤ i ∧ cutAt 32 s.data.toList = ws ++ cutAt 32 (s.data.toList.drop f) ∧ (32 : UInt8) ∉ (s.data.toList.drop f).take (i - f)) ∨ (i = s.size + 1 ∧ ws = cutAt 32 s.data.toList)) ∧
    wr.ownsRow 0 9 1 vo ws.length (ws.map str) ∧ (∀ g, vo.ownBlock = some g → w.heap.size ≤ g) ∧ Keeps noB w wr

theorem cut_more {l : List UInt8} {f i : Nat} {ws : List (List UInt8)} (hf : f ≤ i) (hi : i < l.length) (h : cutAt 32 l = ws ++ cutAt 32 (l.drop f)) (hn : (32 : UInt8) ∉ (l.drop f).take (i - f)) (hc : l[i]? = some 32) :
    cutAt 32 l = (ws ++ [(l.drop f).take (i - f)]) ++ cutAt 32 (l.drop (i + 1)) := by
  have e : l.drop f = (l.drop f).take (i - f) ++ 32 :: l.drop (i + 1) := by
    have h1 := (List.take_append_drop (i - f) (l.drop f)).symm
    rw [List.drop_drop, show f + (i - f) = i by omega] at h1
    have h2 : l.drop i = 32 :: l.drop (i + 1) := by
      rw [List.drop_eq_getElem_cons hi]
      rw [List.getElem?_eq_getElem hi] at hc
      rw [Option.some.inj hc]
    rw [h2] at h1
    exact h1
  rw [h]
  conv => lhs; rw [e, cutAt_some 32 _ _ hn]
  simp

set_option maxRecDepth 100000 in
set_option maxHeartbeats 4000000 in
theorem cut_any (s : ByteArray) (hs : s.size ≤ 1048576) (w : World) : Calls Tryd.prog 48 #[.string s, .int .u8 32] w (CutPost w (cutAt 32 s.data.toList)) := by
  obtain ⟨i0, hi, hz0, hz1, hz2⟩ := info_parts Tryd.infoS9
  have HI := Lib.hid (And.intro hi (And.intro hz0 (And.intro hz1 hz2)))
  have o1 := World.ownsRow_made w #[] 0 (e := 9) (size := 1) (Nat.zero_le _) (by simp [maxLen]) rfl
  have HP : Hid (CutAt w s (.slice (some ⟨w.heap.size, 0, none⟩) 0 0) (.int .i64 0) (.int .i64 0) (w.alloc (.cells #[] 9))) :=
    ⟨0, 0, [], rfl, rfl, Nat.le_refl _, .inl ⟨Nat.zero_le _, Nat.le_refl _, rfl, by simp⟩, o1, fun g hg => by simp [Value.ownBlock] at hg; omega, (Keeps.refl noB w).alloc _⟩
  have hlen : s.data.toList.length = s.size := by simp
  have HLEN := Lib.hid hlen
  clear o1 hi hz0 hz1 hz2 hlen
  go_enter Tryd.func48, Tryd.ntmps48
  go_wp2_with fail
  go_loopw [5, 6, 7] (fun vo vf vi wr => CutAt w s vo vf vi wr) (fun _ _ vi _ => s.size + 1 - (intOf vi).toNat)
  case atStart => exact HP.out
  case round =>
    clear HP
    obtain ⟨i, f, ws, rfl, rfl, hwl, hst, hrow, hfr, hq⟩ := hrel
    obtain ⟨nL, hnL⟩ : ∃ nL, nL = ws.length := ⟨_, rfl⟩
    rw [← hnL] at hrow hwl
    obtain ⟨a, c, rfl⟩ := row_shape (ok := fun _ => True) ⟨hrow, fun _ _ => trivial⟩
    rcases hst with ⟨hin, hfi, hcut, hno⟩ | ⟨hin, hcut⟩
    · have hil : (i : Int) ≤ (s.size : Int) := by omega
      have hfi2 : (f : Int) ≤ (i : Int) := by omega
      have happ : ∀ (x : List UInt8) (f' : Nat) (v' : Value) (w3 : World), (s.extract f i).data.toList = x → w3.ownsRow 0 9 1 v' (nL + 1) (ws.map str ++ [.string (s.extract f i)]) →
          (wr.alloc (.cells #[.string (s.extract f i)] 9)).grownBy w3 (Value.slice a nL c).ownBlock → Fresh (wr.alloc (.cells #[.string (s.extract f i)] 9)) (.slice a nL c) v' →
          ((i + 1 ≤ s.size ∧ f' ≤ i + 1 ∧ cutAt 32 s.data.toList = (ws ++ [x]) ++ cutAt 32 (s.data.toList.drop f') ∧ (32 : UInt8) ∉ (s.data.toList.drop f').take (i + 1 - f')) ∨ (i + 1 = s.size + 1 ∧ ws ++ [x] = cutAt 32 s.data.toList)) →
          CutAt w s v' (.int .i64 (f' : Int)) (.int .i64 ((i + 1 : Nat) : Int)) w3 := by
        intro x f' v' w3 hx hown' hgrow hfresh hst'
        have qa : Keeps (fun g => (Value.slice a nL c).ownBlock = some g) wr w3 := ((Keeps.refl _ wr).alloc _).grown hgrow (fun g hg => .inl hg)
        refine ⟨i + 1, f', ws ++ [x], rfl, rfl, by rw [List.length_append, ← hnL]; simp; omega, hst', ?_, ?_, hq.transNew qa (fun i hi e => by have := hfr i e; omega)⟩
        · rw [List.length_append, List.map_append, ← hnL]
          show w3.ownsRow 0 9 1 v' (nL + 1) (ws.map str ++ [str x])
          rw [← str_eq hx]; exact hown'
        · intro g hg
          rcases hfresh with h | h
          · exact hfr g (h ▸ hg)
          · have := h g hg; have := hq.size; simp at *; omega
      have HAPP := Lib.hid happ
      have HROW := Lib.hid (And.intro hrow (And.intro hfr (And.intro hq (And.intro hnL (And.intro hcut hno)))))
      have hn1 : nL ≤ 1048577 := by omega
      clear happ hcut hno hfr hq hnL
      by_cases hend : i = s.size
      · subst hend
        have he1 : ((s.size : Int) == (s.size : Int)) = true := by simp
        obtain ⟨hi1, hz0, hz1, hz2⟩ := HI.out
        go_wp2_with (at_builtin; refine wpList_append_fresh _ rfl _ _ 88 rfl 9 i0 _ 1 16 Tryd.underlying88 hi1 hz0 hz1 hz2 rfl (by decide) (.slice a nL c) nL (ws.map str) rfl (HROW.out.1.alloc _) ⟨wr.heap.size, 0, none⟩ 1 1 [.string (s.extract f s.size)] rfl rfl (cells_one wr (.string (s.extract f s.size)) 9) (by intro u hu; simp at hu; subst hu; rfl) (by unfold maxLen; omega) (by omega) ?_)
        intro v' w3 hown' hgrow hfresh
        have hnew := HAPP.out (s.data.toList.drop f) (s.size + 1) v' w3 (by rw [cut_str, ← HLEN.out, List.take_of_length_le (by simp)]) hown' hgrow hfresh (.inr ⟨by simp, by
          have h := HROW.out.2.2.2.2
          rw [h.1, cutAt_none 32 _ (by have h2 := h.2; rwa [← HLEN.out, List.take_of_length_le (by simp)] at h2)]⟩)
        obtain ⟨a', c', rfl⟩ := row_shape (ok := fun _ => True) ⟨hown', fun _ _ => trivial⟩
        have HN := Lib.hid hnew
        clear hown' hgrow hfresh hnew
        go_wp2_with fail
        go_roundw
        case rel => exact HN.out
        case measure => simp [intOf]
      · have hlt : i < s.size := by omega
        have he1 : ((i : Int) == (s.size : Int)) = false := by rw [beq_eq_false_iff_ne]; omega
        have hil2 : (i : Int) < (s.size : Int) := by omega
        have hat := at_str hlt
        have HLT := Lib.hid (And.intro hlt hat)
        clear hend hat
        by_cases hc : s[i] = 32
        · have hcc : ((s[i].toNat : Int) == 32) = true := by rw [hc]; rfl
          have HC := Lib.hid hc
          clear hc
          obtain ⟨hi1, hz0, hz1, hz2⟩ := HI.out
          go_wp2_with (at_builtin; refine wpList_append_fresh _ rfl _ _ 88 rfl 9 i0 _ 1 16 Tryd.underlying88 hi1 hz0 hz1 hz2 rfl (by decide) (.slice a nL c) nL (ws.map str) rfl (HROW.out.1.alloc _) ⟨wr.heap.size, 0, none⟩ 1 1 [.string (s.extract f i)] rfl rfl (cells_one wr (.string (s.extract f i)) 9) (by intro u hu; simp at hu; subst hu; rfl) (by unfold maxLen; omega) (by omega) ?_)
          intro v' w3 hown' hgrow hfresh
          have hnew := HAPP.out ((s.data.toList.drop f).take (i - f)) (i + 1) v' w3 (cut_str s f i) hown' hgrow hfresh (.inl ⟨HLT.out.1, Nat.le_refl _, by
            have h := HROW.out.2.2.2.2
            exact cut_more hfi (by rw [HLEN.out]; exact HLT.out.1) h.1 h.2 (by rw [HLT.out.2, HC.out]), by simp⟩)
          obtain ⟨a', c', rfl⟩ := row_shape (ok := fun _ => True) ⟨hown', fun _ _ => trivial⟩
          have HN := Lib.hid hnew
          clear hown' hgrow hfresh hnew
          go_wp2_with fail
          go_roundw
          case rel => exact HN.out
          case measure => simp [intOf]; omega
        · have hcc : ((s[i].toNat : Int) == 32) = false := by
            rw [beq_eq_false_iff_ne]; exact fun e => hc (UInt8.toNat_inj.1 (Int.ofNat.inj e))
          have HN : Hid (CutAt w s (.slice a nL c) (.int .i64 (f : Int)) (.int .i64 ((i + 1 : Nat) : Int)) wr) := by
            obtain ⟨h1, h2, h3, h4, h5, h6⟩ := HROW.out
            refine ⟨i + 1, f, ws, rfl, rfl, by omega, .inl ⟨hlt, by omega, h5, ?_⟩, by rw [← h4]; exact h1, h2, h3⟩
            rw [show i + 1 - f = (i - f) + 1 by omega, List.take_add_one, List.getElem?_drop, show f + (i - f) = i by omega, HLT.out.2]
            simp only [Option.toList, List.mem_append, List.mem_singleton]
            rintro (e | e)
            · exact h6 e
            · exact hc e.symm
          clear hc
          go_wp2_with fail
          go_roundw
          case rel => exact HN.out
          case measure => simp [intOf]; omega
    · have HE : Hid (CutPost w (cutAt 32 s.data.toList) (.returned (.slice a nL c)) wr) := by
        rw [← hcut]
        exact ⟨_, rfl, by rw [← hnL]; exact hrow, hfr, hq⟩
      have hil : ¬ (i : Int) ≤ (s.size : Int) := by omega
      clear hcut hrow hfr hq hnL hin
      go_wp2_with fail
      go_ret
      exact HE.out

end Go.Proofs.YthgocacabadflaaDoor

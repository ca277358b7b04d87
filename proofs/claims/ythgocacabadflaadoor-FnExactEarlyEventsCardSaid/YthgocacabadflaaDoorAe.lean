/-
  The program's wordsOf: the iterator over the words of events.
-/
import Derived.Test.YthgocacabadflaaDoorWqc
import Derived.Test.YthgocacabadflaaDoorSc
import Derived.Test.YthgocacabadflaaDoorQe
import Derived.Test.YthgocacabadflaaDoorQb
import Derived.Test.YthgocacabadflaaDoorRr
import Derived.Test.YthgocacabadflaaDoorChecked
import Derived.WalkKit
import Derived.Outline
import Derived.Lib.Hide
import Derived.RangeFuncSeq
import Derived.RangeFuncLeaves
import Derived.TacticsInMore
import Derived.LoopIn
import Derived.OwnWalkIn
import Derived.RangeFuncBox
import Derived.RangeFuncCalls
import Derived.Deep.RegionWith
import Derived.Deep.RegionLaw
import Derived.StillTailTactics
namespace Go.Proofs.YthgocacabadflaaDoor
set_option linter.unusedVariables false
set_option linter.unusedSimpArgs false
open Go.RowKit
open Go.Lib (decDigits)

attribute [local go_sem] Oper.semAt_some

/-- What is yielded: a word. -/
def encW (x : Ev) (args : Array Value) : Prop := args = #[.string ⟨(wordE x).toArray⟩]

theorem wordsOf_any (a : Option Addr) (n c : Nat) (w : World) : Calls Tryd.prog 54 #[.slice a n c] w
    fun e w' => e = .returned (.func (.func 70) #[] #[ptr w.heap.size]) ∧ w' = w.alloc (.cells #[.slice a n c] 49) := by
  go_enter Tryd.func54, Tryd.ntmps54
  go_wp2
  go_ret
  exact ⟨rfl, rfl⟩

def protW (B : Nat) (v : Value) : Nat → Prop := fun k => k = B ∨ k < 12 ∨ v.ownBlock = some k

/-- What the loop of the iterator holds. -/
def WdAt (J : List Ev → (Nat → Prop) → World → Prop) (L : List Ev) (own : Nat → Prop) (W : World) (vi : Value) (wr : World) : Prop :=
  ∃ (i : Nat) (own' : Nat → Prop), i ≤ L.length ∧ vi = .int .i64 (i : Int) ∧ J (L.take i) own' wr ∧ Owns own own' W wr

theorem ev_cut {L : List Ev} {i : Nat} {e : Ev} (h : L[i]? = some e) : L = L.take i ++ e :: L.drop (i + 1) := by
  obtain ⟨hi, rfl⟩ := List.getElem?_eq_some_iff.1 h
  rw [← List.drop_eq_getElem_cons hi, List.take_append_drop]
theorem ev_next {L : List Ev} {i : Nat} {e : Ev} (h : L[i]? = some e) : L.take (i + 1) = L.take i ++ [e] := by
  rw [List.take_add_one, h]; rfl
theorem enc_byte {k : UInt8} (h : k = 43 ∨ k = 46 ∨ k = 45) : Utf8.encode (k.toNat : Int) = ⟨#[k]⟩ := by
  rcases h with rfl | rfl | rfl <;> kernel_rfl
theorem itoa_nat (u : Nat) : Lib.itoa (u : Int) = decDigits u := by unfold Lib.itoa; rw [if_neg (by omega)]; simp

set_option maxRecDepth 100000 in
set_option maxHeartbeats 8000000 in
theorem words_iter (W : World) (B : Nat) (L : List Ev) (v : Value) (hl : L.length ≤ 1200) (hsm : ∀ e ∈ L, e.n < 1000) (hkd : ∀ e ∈ L, e.k = 43 ∨ e.k = 46 ∨ e.k = 45) (hrow : VRow W v L) (hE : Env W) (hB : Blk W B #[v] 49) :
    IterAt Tryd.prog 70 #[ptr B] L encW (protW B v) W := by
  intro lb J Jx own hJ hJx hown hprot hR h0 n0
  refine callsIn_wide.2 ?_
  have b1 := hB.cell 0
  simp at b1
  obtain ⟨a, c, rfl⟩ := row_shape (ok := fun _ => True) ⟨hrow, fun _ _ => trivial⟩
  obtain ⟨N, hN⟩ : ∃ N, N = L.length := ⟨_, rfl⟩
  have HR : Hid (∀ i own' wr, Owns own own' W wr → i < N → ∃ g e, a = some ⟨g, 0, none⟩ ∧ N ≤ c ∧ L[i]? = some e ∧ wr.cell? ⟨g, i * 2, none⟩ = some (.int .u8 (e.k.toNat : Int)) ∧ wr.cell? ⟨g, i * 2 + 1, none⟩ = some (.int .i64 (e.n : Int))) := Lib.hid (fun i own' wr q hi => by
    obtain ⟨g, d, e, hc, hgl, hx⟩ := row_capM (ok := fun _ => True) hrow (by omega)
    simp only [Value.slice.injEq, true_and] at e
    obtain ⟨rfl, rfl⟩ := e
    have hm := List.getElem?_eq_getElem (l := L) (i := i) (by omega)
    obtain ⟨g0, g1⟩ := evC_get L i _ hm
    rw [show 2 * i = i * 2 by omega] at g0 g1
    have hn : ¬ own g := hprot g (.inr (.inr rfl))
    exact ⟨g, _, rfl, by omega, hm, (q.keeps.cell (p := ⟨g, i * 2, none⟩) hgl hn).trans (hx _ _ g0).1, (q.keeps.cell (p := ⟨g, i * 2 + 1, none⟩) hgl hn).trans (hx _ _ g1).1⟩)
  have HEV : Hid (∀ own' wr, Owns own own' W wr → Env wr) := Lib.hid (fun own' wr q => hE.keeps q.keeps (fun k hk => hprot k (.inr (.inl hk))))
  have HS := Lib.hid (And.intro hsm hkd)
  have HJ := Lib.hid (And.intro hJ hJx)
  have HY := Lib.hid hR
  have HN := Lib.hid hN
  have HP : Hid (WdAt J L own W (.int .i64 0) W) := Lib.hid ⟨0, own, Nat.zero_le _, rfl, h0, Owns.refl hown⟩
  rw [← hN] at b1 hl
  clear hsm hkd hrow hE hB hJ hJx hR h0 hN hown hprot
  unfold ptr
  show Calls Tryd.prog 70 #[.func (.yield lb) #[] #[], .pointer (some ⟨B, 0, none⟩)] W _
  go_enter Tryd.func70, Tryd.ntmps70
  go_wp2_with fail
  go_loopw [7] (fun vi wr => WdAt J L own W vi wr) (fun vi _ => N - (intOf vi).toNat)
  case atStart => exact HP.out
  case round =>
    clear HP
    obtain ⟨i, own', hin, rfl, hj, ho⟩ := hrel
    rw [← HN.out] at hin
    by_cases hlt : i < N
    · obtain ⟨g, e, rfl, hc, hm, r1, r2⟩ := HR.out i own' wr ho hlt
      have hi1 : (i : Int) < (N : Int) := by omega
      have hi2 : (N : Int) ≤ (c : Int) := by omega
      have hi6 : (i : Int) ≤ 1200 := by omega
      have hem := List.mem_of_getElem? hm
      have hen := HS.out.1 e hem
      have hek := HS.out.2 e hem
      obtain ⟨K, hK⟩ : ∃ K, Utf8.encode (e.k.toNat : Int) = K := ⟨_, rfl⟩
      obtain ⟨D, hD⟩ : ∃ D : ByteArray, D = ⟨(decDigits e.n).toArray⟩ := ⟨_, rfl⟩
      have hKs : K.size = 1 := by rw [← hK, enc_byte hek]; rfl
      have hDs : D.size ≤ 3 := by rw [hD]; show (decDigits e.n).toArray.size ≤ 3; simpa using dec_len hen
      have hKD : K ++ D = ⟨(wordE e).toArray⟩ := by
        rw [← hK, hD, enc_byte hek]
        apply ByteArray.ext
        apply Array.ext'
        rw [ByteArray.data_append, Array.toList_append]
        simp [wordE]
      obtain ⟨kv, hkv⟩ : ∃ kv : Int, kv = (e.k.toNat : Int) := ⟨_, rfl⟩
      obtain ⟨n, hn⟩ : ∃ n : Int, n = (e.n : Int) := ⟨_, rfl⟩
      rw [← hkv] at r1 hK
      rw [← hn] at r2
      obtain ⟨W1, hW1⟩ : ∃ W1, W1 = wr.alloc (.cells #[.int .u8 kv, .int .i64 n] 63) := ⟨_, rfl⟩
      obtain ⟨A, hA⟩ : ∃ A, A = wr.heap.size := ⟨_, rfl⟩
      have q1 : Keeps noB wr W1 := by rw [hW1]; exact (Keeps.refl _ _).alloc _
      have hb0 : Blk W1 A #[.int .u8 kv, .int .i64 n] 63 := by rw [hW1, hA]; exact Blk.new _ _ _
      have ho1 := ho.ahead q1 (fun _ e => e.elim)
      have hj1 := HJ.out.1 _ _ _ _ hj (q1.mono (fun _ e => e.elim))
      have hE1 := HEV.out _ _ ho1
      have HL : Hid (∀ W4, Keeps noB W1 W4 → W4.cell? ⟨A, 0, none⟩ = some (.int .u8 kv) ∧ W4.cell? ⟨A, 1, none⟩ = some (.int .i64 n)) := Lib.hid (fun W4 q4 =>
        ⟨((q4.blk hb0 id).cell 0).trans rfl, ((q4.blk hb0 id).cell 1).trans rfl⟩)
      have HIT : Hid (∀ W4, Keeps noB W1 W4 → Calls Tryd.prog 71 #[.int .i64 n] W4 fun e w' => e = .returned (.string D) ∧ Keeps noB W1 w') := Lib.hid (fun W4 q4 => by
        rw [hD, ← itoa_nat, hn]
        exact (itoa_lib (e.n : Int) (by omega) (by omega) W4 (hE1.keeps q4 (fun _ _ e => e))).mono (fun _ _ h => ⟨h.1, q4.trans h.2⟩))
      have HYY : Hid (∀ m W4, Keeps noB W1 W4 → YieldAt Fence.wide m Tryd.prog lb #[.string (K ++ D)] W4 (RoundEnds J Jx (L.take i ++ [e]) own' W4)) := Lib.hid (fun m W4 q4 => by
        have o4 := ho1.ahead q4 (fun _ e => e.elim)
        exact HY.out m (L.take i) e (L.drop (i + 1)) _ own' W4 (ev_cut hm) (by unfold encW; rw [hKD]) (HJ.out.1 _ _ _ _ hj1 (q4.mono (fun _ e => e.elim))) o4.lt)
      have HO := Lib.hid (And.intro ho1 (And.intro (ev_next hm) hW1))
      have hsA : ¬ 9223372036854775807 < K.size + D.size := by omega
      have hsB : K.size + D.size ≤ 9223372036854775807 := by omega
      have hA2 := Lib.hid hA
      clear hj ho hm hem hen hek hD hKs hDs hKD hkv hn hW1 hA q1 hb0 ho1 hj1 hE1
      go_upto_region 3 with fail
      rw [← HO.out.2.2, ← hA2.out]
      refine (wpIn_wide (n := 9)).1 ?_
      obtain ⟨F, hF⟩ : ∃ F, F = Fence.wide := ⟨_, rfl⟩
      have hFf : ∀ f, F.fn f := by subst hF; exact fun _ => trivial
      have hdd : ∀ k : Nat, (F.depth.isSome = true → 1 ≤ k) := by subst hF; intro k h; simp [Fence.wide] at h
      have hro : F.round = none := by subst hF; rfl
      have hds : F.depth.isSome = false := by subst hF; rfl
      have HIF : Hid (∀ m W4, Keeps noB W1 W4 → CallsIn F m Tryd.prog 71 #[.int .i64 n] W4 fun e w' => e = .returned (.string D) ∧ Keeps noB W1 w') := Lib.hid (fun m W4 q4 => by rw [hF]; exact callsIn_wide.2 (HIT.out W4 q4))
      have HYF : Hid (∀ m W4, Keeps noB W1 W4 → YieldAt F m Tryd.prog lb #[.string (K ++ D)] W4 (RoundEnds J Jx (L.take i ++ [e]) own' W4)) := Lib.hid (fun m W4 q4 => by rw [hF]; exact HYY.out m W4 q4)
      rw [← hF]
      have HF := Lib.hid hF
      clear hF
      gi_wp2
      refine wpIn_region_tail_plain (fun W4 => Keeps noB W1 W4) 8 hro (by kernel_rfl) (by kernel_rfl) (by kernel_rfl) (by kernel_rfl) (by kernel_rfl) (by kernel_rfl) (by decide) (by kernel_rfl) ((Keeps.refl _ _).drew) ?_
      simp only [List.take, List.drop]
      refine quiet_on (Value.func (.yield lb) #[] #[]) (fun _ _ f _ => hFf f) rfl (fun W4 q4 => ?_) (fun K2 hK2 => ?_)
      · obtain ⟨f0, f1⟩ := HL.out W4 q4
        go_simp
      go_simp
      refine hK2 _ ?_
      clear hK2 K2
      refine quiet_on (Value.pointer (some ⟨A, 0, none⟩)) (fun _ _ f _ => hFf f) rfl (fun W4 q4 => ?_) (fun K2 hK2 => ?_)
      · obtain ⟨f0, f1⟩ := HL.out W4 q4
        go_simp
      go_simp
      refine hK2 _ ?_
      clear hK2 K2
      refine quiet_on (Value.int .u8 kv) (fun _ _ f _ => hFf f) rfl (fun W4 q4 => ?_) (fun K2 hK2 => ?_)
      · obtain ⟨f0, f1⟩ := HL.out W4 q4
        go_simp
      go_simp
      refine hK2 _ ?_
      clear hK2 K2
      refine quiet_on (Value.string K) (fun _ _ f _ => hFf f) rfl (fun W4 q4 => ?_) (fun K2 hK2 => ?_)
      · obtain ⟨f0, f1⟩ := HL.out W4 q4
        go_simp
      go_simp
      refine hK2 _ ?_
      clear hK2 K2
      refine quiet_on (Value.pointer (some ⟨A, 1, none⟩)) (fun _ _ f _ => hFf f) rfl (fun W4 q4 => ?_) (fun K2 hK2 => ?_)
      · obtain ⟨f0, f1⟩ := HL.out W4 q4
        go_simp
      go_simp
      refine hK2 _ ?_
      clear hK2 K2
      refine quiet_on (Value.int .i64 n) (fun _ _ f _ => hFf f) rfl (fun W4 q4 => ?_) (fun K2 hK2 => ?_)
      · obtain ⟨f0, f1⟩ := HL.out W4 q4
        go_simp
      go_simp
      refine hK2 _ ?_
      clear hK2 K2
      refine quiet_on (Value.string D) (fun _ _ f _ => hFf f) rfl (fun W4 q4 => ?_) (fun K2 hK2 => ?_)
      · obtain ⟨f0, f1⟩ := HL.out W4 q4
        go_simp
        exact HIF.out _ _ q4
      go_simp
      refine hK2 _ ?_
      clear hK2 K2
      refine quiet_on (Value.string (K ++ D)) (fun _ _ f _ => hFf f) rfl (fun W4 q4 => ?_) (fun K2 hK2 => ?_)
      · obtain ⟨f0, f1⟩ := HL.out W4 q4
        go_simp
      go_simp
      refine hK2 _ ?_
      clear hK2 K2
      refine wpQuietIn_nil ?_
      intro W4 q4
      obtain ⟨fn2, tmps2, assign2, body2, hy2, hR2⟩ := HYF.out 8 W4 q4
      gi_wp2
      refine (show RoundIn F _ _ _ _ _ _ _ _ _ from hR2).mono ?_
      clear hR2 hy2
      rintro e5 W6 ⟨own6, ho6, (⟨rfl, hj6⟩ | ⟨rfl, hj6⟩)⟩
      · have HB : Hid (WdAt J L own W (.int .i64 ((i : Int) + 1)) W6) := Lib.hid ⟨i + 1, own6, by have := HN.out; omega, by go_num, by rw [HO.out.2.1]; exact hj6, (HO.out.1.ahead q4 (fun _ e => e.elim)).trans ho6⟩
        clear hj6 ho6
        gi_wp2
        go_wp2_with fail
        go_roundw
        case rel => exact HB.out
        case measure => simp [intOf]; omega
      · have HB : Hid (IterEnds J Jx L own W (.returned (.tuple #[])) W6) := Lib.hid ⟨_, own6, rfl, (HO.out.1.ahead q4 (fun _ e => e.elim)).trans ho6, .inr ⟨_, _, (List.take_append_drop (i + 1) L).symm, by rw [HO.out.2.1]; exact hj6⟩⟩
        clear hj6 ho6
        gi_wp2
        go_wp2_with fail
        first | go_end0 | go_ret2 | refine bodyPost_ret (results_none rfl _ _ _) rfl ?_
        exact HB.out
    · have HE : Hid (IterEnds J Jx L own W (.returned (.tuple #[])) wr) := Lib.hid (by
        rw [List.take_of_length_le (by have := HN.out; omega)] at hj
        exact ⟨_, own', rfl, ho, .inl hj⟩)
      have hi1 : ¬ (i : Int) < (N : Int) := by omega
      clear hj ho
      go_wp2_with fail
      first | go_end0 | go_ret2 | refine bodyPost_ret (results_none rfl _ _ _) rfl ?_
      exact HE.out

end Go.Proofs.YthgocacabadflaaDoor

/-
  The program's formatEvents.
-/
import Derived.Test.YthgocacabadflaaDoorAe
import Derived.Test.YthgocacabadflaaDoorBe
import Derived.Test.YthgocacabadflaaDoorAb
import Derived.Test.YthgocacabadflaaDoorAc
namespace Go.Proofs.YthgocacabadflaaDoor
set_option linter.unusedVariables false
set_option linter.unusedSimpArgs false
open Go.RowKit

attribute [local go_sem] Oper.semAt_some

theorem resFmt (W : World) (v : Value) (tmps : Array Value) (h2 : tmps.getD 2 undef = v) : (results Tryd.f35 tmps).run Tryd.prog W = .ok v W := by
  have h2' : tmps[2]?.getD undef = v := by simpa using h2
  simp [results, Tryd.results35, go_sem, h2']

theorem BuildAt.stab {B : Nat} {own : Nat → Prop} {b : Nat} {l : List UInt8} {W W' : World} (h : BuildAt W own b l) (q : Keeps (fun k => B ≤ k ∧ ¬ own k) W W') : BuildAt W' own b l := by
  obtain ⟨p, v, hp, hb, hrow, hob, hv⟩ := h
  exact ⟨p, v, hp, q.blk hb (fun e => e.2 hob), q.ownsRow hrow (fun g hg _ e => e.2 (hv g hg).1), hob, hv⟩

/-- What the rounds hold: block R is the builder. -/
def FmI (R : Nat) (w5 : World) (pre : List Ev) (own : Nat → Prop) (W : World) : Prop := BuildAt W own R (textE pre) ∧ Owns (oneB R) own w5 W

set_option maxRecDepth 100000 in
set_option maxHeartbeats 8000000 in
theorem format_any (L : List Ev) (v : Value) (w : World) (hl : L.length ≤ 1200) (hsm : ∀ e ∈ L, e.n < 1000) (hkd : ∀ e ∈ L, e.k = 43 ∨ e.k = 46 ∨ e.k = 45) (hrow : VRow w v L) (hE : Env w) :
    Calls Tryd.prog 35 #[v] w fun e w' => e = .returned (.string (textT L)) ∧ Keeps noB w w' := by
  obtain ⟨a, c, rfl⟩ := row_shape (ok := fun _ => True) ⟨hrow, fun _ _ => trivial⟩
  refine (callsIn_wide (n := 9)).1 ?_
  obtain ⟨F, hF⟩ : ∃ F, F = Fence.wide := ⟨_, rfl⟩
  have hFf : ∀ f, F.fn f := by subst hF; exact fun _ => trivial
  have hdd : ∀ k : Nat, (F.depth.isSome = true → 1 ≤ k) := by subst hF; intro k h; simp [Fence.wide] at h
  have hro : F.round = none := by subst hF; rfl
  have hds : F.depth.isSome = false := by subst hF; rfl
  have HWO : Hid (∀ m a n c w, CallsIn F m Tryd.prog 54 #[.slice a n c] w fun e w' => e = .returned (.func (.func 70) #[] #[ptr w.heap.size]) ∧ w' = w.alloc (.cells #[.slice a n c] 49)) := Lib.hid (fun m a n c w => by
    rw [hF]; exact callsIn_wide.2 (wordsOf_any a n c w))
  have HLN : Hid (∀ m b l own W, BuildAt W own b l → CallsIn F m Tryd.prog 55 #[.pointer (some ⟨b, 0, none⟩)] W fun e w' => e = .returned (.int .i64 (l.length : Int)) ∧ w' = W) := Lib.hid (fun m b l own W h => by
    rw [hF]; exact callsIn_wide.2 (blen_any b l own W h))
  have HWB : Hid (∀ m b l own W, BuildAt W own b l → (∀ k, own k → k < W.heap.size) → l.length ≤ 100000000 → CallsIn F m Tryd.prog 56 #[.pointer (some ⟨b, 0, none⟩), .int .u8 32] W (WrotePost W own b (l ++ [32]) .nilIface)) := Lib.hid (fun m b l own W h h2 h3 => by
    rw [hF]; exact callsIn_wide.2 (writeByte_any b l 32 own W h h2 h3))
  have HWS : Hid (∀ m b l own W s, BuildAt W own b l → (∀ k, own k → k < W.heap.size) → l.length + s.size ≤ 100000000 → CallsIn F m Tryd.prog 57 #[.pointer (some ⟨b, 0, none⟩), .string s] W (WrotePost W own b (l ++ s.data.toList) (.tuple #[.int .i64 (s.size : Int), .nilIface]))) := Lib.hid (fun m b l own W s h h2 h3 => by
    rw [hF]; exact callsIn_wide.2 (writeString_any b l s own W h h2 h3))
  have HST : Hid (∀ m b l own W, BuildAt W own b l → l ≠ [] → CallsIn F m Tryd.prog 47 #[.pointer (some ⟨b, 0, none⟩)] W fun e w' => e = .returned (.string ⟨l.toArray⟩) ∧ Keeps own W w') := Lib.hid (fun m b l own W h h2 => by
    rw [hF]; exact callsIn_wide.2 (bstring_any b l own W h h2))
  rw [← hF]
  have HF := Lib.hid hF
  clear hF
  refine callsIn_of_wp_marks Tryd.func35 rfl (hFf _) ?_ hro
  simp only [Tryd.ntmps35, List.size_toArray, List.length_cons, List.length_nil, Nat.reduceAdd, Nat.reduceSub, Array.replicate_succ, Array.replicate_zero, List.push_toArray, List.append_toArray, List.nil_append, List.cons_append]
  by_cases h0 : L = []
  · subst h0
    have HE : Hid (∀ W', Keeps (fun k => k ∈ []) w W' → (.returned (.string ⟨#[45]⟩) : Ending) = .returned (.string (textT [])) ∧ Keeps noB w W') := Lib.hid (fun W' q => ⟨rfl, q.mono (fun _ e => by cases e)⟩)
    clear hrow hE hsm hkd hl
    simp only [List.length_nil]
    gi_wp2
    refine leaves_marks [] _ List.nodup_nil (fun _ h => by cases h) (fun W' q _ => ?_)
    exact ⟨_, resFmt W' _ _ rfl, HE.out _ q⟩
  · obtain ⟨N, hN⟩ : ∃ N, N = L.length := ⟨_, rfl⟩
    have hN0 : N ≠ 0 := by rw [hN]; simpa using h0
    have hNz : ((N : Int) == 0) = false := by rw [beq_eq_false_iff_ne]; omega
    have hne := textE_ne h0
    have htT : textT L = ⟨(textE L).toArray⟩ := if_neg h0
    have HT := Lib.hid (And.intro hne htT)
    have hz12 := hE.sz
    have HIN := Lib.hid (And.intro hl (And.intro hsm (And.intro hkd (And.intro hrow (And.intro hE hN)))))
    have HTL := Lib.hid (fun pre (h : ∀ e ∈ pre, e ∈ L) => textE_len pre (fun e he => hsm e (h e he)))
    rw [← hN]
    rw [← hN] at hl
    clear hrow hE hsm hkd h0 hne htT hN hN0
    gi_wp2
    refine (HWO.out _ _ _ _ _).mono ?_
    rintro e w5 ⟨rfl, hw5⟩
    obtain ⟨R, hR⟩ : ∃ R, R = w.heap.size := ⟨_, rfl⟩
    have q05 : Keeps noB w w5 := by rw [hw5]; exact ((Keeps.refl _ _).alloc _).alloc _
    have bR : Blk w5 R #[.pointer none, .slice none 0 0] 74 := by rw [hw5, hR]; exact (Blk.new w _ _).alloc _
    have bB : Blk w5 (R + 1) #[.slice a N c] 49 := by
      have h := Blk.new (w.alloc (.cells #[.pointer none, .slice none 0 0] 74)) #[.slice a N c] 49
      simp only [World.size_alloc] at h
      rw [hw5, hR]; exact h
    have hs5 : w5.heap.size = R + 2 := by rw [hw5, hR]; simp
    simp only [World.size_alloc]
    rw [← hR]
    have HS := Lib.hid (And.intro hs5 (And.intro hR hz12))
    have hrow5 : VRow w5 (.slice a N c) L := VRow.keeps2 (by rw [HIN.out.2.2.2.2.2]; exact HIN.out.2.2.2.1) q05
    have hE5 := HIN.out.2.2.2.2.1.keeps q05 (fun _ _ e => e)
    have hro5 : ∀ g, (Value.slice a N c).ownBlock = some g → g < R := fun g hg => by
      have h := HIN.out.2.2.2.1
      rw [← HIN.out.2.2.2.2.2] at h
      have := (h.lt g hg).2
      omega
    have HQ := Lib.hid (And.intro q05 (And.intro bB (And.intro hrow5 (And.intro hE5 hro5))))
    have HI0 : Hid (FmI R w5 [] (oneB R) w5) := Lib.hid ⟨⟨_, _, .inl rfl, bR, ⟨rfl, .inl ⟨rfl, rfl⟩⟩, rfl, fun g hg => by simp [Value.ownBlock] at hg⟩, Owns.refl (fun k hk => by have : k = R := hk; omega)⟩
    clear hw5 hR q05 bR bB hs5 hrow5 hE5 hro5 hz12
    gi_wp2
    refine wp_range HF.out (gf := 70) (lb := #[ptr (R + 1)]) (all := L) (enc := encW) (prot := protW (R + 1) (.slice a N c)) (own := oneB R)
      rfl (enters_of Tryd.func70 (by kernel_rfl) rfl)
      (fun W' q' => words_iter W' (R + 1) L _ HIN.out.1 HIN.out.2.1 HIN.out.2.2.1 (VRow.keeps2 HQ.out.2.2.1 q') (HQ.out.2.2.2.1.keeps q' (fun _ _ e => e)) (q'.blk HQ.out.2.1 id))
      (FmI R w5) (fun _ _ _ _ => False) ?hI ?hIx ?hown ?hprot ?hps ?h0 ?hround ?hdone ?hstop
    case hI =>
      rintro pre own Wa Wb ⟨h1, h2⟩ q
      exact ⟨h1.stab q, h2.ahead q (fun _ e => e.1)⟩
    case hIx => rintro c pre own W W' h q; exact h
    case hown => rintro k hk; have : k = R := hk; have := HS.out; omega
    case hprot =>
      intro k hk
      have := HS.out
      rcases hk with rfl | hk | hk
      · exact ⟨fun e => by have e : R + 1 = R := e; omega, by omega⟩
      · exact ⟨fun e => by have e : k = R := e; omega, by omega⟩
      · have := HQ.out.2.2.2.2 k hk
        exact ⟨fun e => by have e : k = R := e; omega, by omega⟩
    case hps => intro x args h; unfold encW at h; rw [h]; rfl
    case h0 => exact HI0.out
    case hround =>
      rintro lq n pre x post args own1 W1 hall henc ⟨hB1, ho1⟩ hlt hlq hnl hll
      unfold encW at henc
      subst henc
      have hmem : ∀ e ∈ pre, e ∈ L := fun e he => by rw [hall]; simp [he]
      have hx : x ∈ L := by rw [hall]; simp
      have ht1 := HTL.out pre hmem
      have ht2 := HTL.out [x] (fun e he => by have : e = x := by simpa using he
                                              rw [this]; exact hx)
      have hpl : pre.length ≤ L.length := by rw [hall]; simp
      have hlw : (textE pre).length ≤ 6000 := by have := HIN.out.1; omega
      have hlw2 : (wordE x).length ≤ 5 := by simpa [textE] using ht2
      obtain ⟨S, hS⟩ : ∃ S : ByteArray, S = ⟨(wordE x).toArray⟩ := ⟨_, rfl⟩
      have hSs : S.size ≤ 5 := by rw [hS]; show (wordE x).toArray.size ≤ 5; simpa using hlw2
      have hSl : S.data.toList = wordE x := by rw [hS]
      have hsn := textE_snoc pre x
      rw [← hSl] at hsn
      rw [← hS]
      have hp0 : pre = [] ↔ textE pre = [] := ⟨fun h => by rw [h]; rfl, fun h => Classical.byContradiction (fun h2 => textE_ne h2 h)⟩
      obtain ⟨T, hT⟩ : ∃ T, T = textE pre := ⟨_, rfl⟩
      rw [← hT] at hB1 hlw hsn hp0
      have HW : Hid (∀ W3, Keeps (oneB lq) W1 W3 → BuildAt W3 own1 R T ∧ Owns (oneB R) own1 w5 W3) := Lib.hid (fun W3 q3 => by
        have q13 : Keeps (fun k => w5.heap.size ≤ k ∧ ¬ own1 k) W1 W3 := q3.mono (fun k e => by obtain rfl : k = lq := e; exact ⟨hlq, hnl⟩)
        exact ⟨hB1.stab q13, ho1.ahead q13 (fun _ e => e.1)⟩)
      by_cases hp : T = []
      · have hsn2 : textE (pre ++ [x]) = T ++ S.data.toList := by rw [hsn, if_pos (hp0.2 hp), hp]
        have hz : ¬ (0 : Int) < (T.length : Int) := by rw [hp]; simp
        have hbd : T.length + S.size ≤ 100000000 := by omega
        have HE := Lib.hid (And.intro hsn2 hbd)
        obtain ⟨M, hM⟩ : ∃ M, M = T.length := ⟨_, rfl⟩
        rw [← hM] at hz
        have HLN2 : Hid (∀ m W, BuildAt W own1 R T → CallsIn F m Tryd.prog 55 #[.pointer (some ⟨R, 0, none⟩)] W fun e w' => e = .returned (.int .i64 (M : Int)) ∧ w' = W) := Lib.hid (fun m W h => by rw [hM]; exact HLN.out m R T own1 W h)
        clear hB1 ho1 hall ht1 ht2 hpl hlw hlw2 hS hSl hsn hp0 hT hsn2 hbd hmem hx hM hp hl
        gi_wp2
        refine ⟨Keeps.refl _ _, fun W3 q3 hs3 => ?_⟩
        clear hs3
        have HW3 := Lib.hid (HW.out W3 q3)
        clear q3
        gi_wp2
        refine CallsIn.mono (CallsIn.inRound lq (HLN2.out _ W3 HW3.out.1)) ?_
        rintro e W4 ⟨rfl, rfl⟩
        gi_wp2
        refine CallsIn.mono (CallsIn.inRound lq (HWS.out _ R T own1 _ S HW3.out.1 HW3.out.2.lt HE.out.2)) ?_
        rintro e W5 ⟨rfl, own5, ho5, hb5⟩
        have HE5 : Hid (∃ own', Owns own1 own' W4 W5 ∧ FmI R w5 (pre ++ [x]) own' W5) := Lib.hid ⟨own5, ho5, by rw [HE.out.1]; exact hb5, HW3.out.2.trans ho5⟩
        clear ho5 hb5
        gi_wp2
        exact HE5.out
      · have hsn2 : textE (pre ++ [x]) = (T ++ [32]) ++ S.data.toList := by rw [hsn, if_neg (fun h => hp (hp0.1 h))]
        have hz : (0 : Int) < (T.length : Int) := by
          have : T.length ≠ 0 := by simpa using hp
          omega
        have hbd : (T ++ [32]).length + S.size ≤ 100000000 := by rw [List.length_append]; simp; omega
        have hbd1 : T.length ≤ 100000000 := by omega
        have HE := Lib.hid (And.intro hsn2 (And.intro hbd hbd1))
        obtain ⟨M, hM⟩ : ∃ M, M = T.length := ⟨_, rfl⟩
        rw [← hM] at hz
        have HLN2 : Hid (∀ m W, BuildAt W own1 R T → CallsIn F m Tryd.prog 55 #[.pointer (some ⟨R, 0, none⟩)] W fun e w' => e = .returned (.int .i64 (M : Int)) ∧ w' = W) := Lib.hid (fun m W h => by rw [hM]; exact HLN.out m R T own1 W h)
        clear hB1 ho1 hall ht1 ht2 hpl hlw hlw2 hS hSl hsn hp0 hT hsn2 hbd hbd1 hmem hx hM hp hl
        gi_wp2
        refine ⟨Keeps.refl _ _, fun W3 q3 hs3 => ?_⟩
        clear hs3
        have HW3 := Lib.hid (HW.out W3 q3)
        clear q3
        gi_wp2
        refine CallsIn.mono (CallsIn.inRound lq (HLN2.out _ W3 HW3.out.1)) ?_
        rintro e W4 ⟨rfl, rfl⟩
        gi_wp2
        refine CallsIn.mono (CallsIn.inRound lq (HWB.out _ R T own1 _ HW3.out.1 HW3.out.2.lt HE.out.2.2)) ?_
        rintro e W5 ⟨rfl, own5, ho5, hb5⟩
        have HW5 := Lib.hid (And.intro ho5 hb5)
        clear ho5 hb5
        gi_wp2
        refine CallsIn.mono (CallsIn.inRound lq (HWS.out _ R (T ++ [32]) own5 _ S HW5.out.2 HW5.out.1.lt HE.out.2.1)) ?_
        rintro e W6 ⟨rfl, own6, ho6, hb6⟩
        have HE6 : Hid (∃ own', Owns own1 own' W4 W6 ∧ FmI R w5 (pre ++ [x]) own' W6) := Lib.hid ⟨own6, HW5.out.1.trans ho6, by rw [HE.out.1]; exact hb6, (HW3.out.2.trans HW5.out.1).trans ho6⟩
        clear ho6 hb6
        gi_wp2
        exact HE6.out
    case hdone =>
      rintro D own' W' hb ⟨h1, h2⟩
      have HB := Lib.hid hb
      have H1 := Lib.hid h1
      clear hb h1 h2
      dsimp only
      gi_wp2
      refine (HST.out _ R (textE L) own' _ H1.out HT.out.1).mono ?_
      rintro e W6 ⟨rfl, q6⟩
      have HD : Hid (W6.heap[D]? = some (.deferred (some []))) := Lib.hid (by
        have hDl : D < W'.heap.size := by
          rcases Nat.lt_or_ge D W'.heap.size with h | h
          · exact h
          · have := HB.out.none; rw [Array.getElem?_eq_none h] at this; cases this
        rw [q6.block D hDl HB.out.free]; exact HB.out.none)
      have HE : Hid (∀ W2, Keeps (fun k => k ∈ [D]) W6 W2 → (.returned (.string ⟨(textE L).toArray⟩) : Ending) = .returned (.string (textT L)) ∧ Keeps noB w W2) := Lib.hid (fun W2 q => by
        have hS := HS.out
        have hn := HB.out.new
        have ho := HB.out.owns
        refine ⟨by rw [HT.out.2], ((HQ.out.1.transNew ho.keeps (fun k hk e => ?_)).transNew q6 (fun k hk e => ?_)).transNew q (fun k hk e => ?_)⟩
        · have e : k = R := e
          omega
        · rcases ho.more k e with e | e
          · have e : k = R := e
            omega
          · have := HQ.out.1.size; omega
        · have e : k = D := by simpa using e
          have := HQ.out.1.size
          omega)
      clear q6
      gi_wp2
      refine leaves_marks [D] _ (by simp) (fun D' hD' => by simp at hD'; subst hD'; exact HD.out) (fun W2 q _ => ?_)
      exact ⟨_, resFmt W2 _ _ rfl, HE.out W2 q⟩
    case hstop => intro D c pre post own' W' _ _ h; exact h.elim

end Go.Proofs.YthgocacabadflaaDoor

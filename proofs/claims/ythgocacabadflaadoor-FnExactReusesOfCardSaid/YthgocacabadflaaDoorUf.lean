/-
  ReusesOf, on both sides.
-/
import Derived.Test.YthgocacabadflaaDoorRqa
import Derived.Test.YthgocacabadflaaDoorRa
namespace Go.Proofs.YthgocacabadflaaDoor
set_option linter.unusedVariables false
set_option linter.unusedSimpArgs false
open Go.RowKit

/-! ### the plain account -/
def reuAt (l : List Ev) : Nat → List Nat
  | 0 => []
  | j + 1 => (l[j]?.bind (fun d => l[j + 1]?.map (fun e => if e.k = 43 ∧ d.k = 45 then [e.n] else []))).getD []
theorem reuAt_some {l : List Ev} {j : Nat} {d e : Ev} (h1 : l[j]? = some d) (h2 : l[j + 1]? = some e) : reuAt l (j + 1) = if e.k = 43 ∧ d.k = 45 then [e.n] else [] := by
  show ((l[j]?.bind (fun d => l[j + 1]?.map (fun e => if e.k = 43 ∧ d.k = 45 then [e.n] else []))).getD []) = _
  rw [h1, h2]; rfl
def reuTo (l : List Ev) : Nat → List Nat
  | 0 => []
  | i + 1 => reuTo l i ++ reuAt l i
theorem reuAt_len (l : List Ev) (i : Nat) : (reuAt l i).length ≤ 1 := by
  cases i with
  | zero => simp [reuAt]
  | succ j =>
    show ((l[j]?.bind (fun d => l[j + 1]?.map (fun e => if e.k = 43 ∧ d.k = 45 then [e.n] else []))).getD []).length ≤ 1
    cases l[j]? with
    | none => simp
    | some d =>
      cases l[j + 1]? with
      | none => simp
      | some e =>
        show (if e.k = 43 ∧ d.k = 45 then [e.n] else []).length ≤ 1
        split <;> simp
theorem reuTo_len (l : List Ev) : ∀ i, (reuTo l i).length ≤ i
  | 0 => by simp [reuTo]
  | i + 1 => by
    have h1 := reuTo_len l i
    have h2 := reuAt_len l i
    show (reuTo l i ++ reuAt l i).length ≤ _
    rw [List.length_append]; omega
def reuV : Option (List Ev) → List Nat
  | none => []
  | some l => reuTo l l.length
def reuK (r : Option (List Ev)) : List Int := (reuV r).map (fun k : Nat => (k : Int))
theorem reu_open {w w' : World} {r : Option (List Ev)} {e : Ending} (h : NumsOfP w (reuV r) r.isSome e w') :
    ∃ a c, e = .returned (.tuple #[.slice a (reuK r).length c, .bool r.isSome]) ∧ IntRow w' (.slice a (reuK r).length c) (reuK r).length (reuK r) ∧ (∀ g, (Value.slice a (reuK r).length c).ownBlock = some g → w.heap.size ≤ g) ∧ Keeps noB w w' := numsOf_open h
theorem reuK_len (s : ByteArray) : (reuK (readP s)).length ≤ 600 := by
  unfold reuK
  rw [List.length_map]
  cases hr : readP s with
  | none => simp [reuV]
  | some l =>
    obtain ⟨hg, hl⟩ := readP_good hr
    exact Nat.le_trans (reuTo_len l l.length) hl

/-- What the loops hold: block B is the list's first. -/
def ReAt (w w2 : World) (B : Nat) (l : List Ev) (vo vi : Value) (wr : World) : Prop :=
  ∃ i : Nat, i ≤ l.length ∧ vi = .int .i64 (i : Int) ∧ NRow wr vo (reuTo l i) ∧ (∀ g, vo.ownBlock = some g → g = B ∨ w2.heap.size ≤ g) ∧ Keeps noB w wr ∧ Keeps (oneB B) w2 wr

theorem ReAt.app {w w2 : World} {B : Nat} {l : List Ev} {i nL : Nat} {a : Option Addr} {c n : Nat} {LV : List Value} {v' : Value} {wr w3 : World} {x : Int} (hB : B < w2.heap.size → w.heap.size ≤ B) (hw : w.heap.size ≤ w2.heap.size) (hil : i < l.length)
    (h2 : ∀ g, (Value.slice a nL c).ownBlock = some g → g = B ∨ w2.heap.size ≤ g) (hq : Keeps noB w wr) (hq2 : Keeps (oneB B) w2 wr) (hn : nL = (reuTo l i).length) (hl : LV = (reuTo l i).map i64)
    (hx : reuAt l i = [n]) (hxn : x = (n : Int)) (qa : Keeps (fun g => (Value.slice a nL c).ownBlock = some g) wr w3) (hown : w3.ownsRow 0 3 1 v' (nL + 1) (LV ++ [.int .i64 x])) (hf : ∀ g, v'.ownBlock = some g → (Value.slice a nL c).ownBlock = some g ∨ wr.heap.size ≤ g) :
    ReAt w w2 B l v' (.int .i64 ((i : Int) + 1)) w3 := by
  refine ⟨i + 1, hil, by go_num, ?_, fun g hg => ?_, hq.transNew qa (fun i hi e => ?_), hq2.transNew qa (fun i hi e => ?_)⟩
  · show NRow w3 v' (reuTo l i ++ reuAt l i)
    rw [hx]
    unfold NRow
    rw [List.length_append, List.map_append, ← hn, ← hl]
    rw [hxn] at hown
    exact hown
  · rcases hf g hg with h | h
    · exact h2 g h
    · have := hq2.size; exact .inr (by omega)
  · rcases h2 i e with h | h
    · subst h
      rcases Nat.lt_or_ge i w2.heap.size with h3 | h3
      · have := hB h3; omega
      · omega
    · omega
  · rcases h2 i e with h | h
    · exact h
    · omega

theorem resSReu (W : World) (v b : Value) (tmps : Array Value) (h2 : tmps.getD 2 undef = v) (h3 : tmps.getD 3 undef = b) : (results Tryd.f23 tmps).run Tryd.prog W = .ok (.tuple #[v, b]) W := by
  have h2' : tmps[2]?.getD undef = v := by simpa using h2
  have h3' : tmps[3]?.getD undef = b := by simpa using h3
  simp [results, Tryd.results23, go_sem, h2', h3']

theorem resReu (W : World) (v b : Value) (tmps : Array Value) (h2 : tmps.getD 2 undef = v) (h3 : tmps.getD 3 undef = b) : (results Tryd.f24 tmps).run Tryd.prog W = .ok (.tuple #[v, b]) W := by
  have h2' : tmps[2]?.getD undef = v := by simpa using h2
  have h3' : tmps[3]?.getD undef = b := by simpa using h3
  simp [results, Tryd.results24, go_sem, h2', h3']

set_option maxRecDepth 100000 in
set_option maxHeartbeats 8000000 in
theorem sreuses_any (s : ByteArray) (hs : s.size ≤ 1048576) (w : World) : Calls Tryd.prog 23 #[.string s] w (NumsOfP w (reuV (readP s)) (readP s).isSome) := by
  obtain ⟨i0, hi, hz0, hz1, hz2⟩ := info_parts Tryd.infoI3
  have HI := Lib.hid (And.intro hi (And.intro hz0 (And.intro hz1 hz2)))
  have hgl : ((readP s).getD []).length ≤ 600 := by
    cases hr : readP s with
    | none => simp
    | some l => exact (readP_good hr).2
  have hv : reuV (readP s) = reuTo ((readP s).getD []) ((readP s).getD []).length := by
    cases hr : readP s with
    | none => rfl
    | some l => rfl
  have H := Lib.hid (fun w => read_any s hs w)
  unfold ReadPost at H
  rw [hv]
  generalize (readP s).getD [] = l at *
  generalize (readP s).isSome = bv at *
  obtain ⟨N, hN⟩ : ∃ N, N = l.length := ⟨_, rfl⟩
  rw [← hN] at hgl ⊢
  have HN := Lib.hid hN
  obtain ⟨B, hB⟩ : ∃ B, B = w.heap.size := ⟨_, rfl⟩
  have HB := Lib.hid hB
  have o1 := World.ownsRow_made w #[] 0 (e := 3) (size := 1) (Nat.zero_le _) (by simp [maxLen]) rfl
  have HO := Lib.hid (And.intro o1 ((Keeps.refl noB w).alloc (.cells #[] 3)))
  clear hv o1 hi hz0 hz1 hz2 hN hB
  go_enter Tryd.func23, Tryd.ntmps23
  go_wp2_with fail
  refine (H.out _).mono ?_
  rintro e w2 ⟨v, rfl, hrow, hf1, q1⟩
  have hsz2 := q1.size
  rw [World.size_alloc] at hsz2 hf1
  obtain ⟨a, c, rfl⟩ := row_shape (ok := fun _ => True) ⟨hrow, fun _ _ => trivial⟩
  have HR : Hid (∀ i wr, Keeps (oneB B) w2 wr → i < N → ∃ g e, a = some ⟨g, 0, none⟩ ∧ N ≤ c ∧ g < wr.heap.size ∧ l[i]? = some e ∧ wr.cell? ⟨g, i * 2, none⟩ = some (.int .u8 (e.k.toNat : Int)) ∧ wr.cell? ⟨g, i * 2 + 1, none⟩ = some (.int .i64 (e.n : Int))) := Lib.hid (fun i wr q hi => by
    have hl := HN.out
    obtain ⟨g, d, e, hc, hgl, hh⟩ := row_capM (ok := fun _ => True) hrow (by omega)
    simp only [Value.slice.injEq, true_and] at e
    obtain ⟨rfl, rfl⟩ := e
    have hm := List.getElem?_eq_getElem (l := l) (i := i) (by omega)
    obtain ⟨g0, g1⟩ := evC_get l i _ hm
    rw [show 2 * i = i * 2 by omega] at g0 g1
    have hne : ¬ oneB B g := fun e => by have := hf1 g rfl; have := HB.out; have e : g = B := e; omega
    exact ⟨g, _, rfl, by omega, Nat.lt_of_lt_of_le hgl q.size, hm, (q.cell (p := ⟨g, i * 2, none⟩) hgl hne).trans (hh _ _ g0).1, (q.cell (p := ⟨g, i * 2 + 1, none⟩) hgl hne).trans (hh _ _ g1).1⟩)
  have HP : Hid (ReAt w w2 B l (.slice (some ⟨w.heap.size, 0, none⟩) 0 0) (.int .i64 0) w2) :=
    ⟨0, Nat.zero_le _, rfl, q1.ownsRow HO.out.1 (fun _ _ _ e => e), fun g hg => .inl (by rw [HB.out]; simpa [Value.ownBlock] using hg.symm), HO.out.2.trans q1, Keeps.refl _ _⟩
  have HSZ : Hid ((B < w2.heap.size → w.heap.size ≤ B) ∧ w.heap.size ≤ w2.heap.size) := ⟨fun _ => by rw [HB.out]; exact Nat.le_refl _, by omega⟩
  rw [← HN.out]
  clear q1 hrow hf1 hsz2
  go_wp2_with fail
  go_loopw [4, 17] (fun vo vi wr => ReAt w w2 B l vo vi wr) (fun _ vi _ => N - (intOf vi).toNat)
  case atStart => exact HP.out
  case round =>
    clear HP
    obtain ⟨i, hin, rfl, hrow, hfr, hq, hq2⟩ := hrel
    rw [← HN.out] at hin
    obtain ⟨T, hT⟩ : ∃ T, T = reuTo l i := ⟨_, rfl⟩
    rw [← hT] at hrow
    have hTl : T.length ≤ 600 := by rw [hT]; have := reuTo_len l i; omega
    obtain ⟨a', c', rfl⟩ := hrow.shape
    obtain ⟨nL, hnL⟩ : ∃ nL, nL = T.length := ⟨_, rfl⟩
    by_cases hlt : i < N
    · obtain ⟨g, e, rfl, hc, t0, hm, r1, r2⟩ := HR.out i wr hq2 hlt
      have t1 : ¬ g = wr.heap.size := by omega

      have hi1 : (i : Int) < (N : Int) := by omega
      have hi2 : (N : Int) ≤ (c : Int) := by omega
      have hi6 : (i : Int) ≤ 600 := by omega
      obtain ⟨kv, hkv⟩ : ∃ kv : Int, kv = (e.k.toNat : Int) := ⟨_, rfl⟩
      have hk43 : (kv == 43) = decide (e.k = 43) := by rw [hkv]; exact byte_is e.k 43
      rw [← hkv] at r1
      have hno : reuAt l i = [] → Hid (∀ W', Keeps noB wr W' → ReAt w w2 B l (.slice a' nL c') (.int .i64 ((i : Int) + 1)) W') := fun hx => Lib.hid (fun W' q =>
        ⟨i + 1, by rw [← HN.out]; omega, by go_num, by show NRow W' _ (reuTo l i ++ reuAt l i); rw [hx, List.append_nil, ← hT, hnL]; exact hrow.keeps q (fun _ _ e => e), by rw [hnL]; exact hfr, hq.trans q, hq2.trans (q.mono (fun _ e => e.elim))⟩)
      cases i with
      | zero =>
        have HE := hno rfl
        rw [← hnL]
        have x0 : ¬ (0 : Int) < ((0 : Nat) : Int) := by decide
        rw [Nat.zero_mul] at r1 r2
        clear hno hm hT hTl hnL hrow hfr hq hq2 hkv
        rcases Bool.eq_false_or_eq_true (kv == 43) with x1 | x1
        all_goals
          clear hk43
          go_wp2_with fail
          go_roundw
          case rel => exact HE.out _ ((Keeps.refl _ _).alloc _)
          case measure => simp [intOf]; omega
      | succ j =>
        obtain ⟨g', d, e1, _, _, hd, s1, s2⟩ := HR.out j wr hq2 (by omega)
        simp only [Option.some.injEq, Addr.mk.injEq, and_true] at e1
        subst e1
        have hji : (((j + 1 : Nat) : Int)) = (j : Int) + 1 := by omega
        rw [hji] at hi1 hi6 hno ⊢
        obtain ⟨kd, hkd⟩ : ∃ kd : Int, kd = (d.k.toNat : Int) := ⟨_, rfl⟩
        have hk45 : (kd == 45) = decide (d.k = 45) := by rw [hkd]; exact byte_is d.k 45
        rw [← hkd] at s1
        have x0 : (0 : Int) < (j : Int) + 1 := by omega
        have hjb : (j : Int) ≤ 600 := by omega
        have hj0 : (0 : Int) ≤ (j : Int) := by omega
        have hj2 : (j : Int) < (N : Int) := by omega
        have hra : reuAt l (j + 1) = if e.k = 43 ∧ d.k = 45 then [e.n] else [] := reuAt_some hd hm
        by_cases h43 : e.k = 43
        · have x1 : (kv == 43) = true := by rw [hk43]; simp [h43]
          by_cases h45 : d.k = 45
          · have x2 : (kd == 45) = true := by rw [hk45]; simp [h45]
            have hra' : reuAt l (j + 1) = [e.n] := by rw [hra, if_pos ⟨h43, h45⟩]
            obtain ⟨LV, hLV⟩ : ∃ LV, LV = T.map i64 := ⟨_, rfl⟩
            have HOW : Hid (wr.ownsRow 0 3 1 (.slice a' nL c') nL LV) := by rw [hnL, hLV]; exact hrow
            have HS : Hid (∀ v' w3, Keeps (fun g => (Value.slice a' nL c').ownBlock = some g) wr w3 → w3.ownsRow 0 3 1 v' (nL + 1) (LV ++ [.int .i64 (e.n : Int)]) → (∀ g, v'.ownBlock = some g → (Value.slice a' nL c').ownBlock = some g ∨ wr.heap.size ≤ g) → ReAt w w2 B l v' (.int .i64 ((j : Int) + 1 + 1)) w3) := Lib.hid (fun v' w3 qa ho hf => by
              have h := ReAt.app (i := j + 1) HSZ.out.1 HSZ.out.2 (by rw [← HN.out]; exact hlt) (by rw [hnL]; exact hfr) hq hq2 (by rw [hnL, hT]) (by rw [hLV, hT]) hra' rfl qa ho hf
              rw [hji] at h
              exact h)
            have hn1 : nL ≤ 600 := by omega
            rw [← hnL]
            clear hno hm hd hT hTl hrow hfr hq hq2 hkv hkd hk43 hk45 hra hra' h43 h45 hLV hnL
            obtain ⟨hi1', hz0, hz1, hz2⟩ := HI.out
            go_wp2_with (at_builtin; refine wpList_append_fresh _ rfl _ _ 25 rfl 3 i0 _ 1 8 Tryd.underlying25 hi1' hz0 hz1 hz2 rfl (by decide) (.slice a' nL c') nL LV rfl ((((Keeps.refl noB wr).alloc _).alloc _).ownsRow HOW.out (fun _ _ _ e => e)) ⟨wr.heap.size + 1, 0, none⟩ 1 1 [.int .i64 (e.n : Int)] rfl rfl (by have h := cells_one (wr.alloc (.cells #[.int .u8 kv, .int .i64 (e.n : Int)] 39)) (.int .i64 (e.n : Int)) 3; rw [World.size_alloc] at h; exact h) (by intro u hu; simp at hu; subst hu; rfl) (by unfold maxLen; omega) (by omega) ?_)
            intro v' w3 hown' hgrow hfresh
            have hnew := HS.out v' w3 ((((Keeps.refl _ wr).alloc _).alloc _).grown hgrow (fun g hg => .inl hg)) hown' (fun g hg => by
              rcases hfresh with h | h
              · exact .inl (h ▸ hg)
              · have := h g hg; simp at this; exact .inr (by omega))
            obtain ⟨a2, c2, rfl⟩ := row_shape (ok := fun _ => True) ⟨hown', fun _ _ => trivial⟩
            have HE := Lib.hid hnew
            clear hown' hgrow hfresh hnew
            go_wp2_with fail
            go_roundw
            case rel => exact HE.out
            case measure => simp [intOf]; omega
          · have x2 : (kd == 45) = false := by rw [hk45]; simp [h45]
            have HE := hno (by rw [hra, if_neg (fun h => h45 h.2)])
            rw [← hnL]
            clear hno hm hd hT hTl hnL hrow hfr hq hq2 hkv hkd hk43 hk45 hra h43 h45
            go_wp2_with fail
            go_roundw
            case rel => exact HE.out _ ((Keeps.refl _ _).alloc _)
            case measure => simp [intOf]; omega
        · have x1 : (kv == 43) = false := by rw [hk43]; simp [h43]
          have HE := hno (by rw [hra, if_neg (fun h => h43 h.1)])
          rw [← hnL]
          clear hno hm hd hT hTl hnL hrow hfr hq hq2 hkv hkd hk43 hk45 hra h43
          go_wp2_with fail
          go_roundw
          case rel => exact HE.out _ ((Keeps.refl _ _).alloc _)
          case measure => simp [intOf]; omega
    · have HE : Hid (NumsOfP w (reuTo l N) bv (.returned (.tuple #[.slice a' nL c', .bool bv])) wr) := by
        have e : i = N := by omega
        subst e
        rw [← hT, hnL]
        exact ⟨_, rfl, hrow, fun g hg => by
          rcases hfr g hg with h | h
          · subst h
            rcases Nat.lt_or_ge g w2.heap.size with h3 | h3
            · exact HSZ.out.1 h3
            · have := HSZ.out.2; omega
          · have := HSZ.out.2; omega, hq⟩
      have hi1 : ¬ (i : Int) < (N : Int) := by omega
      rw [← hnL]
      clear hT hTl hnL hrow hfr hq hq2
      go_wp2_with fail
      refine bodyPost_ret (resSReu _ _ _ _ rfl rfl) rfl ?_
      exact HE.out

set_option maxRecDepth 100000 in
set_option maxHeartbeats 8000000 in
theorem reusesOf_any (s : ByteArray) (hs : s.size ≤ 1048576) (w : World) (hE : Env w) : Calls Tryd.prog 24 #[.string s] w (NumsOfP w (reuV (readP s)) (readP s).isSome) := by
  obtain ⟨i0, hi, hz0, hz1, hz2⟩ := info_parts Tryd.infoI3
  have HI := Lib.hid (And.intro hi (And.intro hz0 (And.intro hz1 hz2)))
  have H := Lib.hid (historyOf_any s hs w hE)
  clear hE hi hz0 hz1 hz2
  cases hr : readP s with
  | none =>
    rw [hr] at H
    go_enter Tryd.func24, Tryd.ntmps24
    go_wp2_with fail
    refine H.out.mono ?_
    rintro e w1 ⟨⟨tp, q, rfl⟩, q1⟩
    have HQ := Lib.hid q1
    clear q1
    go_wp2_with fail
    refine bodyPost_ret (resReu _ _ _ _ rfl rfl) rfl ?_
    exact ⟨_, rfl, ⟨rfl, .inl ⟨rfl, rfl⟩⟩, fun g hg => by simp [Value.ownBlock] at hg, HQ.out⟩
  | some l =>
    obtain ⟨hg, hgl⟩ := readP_good hr
    rw [hr] at H
    show Calls _ _ _ _ (NumsOfP w (reuTo l l.length) true)
    obtain ⟨N, hN⟩ : ∃ N, N = l.length := ⟨_, rfl⟩
    rw [← hN] at hgl ⊢
    have HN := Lib.hid hN
    clear hg hr hN
    go_enter Tryd.func24, Tryd.ntmps24
    go_wp2_with fail
    refine H.out.mono ?_
    rintro e w2 ⟨⟨H1, own, ve, vl, rfl, hh, _⟩, q1⟩
    obtain ⟨a, c, rfl⟩ := hh.shape.1
    have hrow := hh.evs
    have r0 := hh.blk.cell 0
    simp at r0
    have h0 : H1 < w2.heap.size := hh.blk.lt
    obtain ⟨B, hB⟩ : ∃ B, B = w2.heap.size := ⟨_, rfl⟩
    have HB := Lib.hid hB
    rw [← HN.out] at r0
    have HR0 : Hid (∀ wr, Keeps (oneB B) w2 wr → wr.cell? ⟨H1, 0, none⟩ = some (.slice a N c) ∧ H1 < wr.heap.size) := Lib.hid (fun wr q => ⟨(q.cell (p := ⟨H1, 0, none⟩) h0 (fun e => by have e : H1 = B := e; omega)).trans r0, Nat.lt_of_lt_of_le h0 q.size⟩)
    have HR : Hid (∀ i wr, Keeps (oneB B) w2 wr → i < N → ∃ g e, a = some ⟨g, 0, none⟩ ∧ N ≤ c ∧ g < wr.heap.size ∧ l[i]? = some e ∧ wr.cell? ⟨g, i * 2, none⟩ = some (.int .u8 (e.k.toNat : Int)) ∧ wr.cell? ⟨g, i * 2 + 1, none⟩ = some (.int .i64 (e.n : Int))) := Lib.hid (fun i wr q hi => by
      have hl := HN.out
      obtain ⟨g, d, e, hc, hgl, hk⟩ := row_capM (ok := fun _ => True) hrow (by omega)
      simp only [Value.slice.injEq, true_and] at e
      obtain ⟨rfl, rfl⟩ := e
      have hm := List.getElem?_eq_getElem (l := l) (i := i) (by omega)
      obtain ⟨g0, g1⟩ := evC_get l i _ hm
      rw [show 2 * i = i * 2 by omega] at g0 g1
      have hne : ¬ oneB B g := fun e => by have e : g = B := e; omega
      exact ⟨g, _, rfl, by omega, Nat.lt_of_lt_of_le hgl q.size, hm, (q.cell (p := ⟨g, i * 2, none⟩) hgl hne).trans (hk _ _ g0).1, (q.cell (p := ⟨g, i * 2 + 1, none⟩) hgl hne).trans (hk _ _ g1).1⟩)
    have HP : Hid (ReAt w w2 B l (.slice none 0 0) (.int .i64 0) w2) :=
      ⟨0, Nat.zero_le _, rfl, ⟨rfl, .inl ⟨rfl, rfl⟩⟩, fun g hg => by simp [Value.ownBlock] at hg, q1, Keeps.refl _ _⟩
    have HSZ : Hid ((B < w2.heap.size → w.heap.size ≤ B) ∧ w.heap.size ≤ w2.heap.size) := ⟨fun h => by have := HB.out; omega, q1.size⟩
    have p0 := (HR0.out w2 (Keeps.refl _ _)).1
    clear q1 hrow hh r0 h0 hB
    go_wp2_with fail
    clear p0
    go_loopw [6, 21] (fun vo vi wr => ReAt w w2 B l vo vi wr) (fun _ vi _ => N - (intOf vi).toNat)
    case atStart => exact HP.out
    case round =>
      clear HP
      obtain ⟨i, hin, rfl, hrow, hfr, hq, hq2⟩ := hrel
      rw [← HN.out] at hin
      obtain ⟨T, hT⟩ : ∃ T, T = reuTo l i := ⟨_, rfl⟩
      rw [← hT] at hrow
      have hTl : T.length ≤ 600 := by rw [hT]; have := reuTo_len l i; omega
      obtain ⟨a', c', rfl⟩ := hrow.shape
      obtain ⟨nL, hnL⟩ : ∃ nL, nL = T.length := ⟨_, rfl⟩
      by_cases hlt : i < N
      · obtain ⟨g, e, rfl, hc, t0, hm, r1, r2⟩ := HR.out i wr hq2 hlt
        have t1 : ¬ g = wr.heap.size := by omega
        obtain ⟨r0, t2⟩ := HR0.out wr hq2
        have t3 : ¬ H1 = wr.heap.size := by omega
        have hi1 : (i : Int) < (N : Int) := by omega
        have hi2 : (N : Int) ≤ (c : Int) := by omega
        have hi6 : (i : Int) ≤ 600 := by omega
        obtain ⟨kv, hkv⟩ : ∃ kv : Int, kv = (e.k.toNat : Int) := ⟨_, rfl⟩
        have hk43 : (kv == 43) = decide (e.k = 43) := by rw [hkv]; exact byte_is e.k 43
        rw [← hkv] at r1
        have hno : reuAt l i = [] → Hid (∀ W', Keeps noB wr W' → ReAt w w2 B l (.slice a' nL c') (.int .i64 ((i : Int) + 1)) W') := fun hx => Lib.hid (fun W' q =>
          ⟨i + 1, by rw [← HN.out]; omega, by go_num, by show NRow W' _ (reuTo l i ++ reuAt l i); rw [hx, List.append_nil, ← hT, hnL]; exact hrow.keeps q (fun _ _ e => e), by rw [hnL]; exact hfr, hq.trans q, hq2.trans (q.mono (fun _ e => e.elim))⟩)
        cases i with
        | zero =>
          have HE := hno rfl
          rw [← hnL]
          have x0 : ¬ (0 : Int) < ((0 : Nat) : Int) := by decide
          rw [Nat.zero_mul] at r1 r2
          clear hno hm hT hTl hnL hrow hfr hq hq2 hkv
          rcases Bool.eq_false_or_eq_true (kv == 43) with x1 | x1
          all_goals
            clear hk43
            go_wp2_with fail
            go_roundw
            case rel => exact HE.out _ ((Keeps.refl _ _).alloc _)
            case measure => simp [intOf]; omega
        | succ j =>
          obtain ⟨g', d, e1, _, _, hd, s1, s2⟩ := HR.out j wr hq2 (by omega)
          simp only [Option.some.injEq, Addr.mk.injEq, and_true] at e1
          subst e1
          have hji : (((j + 1 : Nat) : Int)) = (j : Int) + 1 := by omega
          rw [hji] at hi1 hi6 hno ⊢
          obtain ⟨kd, hkd⟩ : ∃ kd : Int, kd = (d.k.toNat : Int) := ⟨_, rfl⟩
          have hk45 : (kd == 45) = decide (d.k = 45) := by rw [hkd]; exact byte_is d.k 45
          rw [← hkd] at s1
          have x0 : (0 : Int) < (j : Int) + 1 := by omega
          have hjb : (j : Int) ≤ 600 := by omega
          have hj0 : (0 : Int) ≤ (j : Int) := by omega
          have hj2 : (j : Int) < (N : Int) := by omega
          have hra : reuAt l (j + 1) = if e.k = 43 ∧ d.k = 45 then [e.n] else [] := reuAt_some hd hm
          by_cases h43 : e.k = 43
          · have x1 : (kv == 43) = true := by rw [hk43]; simp [h43]
            by_cases h45 : d.k = 45
            · have x2 : (kd == 45) = true := by rw [hk45]; simp [h45]
              have hra' : reuAt l (j + 1) = [e.n] := by rw [hra, if_pos ⟨h43, h45⟩]
              obtain ⟨LV, hLV⟩ : ∃ LV, LV = T.map i64 := ⟨_, rfl⟩
              have HOW : Hid (wr.ownsRow 0 3 1 (.slice a' nL c') nL LV) := by rw [hnL, hLV]; exact hrow
              have HS : Hid (∀ v' w3, Keeps (fun g => (Value.slice a' nL c').ownBlock = some g) wr w3 → w3.ownsRow 0 3 1 v' (nL + 1) (LV ++ [.int .i64 (e.n : Int)]) → (∀ g, v'.ownBlock = some g → (Value.slice a' nL c').ownBlock = some g ∨ wr.heap.size ≤ g) → ReAt w w2 B l v' (.int .i64 ((j : Int) + 1 + 1)) w3) := Lib.hid (fun v' w3 qa ho hf => by
                have h := ReAt.app (i := j + 1) HSZ.out.1 HSZ.out.2 (by rw [← HN.out]; exact hlt) (by rw [hnL]; exact hfr) hq hq2 (by rw [hnL, hT]) (by rw [hLV, hT]) hra' rfl qa ho hf
                rw [hji] at h
                exact h)
              have hn1 : nL ≤ 600 := by omega
              rw [← hnL]
              clear hno hm hd hT hTl hrow hfr hq hq2 hkv hkd hk43 hk45 hra hra' h43 h45 hLV hnL
              obtain ⟨hi1', hz0, hz1, hz2⟩ := HI.out
              go_wp2_with (at_builtin; refine wpList_append_fresh _ rfl _ _ 25 rfl 3 i0 _ 1 8 Tryd.underlying25 hi1' hz0 hz1 hz2 rfl (by decide) (.slice a' nL c') nL LV rfl ((((Keeps.refl noB wr).alloc _).alloc _).ownsRow HOW.out (fun _ _ _ e => e)) ⟨wr.heap.size + 1, 0, none⟩ 1 1 [.int .i64 (e.n : Int)] rfl rfl (by have h := cells_one (wr.alloc (.cells #[.int .u8 kv, .int .i64 (e.n : Int)] 63)) (.int .i64 (e.n : Int)) 3; rw [World.size_alloc] at h; exact h) (by intro u hu; simp at hu; subst hu; rfl) (by unfold maxLen; omega) (by omega) ?_)
              intro v' w3 hown' hgrow hfresh
              have hnew := HS.out v' w3 ((((Keeps.refl _ wr).alloc _).alloc _).grown hgrow (fun g hg => .inl hg)) hown' (fun g hg => by
                rcases hfresh with h | h
                · exact .inl (h ▸ hg)
                · have := h g hg; simp at this; exact .inr (by omega))
              obtain ⟨a2, c2, rfl⟩ := row_shape (ok := fun _ => True) ⟨hown', fun _ _ => trivial⟩
              have HE := Lib.hid hnew
              clear hown' hgrow hfresh hnew
              go_wp2_with fail
              go_roundw
              case rel => exact HE.out
              case measure => simp [intOf]; omega
            · have x2 : (kd == 45) = false := by rw [hk45]; simp [h45]
              have HE := hno (by rw [hra, if_neg (fun h => h45 h.2)])
              rw [← hnL]
              clear hno hm hd hT hTl hnL hrow hfr hq hq2 hkv hkd hk43 hk45 hra h43 h45
              go_wp2_with fail
              go_roundw
              case rel => exact HE.out _ ((Keeps.refl _ _).alloc _)
              case measure => simp [intOf]; omega
          · have x1 : (kv == 43) = false := by rw [hk43]; simp [h43]
            have HE := hno (by rw [hra, if_neg (fun h => h43 h.1)])
            rw [← hnL]
            clear hno hm hd hT hTl hnL hrow hfr hq hq2 hkv hkd hk43 hk45 hra h43
            go_wp2_with fail
            go_roundw
            case rel => exact HE.out _ ((Keeps.refl _ _).alloc _)
            case measure => simp [intOf]; omega
      · have HE : Hid (NumsOfP w (reuTo l N) true (.returned (.tuple #[.slice a' nL c', .bool true])) wr) := by
          have e : i = N := by omega
          subst e
          rw [← hT, hnL]
          exact ⟨_, rfl, hrow, fun g hg => by
            rcases hfr g hg with h | h
            · subst h
              rcases Nat.lt_or_ge g w2.heap.size with h3 | h3
              · exact HSZ.out.1 h3
              · have := HSZ.out.2; omega
            · have := HSZ.out.2; omega, hq⟩
        have hi1 : ¬ (i : Int) < (N : Int) := by omega
        rw [← hnL]
        clear hT hTl hnL hrow hfr hq hq2
        go_wp2_with fail
        refine bodyPost_ret (resReu _ _ _ _ rfl rfl) rfl ?_
        exact HE.out

end Go.Proofs.YthgocacabadflaaDoor

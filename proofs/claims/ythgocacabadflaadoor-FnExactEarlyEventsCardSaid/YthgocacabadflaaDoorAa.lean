/-
  The model's EarlyEvents, the text let in.
-/
import Derived.Test.YthgocacabadflaaDoorSj
namespace Go.Proofs.YthgocacabadflaaDoor
set_option linter.unusedVariables false
set_option linter.unusedSimpArgs false
open Go.RowKit

theorem resSEarly (W : World) (v b : Value) (tmps : Array Value) (h2 : tmps.getD 2 undef = v) (h3 : tmps.getD 3 undef = b) : (results Tryd.f11 tmps).run Tryd.prog W = .ok (.tuple #[v, b]) W := by
  have h2' : tmps[2]?.getD undef = v := by simpa using h2
  have h3' : tmps[3]?.getD undef = b := by simpa using h3
  simp [results, Tryd.results11, go_sem, h2', h3']

theorem evC_app {L : List Ev} {EL : List Value} {k : UInt8} {m n : Nat} {x y : Value} (hn : n = L.length) (hE : EL = evC L) (hx : x = .int .u8 (k.toNat : Int)) (hy : y = .int .i64 (m : Int)) : EL ++ [x, y] = evC (L ++ [(⟨k, m⟩ : Ev)]) ∧ n + 1 = (L ++ [(⟨k, m⟩ : Ev)]).length := by
  subst hx; subst hy; subst hE; subst hn
  exact ⟨by rw [evC_snoc], by simp⟩

theorem madeN_take (l : List Ev) (k : Nat) : madeN (l.take k) ≤ madeN l := by
  unfold madeN
  exact List.Sublist.length_le ((List.take_sublist k l).filter _)
/-- The value of an event is one of the values. -/
theorem ev_index {l : List Ev} (hg : Good l) {i : Nat} {e : Ev} (h : l[i]? = some e) : 1 ≤ e.n ∧ e.n - 1 < (livesL l).length := by
  obtain ⟨hgi, hf⟩ := hg.at i e h
  have hm := hg.says.made
  rcases hf with ⟨hk, hn⟩ | ⟨_, hn⟩
  · have h1 : madeN (l.take (i + 1)) = madeN (l.take i) + 1 := by
      rw [List.take_add_one, h]
      show madeN (l.take i ++ [e]) = _
      rw [madeN_snoc, if_pos hk]
    have h2 := madeN_take l (i + 1)
    omega
  · obtain ⟨h1, f, h2, _⟩ := (hgi.says.alive e.n).1 hn
    have h3 := (List.getElem?_eq_some_iff.1 h2).1
    rw [hgi.says.made] at h3
    have h4 := madeN_take l i
    omega

/-- What the model's loop holds. -/
def SEaAt (w w2 : World) (B : Nat) (l : List Ev) (vo vi : Value) (wr : World) : Prop :=
  ∃ i : Nat, i ≤ l.length ∧ vi = .int .i64 (i : Int) ∧ ERow wr vo (earlyU l i) ∧ (∀ g, vo.ownBlock = some g → g = B ∨ w2.heap.size ≤ g) ∧ Keeps noB w wr ∧ Keeps (oneB B) w2 wr

theorem SEaAt.step {w w2 : World} {B : Nat} {n : Nat} {L : List Ev} {ao : Option Addr} {co : Nat} {EL : List Value} {v' : Value} {wr W w3 : World} {k : UInt8} {m : Nat} {x y : Value}
    (hB : w.heap.size ≤ B) (hBw : B < w2.heap.size) (hfr : ∀ g, (Value.slice ao n co).ownBlock = some g → g = B ∨ w2.heap.size ≤ g) (hq : Keeps noB w wr) (hq2 : Keeps (oneB B) w2 wr) (q : Keeps noB wr W) (hn : n = L.length) (hE : EL = evC L)
    (hx : x = .int .u8 (k.toNat : Int)) (hy : y = .int .i64 (m : Int)) (hown : w3.ownsRow 0 39 2 v' (n + 1) (EL ++ [x, y])) (hg : W.grownBy w3 (Value.slice ao n co).ownBlock) (hf : Fresh W (.slice ao n co) v') :
    ERow w3 v' (L ++ [⟨k, m⟩]) ∧ (∀ g, v'.ownBlock = some g → g = B ∨ w2.heap.size ≤ g) ∧ Keeps noB w w3 ∧ Keeps (oneB B) w2 w3 := by
  have qa : Keeps (fun g => (Value.slice ao n co).ownBlock = some g) wr w3 := (q.mono (fun _ e => e.elim)).grown hg (fun g hg => .inl hg)
  obtain ⟨e1, e2⟩ := evC_app (k := k) (m := m) hn hE hx hy
  have hs := hq2.size
  have hsw := q.size
  refine ⟨by unfold ERow; rw [← e1, ← e2]; exact hown, fun g hg => ?_, hq.transNew qa (fun i hi e => by rcases hfr i e with h | h <;> omega), hq2.transNew qa (fun i hi e => by rcases hfr i e with h | h; exact h; omega)⟩
  rcases hf with h | h
  · exact hfr g (h ▸ hg)
  · have := h g hg; exact .inr (by omega)

set_option maxRecDepth 100000 in
set_option maxHeartbeats 8000000 in
theorem searly_any (s : ByteArray) (hs : s.size ≤ 1048576) (T : List Ev → ByteArray) (hT : ∀ L v w, L.length ≤ 1200 → (∀ e ∈ L, e.n < 1000) → ERow w v L → Calls Tryd.prog 33 #[v] w fun e w' => e = .returned (.string (T L)) ∧ Keeps noB w w')
    (l : List Ev) (hr : readP s = some l) (w : World) : Calls Tryd.prog 11 #[.string s] w fun e w' => e = .returned (.tuple #[.string (T (earlyU l l.length)), .bool true]) ∧ Keeps noB w w' := by
  obtain ⟨i0, hi, hz0, hz1, hz2⟩ := info_parts Tryd.infoE39
  have HI := Lib.hid (And.intro hi (And.intro hz0 (And.intro hz1 hz2)))
  have H := Lib.hid (read_any s hs w)
  obtain ⟨hg, hl⟩ := readP_good hr
  rw [hr] at H
  have HL := Lib.hid (fun v w h => lives_any v l hg hl w h)
  have hle : (livesL l).length ≤ 600 := by have := hg.says.made; have := hg.says.le; omega
  have HIX := Lib.hid (fun i e (h : l[i]? = some e) => ev_index hg h)
  obtain ⟨N, hN⟩ : ∃ N, N = l.length := ⟨_, rfl⟩
  obtain ⟨mL, hmL⟩ : ∃ mL, mL = (livesL l).length := ⟨_, rfl⟩
  have hN6 : N ≤ 600 := by omega
  have hm6 : mL ≤ 600 := by omega
  have hsmall : ∀ e ∈ earlyU l l.length, e.n < 1000 := fun e he => by
    unfold earlyU at he
    obtain ⟨i, _, he⟩ := List.mem_flatMap.1 he
    unfold earlyAt at he
    cases hc : l[i]? with
    | none => rw [hc] at he; cases he
    | some x =>
      rw [hc] at he
      dsimp only at he
      have hx := ev_index hg hc
      have hxn : x.n < 1000 := by omega
      by_cases h45 : x.k = 45
      · rw [if_pos h45] at he; cases he
      · rw [if_neg h45] at he
        rcases List.mem_cons.1 he with he | he
        · rw [he]; exact hxn
        · cases hf : (livesL l)[x.n - 1]? with
          | none => rw [hf] at he; cases he
          | some f =>
            rw [hf] at he
            dsimp only at he
            by_cases hc2 : f.u = (i : Int) ∧ 0 ≤ f.d
            · rw [if_pos hc2] at he
              obtain rfl := List.mem_singleton.1 he
              exact hxn
            · rw [if_neg hc2] at he; cases he
  have HT := Lib.hid (fun v w (h : ERow w v (earlyU l l.length)) => hT (earlyU l l.length) v w (by have := earlyU_len l l.length; omega) hsmall h)
  have HN := Lib.hid (And.intro hN hmL)
  generalize hTT : T (earlyU l l.length) = tt at *
  clear hg hl hi hz0 hz1 hz2 hT hr hle hN hmL hTT hsmall
  go_enter Tryd.func11, Tryd.ntmps11
  go_wp2_with fail
  refine H.out.mono ?_
  rintro e w1 ⟨v, rfl, hrow0, _, q1⟩
  have hrow : ERow w1 v l := hrow0
  clear hrow0
  obtain ⟨a, c, hv⟩ := row_shape (ok := fun _ => True) ⟨hrow, fun _ _ => trivial⟩
  rw [← HN.out.1] at hv
  subst hv
  obtain ⟨B, hB⟩ : ∃ B, B = w1.heap.size := ⟨_, rfl⟩
  have o1 := World.ownsRow_made w1 #[] 0 (e := 39) (size := 2) (Nat.zero_le _) (by simp [maxLen]) rfl
  have qB : Keeps noB w1 (w1.alloc (.cells #[] 39)) := (Keeps.refl _ _).alloc _
  have hsB : (w1.alloc (.cells #[] 39)).heap.size = w1.heap.size + 1 := World.size_alloc _ _
  have HRL := Lib.hid (And.intro hrow (And.intro q1 (And.intro o1 (And.intro qB (And.intro hB hsB)))))
  clear q1 hrow o1 qB hB hsB
  go_wp2_with fail
  refine (HL.out _ _ (HRL.out.1.keepsE HRL.out.2.2.2.1 (fun _ _ e => e))).mono ?_
  rintro e w2 ⟨v2, rfl, hrow2, hf2, q2⟩
  obtain ⟨al, cl, hv2, hR⟩ := lrow_at hrow2
  rw [← HN.out.2] at hv2
  subst hv2
  have hsz2 := q2.size
  have q12 := HRL.out.2.2.2.1.trans q2
  have HRE : Hid (∀ i wr, Keeps (oneB B) w2 wr → i < N → ∃ g e, a = some ⟨g, 0, none⟩ ∧ N ≤ c ∧ l[i]? = some e ∧ wr.cell? ⟨g, i * 2, none⟩ = some (.int .u8 (e.k.toNat : Int)) ∧ wr.cell? ⟨g, i * 2 + 1, none⟩ = some (.int .i64 (e.n : Int))) := Lib.hid (fun i wr q hi => by
    have hNl := HN.out.1
    have hBB := HRL.out.2.2.2.2.1
    have hsB := HRL.out.2.2.2.2.2
    obtain ⟨g, d, e, hc, hgl, hh⟩ := row_capM (ok := fun _ => True) HRL.out.1 (by omega)
    simp only [Value.slice.injEq] at e
    obtain ⟨rfl, _, rfl⟩ := e
    have hm := List.getElem?_eq_getElem (l := l) (i := i) (by omega)
    obtain ⟨g0, g1⟩ := evC_get l i _ hm
    rw [show 2 * i = i * 2 by omega] at g0 g1
    have hgB : ¬ oneB B g := fun e => by have e : g = B := e; omega
    have hg2 : g < w2.heap.size := by omega
    exact ⟨g, _, rfl, by omega, hm, (q.cell (p := ⟨g, i * 2, none⟩) hg2 hgB).trans ((q12.cell (p := ⟨g, i * 2, none⟩) hgl id).trans (hh _ _ g0).1), (q.cell (p := ⟨g, i * 2 + 1, none⟩) hg2 hgB).trans ((q12.cell (p := ⟨g, i * 2 + 1, none⟩) hgl id).trans (hh _ _ g1).1)⟩)
  have HLF : Hid (∀ i wr, Keeps (oneB B) w2 wr → i < mL → ∃ g f, al = some ⟨g, 0, none⟩ ∧ mL ≤ cl ∧ (livesL l)[i]? = some f ∧ wr.cell? ⟨g, i * 3, none⟩ = some (.int .i64 f.b) ∧ wr.cell? ⟨g, i * 3 + 1, none⟩ = some (.int .i64 f.u) ∧ wr.cell? ⟨g, i * 3 + 2, none⟩ = some (.int .i64 f.d)) := Lib.hid (fun i wr q hi => by
    have hml := HN.out.2
    have hBB := HRL.out.2.2.2.2.1
    have hsB := HRL.out.2.2.2.2.2
    obtain ⟨g, f, e1, e2, e3⟩ := hR _ i wr q (fun g hg e => by have := hf2 g (by simpa [Value.ownBlock] using hg); have e : g = B := e; omega) (by omega)
    exact ⟨g, f, e1, by omega, e3⟩)
  have HP : Hid (SEaAt w w2 B l (.slice (some ⟨w1.heap.size, 0, none⟩) 0 0) (.int .i64 0) w2) := Lib.hid
    ⟨0, Nat.zero_le _, rfl, q2.ownsRow HRL.out.2.2.1 (fun _ _ _ e => e), fun g hg => .inl (by rw [HRL.out.2.2.2.2.1]; simpa [Value.ownBlock] using hg.symm), HRL.out.2.1.trans q12, Keeps.refl _ _⟩
  have HSZ : Hid (w.heap.size ≤ B ∧ B < w2.heap.size) := Lib.hid (by
    have := HRL.out.2.2.2.2.1; have := HRL.out.2.2.2.2.2; have := HRL.out.2.1.size
    omega)
  clear hrow2 hf2 q2 hR hsz2 q12
  go_wp2_with fail
  go_loopw [6, 23] (fun vo vi wr => SEaAt w w2 B l vo vi wr) (fun _ vi _ => N - (intOf vi).toNat)
  case atStart => exact HP.out
  case round =>
    clear HP
    obtain ⟨i, hin, rfl, hrow, hfr, hq, hq2⟩ := hrel
    rw [← HN.out.1] at hin
    obtain ⟨U, hU⟩ : ∃ U, U = earlyU l i := ⟨_, rfl⟩
    rw [← hU] at hrow
    have hUl : U.length ≤ 1200 := by rw [hU]; have := earlyU_len l i; omega
    obtain ⟨n, hn⟩ : ∃ n, n = U.length := ⟨_, rfl⟩
    obtain ⟨ao, co, hv⟩ := row_shape (ok := fun _ => True) ⟨hrow, fun _ _ => trivial⟩
    rw [← hn] at hv hUl
    subst hv
    by_cases hlt : i < N
    · obtain ⟨g, e, rfl, hc, hm, r1, r2⟩ := HRE.out i wr hq2 hlt
      have hi1 : (i : Int) < (N : Int) := by omega
      have hi2 : (N : Int) ≤ (c : Int) := by omega
      have hi6 : (i : Int) ≤ 600 := by omega
      obtain ⟨hx1, hx2⟩ := HIX.out i e hm
      rw [← HN.out.2] at hx2
      have hnext := earlyU_next l i
      rw [← hU] at hnext
      obtain ⟨kv, hkv⟩ : ∃ kv : Int, kv = (e.k.toNat : Int) := ⟨_, rfl⟩
      have hk45 : (kv == 45) = decide (e.k = 45) := by rw [hkv]; exact byte_is e.k 45
      rw [← hkv] at r1
      by_cases h45 : e.k = 45
      · have x1 : (kv == 45) = true := by rw [hk45]; simp [h45]
        have hat : earlyAt l i = [] := by unfold earlyAt; rw [hm]; dsimp only; rw [if_pos h45]
        rw [hat, List.append_nil] at hnext
        have HE : Hid (∀ W', Keeps noB wr W' → SEaAt w w2 B l (.slice ao n co) (.int .i64 ((i : Int) + 1)) W') := Lib.hid (fun W' q =>
          ⟨i + 1, by rw [← HN.out.1]; omega, by go_num, by rw [hnext]; exact hrow.keepsE q (fun _ _ e => e), hfr, hq.trans q, hq2.trans (q.mono (fun _ e => e.elim))⟩)
        clear hat hnext hk45 h45 hkv hm hx1 hx2 hU hn hrow hfr hq hq2
        go_wp2_with fail
        go_roundw
        case rel => exact HE.out _ ((Keeps.refl _ _).alloc _)
        case measure => simp [intOf]; omega
      · have x1 : (kv == 45) = false := by rw [hk45]; simp [h45]
        obtain ⟨m, hmn⟩ : ∃ m, e.n = m + 1 := ⟨e.n - 1, by omega⟩
        have hm1 : m < mL := by omega
        obtain ⟨EL, hEL⟩ : ∃ EL, EL = evC U := ⟨_, rfl⟩
        have HOW : Hid (∀ W', Keeps noB wr W' → W'.ownsRow 0 39 2 (.slice ao n co) n EL) := Lib.hid (fun W' q => by rw [hEL]; have h := hrow.keepsE q (fun _ _ e => e); unfold ERow at h; rw [← hn] at h; exact h)
        have hrn : ((e.n : Nat) : Int) = (m : Int) + 1 := by omega
        rw [hrn] at r2
        have HS : Hid (∀ W w3 v', Keeps noB wr W → w3.ownsRow 0 39 2 v' (n + 1) (EL ++ [.int .u8 kv, .int .i64 ((m : Int) + 1)]) → W.grownBy w3 (Value.slice ao n co).ownBlock → Fresh W (.slice ao n co) v' → ERow w3 v' (U ++ [e]) ∧ (∀ g, v'.ownBlock = some g → g = B ∨ w2.heap.size ≤ g) ∧ Keeps noB w w3 ∧ Keeps (oneB B) w2 w3) := Lib.hid (fun W w3 v' q h1 h2 h3 =>
          SEaAt.step (k := e.k) (m := e.n) HSZ.out.1 HSZ.out.2 hfr hq hq2 q hn hEL (by rw [hkv]) (by rw [hrn]) h1 h2 h3)
        have HF := Lib.hid (And.intro hnext (And.intro hm (And.intro h45 (And.intro hmn hn))))
        have hm0 : (0 : Int) ≤ (m : Int) := by omega
        have hm2 : (m : Int) < (mL : Int) := by omega
        have hm3 : (m : Int) ≤ 600 := by omega
        clear hnext hk45 h45 hkv hm hx1 hx2 hU hn hrow hfr hq hq2 hEL hmn hrn
        obtain ⟨hi1', hz0, hz1, hz2⟩ := HI.out
        go_wp2_with (at_builtin; refine wpList_append_fresh _ rfl _ _ 33 rfl 39 i0 _ 2 16 Tryd.underlying33 hi1' hz0 hz1 hz2 rfl (by decide) (.slice ao n co) n EL rfl (HOW.out _ (((Keeps.refl noB wr).alloc _).alloc _)) ⟨wr.heap.size + 1, 0, none⟩ 1 1 [.int .u8 kv, .int .i64 ((m : Int) + 1)] rfl rfl (by have h := cells_all (wr.alloc (.cells #[.int .u8 kv, .int .i64 ((m : Int) + 1)] 39)) #[.int .u8 kv, .int .i64 ((m : Int) + 1)] 39; rw [World.size_alloc] at h; exact h) (by intro u hu; simp at hu; rcases hu with rfl | rfl <;> rfl) (by unfold maxLen; omega) (by omega) ?_)
        intro v' w3 hown hgrow hfresh
        have h3 := HS.out _ w3 v' (((Keeps.refl noB wr).alloc _).alloc _) hown hgrow hfresh
        obtain ⟨gL, f, rfl, hcl, hfl, t1, t2, t3⟩ := HLF.out m w3 h3.2.2.2 hm1
        have hcl2 : (mL : Int) ≤ (cl : Int) := by omega
        have bx : w3.cell? ⟨wr.heap.size, 1, none⟩ = some (.int .i64 ((m : Int) + 1)) ∧ wr.heap.size < w3.heap.size := by
          have bb : Blk (wr.alloc (.cells #[.int .u8 kv, .int .i64 ((m : Int) + 1)] 39)) wr.heap.size #[.int .u8 kv, .int .i64 ((m : Int) + 1)] 39 := Blk.new _ _ _
          have qz : Keeps (fun g => (Value.slice ao n co).ownBlock = some g) (wr.alloc (.cells #[.int .u8 kv, .int .i64 ((m : Int) + 1)] 39)) w3 := ((Keeps.refl _ _).alloc _).grown hgrow (fun g hg => .inl hg)
          have b3 := qz.blk bb (fun e => by have := ((HOW.out wr (Keeps.refl _ _)).lt _ e).2; omega)
          exact ⟨(b3.cell 1).trans rfl, b3.lt⟩
        obtain ⟨bx1, bx2⟩ := bx
        have bx3 : ¬ wr.heap.size = w3.heap.size := by omega
        obtain ⟨a3, c3, hv3⟩ := row_shape (ok := fun _ => True) ⟨hown, fun _ _ => trivial⟩
        subst hv3
        have H3 := Lib.hid h3
        obtain ⟨U3, hU3⟩ : ∃ U3, U3 = U ++ [e] := ⟨_, rfl⟩
        have hn3 : n + 1 = U3.length := by rw [hU3, List.length_append, ← HF.out.2.2.2.2]; rfl
        have hat : earlyAt l i = e :: (if f.u = (i : Int) ∧ 0 ≤ f.d then [⟨45, e.n⟩] else []) := by
          unfold earlyAt
          rw [HF.out.2.1]
          dsimp only
          rw [if_neg HF.out.2.2.1, show e.n - 1 = m by have := HF.out.2.2.2.1; omega, hfl]
        have hnx : earlyU l (i + 1) = U3 ++ (if f.u = (i : Int) ∧ 0 ≤ f.d then [⟨45, e.n⟩] else []) := by
          rw [HF.out.1, hat, hU3, List.append_assoc]; rfl
        rw [← hU3] at H3
        have HU3 := Lib.hid (And.intro hn3 hnx)
        clear hown hgrow hfresh h3 hat hU3 hn3 hnx hfl
        by_cases hu : f.u = (i : Int)
        · have y1 : (f.u == (i : Int)) = true := by simp [hu]
          by_cases hd : 0 ≤ f.d
          · obtain ⟨EL3, hEL3⟩ : ∃ EL3, EL3 = evC U3 := ⟨_, rfl⟩
            have HOW3 : Hid (∀ W', Keeps noB w3 W' → W'.ownsRow 0 39 2 (.slice a3 (n + 1) c3) (n + 1) EL3) := Lib.hid (fun W' q => by rw [hEL3]; have h := H3.out.1.keepsE q (fun _ _ e => e); unfold ERow at h; rw [← HU3.out.1] at h; exact h)
            have HS3 : Hid (∀ W w5 v', Keeps noB w3 W → w5.ownsRow 0 39 2 v' (n + 1 + 1) (EL3 ++ [.int .u8 45, .int .i64 ((m : Int) + 1)]) → W.grownBy w5 (Value.slice a3 (n + 1) c3).ownBlock → Fresh W (.slice a3 (n + 1) c3) v' → SEaAt w w2 B l v' (.int .i64 ((i : Int) + 1)) w5) := Lib.hid (fun W w5 v' q h1 h2 h3 => by
              obtain ⟨k1, k2, k3, k4⟩ := SEaAt.step (k := 45) (m := e.n) HSZ.out.1 HSZ.out.2 H3.out.2.1 H3.out.2.2.1 H3.out.2.2.2 q HU3.out.1 hEL3 rfl (by have := HF.out.2.2.2.1; rw [this]; rfl) h1 h2 h3
              refine ⟨i + 1, by rw [← HN.out.1]; omega, by go_num, ?_, k2, k3, k4⟩
              rw [HU3.out.2, if_pos ⟨hu, hd⟩]
              exact k1)
            clear hEL3 H3 HS hu
            go_wp2_with (at_builtin; refine wpList_append_fresh _ rfl _ _ 33 rfl 39 i0 _ 2 16 Tryd.underlying33 hi1' hz0 hz1 hz2 rfl (by decide) (.slice a3 (n + 1) c3) (n + 1) EL3 rfl (HOW3.out _ (((Keeps.refl noB w3).alloc _).alloc _)) ⟨w3.heap.size + 1, 0, none⟩ 1 1 [.int .u8 45, .int .i64 ((m : Int) + 1)] rfl rfl (by have h := cells_all (w3.alloc (.cells #[.int .i64 f.b, .int .i64 f.u, .int .i64 f.d] 41)) #[.int .u8 45, .int .i64 ((m : Int) + 1)] 39; rw [World.size_alloc] at h; exact h) (by intro u hu; simp at hu; rcases hu with rfl | rfl <;> rfl) (by unfold maxLen; omega) (by omega) ?_)
            intro v5 w5 hown5 hgrow5 hfresh5
            have hnew := HS3.out _ w5 v5 (((Keeps.refl noB w3).alloc _).alloc _) hown5 hgrow5 hfresh5
            obtain ⟨a5, c5, hv5⟩ := row_shape (ok := fun _ => True) ⟨hown5, fun _ _ => trivial⟩
            subst hv5
            have HE := Lib.hid hnew
            clear hown5 hgrow5 hfresh5 hnew
            go_wp2_with fail
            go_roundw
            case rel => exact HE.out
            case measure => simp [intOf]; omega
          · have HE : Hid (∀ W', Keeps noB w3 W' → SEaAt w w2 B l (.slice a3 (n + 1) c3) (.int .i64 ((i : Int) + 1)) W') := Lib.hid (fun W' q =>
              ⟨i + 1, by rw [← HN.out.1]; omega, by go_num, by rw [HU3.out.2, if_neg (fun h => hd h.2), List.append_nil]; exact H3.out.1.keepsE q (fun _ _ e => e), H3.out.2.1, H3.out.2.2.1.trans q, H3.out.2.2.2.trans (q.mono (fun _ e => e.elim))⟩)
            clear H3 HS hu
            go_wp2_with fail
            go_roundw
            case rel => exact HE.out _ ((Keeps.refl _ _).alloc _)
            case measure => simp [intOf]; omega
        · have y1 : (f.u == (i : Int)) = false := by rw [beq_eq_false_iff_ne]; exact hu
          have HE : Hid (∀ W', Keeps noB w3 W' → SEaAt w w2 B l (.slice a3 (n + 1) c3) (.int .i64 ((i : Int) + 1)) W') := Lib.hid (fun W' q =>
              ⟨i + 1, by rw [← HN.out.1]; omega, by go_num, by rw [HU3.out.2, if_neg (fun h => hu h.1), List.append_nil]; exact H3.out.1.keepsE q (fun _ _ e => e), H3.out.2.1, H3.out.2.2.1.trans q, H3.out.2.2.2.trans (q.mono (fun _ e => e.elim))⟩)
          clear H3 HS hu
          go_wp2_with fail
          go_roundw
          case rel => exact HE.out _ ((Keeps.refl _ _).alloc _)
          case measure => simp [intOf]; omega
    · have hi1 : ¬ (i : Int) < (N : Int) := by omega
      have HTX : Hid (Calls Tryd.prog 33 #[.slice ao n co] wr fun e w' => e = .returned (.string tt) ∧ Keeps noB wr w') := Lib.hid (by
        have hil : i = l.length := by have := HN.out.1; omega
        rw [hU, hil] at hrow
        exact HT.out _ _ hrow)
      have HQ := Lib.hid hq
      clear hU hn hrow hfr hq hq2
      go_wp2_with fail
      refine HTX.out.mono ?_
      rintro e5 w5 ⟨rfl, q5⟩
      have Q5 := Lib.hid (HQ.out.trans q5)
      clear q5
      go_wp2_with fail
      refine bodyPost_ret (resSEarly _ _ _ _ rfl rfl) rfl ?_
      exact ⟨rfl, Q5.out⟩

end Go.Proofs.YthgocacabadflaaDoor

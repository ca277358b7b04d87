/-
  LeftOver, on both sides.
-/
import Derived.Test.YtnjkaojgcnepdaaDoorQh
import Derived.Test.YtnjkaojgcnepdaaDoorRb
import Derived.Test.YtnjkaojgcnepdaaDoorRn
import Derived.Test.YtnjkaojgcnepdaaDoorRp
namespace Go.Proofs.YtnjkaojgcnepdaaDoor
set_option linter.unusedVariables false
set_option linter.unusedSimpArgs false
open Go.RowKit

/-! ### the plain account -/
/-- The lives that are left, and their numbers. -/
def leftP : Nat → List Lf → List (Lf × Nat)
  | _, [] => []
  | k, f :: r => if leftL f = true then (f, k + 1) :: leftP (k + 1) r else leftP (k + 1) r
theorem leftP_fst : ∀ (k : Nat) (s : List Lf), (leftP k s).map (·.1) = s.filter leftL
  | _, [] => rfl
  | k, f :: r => by
    have ih := leftP_fst (k + 1) r
    unfold leftP
    by_cases h : leftL f = true
    · rw [if_pos h, List.filter_cons_of_pos h, List.map_cons, ih]
    · rw [if_neg h, List.filter_cons_of_neg h, ih]
theorem leftP_get : ∀ (k : Nat) (s : List Lf) (f : Lf) (n : Nat), (f, n) ∈ leftP k s → ∃ j, n = k + j + 1 ∧ s[j]? = some f
  | _, [], f, n, h => by simp [leftP] at h
  | k, x :: r, f, n, h => by
    unfold leftP at h
    have hr : (f, n) ∈ leftP (k + 1) r → ∃ j, n = k + j + 1 ∧ (x :: r)[j]? = some f := fun h => by
      obtain ⟨j, h1, h2⟩ := leftP_get (k + 1) r f n h
      exact ⟨j + 1, by omega, by simpa using h2⟩
    by_cases hx : leftL x = true
    · rw [if_pos hx] at h
      rcases List.mem_cons.1 h with h | h
      · injection h with h1 h2; subst h1; subst h2; exact ⟨0, by omega, rfl⟩
      · exact hr h
    · rw [if_neg hx] at h; exact hr h
theorem leftP_snoc : ∀ (k : Nat) (s : List Lf) (f : Lf), leftP k (s ++ [f]) = leftP k s ++ (if leftL f = true then [(f, k + s.length + 1)] else [])
  | k, [], f => by show (if leftL f = true then (f, k + 1) :: [] else []) = _; simp [leftP]
  | k, x :: r, f => by
    have ih := leftP_snoc (k + 1) r f
    show (if leftL x = true then (x, k + 1) :: leftP (k + 1) (r ++ [f]) else leftP (k + 1) (r ++ [f])) = (if leftL x = true then (x, k + 1) :: leftP (k + 1) r else leftP (k + 1) r) ++ _
    rw [ih, show k + 1 + r.length + 1 = k + (x :: r).length + 1 by simp; omega]
    split <;> rfl
/-- The numbers of the values that are left. -/
def leftT (s : List Lf) : List Nat := (leftP 0 s).map (·.2)
theorem leftT_len (s : List Lf) : (leftT s).length = (s.filter leftL).length := by unfold leftT; rw [List.length_map, ← leftP_fst 0 s, List.length_map]
theorem leftT_le (s : List Lf) : (leftT s).length ≤ s.length := by rw [leftT_len]; exact List.length_filter_le _ _
theorem leftT_get {s : List Lf} {i : Nat} {f : Lf} (h : (s.filter leftL)[i]? = some f) : ∃ j, (leftT s)[i]? = some (j + 1) ∧ s[j]? = some f := by
  rw [← leftP_fst 0 s, List.getElem?_map] at h
  cases hp : (leftP 0 s)[i]? with
  | none => rw [hp] at h; cases h
  | some p =>
    rw [hp] at h
    have h1 : p.1 = f := Option.some.inj h
    obtain ⟨j, h2, h3⟩ := leftP_get 0 s p.1 p.2 (List.mem_of_getElem? hp)
    refine ⟨j, ?_, by rw [← h1]; exact h3⟩
    unfold leftT
    rw [List.getElem?_map, hp]
    show some p.2 = _
    rw [h2, Nat.zero_add]
theorem leftT_take {s : List Lf} {i : Nat} {f : Lf} (h : s[i]? = some f) : leftT (s.take (i + 1)) = leftT (s.take i) ++ (if leftL f = true then [i + 1] else []) := by
  have hi := (List.getElem?_eq_some_iff.1 h).1
  rw [List.take_add_one, h]
  show leftT (s.take i ++ [f]) = _
  unfold leftT
  rw [leftP_snoc, List.map_append, List.length_take, Nat.min_eq_left (by omega), Nat.zero_add]
  congr 1
  split <;> rfl

def leftV : Option (List Ev) → List Nat
  | none => []
  | some l => leftT (livesL l)
def leftK (r : Option (List Ev)) : List Int := (leftV r).map (fun k : Nat => (k : Int))

/-- An answer of a list of numbers and whether there is one. -/
def NumsOfP (w : World) (L : List Nat) (b : Bool) (e : Ending) (w' : World) : Prop :=
  ∃ v, e = .returned (.tuple #[v, .bool b]) ∧ NRow w' v L ∧ (∀ g, v.ownBlock = some g → w.heap.size ≤ g) ∧ Keeps noB w w'

theorem numsOf_open {w w' : World} {L : List Nat} {b : Bool} {e : Ending} (h : NumsOfP w L b e w') :
    ∃ a c, e = .returned (.tuple #[.slice a (L.map (fun k : Nat => (k : Int))).length c, .bool b]) ∧ IntRow w' (.slice a (L.map (fun k : Nat => (k : Int))).length c) (L.map (fun k : Nat => (k : Int))).length (L.map (fun k : Nat => (k : Int))) ∧ (∀ g, (Value.slice a (L.map (fun k : Nat => (k : Int))).length c).ownBlock = some g → w.heap.size ≤ g) ∧ Keeps noB w w' := by
  obtain ⟨v, rfl, hrow, hf, q⟩ := h
  obtain ⟨a, c, rfl⟩ := hrow.shape
  have e1 : (L.map (fun k : Nat => (k : Int))).map (Value.int .i64) = L.map i64 := by rw [List.map_map]; rfl
  have e2 : (L.map (fun k : Nat => (k : Int))).length = L.length := List.length_map _
  rw [e2]
  refine ⟨a, c, rfl, ?_, hf, q⟩
  unfold IntRow
  rw [e1]
  exact hrow

theorem left_open {w w' : World} {r : Option (List Ev)} {e : Ending} (h : NumsOfP w (leftV r) r.isSome e w') :
    ∃ a c, e = .returned (.tuple #[.slice a (leftK r).length c, .bool r.isSome]) ∧ IntRow w' (.slice a (leftK r).length c) (leftK r).length (leftK r) ∧ (∀ g, (Value.slice a (leftK r).length c).ownBlock = some g → w.heap.size ≤ g) ∧ Keeps noB w w' := numsOf_open h

theorem leftK_len (s : ByteArray) : (leftK (readP s)).length ≤ 600 := by
  unfold leftK
  rw [List.length_map]
  cases hr : readP s with
  | none => simp [leftV]
  | some l =>
    obtain ⟨hg, hl⟩ := readP_good hr
    have := hg.says.made
    have := hg.says.le
    have := leftT_le (livesL l)
    show (leftT (livesL l)).length ≤ 600
    omega

theorem resSLeft (W : World) (v b : Value) (tmps : Array Value) (h2 : tmps.getD 2 undef = v) (h3 : tmps.getD 3 undef = b) : (results Tryd.f29 tmps).run Tryd.prog W = .ok (.tuple #[v, b]) W := by
  have h2' : tmps[2]?.getD undef = v := by simpa using h2
  have h3' : tmps[3]?.getD undef = b := by simpa using h3
  simp [results, Tryd.results29, go_sem, h2', h3']
theorem resLeft (W : World) (v b : Value) (tmps : Array Value) (h2 : tmps.getD 2 undef = v) (h3 : tmps.getD 3 undef = b) : (results Tryd.f30 tmps).run Tryd.prog W = .ok (.tuple #[v, b]) W := by
  have h2' : tmps[2]?.getD undef = v := by simpa using h2
  have h3' : tmps[3]?.getD undef = b := by simpa using h3
  simp [results, Tryd.results30, go_sem, h2', h3']

theorem lrow_at {w : World} {v : Value} {s : List Lf} (h : LRow w v s) : ∃ a c, v = .slice a s.length c ∧ ∀ (may : Nat → Prop) i wr, Keeps may w wr → (∀ g, v.ownBlock = some g → ¬ may g) → i < s.length → ∃ g f, a = some ⟨g, 0, none⟩ ∧ s.length ≤ c ∧ s[i]? = some f ∧ wr.cell? ⟨g, i * 3, none⟩ = some (.int .i64 f.b) ∧ wr.cell? ⟨g, i * 3 + 1, none⟩ = some (.int .i64 f.u) ∧ wr.cell? ⟨g, i * 3 + 2, none⟩ = some (.int .i64 f.d) := by
  obtain ⟨a, c, rfl⟩ := row_shape (ok := fun _ => True) ⟨h, fun _ _ => trivial⟩
  refine ⟨a, c, rfl, fun may i wr q hm hi => ?_⟩
  obtain ⟨g, d, e, hc, hgl, hh⟩ := row_capM (ok := fun _ => True) h (by omega)
  simp only [Value.slice.injEq, true_and] at e
  obtain ⟨rfl, rfl⟩ := e
  have hx := List.getElem?_eq_getElem (l := s) (i := i) (by omega)
  obtain ⟨g0, g1, g2⟩ := lfC_get s i _ hx
  rw [show 3 * i = i * 3 by omega] at g0 g1 g2
  have hn : ¬ may g := hm g rfl
  exact ⟨g, _, rfl, hc, hx, (q.cell (p := ⟨g, i * 3, none⟩) hgl hn).trans (hh _ _ g0).1, (q.cell (p := ⟨g, i * 3 + 1, none⟩) hgl hn).trans (hh _ _ g1).1, (q.cell (p := ⟨g, i * 3 + 2, none⟩) hgl hn).trans (hh _ _ g2).1⟩

/-- What the model's loop holds: block B is the list's first. -/
def SLeAt (w w2 : World) (B : Nat) (s : List Lf) (vo vi : Value) (wr : World) : Prop :=
  ∃ i : Nat, i ≤ s.length ∧ vi = .int .i64 (i : Int) ∧ NRow wr vo (leftT (s.take i)) ∧ (∀ g, vo.ownBlock = some g → g = B ∨ w2.heap.size ≤ g) ∧ Keeps noB w wr ∧ Keeps (oneB B) w2 wr

set_option maxRecDepth 100000 in
set_option maxHeartbeats 8000000 in
theorem sleft_any (s : ByteArray) (hs : s.size ≤ 1048576) (w : World) : Calls Tryd.prog 29 #[.string s] w (NumsOfP w (leftV (readP s)) (readP s).isSome) := by
  obtain ⟨i0, hi, hz0, hz1, hz2⟩ := info_parts Tryd.infoI3
  have HI := Lib.hid (And.intro hi (And.intro hz0 (And.intro hz1 hz2)))
  have hgl : Good ((readP s).getD []) ∧ ((readP s).getD []).length ≤ 600 := by
    cases hr : readP s with
    | none => exact ⟨.nil, by simp⟩
    | some l => exact readP_good hr
  have hv : leftV (readP s) = leftT (livesL ((readP s).getD [])) := by
    cases hr : readP s with
    | none => rfl
    | some l => rfl
  obtain ⟨hg, hl⟩ := hgl
  have H := Lib.hid (fun w => read_any s hs w)
  unfold ReadPost at H
  rw [hv]
  generalize (readP s).getD [] = l at *
  generalize (readP s).isSome = bv at *
  have HL := Lib.hid (fun v w h => lives_any v l hg hl w h)
  have hle : (livesL l).length ≤ 600 := by have := hg.says.made; have := hg.says.le; omega
  generalize livesL l = L at *
  have o1 := World.ownsRow_made w #[] 0 (e := 3) (size := 1) (Nat.zero_le _) (by simp [maxLen]) rfl
  have HO := Lib.hid (And.intro o1 ((Keeps.refl noB w).alloc (.cells #[] 3)))
  clear hg hl hv o1 hi hz0 hz1 hz2
  go_enter Tryd.func29, Tryd.ntmps29
  go_wp2_with fail
  refine (H.out _).mono ?_
  rintro e w1 ⟨v, rfl, hrow, _, q1⟩
  have HQ := Lib.hid q1
  have HRW := Lib.hid hrow
  clear q1 hrow
  go_wp2_with fail
  refine (HL.out _ _ HRW.out).mono ?_
  rintro e w2 ⟨v2, rfl, hrow2, hf2, q2⟩
  have hsz1 := HQ.out.size
  simp only [World.size_alloc] at hsz1
  have hsz2 := q2.size
  have HQ2 := Lib.hid (And.intro (HO.out.2.trans (HQ.out.trans q2)) (HQ.out.trans q2))
  obtain ⟨a, c, rfl, hR⟩ := lrow_at hrow2
  obtain ⟨N, hN⟩ : ∃ N, N = L.length := ⟨_, rfl⟩
  have HR : Hid (∀ i wr, Keeps (oneB w.heap.size) w2 wr → i < L.length → ∃ g f, a = some ⟨g, 0, none⟩ ∧ L.length ≤ c ∧ L[i]? = some f ∧ wr.cell? ⟨g, i * 3, none⟩ = some (.int .i64 f.b) ∧ wr.cell? ⟨g, i * 3 + 1, none⟩ = some (.int .i64 f.u) ∧ wr.cell? ⟨g, i * 3 + 2, none⟩ = some (.int .i64 f.d)) :=
    fun i wr q hi => hR _ i wr q (fun g hg e => by have := hf2 g hg; have e : g = w.heap.size := e; omega) hi
  rw [← hN] at HR hle ⊢
  have HN := Lib.hid hN
  clear q2 hrow2 hR hN HRW hf2
  have HP : Hid (SLeAt w w2 w.heap.size L (.slice (some ⟨w.heap.size, 0, none⟩) 0 0) (.int .i64 0) w2) :=
    ⟨0, Nat.zero_le _, rfl, HQ2.out.2.ownsRow HO.out.1 (fun _ _ _ e => e), fun g hg => .inl (by simpa [Value.ownBlock] using hg.symm), HQ2.out.1, Keeps.refl _ _⟩
  have HS2 := Lib.hid (And.intro hsz1 hsz2)
  clear hsz1 hsz2
  go_wp2_with fail
  go_loopw [4, 18] (fun vo vi wr => SLeAt w w2 w.heap.size L vo vi wr) (fun _ vi _ => N - (intOf vi).toNat)
  case atStart => exact HP.out
  case round =>
    clear HP
    obtain ⟨i, hin, rfl, hrow, hfr, hq, hq2⟩ := hrel
    rw [← HN.out] at hin
    obtain ⟨T, hT⟩ : ∃ T, T = leftT (L.take i) := ⟨_, rfl⟩
    rw [← hT] at hrow
    have hTl : T.length ≤ i := by
      rw [hT]
      refine Nat.le_trans (leftT_le _) ?_
      rw [List.length_take]; omega
    obtain ⟨a', c', rfl⟩ := hrow.shape
    obtain ⟨nL, hnL⟩ : ∃ nL, nL = T.length := ⟨_, rfl⟩
    by_cases hlt : i < N
    · obtain ⟨g, f, rfl, hc, hm, r1, r2, r3⟩ := HR.out i wr hq2 hlt
      have hi1 : (i : Int) < (N : Int) := by omega
      have hi2 : (N : Int) ≤ (c : Int) := by omega
      have hi6 : (i : Int) ≤ 600 := by omega
      have hstep := leftT_take hm
      rw [← hT] at hstep
      by_cases hd : f.d < 0
      · have hS := And.intro hrow (And.intro hfr (And.intro hq (And.intro hq2 (And.intro hnL (by rw [if_pos (show leftL f = true by unfold leftL; exact decide_eq_true hd)] at hstep; exact hstep)))))
        have HS := Lib.hid hS
        rw [← hnL] at hTl ⊢
        obtain ⟨LV, hLV⟩ : ∃ LV, LV = T.map i64 := ⟨_, rfl⟩
        have HOW : Hid (wr.ownsRow 0 3 1 (.slice a' nL c') nL LV) := by rw [hnL, hLV]; exact hrow
        have hn1 : nL ≤ 600 := by omega
        have HLV := Lib.hid hLV
        have HNL := Lib.hid hnL
        clear hS hstep hm hT hrow hfr hq hq2 hLV hnL hTl
        obtain ⟨hi1', hz0, hz1, hz2⟩ := HI.out
        go_wp2_with (at_builtin; refine wpList_append_fresh _ rfl _ _ 28 rfl 3 i0 _ 1 8 Tryd.underlying28 hi1' hz0 hz1 hz2 rfl (by decide) (.slice a' nL c') nL LV rfl ((((Keeps.refl noB wr).alloc _).alloc _).ownsRow HOW.out (fun _ _ _ e => e)) ⟨wr.heap.size + 1, 0, none⟩ 1 1 [.int .i64 ((i : Int) + 1)] rfl rfl (by have h := cells_one (wr.alloc (.cells #[.int .i64 f.b, .int .i64 f.u, .int .i64 f.d] 52)) (.int .i64 ((i : Int) + 1)) 3; rw [World.size_alloc] at h; exact h) (by intro u hu; simp at hu; subst hu; rfl) (by unfold maxLen; omega) (by omega) ?_)
        intro v' w3 hown' hgrow hfresh
        have hnew : SLeAt w w2 w.heap.size L v' (.int .i64 ((i : Int) + 1)) w3 := by
          obtain ⟨h1, h2, h3, h3', h4, h5⟩ := HS.out
          have qa : Keeps (fun g => (Value.slice a' nL c').ownBlock = some g) wr w3 := (((Keeps.refl _ wr).alloc _).alloc _).grown hgrow (fun g hg => .inl hg)
          have h2 : ∀ g, (Value.slice a' nL c').ownBlock = some g → g = w.heap.size ∨ w2.heap.size ≤ g := by rw [HNL.out]; exact h2
          have hS2 := HS2.out
          refine ⟨i + 1, by rw [← HN.out]; omega, by go_num, ?_, ?_, h3.transNew qa (fun i hi e => by rcases h2 i e with h | h <;> omega), h3'.transNew qa (fun i hi e => by rcases h2 i e with h | h; exact h; omega)⟩
          · rw [h5]
            unfold NRow
            rw [List.length_append, List.map_append, ← HNL.out, ← HLV.out]
            exact hown'
          · intro g hg
            rcases hfresh with h | h
            · exact h2 g (h ▸ hg)
            · have := h g hg; have := h3'.size; simp at *; omega
        obtain ⟨a2, c2, rfl⟩ := row_shape (ok := fun _ => True) ⟨hown', fun _ _ => trivial⟩
        have HE := Lib.hid hnew
        clear hown' hgrow hfresh hnew
        go_wp2_with fail
        go_roundw
        case rel => exact HE.out
        case measure => simp [intOf]; omega
      · have HE : Hid (∀ W', Keeps noB wr W' → SLeAt w w2 w.heap.size L (.slice a' nL c') (.int .i64 ((i : Int) + 1)) W') := fun W' q => by
          rw [if_neg (show ¬ leftL f = true by unfold leftL; simp [hd]), List.append_nil] at hstep
          rw [hnL]
          exact ⟨i + 1, by rw [← HN.out]; omega, by go_num, by rw [hstep]; exact hrow.keeps q (fun _ _ e => e), hfr, hq.trans q, hq2.trans (q.mono (fun _ e => e.elim))⟩
        rw [← hnL]
        clear hstep hm hT hTl hnL hrow hfr hq hq2
        go_wp2_with fail
        go_roundw
        case rel => exact HE.out _ ((Keeps.refl _ _).alloc _)
        case measure => simp [intOf]; omega
    · have HE : Hid (NumsOfP w (leftT L) bv (.returned (.tuple #[.slice a' nL c', .bool bv])) wr) := by
        rw [List.take_of_length_le (by have := HN.out; omega)] at hT
        rw [← hT, hnL]
        exact ⟨_, rfl, hrow, fun g hg => by have := HS2.out; rcases hfr g hg with h | h <;> omega, hq⟩
      have hi1 : ¬ (i : Int) < (N : Int) := by omega
      rw [← hnL]
      clear hT hTl hnL hrow hfr hq hq2
      go_wp2_with fail
      refine bodyPost_ret (resSLeft _ _ _ _ rfl rfl) rfl ?_
      exact HE.out

/-- What the program's loop holds. -/
def LeAt (w2 : World) (n : Nat) (T : List Nat) (vo vi : Value) (wr : World) : Prop :=
  ∃ i : Nat, i ≤ n ∧ vi = .int .i64 (i : Int) ∧ NRow wr vo (T.take i) ∧ (∀ g, vo.ownBlock = some g → w2.heap.size ≤ g) ∧ Keeps noB w2 wr

set_option maxRecDepth 100000 in
set_option maxHeartbeats 8000000 in
theorem leftOver_any (s : ByteArray) (hs : s.size ≤ 1048576) (w : World) (hE : Env w) : Calls Tryd.prog 30 #[.string s] w (NumsOfP w (leftV (readP s)) (readP s).isSome) := by
  obtain ⟨i0, hi, hz0, hz1, hz2⟩ := info_parts Tryd.infoI3
  have HI := Lib.hid (And.intro hi (And.intro hz0 (And.intro hz1 hz2)))
  have H := Lib.hid (historyOf_any s hs w hE)
  clear hE hi hz0 hz1 hz2
  cases hr : readP s with
  | none =>
    rw [hr] at H
    go_enter Tryd.func30, Tryd.ntmps30
    go_wp2_with fail
    refine H.out.mono ?_
    rintro e w1 ⟨⟨tp, q, rfl⟩, q1⟩
    have HQ := Lib.hid q1
    clear q1
    go_wp2_with fail
    refine bodyPost_ret (resLeft _ _ _ _ rfl rfl) rfl ?_
    exact ⟨_, rfl, ⟨rfl, .inl ⟨rfl, rfl⟩⟩, fun g hg => by simp [Value.ownBlock] at hg, HQ.out⟩
  | some l =>
    obtain ⟨hg, hl⟩ := readP_good hr
    rw [hr] at H
    have HL := Lib.hid (fun w H own ve vl h => lives_leftL w H own l ve vl h hg hl)
    have HV := Lib.hid (fun w H own ve vl h f j hj => valueOf_any w H own l ve vl h hg hl f j hj)
    have hle : ((livesL l).filter leftL).length ≤ 600 := by have := hg.says.made; have := hg.says.le; have := List.length_filter_le leftL (livesL l); omega
    have hll : (livesL l).length ≤ 600 := by have := hg.says.made; have := hg.says.le; omega
    obtain ⟨T, hT⟩ : ∃ T, T = leftT (livesL l) := ⟨_, rfl⟩
    have hTlen : T.length = ((livesL l).filter leftL).length := by rw [hT, leftT_len]
    have HT : Hid (∀ (i : Nat) (f : Lf), ((livesL l).filter leftL)[i]? = some f → ∃ j : Nat, T[i]? = some (j + 1) ∧ (livesL l)[j]? = some f ∧ j ≤ 600) := Lib.hid (fun i f h => by
      obtain ⟨j, h1, h2⟩ := leftT_get h
      exact ⟨j, by rw [hT]; exact h1, h2, by have := (List.getElem?_eq_some_iff.1 h2).1; omega⟩)
    show Calls _ _ _ _ (NumsOfP w (leftT (livesL l)) true)
    rw [← hT]
    generalize hLL : (livesL l).filter leftL = L at *
    clear hg hl hr hT hLL hll
    go_enter Tryd.func30, Tryd.ntmps30
    go_wp2_with fail
    refine H.out.mono ?_
    rintro e w1 ⟨⟨H1, own, ve, vl, rfl, hh, _⟩, q1⟩
    have HQ := Lib.hid q1
    have HH := Lib.hid hh
    clear q1 hh
    go_wp2_with fail
    refine (HL.out _ _ _ _ _ HH.out).mono ?_
    rintro e w2 ⟨v2, rfl, hrow2, _, q2⟩
    have HQ2 := Lib.hid (HQ.out.trans q2)
    have HH2 := Lib.hid (HH.out.keeps q2 (fun _ _ e => e))
    obtain ⟨a, c, rfl, hR⟩ := lrow_at hrow2
    obtain ⟨N, hN⟩ : ∃ N, N = L.length := ⟨_, rfl⟩
    have HR : Hid (∀ i wr, Keeps noB w2 wr → i < L.length → ∃ g f, a = some ⟨g, 0, none⟩ ∧ L.length ≤ c ∧ L[i]? = some f ∧ wr.cell? ⟨g, i * 3, none⟩ = some (.int .i64 f.b) ∧ wr.cell? ⟨g, i * 3 + 1, none⟩ = some (.int .i64 f.u) ∧ wr.cell? ⟨g, i * 3 + 2, none⟩ = some (.int .i64 f.d)) := fun i wr q hi => hR _ i wr q (fun _ _ e => e) hi
    rw [← hN] at HR hle hTlen ⊢
    have HN := Lib.hid hN
    have HTL := Lib.hid hTlen
    clear q2 hrow2 hR hN HH hTlen
    have HP : Hid (LeAt w2 N T (.slice none 0 0) (.int .i64 0) w2) := ⟨0, Nat.zero_le _, rfl, ⟨rfl, .inl ⟨rfl, rfl⟩⟩, fun g hg => by simp [Value.ownBlock] at hg, Keeps.refl _ _⟩
    go_wp2_with fail
    go_loopw [6, 19] (fun vo vi wr => LeAt w2 N T vo vi wr) (fun _ vi _ => N - (intOf vi).toNat)
    case atStart => exact HP.out
    case round =>
      clear HP
      obtain ⟨i, hin, rfl, hrow, hfr, hq⟩ := hrel
      have hTl : (T.take i).length = i := by rw [List.length_take]; have := HTL.out; omega
      obtain ⟨a', c', rfl⟩ := hrow.shape
      rw [hTl] at hfr ⊢
      by_cases hlt : i < N
      · obtain ⟨g, f, rfl, hc, hm, r1, r2, r3⟩ := HR.out i wr hq hlt
        have hi1 : (i : Int) < (N : Int) := by omega
        have hi2 : (N : Int) ≤ (c : Int) := by omega
        have hi6 : i ≤ 600 := by omega
        obtain ⟨j, ht, hj, hj6⟩ := HT.out i f hm
        have HS := Lib.hid (And.intro hrow (And.intro hfr (And.intro hq ht)))
        obtain ⟨LV, hLV⟩ : ∃ LV, LV = (T.take i).map i64 := ⟨_, rfl⟩
        have HOW : Hid (wr.ownsRow 0 3 1 (.slice a' i c') i LV) := by have h := hrow; unfold NRow at h; rw [hTl, ← hLV] at h; exact h
        have HLV := Lib.hid hLV
        have HVC : Hid (∀ W, Keeps noB wr W → Calls Tryd.prog 45 #[.pointer (some ⟨H1, 0, none⟩), .agg #[.int .i64 f.b, .int .i64 f.u, .int .i64 f.d]] W fun e w' => e = .returned (.int .i64 ((j : Int) + 1)) ∧ Keeps noB wr w') := fun W q =>
          (HV.out W H1 own ve vl (HH2.out.keeps (hq.trans q) (fun _ _ e => e)) f j hj).mono (fun e w' hp => ⟨hp.1, q.trans hp.2⟩)
        have q0 := Lib.hid ((Keeps.refl noB wr).alloc (.cells #[.int .i64 f.b, .int .i64 f.u, .int .i64 f.d] 52))
        clear hm hrow hfr hq hLV hTl ht hj
        obtain ⟨hi1', hz0, hz1, hz2⟩ := HI.out
        go_wp2_with (first | (go_at_call 45; refine (HVC.out _ q0.out).mono ?_; rintro e w5 ⟨rfl, q5⟩; have Q5 := Lib.hid q5; clear q5) | (at_builtin; refine wpList_append_fresh _ rfl _ _ 28 rfl 3 i0 _ 1 8 Tryd.underlying28 hi1' hz0 hz1 hz2 rfl (by decide) (.slice a' i c') i LV rfl ((Q5.out.alloc _).ownsRow HOW.out (fun _ _ _ e => e)) ⟨w5.heap.size, 0, none⟩ 1 1 [.int .i64 ((j : Int) + 1)] rfl rfl (cells_one w5 (.int .i64 ((j : Int) + 1)) 3) (by intro u hu; simp at hu; subst hu; rfl) (by unfold maxLen; omega) (by omega) ?_))
        intro v' w3 hown' hgrow hfresh
        have hnew : LeAt w2 N T v' (.int .i64 ((i : Int) + 1)) w3 := by
          obtain ⟨h1, h2, h3, h4⟩ := HS.out
          have qa : Keeps (fun g => (Value.slice a' i c').ownBlock = some g) wr w3 := ((Q5.out.alloc _).mono (fun _ e => e.elim)).grown hgrow (fun g hg => .inl hg)
          refine ⟨i + 1, hlt, by go_num, ?_, ?_, h3.transNew qa (fun i hi e => by have := h2 i e; omega)⟩
          · rw [List.take_add_one, h4]
            unfold NRow
            have hTl : (T.take i).length = i := by rw [List.length_take]; have := HTL.out; omega
            rw [List.length_append, List.map_append, hTl, ← HLV.out]
            exact hown'
          · intro g hg
            rcases hfresh with h | h
            · exact h2 g (h ▸ hg)
            · have := h g hg; have := h3.size; have := Q5.out.size; simp at *; omega
        obtain ⟨a2, c2, rfl⟩ := row_shape (ok := fun _ => True) ⟨hown', fun _ _ => trivial⟩
        have HE := Lib.hid hnew
        clear hown' hgrow hfresh hnew
        go_wp2_with fail
        go_roundw
        case rel => exact HE.out
        case measure => simp [intOf]; omega
      · have hiN : i = N := by omega
        have HE : Hid (NumsOfP w T true (.returned (.tuple #[.slice a' i c', .bool true])) wr) := by
          have h := hrow
          rw [List.take_of_length_le (by have := HTL.out; omega)] at h
          have e : T.length = i := by have := HTL.out; omega
          rw [e] at h
          exact ⟨_, rfl, h, fun g hg => Nat.le_trans HQ2.out.size (hfr g hg), HQ2.out.trans hq⟩
        have hi1 : ¬ (i : Int) < (N : Int) := by omega
        clear hrow hfr hq hTl hiN
        go_wp2_with fail
        refine bodyPost_ret (resLeft _ _ _ _ rfl rfl) rfl ?_
        exact HE.out

end Go.Proofs.YtnjkaojgcnepdaaDoor

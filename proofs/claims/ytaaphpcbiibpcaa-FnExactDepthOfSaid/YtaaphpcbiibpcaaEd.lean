/-
  Walks of the model: StepsOf.
-/
import Derived.Test.YtaaphpcbiibpcaaEc
import Derived.Test.YtaaphpcbiibpcaaPa
namespace Go.Proofs.Ytaaphpcbiibpcaa
set_option linter.unusedVariables false
set_option linter.unusedSimpArgs false
open Go.RowKit

theorem Try.info3 : (Try.prog.info? 3).map (fun i => (i.zero, i.size, i.bytes)) = some (some (.int .i64 0), 1, 8) := by kernel_rfl

/-- The six cells of a node in a row of nodes. -/
structure NodeAt (w : World) (g o : Nat) (x : Nd) (a : Option Addr) (n m : Nat) : Prop where
  s0 : w.cell? ⟨g, o, none⟩ = some (u8 x.kind)
  s1 : w.cell? ⟨g, o + 1, none⟩ = some (i64 x.beg)
  s2 : w.cell? ⟨g, o + 2, none⟩ = some (i64 x.fin)
  s3 : w.cell? ⟨g, o + 3, none⟩ = some (str x.vars)
  s4 : w.cell? ⟨g, o + 4, none⟩ = some (.slice a n m)
  s5 : w.cell? ⟨g, o + 5, none⟩ = some (str x.scope)

theorem node_at {w wr : World} {ok : Nat → Prop} {g j : Nat} {cs : List Value} {z : Nd} {r : Nds} (hcell : ∀ j u, cs[j]? = some u → wr.cell? ⟨g, j, none⟩ = some u) (h : RepSL w ok (.cons z r) (cs.drop (j * 6))) :
    (∃ a n m, NodeAt wr g (j * 6) z a n m) ∧ RepSL w ok r (cs.drop ((j + 1) * 6)) := by
  cases z with
  | mk c k e vs ar bs =>
  simp only [RepSL, RepS] at h
  obtain ⟨d1, d2, hd, ⟨vb, n, xs, rfl, hr, _⟩, h2⟩ := h
  obtain ⟨a, m, rfl⟩ := row_slice hr
  have hcs : ∀ i u, [u8 c, i64 k, i64 e, str vs, Value.slice a n m, str ar][i]? = some u → wr.cell? ⟨g, j * 6 + i, none⟩ = some u := by
    intro i u hu
    refine hcell _ _ ?_
    have h0 : (cs.drop (j * 6))[i]? = some u := by
      rw [hd, List.getElem?_append_left (by
        have := (List.getElem?_eq_some_iff.1 hu).1
        exact this)]
      exact hu
    simpa using h0
  refine ⟨⟨a, n, m, hcs 0 _ rfl, hcs 1 _ rfl, hcs 2 _ rfl, hcs 3 _ rfl, hcs 4 _ rfl, hcs 5 _ rfl⟩, ?_⟩
  have e1 : cs.drop ((j + 1) * 6) = (cs.drop (j * 6)).drop 6 := by rw [List.drop_drop, Nat.succ_mul]
  rw [e1, hd]
  exact h2

/-- What StepsOf has put into its list. -/
def StepsAt (w w1 : World) (ok : Nat → Prop) (all : List Nd) (cs : List Value) (g : Nat) (v vi : Value) (wr : World) : Prop :=
  ∃ (i : Nat) (pre : List Nd) (y : Nds), vi = .int .i64 i ∧ i = pre.length ∧ all.length < i + g ∧ pre ++ y.list = all ∧ RepSL w1 ok y (cs.drop (i * 6)) ∧
    wr.ownsRow 0 3 1 v pre.length (pre.map fun x => i64 x.beg) ∧ (∀ g, v.ownBlock = some g → g = w.heap.size ∨ w1.heap.size ≤ g) ∧ w.heap.size < w1.heap.size ∧ Keeps noB w wr ∧ Keeps (oneB w.heap.size) w1 wr

/-- The answer of StepsOf. -/
def StepsPost (w : World) (res : Option Nd) (e : Ending) (w' : World) : Prop :=
  ∃ v b xs, e = .returned (.tuple #[v, .bool b]) ∧ Row w' (fromB w.heap.size) 3 1 v xs.length xs ∧ Keeps noB w w' ∧ b = res.isSome ∧
    xs = match res with | none => [] | some x => x.pre.list.map fun x => i64 x.beg

theorem res15 (W : World) (v b : Value) (tmps : Array Value) (h2 : tmps.getD 2 undef = v) (h3 : tmps.getD 3 undef = b) : (results Try.f12 tmps).run Try.prog W = .ok (.tuple #[v, b]) W := by
  have h2' : tmps[2]?.getD undef = v := by simpa using h2
  have h3' : tmps[3]?.getD undef = b := by simpa using h3
  simp [results, Try.results12, go_sem, h2', h3']

set_option maxRecDepth 100000 in
set_option maxHeartbeats 4000000 in
theorem ssteps_any (s : ByteArray) (hs : s.size ≤ 1048576) (w : World) : Calls Try.prog 12 #[.string s] w (StepsPost w (progP s)) := by
  obtain ⟨i0, hi, hz0, hz1, hz2⟩ := info_parts Try.info3
  have HI := Lib.hid (And.intro hi (And.intro hz0 (And.intro hz1 hz2)))
  have H := Lib.hid (sread_any s hs (w.alloc (.cells #[] 3)))
  have HF := Lib.hid (fun x => progP_few (s := s) (x := x))
  generalize progP s = res at *
  clear hi hz0 hz1 hz2
  cases res with
  | none =>
    go_enter Try.func12, Try.ntmps12
    go_wp2_with fail
    refine H.out.mono ?_
    rintro e w1 ⟨⟨x0, x1, x2, x3, x4, x5, x6, x7, rfl⟩, q1⟩
    have hnv : nodeV x0 x1 x2 x3 x4 x5 x6 x7 = .agg #[.int .u8 x0, .int .i64 x1, .int .i64 x2, .string x3, .slice x4 x5 x6, .string x7] := rfl
    go_wp2_with fail
    refine bodyPost_ret (res15 _ _ _ _ rfl rfl) rfl ?_
    refine ⟨_, _, [], rfl, ⟨?_, ?_⟩, (((Keeps.refl _ w).alloc _).trans q1).alloc _, rfl, rfl⟩
    · exact ((q1.ownsRow (World.ownsRow_made w #[] 0 (Nat.zero_le _) (by simp [maxLen]) rfl) (fun _ _ _ e => e))).alloc _
    · intro g hg; simp [Value.ownBlock] at hg; simp [fromB]; omega
  | some x =>
    go_enter Try.func12, Try.ntmps12
    go_wp2_with fail
    refine H.out.mono ?_
    rintro e w1 ⟨x0, x1, x2, x3, x4, x5, x6, x7, rfl, hx, q1⟩
    have hnv : nodeV x0 x1 x2 x3 x4 x5 x6 x7 = .agg #[.int .u8 x0, .int .i64 x1, .int .i64 x2, .string x3, .slice x4 x5 x6, .string x7] := rfl
    have HX := Lib.hid hx
    clear hx
    have hw1 := q1.size
    have hw0 : (w.alloc (.cells #[] 3)).heap.size = w.heap.size + 1 := by simp
    have HE := Lib.hid (each_all x.pre.len x _ (w1.alloc (.cells #[.int .u8 x0, .int .i64 x1, .int .i64 x2, .string x3, .slice x4 x5 x6, .string x7] 61)) (fun g => w.heap.size + 1 ≤ g ∧ g < w1.heap.size) rfl (by have := HF.out x rfl; omega)
      ((Hands.of_keeps (ok := fromB (w.alloc (.cells #[] 3)).heap.size) ((Keeps.refl noB w1).alloc _) (fun g _ _ e => e) (fun g hg hl => ⟨by simpa [fromB, hw0] using hg, hl⟩)).repS x _ HX.out) (fun g hg => by have := hg.2; simp; omega))
    go_wp2_with fail
    refine HE.out.mono ?_
    rintro e w2 ⟨v, rfl, hout⟩
    obtain ⟨hp0, cs, hown, hrep, hfrom, q2⟩ := hout
    obtain ⟨g, n, hv, _, hg, hcell⟩ := row_at (ok := fun _ => True) ⟨hown, fun _ _ => trivial⟩ hp0
    subst hv
    have hgf : w1.heap.size + 1 ≤ g := by have := hfrom g rfl; simpa using this
    have HQ := Lib.hid (And.intro q1 q2)
    have HP : Hid (StepsAt w w2 (fun i => w.heap.size + 1 ≤ i) x.pre.list cs (x.pre.len + 1) (.slice (some ⟨w.heap.size, 0, none⟩) 0 0) (.int .i64 0) w2) := by
      have qq : Keeps noB (w.alloc (.cells #[] 3)) w2 := (q1.alloc _).trans q2
      refine ⟨0, [], x.pre, rfl, rfl, by rw [Nds.list_len]; omega, rfl, ?_, ?_, ?_, by have := qq.size; omega, ((Keeps.refl _ w).alloc _).trans qq, Keeps.refl _ _⟩
      · exact (Hands.of_keeps (ok := fun g => w.heap.size + 1 ≤ g ∧ g < w1.heap.size) (Keeps.refl noB w2) (fun g _ _ e => e) (fun g hg _ => hg.1)).repSL _ _ (by simpa using hrep)
      · exact qq.ownsRow (World.ownsRow_made w #[] 0 (Nat.zero_le _) (by simp [maxLen]) rfl) (fun _ _ _ e => e)
      · intro g hg; exact .inl (by simpa [Value.ownBlock] using hg.symm)
    have hxl := (HF.out x rfl)
    have hpl : x.pre.len ≤ 80 := by omega
    have HR := Lib.hid (And.intro hcell hown)
    clear hown hrep hfrom q1 q2 hcell
    go_upto_region 6 with fail
    go_loopg [4, 21] (x.pre.len + 1) (fun g v vi wr => StepsAt w w2 (fun i => w.heap.size + 1 ≤ i) x.pre.list cs g v vi wr)
    case atStart => exact HP.out
    case round =>
      clear HP
      obtain ⟨i, pre, y, rfl, hi, hgk, hpre, hy, hrow, hfr, hww, hq, hq2⟩ := hrel
      cases gk with
      | zero => rw [← hpre] at hgk; simp at hgk; omega
      | succ gk =>
      have hil := congrArg List.length hpre
      rw [List.length_append, Nds.list_len, Nds.list_len, ← hi] at hil
      rw [← hi] at hrow
      obtain ⟨a, c, rfl⟩ := row_slice (ok := fun _ => True) ⟨hrow, fun _ _ => trivial⟩
      cases y with
      | nil =>
        simp only [Nds.len] at hil
        have hd : ¬ i < x.pre.len := by omega
        have HO := Lib.hid (And.intro hpre (And.intro hrow (And.intro hfr hq)))
        clear hpre hrow hfr hq hq2 hy
        go_wp2_with fail
        refine bodyPost_ret (res15 _ _ _ _ rfl rfl) rfl ?_
        obtain ⟨h1, h2, h3, h4⟩ := HO.out
        simp only [Nds.list, List.append_nil] at h1
        refine ⟨_, _, x.pre.list.map fun x => i64 x.beg, rfl, ⟨?_, ?_⟩, h4, rfl, rfl⟩
        · rw [← h1, List.length_map, ← hi]; exact h2
        · intro v hv; have := h3 v (by simpa using hv); show w.heap.size ≤ v; omega
      | cons z y3 =>
        simp only [Nds.len] at hil
        have hd : i < x.pre.len := by omega
        have hcw : ∀ j u, cs[j]? = some u → wr.cell? ⟨g, j, none⟩ = some u := fun j u hu =>
          (hq2.cell (p := ⟨g, j, none⟩) hg (fun e => by simp [oneB] at e; omega)).trans (HR.out.1 j u hu)
        obtain ⟨⟨na, nn, nm, hn⟩, hy3⟩ := node_at hcw hy
        have s0 : wr.cell? ⟨g, i * 6, none⟩ = some (.int .u8 _) := hn.s0
        have s1 : wr.cell? ⟨g, i * 6 + 1, none⟩ = some (.int .i64 _) := hn.s1
        have s2 : wr.cell? ⟨g, i * 6 + 2, none⟩ = some (.int .i64 _) := hn.s2
        have s3 : wr.cell? ⟨g, i * 6 + 3, none⟩ = some (.string _) := hn.s3
        have s4 := hn.s4
        have s5 : wr.cell? ⟨g, i * 6 + 5, none⟩ = some (.string _) := hn.s5
        have HO := Lib.hid (And.intro hpre (And.intro hrow (And.intro hfr (And.intro hq (And.intro hq2 (And.intro hy3 (And.intro hi hil)))))))
        clear hpre hrow hfr hq hq2 hy hcw hn hy3 hil hi
        obtain ⟨hi1, hz0, hz1, hz2⟩ := HI.out
        go_upto_region 8 with fail
        go_wp2_with (at_builtin; refine wpList_append_fresh _ rfl _ _ 24 rfl 3 i0 _ 1 8 Try.underlying24 hi1 hz0 hz1 hz2 rfl (by decide) (.slice a i c) i (pre.map fun x => i64 x.beg) rfl ?own ⟨wr.heap.size + 1, 0, none⟩ 1 1 [i64 z.beg] rfl ?c1 ?c2 ?c3 ?c4 ?c5 ?_)
        case own => exact (HO.out.2.1.alloc _).alloc _
        case c1 => rfl
        case c2 =>
          intro j u hu
          have h := cells_one (wr.alloc (.cells #[.int .u8 z.kind.toNat, .int .i64 z.beg, .int .i64 z.fin, .string ⟨z.vars.toArray⟩, .slice na nn nm, .string ⟨z.scope.toArray⟩] 61)) (i64 z.beg) 3 j u hu
          rw [World.size_alloc] at h
          exact h
        case c3 => intro u hu; simp at hu; subst hu; rfl
        case c4 => unfold maxLen; omega
        case c5 => omega
        intro v' w3 hown' hgrow hfresh
        have hnew : StepsAt w w2 (fun i => w.heap.size + 1 ≤ i) x.pre.list cs gk v' (.int .i64 ((i + 1 : Nat) : Int)) w3 := by
          obtain ⟨hpre, hrow, hfr, hq, hq2, hy3, hi, hil⟩ := HO.out
          have hqs := hq.size
          have hqs2 := hq2.size
          have qa : Keeps (fun g => (Value.slice a i c).ownBlock = some g) wr w3 := (((Keeps.refl _ wr).alloc _).alloc _).grown hgrow (fun g hg => .inl hg)
          refine ⟨i + 1, pre ++ [z], y3, rfl, by simp [hi], by omega, by rw [← hpre]; simp [Nds.list], hy3, ?_, ?_, hww, ?_, ?_⟩
          · rw [List.length_append, ← hi, List.map_append]; exact hown'
          · intro g hg
            rcases hfresh with h | h
            · exact hfr g (h ▸ hg)
            · have := h g hg; simp at this; omega
          · exact hq.transNew qa (fun i hi e => by have := hfr i e; omega)
          · exact hq2.transNew qa (fun i hi e => by have := hfr i e; simp only [oneB]; omega)
        obtain ⟨a', c', rfl⟩ := row_slice (ok := fun _ => True) ⟨hown', fun _ _ => trivial⟩
        have HN := Lib.hid hnew
        clear hown' hgrow hfresh hnew
        go_wp2_with fail
        go_roundg gk
        case measure => omega
        case rel => exact HN.out

end Go.Proofs.Ytaaphpcbiibpcaa

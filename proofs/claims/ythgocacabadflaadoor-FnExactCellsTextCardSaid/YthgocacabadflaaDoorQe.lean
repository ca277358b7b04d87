/-
  The program's history: isAlive and add.
-/
import Derived.Test.YthgocacabadflaaDoorQa
import Derived.Test.YthgocacabadflaaDoorSv
import Derived.Test.YthgocacabadflaaDoorRg
import Derived.Deep.RegionWith
import Derived.BigRegion
namespace Go.Proofs.YthgocacabadflaaDoor
set_option linter.unusedVariables false
set_option linter.unusedSimpArgs false
open Go.RowKit

theorem Keeps.drewN {may : Nat → Prop} {a w : World} (h : Keeps may a w) (n : Nat) : Keeps may a (w.drewN n) := ⟨h.os, h.tape, h.output, h.size, h.block⟩

/-- append as one step of a region that draws. -/
theorem step_append_fresh {P : Program} {ops : Array Oper} {o : Oper} {a : Act} {w : World} {K : Act → World → Prop} {Q : Exit → Act → World → Prop} {E : Prop}
    (hgd : o.guard = none) (s x : Operand) (t : TypeId) (ho : o.op = .call { callee := .builtin .append, args := #[s, x], argTypes := #[t, t] })
    (e : TypeId) (i : TypeInfo) (z : Value) (size bytes : Nat) (ht : P.underlying t = some (.slice e)) (hi : P.info? e = some i) (hz : i.zero = some z)
    (hsize : i.size = size) (hby : i.bytes = bytes) (hzs : z.cells.size = size) (hsz : 0 < size)
    (v : Value) (n : Nat) (xs : List Value) (hs : a.eval s = v) (hown : w.ownsRow 0 e size v n xs)
    (ad : Addr) (m c : Nat) (news : List Value) (hx : a.eval x = .slice (some ad) m c) (hl : news.length = m * size) (hnews : ∀ j u, news[j]? = some u → w.cell? (ad.add j) = some u) (h1 : ∀ u ∈ news, u.oneCell' = true)
    (h63 : n + m ≤ maxLen) (hbytes : (n + m) * bytes ≤ 140737488355328)
    (h : ∀ v' w', w'.ownsRow 0 e size v' (n + m) (xs ++ news) → w.grownBy w' v.ownBlock → Fresh w v v' → K (a.put o.dst v') w') :
    if Region.wanted o (yielded ops a.tmps) = true then Oper.wp P o a w K Q else E := by
  have hw : Region.wanted o (yielded ops a.tmps) = true := by simp [Region.wanted, hgd]
  rw [if_pos hw]
  obtain ⟨v', w', hr, h2, h3, h4⟩ := run_append_fresh (P := P) w t o.type e i z size bytes ht hi hz hsize hby hzs hsz v n xs hown ad m c news hl hnews h1 h63 hbytes
  unfold Oper.wp execOp
  simp only [ho, resolve, invoke, builtin, Sem.run_bind, Sem.run_pure, Result.andThen_ok, List.map_toArray, List.map_cons, List.map_nil, hs, hx, hr]
  exact h v' w' h2 h3 h4

theorem Tryd.infoV63 : (Tryd.prog.info? 63).map (fun i => (i.zero, i.size, i.bytes)) = some (some (.agg #[.int .u8 0, .int .i64 0]), 2, 16) := by kernel_rfl
theorem Tryd.infoL41 : (Tryd.prog.info? 41).map (fun i => (i.zero, i.size, i.bytes)) = some (some (.agg #[.int .i64 0, .int .i64 0, .int .i64 0]), 3, 24) := by kernel_rfl

/-- Lives as cells. -/
def lfC (s : List Lf) : List Value := s.flatMap (fun f => [.int .i64 f.b, .int .i64 f.u, .int .i64 f.d])
theorem lfC_snoc (s : List Lf) (f : Lf) : lfC (s ++ [f]) = lfC s ++ [.int .i64 f.b, .int .i64 f.u, .int .i64 f.d] := by unfold lfC; simp
theorem lfC_len : ∀ s : List Lf, (lfC s).length = s.length * 3
  | [] => rfl
  | e :: r => by have := lfC_len r; unfold lfC at *; simp at *; omega
theorem lfC_get : ∀ (s : List Lf) (i : Nat) (f : Lf), s[i]? = some f → (lfC s)[3 * i]? = some (.int .i64 f.b) ∧ (lfC s)[3 * i + 1]? = some (.int .i64 f.u) ∧ (lfC s)[3 * i + 2]? = some (.int .i64 f.d)
  | [], i, e, h => by simp at h
  | x :: r, 0, e, h => by simp at h; subst h; exact ⟨rfl, rfl, rfl⟩
  | x :: r, i + 1, e, h => by
    have := lfC_get r i e (by simpa using h)
    have e1 : lfC (x :: r) = [.int .i64 x.b, .int .i64 x.u, .int .i64 x.d] ++ lfC r := rfl
    rw [e1, show 3 * (i + 1) = 3 * i + 3 by omega, show 3 * i + 3 + 1 = (3 * i + 1) + 3 by omega, show 3 * i + 3 + 2 = (3 * i + 2) + 3 by omega]
    exact this
theorem lfC_set_u : ∀ (s : List Lf) (i : Nat) (u : Int), i < s.length → (lfC s).set (3 * i + 1) (.int .i64 u) = lfC (s.modify i (fun f => { f with u := u }))
  | [], i, u, h => by simp at h
  | x :: r, 0, u, h => by simp [lfC]
  | x :: r, i + 1, u, h => by
    have := lfC_set_u r i u (by simpa using h)
    have e1 : lfC (x :: r) = [.int .i64 x.b, .int .i64 x.u, .int .i64 x.d] ++ lfC r := rfl
    rw [e1, List.modify_succ_cons, show 3 * (i + 1) + 1 = (3 * i + 1) + 3 by omega]
    show _ = [.int .i64 x.b, .int .i64 x.u, .int .i64 x.d] ++ lfC (r.modify i (fun f => { f with u := u }))
    rw [← this]; rfl
theorem lfC_set_d : ∀ (s : List Lf) (i : Nat) (d : Int), i < s.length → (lfC s).set (3 * i + 2) (.int .i64 d) = lfC (s.modify i (fun f => { f with d := d }))
  | [], i, d, h => by simp at h
  | x :: r, 0, d, h => by simp [lfC]
  | x :: r, i + 1, d, h => by
    have := lfC_set_d r i d (by simpa using h)
    have e1 : lfC (x :: r) = [.int .i64 x.b, .int .i64 x.u, .int .i64 x.d] ++ lfC r := rfl
    rw [e1, List.modify_succ_cons, show 3 * (i + 1) + 2 = (3 * i + 2) + 3 by omega]
    show _ = [.int .i64 x.b, .int .i64 x.u, .int .i64 x.d] ++ lfC (r.modify i (fun f => { f with d := d }))
    rw [← this]; rfl

/-- A row of the program's events, of lives. -/
def VRow (w : World) (v : Value) (l : List Ev) : Prop := w.ownsRow 0 63 2 v l.length (evC l)
def LRow (w : World) (v : Value) (s : List Lf) : Prop := w.ownsRow 0 41 3 v s.length (lfC s)

/-- The history of events l in block H; its blocks are own. -/
structure HistAt (W : World) (H : Nat) (own : Nat → Prop) (l : List Ev) (ve vl : Value) : Prop where
  blk : Blk W H #[ve, vl] 60
  evs : VRow W ve l
  lfs : LRow W vl (livesL l)
  ownH : own H
  ownE : ∀ g, ve.ownBlock = some g → own g ∧ g ≠ H
  ownL : ∀ g, vl.ownBlock = some g → own g ∧ g ≠ H
  apart : ∀ g, ve.ownBlock = some g → vl.ownBlock ≠ some g

theorem HistAt.keeps {W W' : World} {H : Nat} {own : Nat → Prop} {l : List Ev} {ve vl : Value} {may : Nat → Prop} (h : HistAt W H own l ve vl) (q : Keeps may W W') (hm : ∀ k, own k → ¬ may k) : HistAt W' H own l ve vl :=
  ⟨q.blk h.blk (hm _ h.ownH), q.ownsRow h.evs (fun g hg _ => hm _ (h.ownE g hg).1), q.ownsRow h.lfs (fun g hg _ => hm _ (h.ownL g hg).1), h.ownH, h.ownE, h.ownL, h.apart⟩
theorem HistAt.shape {W : World} {H : Nat} {own : Nat → Prop} {l : List Ev} {ve vl : Value} (h : HistAt W H own l ve vl) : (∃ a c, ve = .slice a l.length c) ∧ ∃ a c, vl = .slice a (livesL l).length c :=
  ⟨row_shape (ok := fun _ => True) ⟨h.evs, fun _ _ => trivial⟩, row_shape (ok := fun _ => True) ⟨h.lfs, fun _ _ => trivial⟩⟩

theorem isLeft_any (b u d : Int) (w : World) : Calls Tryd.prog 77 #[.agg #[.int .i64 b, .int .i64 u, .int .i64 d]] w fun e w' => e = .returned (.bool (decide (d < 0))) ∧ Keeps noB w w' := by
  by_cases hd : d < 0
  all_goals
    have hdd := hd
    go_enter Tryd.func77, Tryd.ntmps77
    go_wp2_with fail
    go_ret
    exact ⟨by simp [hd], (Keeps.refl _ _).alloc _⟩

/-- An alive value. -/
theorem in_lives {l : List Ev} (hg : Good l) (v : Int) : inB (aliveL l) v = true ↔ 1 ≤ v ∧ ∃ f, (livesL l)[(v - 1).toNat]? = some f ∧ f.d < 0 := by
  have hs := hg.says
  unfold inB
  rw [List.any_eq_true]
  constructor
  · rintro ⟨m, hm, h⟩
    have h : (m : Int) = v := by simpa using h
    obtain ⟨h1, f, h2, h3⟩ := (hs.alive m).1 hm
    exact ⟨by omega, f, by rw [show (v - 1).toNat = m - 1 by omega]; exact h2, h3⟩
  · rintro ⟨h1, f, h2, h3⟩
    exact ⟨v.toNat, (hs.alive _).2 ⟨by omega, f, by rw [show v.toNat - 1 = (v - 1).toNat by omega]; exact h2, h3⟩, by simp; omega⟩

set_option maxRecDepth 100000 in
set_option maxHeartbeats 4000000 in
theorem isAlive_any (w : World) (H : Nat) (own : Nat → Prop) (l : List Ev) (ve vl : Value) (h : HistAt w H own l ve vl) (hg : Good l) (hl : l.length ≤ 600) (v : Int) (hv : (Lit.int .i64 v).wf = true) :
    Calls Tryd.prog 69 #[.pointer (some ⟨H, 0, none⟩), .int .i64 v] w fun e w' => e = .returned (.bool (inB (aliveL l) v)) ∧ Keeps noB w w' := by
  have hs := hg.says
  have hle := hs.le
  have hin := in_lives hg v
  have r1 := h.blk.cell 1
  simp at r1
  obtain ⟨n, hn⟩ : ∃ n, n = (livesL l).length := ⟨_, rfl⟩
  have hn6 : n ≤ 600 := by rw [hn, hs.made]; omega
  obtain ⟨a, c, rfl⟩ := h.shape.2
  rw [← hn] at r1
  by_cases h1 : 1 ≤ v
  · by_cases h2 : v ≤ (n : Int)
    · obtain ⟨g, c', e, hc, hgl, hcell⟩ := row_capM (ok := fun _ => True) h.lfs (by omega)
      rw [← hn] at e hc
      simp only [Value.slice.injEq, true_and] at e
      obtain ⟨rfl, rfl⟩ := e
      obtain ⟨i, hi⟩ : ∃ i : Nat, (i : Int) = v - 1 := ⟨(v - 1).toNat, by omega⟩
      have hil : i < (livesL l).length := by omega
      obtain ⟨f, hf⟩ : ∃ f, (livesL l)[i]? = some f := ⟨_, List.getElem?_eq_getElem hil⟩
      obtain ⟨g0, g1, g2⟩ := lfC_get _ _ _ hf
      have s0 := (hcell _ _ g0).1
      have s1 := (hcell _ _ g1).1
      have s2 := (hcell _ _ g2).1
      have HIL : Hid (∀ W, Calls Tryd.prog 77 #[.agg #[.int .i64 f.b, .int .i64 f.u, .int .i64 f.d]] W fun e w' => e = .returned (.bool (inB (aliveL l) v)) ∧ Keeps noB W w') := fun W => by
        have e : inB (aliveL l) v = decide (f.d < 0) := by
          by_cases hd : f.d < 0
          · rw [decide_eq_true hd]; exact hin.2 ⟨h1, f, by rw [← hi]; simpa using hf, hd⟩
          · rw [decide_eq_false hd]
            cases hb : inB (aliveL l) v with
            | false => rfl
            | true =>
              obtain ⟨_, f', h3, h4⟩ := hin.1 hb
              rw [show (v - 1).toNat = i by omega, hf] at h3
              exact absurd (Option.some.inj h3 ▸ h4) hd
        rw [e]; exact isLeft_any f.b f.u f.d W
      rw [show 3 * i = i * 3 by omega] at s0 s1 s2
      have hi0 : (0 : Int) ≤ (i : Int) := by omega
      have hin1 : (i : Int) < (n : Int) := by omega
      have hvi : v = (i : Int) + 1 := by omega
      have hcn : (n : Int) ≤ (c : Int) := by omega
      subst hvi
      have h1' : (1 : Int) ≤ (i : Int) + 1 := h1
      have h2' : (i : Int) + 1 ≤ (n : Int) := h2
      clear hin hs hle hf hil hcell g0 g1 g2 h hi hn
      go_enter Tryd.func69, Tryd.ntmps69
      go_wp2_with (go_at_call 77; refine (HIL.out _).mono ?_; rintro e w5 ⟨rfl, q5⟩; have Q5 := Lib.hid q5; clear q5)
      go_ret
      exact ⟨rfl, Q5.out⟩
    · have hf : inB (aliveL l) v = false := by
        cases hb : inB (aliveL l) v with
        | false => rfl
        | true =>
          obtain ⟨_, f', h3, h4⟩ := hin.1 hb
          have := (List.getElem?_eq_some_iff.1 h3).1
          omega
      have HF := Lib.hid hf
      clear hin hs hle hf h hn
      go_enter Tryd.func69, Tryd.ntmps69
      go_wp2_with fail
      go_ret
      rw [HF.out]; exact ⟨rfl, Keeps.refl _ _⟩
  · have hf : inB (aliveL l) v = false := by
      cases hb : inB (aliveL l) v with
      | false => rfl
      | true => exact absurd (hin.1 hb).1 h1
    have HF := Lib.hid hf
    clear hin hs hle hf h hn
    go_enter Tryd.func69, Tryd.ntmps69
    go_wp2_with fail
    go_ret
    rw [HF.out]; exact ⟨rfl, Keeps.refl _ _⟩

end Go.Proofs.YthgocacabadflaaDoor

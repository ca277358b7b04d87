/-
  strings.Builder at a dump whose copyCheck has its panic cut: copyCheck, WriteByte, WriteString, with the frame that a range over a function wants.
-/
import Derived.Test.YthgocacabadflaaDoorMm
import Derived.Test.YthgocacabadflaaDoorProg
import Derived.Lib.Walk
import Derived.Lib.Hide
import Derived.Test.YthgocacabadflaaDoorRg
import Derived.Lib.Builder
import Derived.Lib.AppendStr
import Derived.Lib.UnsafeStr
import Derived.Lib.Strings
import Derived.Laws.Externs
import Derived.WalkKit
namespace Go.Proofs.YthgocacabadflaaDoor
set_option linter.unusedVariables false
set_option linter.unusedSimpArgs false
open Go.RowKit

/-- append, where its run is known. -/
theorem wpList_append_run' {P : Program} (w : World) {ops : Array Oper} {rest : List Oper} {o : Oper} {a : Act} {Q : Exit → Act → World → Prop} (hgd : o.guard = none) (s x : Operand) (t tx : TypeId)
    (ho : o.op = .call { callee := .builtin .append, args := #[s, x], argTypes := #[t, tx] }) (vs vx : Value) (hs : a.eval s = vs) (hx : a.eval x = vx)
    (v' : Value) (w' : World) (hr : (Builtin.append_ #[t, tx] o.type #[vs, vx]).run P w = .ok v' w') (h : wpList P ops Q rest (a.put o.dst v') w') : wpList P ops Q (o :: rest) a w :=
  wpList_plain hgd fun K hK => by
    unfold Oper.wp execOp
    simp only [ho, resolve, invoke, builtin, Sem.run_bind, Sem.run_pure, Result.andThen_ok, List.map_toArray, List.map_cons, List.map_nil, hs, hx, hr]
    exact hK _ _ h

/-- A builder in block b that holds the bytes l; 'own': the blocks that are its own. -/
def BuildAt (w : World) (own : Nat → Prop) (b : Nat) (l : List UInt8) : Prop :=
  ∃ p v, (p = .pointer none ∨ p = .pointer (some ⟨b, 0, none⟩)) ∧ Blk w b #[p, v] 74 ∧ w.ownsRow 0 5 1 v l.length (Lib.byteCells l) ∧ own b ∧ ∀ g, v.ownBlock = some g → own g ∧ g ≠ b

theorem Tryd.sizeBuilder : (Tryd.prog.info? 74).map (·.size) = some 2 := by kernel_rfl
theorem Tryd.liesBuilder : liesAt Tryd.prog Tryd.prog.depth 74 (2 / Tryd.prog.cellsOf 74) 0 74 1 = true := by kernel_rfl
theorem Tryd.byteB5 : (Tryd.prog.info? 5).map (fun i => (i.zero, i.size, i.bytes)) = some (some (.int .u8 0), 1, 1) := by kernel_rfl

/-- How copyCheck ends. -/
def CheckPost (w : World) (b : Nat) (v : Value) (e : Ending) (w' : World) : Prop :=
  e = .returned (.tuple #[]) ∧ Blk w' b #[.pointer (some ⟨b, 0, none⟩), v] 74 ∧ Keeps (oneB b) w w'

set_option maxRecDepth 100000 in
set_option maxHeartbeats 1000000 in
theorem check_used (b : Nat) (v : Value) (w : World) (h : Blk w b #[.pointer (some ⟨b, 0, none⟩), v] 74) :
    Calls Tryd.prog 72 #[.pointer (some ⟨b, 0, none⟩)] w (CheckPost w b v) := by
  obtain ⟨j, hj, _⟩ := Option.map_eq_some_iff.1 Tryd.sizeBuilder
  have r0 := h.cell 0
  simp at r0
  have HB := Lib.hid h
  clear h
  go_enter Tryd.func72, Tryd.ntmps72
  go_wp2
  rw [Lib.run_neq_ptr_same w _ Tryd.underlying71 hj]
  go_wp2
  go_end0
  exact ⟨rfl, HB.out, Keeps.refl _ _⟩

set_option maxRecDepth 100000 in
set_option maxHeartbeats 1000000 in
theorem check_fresh (b : Nat) (v : Value) (w : World) (h : Blk w b #[.pointer none, v] 74) :
    Calls Tryd.prog 72 #[.pointer (some ⟨b, 0, none⟩)] w (CheckPost w b v) := by
  obtain ⟨j, hj, hjs⟩ := Option.map_eq_some_iff.1 Tryd.sizeBuilder
  have r0 := h.cell 0
  simp at r0
  have hfz := h.free 0
  have hsh : w.shape? b = some (74, 2) := by
    have e : w.heap[b]? = some (.cells #[.pointer none, v] 74 (0, 0)) := h
    simp [World.shape?, e]
  have HB := Lib.hid h
  clear h
  go_enter Tryd.func72, Tryd.ntmps72
  go_wp2
  rw [Lib.run_to_unsafe w ⟨b, 0, none⟩ Tryd.underlying71 Tryd.underlying124 hj (by rw [hjs]; decide) hsh (Nat.zero_lt_succ 1)]
  simp only [Result.andThen]
  rw [Oper.upon_value]
  go_wp2
  rw [run_callFunc_extern Tryd.func82 (by kernel_rfl) (by kernel_rfl) (e := Extern.AbiNoEscape.same) (by kernel_rfl)]
  rw [Lib.run_noEscape]
  simp only [Result.andThen]
  rw [Oper.upon_value]
  go_wp2
  rw [Lib.run_from_unsafe w ⟨b, 0, none⟩ Tryd.underlying124 Tryd.underlying71 hj hsh Tryd.liesBuilder]
  simp only [Result.andThen]
  rw [Oper.upon_value]
  go_wp2
  go_end0
  · exact ⟨rfl, HB.out.set 0 _, (Keeps.refl _ _).setCell (.inl (show oneB b b from rfl)) _⟩
  · kernel_rfl

theorem check_any (b : Nat) (p v : Value) (w : World) (hp : p = .pointer none ∨ p = .pointer (some ⟨b, 0, none⟩)) (h : Blk w b #[p, v] 74) :
    Calls Tryd.prog 72 #[.pointer (some ⟨b, 0, none⟩)] w (CheckPost w b v) := by
  rcases hp with rfl | rfl
  · exact check_fresh b v w h
  · exact check_used b v w h

/-- What a write leaves. -/
theorem built {w w1 w2 : World} {own : Nat → Prop} {b : Nat} {v v' : Value} {l l' : List UInt8} (hlt : ∀ k, own k → k < w.heap.size) (hv : ∀ g, v.ownBlock = some g → own g ∧ g ≠ b) (hob : own b) (hb : Blk w1 b #[.pointer (some ⟨b, 0, none⟩), v] 74)
    (q1 : Keeps (oneB b) w w1) (ho : w2.ownsRow 0 5 1 v' l'.length (Lib.byteCells l')) (hg : w1.grownBy w2 v.ownBlock) (hf : ∀ g, v'.ownBlock = some g → v.ownBlock = some g ∨ w1.heap.size ≤ g) :
    ∃ own', Owns own own' w (w2.setCell ⟨b, 1, none⟩ v') ∧ BuildAt (w2.setCell ⟨b, 1, none⟩ v') own' b l' := by
  have hbl := hb.lt
  have hs1 := q1.size
  have b2 : Blk w2 b #[.pointer (some ⟨b, 0, none⟩), v] 74 := (hg.block b hbl (fun e => (hv b e.symm).2 rfl)).trans hb
  have b3 := b2.set 1 v'
  have hbw := hlt b hob
  have hnew : ∀ g, v'.ownBlock = some g → g ≠ b := fun g e => (hf g e).elim (fun e2 => (hv g e2).2) (fun e2 => by omega)
  have k2 : Keeps own w w2 := (q1.mono (fun i (e : i = b) => e ▸ hob)).grown hg (fun k e => .inl (hv k e).1)
  have k3 : Keeps own w (w2.setCell ⟨b, 1, none⟩ v') := k2.setCell (.inl hob) _
  refine ⟨fun k => own k ∨ v'.ownBlock = some k, ⟨fun k e => e.elim .inl (fun e => (hf k e).elim (fun e2 => .inl (hv k e2).1) (fun e2 => .inr (by omega))), fun k e => ?_, k3⟩, _, v', .inr rfl, b3, ?_, .inl hob, fun g e => ⟨.inr e, hnew g e⟩⟩
  · rcases e with e | e
    · exact Nat.lt_of_lt_of_le (hlt k e) k3.size
    · simpa [World.setCell] using (ho.lt k e).2
  · exact ((Keeps.refl (oneB b) w2).setCell (p := ⟨b, 1, none⟩) (.inl (show oneB b b from rfl)) v').ownsRow ho (fun g hg2 _ (e : g = b) => hnew g hg2 e)

/-- How a write ends. -/
def WrotePost (w : World) (own : Nat → Prop) (b : Nat) (l : List UInt8) (res : Value) (e : Ending) (w' : World) : Prop :=
  e = .returned res ∧ ∃ own', Owns own own' w w' ∧ BuildAt w' own' b l

set_option maxRecDepth 100000 in
set_option maxHeartbeats 2000000 in
theorem writeByte_any (b : Nat) (l : List UInt8) (c : UInt8) (own : Nat → Prop) (w : World) (h : BuildAt w own b l) (hlt : ∀ k, own k → k < w.heap.size) (hl : l.length ≤ 100000000) :
    Calls Tryd.prog 56 #[.pointer (some ⟨b, 0, none⟩), .int .u8 (c.toNat : Int)] w (WrotePost w own b (l ++ [c]) .nilIface) := by
  obtain ⟨i0, hi, hz0, hz1, hz2⟩ := info_parts Tryd.byteB5
  obtain ⟨p, v, hp, hb, hrow, hob, hv⟩ := h
  have HC := Lib.hid (check_any b p v w hp hb)
  obtain ⟨cv, hcv⟩ : ∃ cv : Int, cv = (c.toNat : Int) := ⟨_, rfl⟩
  rw [← hcv]
  have HH := Lib.hid (And.intro hrow (And.intro hob (And.intro hv (And.intro hlt (And.intro hl hcv)))))
  clear hp hb hrow hob hv hlt hl hcv
  go_enter Tryd.func56, Tryd.ntmps56
  go_wp2_with (go_at_call 72; refine HC.out.mono ?_; rintro e w1 ⟨rfl, hb1, q1⟩; refine Hid.out ?_)
  refine Lib.hid ?_
  obtain ⟨hrow, hob, hv, hlt, hl, hcv⟩ := HH.out
  have hrow1 := q1.ownsRow hrow (fun g hg _ (e : g = b) => (hv g hg).2 e)
  have c1 := hb1.cell 1
  simp at c1
  obtain ⟨v', w2, hr, ho', hg', hfr⟩ := run_append_fresh (P := Tryd.prog) (w1.alloc (.cells #[.int .u8 cv] 5)) 72 72 5 i0 (.int .u8 0) 1 1 Tryd.underlying72 hi hz0 hz1 hz2 rfl (by decide)
    v l.length _ (((Keeps.refl noB w1).alloc _).ownsRow hrow1 (fun _ _ _ => id)) ⟨w1.heap.size, 0, none⟩ 1 1 [.int .u8 cv] rfl (fun j u hu => by
      have e0 : (⟨w1.heap.size, 0, none⟩ : Addr).add j = ⟨w1.heap.size, j, none⟩ := by unfold Addr.add; split <;> simp_all
      rw [e0, (Blk.new w1 #[.int .u8 cv] 5).cell j]
      simpa using hu) (fun u hu => by simp at hu; subst hu; rfl) (by unfold maxLen; omega) (by omega)
  have hbl := hb1.lt
  have hb2 : Blk w2 b #[.pointer (some ⟨b, 0, none⟩), v] 74 := (hg'.block b (by simp; omega) (fun e => (hv b e.symm).2 rfl)).trans (hb1.alloc _)
  have d1 := hb2.cell 1
  have z1 := hb2.free 1
  simp at d1
  have hgx : (w1.alloc (.cells #[.int .u8 cv] 5)).heap.size = w1.heap.size + 1 := by simp
  have HE := Lib.hid (built (l := l) (l' := l ++ [c]) hlt hv hob (hb1.alloc (.cells #[.int .u8 cv] 5)) (q1.alloc _) (by
    have e : Lib.byteCells (l ++ [c]) = Lib.byteCells l ++ [.int .u8 cv] := by rw [hcv]; simp [Lib.byteCells]
    rw [e, List.length_append]
    exact ho') hg' (fun g hg => by
      rcases hfr with e | e
      · exact .inl (e ▸ hg)
      · exact .inr (e g hg)))
  obtain ⟨a', n', c', rfl⟩ : ∃ a n c, v' = .slice a n c := by
    rcases ho'.2 with ⟨e, _⟩ | ⟨g, cap, cur, e, _⟩
    · exact ⟨_, _, _, e⟩
    · exact ⟨_, _, _, e⟩
  clear hrow hob hv hlt hl hcv hrow1 q1 hb1 ho' hg' hfr hb2 hgx
  go_wp2_with (at_builtin; refine wpList_append_run' _ rfl _ _ _ _ rfl _ _ rfl rfl _ _ hr ?_)
  go_ret
  exact ⟨rfl, HE.out⟩

/-- append of a string's bytes: the row is the old one or a new one. -/
theorem run_append_fresh_string {P : Program} (w : World) (t u ty e : TypeId) (i : TypeInfo) (ht : P.underlying t = some (.slice e)) (hu : P.underlying u = some .string) (hi : P.info? e = some i) (hz : i.zero = some (.int .u8 0)) (hsize : i.size = 1) (hby : i.bytes = 1)
    (v : Value) (n : Nat) (xs : List Value) (hown : w.ownsRow 0 e 1 v n xs) (s : ByteArray) (h63 : n + s.size ≤ maxLen) (hbytes : n + s.size ≤ 140737488355328) :
    ∃ v' w', (Builtin.append_ #[t, u] ty #[v, .string s]).run P w = .ok v' w' ∧ w'.ownsRow 0 e 1 v' (n + s.size) (xs ++ Lib.strCells s) ∧ w.grownBy w' v.ownBlock ∧ Fresh w v v' := by
  obtain ⟨v', w', hr, h2, h3, _⟩ := Lib.run_append_own_string (P := P) w 0 t u ty e i ht hu hi hz hsize hby v n xs hown s h63 hbytes (Nat.zero_le _)
  refine ⟨v', w', hr, h2, h3, ?_⟩
  rcases hown.2 with ⟨rfl, rfl⟩ | ⟨g, cap, cur, rfl, hbg, hg, hnc, hcm, hcs, htake⟩
  · have hx : xs = [] := List.eq_nil_of_length_eq_zero (by simpa using hown.1)
    subst hx
    obtain ⟨v2, w2, hr2, g2, _, _⟩ := Lib.run_append_own_string (P := P) w w.heap.size t u ty e i ht hu hi hz hsize hby _ 0 [] (World.ownsRow_nil w w.heap.size e 1) s h63 hbytes (Nat.le_refl _)
    rw [hr] at hr2
    injection hr2 with e1 e2
    subst e1; subst e2
    exact .inr (fun g hg => (g2.lt g hg).1)
  · by_cases hroom : n + s.size ≤ cap
    · have hcs' : cur.size = cap := by simpa using hcs
      have hr2 := Lib.run_append_room_string (P := P) w t u ty e i ht hu hi hsize g n cap cur hg s hroom (by omega)
      rw [hr] at hr2
      injection hr2 with e1 e2
      subst e1
      exact .inl rfl
    · have holds : ∀ j u, xs[j]? = some u → w.cell? ((⟨g, 0, none⟩ : Addr).add j) = some u := hown.cells (g := g) rfl
      have hxl : xs.length = n := by simpa using hown.1
      have hsmall : n + s.size ≤ 9223372036854775807 := by simp only [maxLen] at h63; omega
      have hr2 := Lib.run_append_grow_string (P := P) w t u ty e i (.int .u8 0) ht hu hi hz ⟨g, 0, none⟩ n cap xs (by rw [hsize]; simpa using hxl) holds s (by omega) (by omega) (by rw [hby]; exact growslice_fits (by omega) (by omega))
      rw [hr] at hr2
      injection hr2 with e1 e2
      subst e1
      refine .inr (fun g' hg' => ?_)
      simp [Value.ownBlock] at hg'
      omega

set_option maxRecDepth 100000 in
set_option maxHeartbeats 2000000 in
theorem writeString_any (b : Nat) (l : List UInt8) (s : ByteArray) (own : Nat → Prop) (w : World) (h : BuildAt w own b l) (hlt : ∀ k, own k → k < w.heap.size) (hl : l.length + s.size ≤ 100000000) :
    Calls Tryd.prog 57 #[.pointer (some ⟨b, 0, none⟩), .string s] w (WrotePost w own b (l ++ s.data.toList) (.tuple #[.int .i64 (s.size : Int), .nilIface])) := by
  obtain ⟨i0, hi, hz0, hz1, hz2⟩ := info_parts Tryd.byteB5
  obtain ⟨p, v, hp, hb, hrow, hob, hv⟩ := h
  have HC := Lib.hid (check_any b p v w hp hb)
  have HH := Lib.hid (And.intro hrow (And.intro hob (And.intro hv (And.intro hlt hl))))
  clear hp hb hrow hob hv hlt hl
  go_enter Tryd.func57, Tryd.ntmps57
  go_wp2_with (go_at_call 72; refine HC.out.mono ?_; rintro e w1 ⟨rfl, hb1, q1⟩; refine Hid.out ?_)
  refine Lib.hid ?_
  obtain ⟨hrow, hob, hv, hlt, hl⟩ := HH.out
  have hrow1 := q1.ownsRow hrow (fun g hg _ (e : g = b) => (hv g hg).2 e)
  have c1 := hb1.cell 1
  simp at c1
  obtain ⟨v', w2, hr, ho', hg', hfr⟩ := run_append_fresh_string (P := Tryd.prog) w1 72 9 72 5 i0 Tryd.underlying72 Tryd.underlying9 hi hz0 hz1 hz2 v l.length _ hrow1 s (by unfold maxLen; omega) (by omega)
  have hbl := hb1.lt
  have hb2 : Blk w2 b #[.pointer (some ⟨b, 0, none⟩), v] 74 := (hg'.block b hbl (fun e => (hv b e.symm).2 rfl)).trans hb1
  have d1 := hb2.cell 1
  have z1 := hb2.free 1
  simp at d1
  have HE := Lib.hid (built (l := l) (l' := l ++ s.data.toList) hlt hv hob hb1 q1 (by
    have e : Lib.byteCells (l ++ s.data.toList) = Lib.byteCells l ++ Lib.strCells s := by simp [Lib.byteCells, Lib.strCells]
    have e2 : (l ++ s.data.toList).length = l.length + s.size := by rw [List.length_append, Array.length_toList]; rfl
    rw [e, e2]
    exact ho') hg' (fun g hg => by
      rcases hfr with e | e
      · exact .inl (e ▸ hg)
      · exact .inr (e g hg)))
  obtain ⟨a', n', c', rfl⟩ : ∃ a n c, v' = .slice a n c := by
    rcases ho'.2 with ⟨e, _⟩ | ⟨g, cap, cur, e, _⟩
    · exact ⟨_, _, _, e⟩
    · exact ⟨_, _, _, e⟩
  clear hrow hob hv hlt hl hrow1 q1 hb1 ho' hg' hfr hb2
  go_wp2_with (at_builtin; refine wpList_append_run' _ rfl _ _ _ _ rfl _ _ rfl rfl _ _ hr ?_)
  go_ret2
  exact ⟨rfl, HE.out⟩

end Go.Proofs.YthgocacabadflaaDoor

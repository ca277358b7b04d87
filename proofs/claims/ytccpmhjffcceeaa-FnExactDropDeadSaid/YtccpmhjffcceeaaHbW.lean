/-
  strings.Builder as the first field of a bigger block: the writer's that writes programs anew.
  The program's writer of programs: its visitor behind an interface, what it holds, its bytes and texts, its steps.
  The program's writer of programs: brackets and scopes.
  The program's writer of programs: a step, by its kind.
-/
import Derived.Test.YtccpmhjffcceeaaIjW
import Derived.Test.YtccpmhjffcceeaaRf
import Derived.Test.YtccpmhjffcceeaaProg
import Derived.Lib.Walk
import Derived.Lib.Hide
import Derived.Lib.Builder
import Derived.Lib.AppendStr
import Derived.Lib.UnsafeStr
import Derived.Lib.Strings
import Derived.Laws.Externs
import Derived.Shelf.Strings.Builder1
import Derived.WalkKit
import Derived.Test.YtccpmhjffcceeaaHaW
import Derived.Deep.LoopGhost
import Derived.Test.YtccpmhjffcceeaaWqfW
import Derived.Test.YtccpmhjffcceeaaIuW
namespace Go.Proofs.Ytccpmhjffcceeaa
set_option linter.unusedVariables false
set_option linter.unusedSimpArgs false
open Go.RowKit

/-- append, where its run is known. -/
theorem wpList_append_run' {P : Program} (w : World) {ops : Array Oper} {rest : List Oper} {o : Oper} {a : Act} {Q : Exit → Act → World → Prop} (hgd : o.guard = none) (s x : Operand) (t tx : TypeId)
    (ho : o.op = .call { callee := .builtin .append, args := #[s, x], argTypes := #[t, tx] }) (vs vx : Value) (hs : a.eval s = vs) (hx : a.eval x = vx)
    (v' : Value) (w' : World) (hr : (Builtin.append_ #[t, tx] o.type #[vs, vx]).run P w = .ok v' w') (h : wpList P ops Q rest (a.put o.dst v') w') : wpList P ops Q (o :: rest) a w :=
  wpList_plain hgd fun K hK => by
    unfold Oper.wp execOp
    simp only [ho, resolve, invoke, builtin, Sem.run_bind, Sem.run_pure, Result.andThen_ok, List.map_toArray, List.map_cons, List.map_nil, hs, hx, hr]
    exact hK _ _ h

theorem Try.sizeBuilder : (Try.prog.info? 134).map (·.size) = some 2 := by kernel_rfl
theorem Try.byteB5 : (Try.prog.info? 5).map (fun i => (i.zero, i.size, i.bytes)) = some (some (.int .u8 0), 1, 1) := by kernel_rfl

/-- append of a string's bytes: the row is the old one or a new one. -/
theorem run_append_fresh_string {P : Program} (w : World) (t u ty e : TypeId) (i : TypeInfo) (ht : P.underlying t = some (.slice e)) (hu : P.underlying u = some .string) (hi : P.info? e = some i) (hz : i.zero = some (.int .u8 0)) (hsize : i.size = 1) (hby : i.bytes = 1)
    (v : Value) (n : Nat) (xs : List Value) (hown : w.ownsRow 0 e 1 v n xs) (s : ByteArray) (h63 : n + s.size ≤ maxLen) (hbytes : n + s.size ≤ 140737488355328) :
    ∃ v' w', (Builtin.append_ #[t, u] ty #[v, .string s]).run P w = .ok v' w' ∧ w'.ownsRow 0 e 1 v' (n + s.size) (xs ++ Lib.strCells s) ∧ w.grownBy w' v.ownBlock ∧ Fresh w v v' := by
  obtain ⟨v', w', hr, h2, h3, _⟩ := Lib.run_append_own_string (P := P) w 0 t u ty e i ht hu hi hz hsize hby v n xs hown s h63 hbytes (Nat.zero_le _)
  refine ⟨v', w', hr, h2, h3, ?_⟩
  rcases hown.2 with ⟨rfl, rfl⟩ | ⟨g, cap, cur, rfl, hbg, hg, hnc, hcm, hcs, htake⟩
  · have hx : xs = [] := List.eq_nil_of_length_eq_zero (by simpa using hown.1)
    subst hx
    obtain ⟨v2, w2, hr2, g2, _, _⟩ := Lib.run_append_own_string (P := P) w w.heap.size t u ty e i ht hu hi hz hsize hby _ 0 [] (World.ownsRow_nil w w.heap.size e 1) s h63 hbytes (Nat.le_refl _)
    rw [hr] at hr2
    injection hr2 with e1 e2
    subst e1; subst e2
    exact .inr (fun g hg => (g2.lt g hg).1)
  · by_cases hroom : n + s.size ≤ cap
    · have hcs' : cur.size = cap := by simpa using hcs
      have hr2 := Lib.run_append_room_string (P := P) w t u ty e i ht hu hi hsize g n cap cur hg s hroom (by omega)
      rw [hr] at hr2
      injection hr2 with e1 e2
      subst e1
      exact .inl rfl
    · have holds : ∀ j u, xs[j]? = some u → w.cell? ((⟨g, 0, none⟩ : Addr).add j) = some u := hown.cells (g := g) rfl
      have hxl : xs.length = n := by simpa using hown.1
      have hsmall : n + s.size ≤ 9223372036854775807 := by simp only [maxLen] at h63; omega
      have hr2 := Lib.run_append_grow_string (P := P) w t u ty e i (.int .u8 0) ht hu hi hz ⟨g, 0, none⟩ n cap xs (by rw [hsize]; simpa using hxl) holds s (by omega) (by omega) (by rw [hby]; exact growslice_fits (by omega) (by omega))
      rw [hr] at hr2
      injection hr2 with e1 e2
      subst e1
      refine .inr (fun g' hg' => ?_)
      simp [Value.ownBlock] at hg'
      omega

theorem Keeps.freeze {may : Nat → Prop} {w : World} {g : Nat} (hg : may g) (n : Nat) : Keeps may w (w.drew.freeze ⟨g, 0, none⟩ n) := by
  unfold World.freeze
  split
  · exact (Keeps.refl may w).drew
  · exact ⟨rfl, rfl, rfl, by simp, fun k hk hm => by
      simp only [Array.getElem?_modify]
      rw [if_neg (by rintro rfl; exact hm hg)]
      rfl⟩

theorem Try.cellsByte : Try.prog.cellsOf 5 = 1 := by kernel_rfl

theorem arr_set_same {cs : Array Value} {i : Nat} {v : Value} (h : cs[i]? = some v) : cs.setIfInBounds i v = cs := by
  apply Array.ext_getElem?
  intro j
  rw [Array.getElem?_setIfInBounds]
  by_cases e : i = j
  · subst e
    rw [h]
    have := (Array.getElem?_eq_some_iff.1 h).1
    simp [this]
  · simp [e]
theorem arr_set_ne {cs : Array Value} {i j : Nat} (h : i ≠ j) (v : Value) : (cs.setIfInBounds i v)[j]? = cs[j]? := by
  rw [Array.getElem?_setIfInBounds]; simp [h]
theorem arr_set_eq {cs : Array Value} {i : Nat} (h : i < cs.size) (v : Value) : (cs.setIfInBounds i v)[i]? = some v := by
  rw [Array.getElem?_setIfInBounds]; simp [h]

/-- A builder at the head of block b, of the cells cs, that holds the bytes l. -/
def BuildX (w : World) (own : Nat → Prop) (b : Nat) (l : List UInt8) (cs : Array Value) : Prop :=
  ∃ p v, (p = .pointer none ∨ p = .pointer (some ⟨b, 0, none⟩)) ∧ Blk w b cs 136 ∧ cs.size = 3 ∧ cs[0]? = some p ∧ cs[1]? = some v ∧ w.ownsRow 0 5 1 v l.length (Lib.byteCells l) ∧ own b ∧ ∀ g, v.ownBlock = some g → own g ∧ g ≠ b

theorem Try.liesWriter : liesAt Try.prog Try.prog.depth 136 (3 / Try.prog.cellsOf 136) 0 134 1 = true := by kernel_rfl

def CheckPostX (w : World) (b : Nat) (cs : Array Value) (e : Ending) (w' : World) : Prop :=
  e = .returned (.tuple #[]) ∧ Blk w' b (cs.setIfInBounds 0 (.pointer (some ⟨b, 0, none⟩))) 136 ∧ Keeps (oneB b) w w'

set_option maxRecDepth 100000 in
set_option maxHeartbeats 1000000 in
theorem check_usedX (b : Nat) (cs : Array Value) (w : World) (h : Blk w b cs 136) (h0 : cs[0]? = some (.pointer (some ⟨b, 0, none⟩))) :
    Calls Try.prog 147 #[.pointer (some ⟨b, 0, none⟩)] w (CheckPostX w b cs) := by
  obtain ⟨j, hj, _⟩ := Option.map_eq_some_iff.1 Try.sizeBuilder
  have r0 := (h.cell 0).trans h0
  have HB : Hid (Blk w b (cs.setIfInBounds 0 (.pointer (some ⟨b, 0, none⟩))) 136) := Lib.hid (by rw [arr_set_same h0]; exact h)
  clear h h0
  go_enter Try.func147, Try.ntmps147
  go_wp2
  rw [Lib.run_neq_ptr_same w _ Try.underlying132 hj]
  go_wp2
  go_end0
  exact ⟨rfl, HB.out, Keeps.refl _ _⟩

set_option maxRecDepth 100000 in
set_option maxHeartbeats 1000000 in
theorem check_freshX (b : Nat) (cs : Array Value) (w : World) (h : Blk w b cs 136) (hs : cs.size = 3) (h0 : cs[0]? = some (.pointer none)) :
    Calls Try.prog 147 #[.pointer (some ⟨b, 0, none⟩)] w (CheckPostX w b cs) := by
  obtain ⟨j, hj, hjs⟩ := Option.map_eq_some_iff.1 Try.sizeBuilder
  have r0 := (h.cell 0).trans h0
  have hfz := h.free 0
  have hsh : w.shape? b = some (136, 3) := by
    have e : w.heap[b]? = some (.cells cs 136 (0, 0)) := h
    simp [World.shape?, e, hs]
  have HB := Lib.hid h
  clear h h0 hs
  go_enter Try.func147, Try.ntmps147
  go_wp2
  rw [Lib.run_to_unsafe w ⟨b, 0, none⟩ Try.underlying132 Try.underlying224 hj (by rw [hjs]; decide) hsh (Nat.zero_lt_succ 2)]
  simp only [Result.andThen]
  rw [Oper.upon_value]
  go_wp2
  rw [run_callFunc_extern Try.func164 (by kernel_rfl) (by kernel_rfl) (e := Extern.AbiNoEscape.same) (by kernel_rfl)]
  rw [Lib.run_noEscape]
  simp only [Result.andThen]
  rw [Oper.upon_value]
  go_wp2
  rw [Lib.run_from_unsafe w ⟨b, 0, none⟩ Try.underlying224 Try.underlying132 hj hsh Try.liesWriter]
  simp only [Result.andThen]
  rw [Oper.upon_value]
  go_wp2
  go_end0
  · exact ⟨rfl, HB.out.set 0 _, (Keeps.refl _ _).setCell (.inl (show oneB b b from rfl)) _⟩
  · kernel_rfl

theorem check_anyX (b : Nat) (p : Value) (cs : Array Value) (w : World) (hp : p = .pointer none ∨ p = .pointer (some ⟨b, 0, none⟩)) (h : Blk w b cs 136) (hs : cs.size = 3) (h0 : cs[0]? = some p) :
    Calls Try.prog 147 #[.pointer (some ⟨b, 0, none⟩)] w (CheckPostX w b cs) := by
  rcases hp with rfl | rfl
  · exact check_freshX b cs w h hs h0
  · exact check_usedX b cs w h h0

/-- What a write leaves. -/
theorem builtX {w w1 w2 : World} {own : Nat → Prop} {b : Nat} {cs : Array Value} {v v' : Value} {l l' : List UInt8} (hlt : ∀ k, own k → k < w.heap.size) (hv : ∀ g, v.ownBlock = some g → own g ∧ g ≠ b) (hob : own b) (hb : Blk w1 b (cs.setIfInBounds 0 (.pointer (some ⟨b, 0, none⟩))) 136) (hs : cs.size = 3)
    (q1 : Keeps (oneB b) w w1) (ho : w2.ownsRow 0 5 1 v' l'.length (Lib.byteCells l')) (hg : w1.grownBy w2 v.ownBlock) (hf : ∀ g, v'.ownBlock = some g → v.ownBlock = some g ∨ w1.heap.size ≤ g) :
    ∃ own' cs', Owns own own' w (w2.setCell ⟨b, 1, none⟩ v') ∧ BuildX (w2.setCell ⟨b, 1, none⟩ v') own' b l' cs' ∧ ∀ j, 2 ≤ j → cs'[j]? = cs[j]? := by
  have hbl := hb.lt
  have hs1 := q1.size
  have b2 : Blk w2 b (cs.setIfInBounds 0 (.pointer (some ⟨b, 0, none⟩))) 136 := (hg.block b hbl (fun e => (hv b e.symm).2 rfl)).trans hb
  have b3 := b2.set 1 v'
  have hbw := hlt b hob
  have hnew : ∀ g, v'.ownBlock = some g → g ≠ b := fun g e => (hf g e).elim (fun e2 => (hv g e2).2) (fun e2 => by omega)
  have k2 : Keeps own w w2 := (q1.mono (fun i (e : i = b) => e ▸ hob)).grown hg (fun k e => .inl (hv k e).1)
  have k3 : Keeps own w (w2.setCell ⟨b, 1, none⟩ v') := k2.setCell (.inl hob) _
  refine ⟨fun k => own k ∨ v'.ownBlock = some k, (cs.setIfInBounds 0 (.pointer (some ⟨b, 0, none⟩))).setIfInBounds 1 v', ⟨fun k e => e.elim .inl (fun e => (hf k e).elim (fun e2 => .inl (hv k e2).1) (fun e2 => .inr (by omega))), fun k e => ?_, k3⟩, ⟨_, v', .inr rfl, b3, by simp [hs], ?_, ?_, ?_, .inl hob, fun g e => ⟨.inr e, hnew g e⟩⟩, fun j hj => ?_⟩
  · rcases e with e | e
    · exact Nat.lt_of_lt_of_le (hlt k e) k3.size
    · simpa [World.setCell] using (ho.lt k e).2
  · rw [arr_set_ne (by omega)]; exact arr_set_eq (by omega) _
  · exact arr_set_eq (by simp [hs]) _
  · exact ((Keeps.refl (oneB b) w2).setCell (p := ⟨b, 1, none⟩) (.inl (show oneB b b from rfl)) v').ownsRow ho (fun g hg2 _ (e : g = b) => hnew g hg2 e)
  · rw [arr_set_ne (by omega), arr_set_ne (by omega)]

/-- How a write ends. -/
def WrotePostX (w : World) (own : Nat → Prop) (b : Nat) (l : List UInt8) (cs : Array Value) (res : Value) (e : Ending) (w' : World) : Prop :=
  e = .returned res ∧ ∃ own' cs', Owns own own' w w' ∧ BuildX w' own' b l cs' ∧ ∀ j, 2 ≤ j → cs'[j]? = cs[j]?

set_option maxRecDepth 100000 in
set_option maxHeartbeats 2000000 in
theorem writeByte_anyX (b : Nat) (cs : Array Value) (l : List UInt8) (c : UInt8) (own : Nat → Prop) (w : World) (h : BuildX w own b l cs) (hlt : ∀ k, own k → k < w.heap.size) (hl : l.length ≤ 100000000) :
    Calls Try.prog 122 #[.pointer (some ⟨b, 0, none⟩), .int .u8 (c.toNat : Int)] w (WrotePostX w own b (l ++ [c]) cs .nilIface) := by
  obtain ⟨i0, hi, hz0, hz1, hz2⟩ := info_parts Try.byteB5
  obtain ⟨p, v, hp, hb, hcs, hc0, hc1, hrow, hob, hv⟩ := h
  have HC := Lib.hid (check_anyX b p cs w hp hb hcs hc0)
  obtain ⟨cv, hcv⟩ : ∃ cv : Int, cv = (c.toNat : Int) := ⟨_, rfl⟩
  rw [← hcv]
  have HH := Lib.hid (And.intro hrow (And.intro hob (And.intro hv (And.intro hlt (And.intro hl (And.intro hcv (And.intro hcs hc1)))))))
  clear hp hb hrow hob hv hlt hl hcv hcs hc0 hc1
  go_enter Try.func122, Try.ntmps122
  go_wp2_with (go_at_call 147; refine HC.out.mono ?_; rintro e w1 ⟨rfl, hb1, q1⟩; refine Hid.out ?_)
  refine Lib.hid ?_
  obtain ⟨hrow, hob, hv, hlt, hl, hcv, hcs, hc1⟩ := HH.out
  have hrow1 := q1.ownsRow hrow (fun g hg _ (e : g = b) => (hv g hg).2 e)
  have c1 := (hb1.cell 1).trans ((arr_set_ne (by decide) _).trans hc1)
  obtain ⟨v', w2, hr, ho', hg', hfr⟩ := run_append_fresh (P := Try.prog) (w1.alloc (.cells #[.int .u8 cv] 5)) 22 22 5 i0 (.int .u8 0) 1 1 Try.underlying22 hi hz0 hz1 hz2 rfl (by decide)
    v l.length _ (((Keeps.refl noB w1).alloc _).ownsRow hrow1 (fun _ _ _ => id)) ⟨w1.heap.size, 0, none⟩ 1 1 [.int .u8 cv] rfl (fun j u hu => by
      have e0 : (⟨w1.heap.size, 0, none⟩ : Addr).add j = ⟨w1.heap.size, j, none⟩ := by unfold Addr.add; split <;> simp_all
      rw [e0, (Blk.new w1 #[.int .u8 cv] 5).cell j]
      simpa using hu) (fun u hu => by simp at hu; subst hu; rfl) (by unfold maxLen; omega) (by omega)
  have hbl := hb1.lt
  have hb2 : Blk w2 b (cs.setIfInBounds 0 (.pointer (some ⟨b, 0, none⟩))) 136 := (hg'.block b (by simp; omega) (fun e => (hv b e.symm).2 rfl)).trans (hb1.alloc _)
  have d1 := (hb2.cell 1).trans ((arr_set_ne (by decide) _).trans hc1)
  have z1 := hb2.free 1
  have hgx : (w1.alloc (.cells #[.int .u8 cv] 5)).heap.size = w1.heap.size + 1 := by simp
  have HE := Lib.hid (builtX (cs := cs) (l := l) (l' := l ++ [c]) hlt hv hob (hb1.alloc (.cells #[.int .u8 cv] 5)) hcs (q1.alloc _) (by
    have e : Lib.byteCells (l ++ [c]) = Lib.byteCells l ++ [.int .u8 cv] := by rw [hcv]; simp [Lib.byteCells]
    rw [e, List.length_append]
    exact ho') hg' (fun g hg => by
      rcases hfr with e | e
      · exact .inl (e ▸ hg)
      · exact .inr (e g hg)))
  obtain ⟨a', n', c', rfl⟩ : ∃ a n c, v' = .slice a n c := by
    rcases ho'.2 with ⟨e, _⟩ | ⟨g, cap, cur, e, _⟩
    · exact ⟨_, _, _, e⟩
    · exact ⟨_, _, _, e⟩
  clear hcs hc1 hrow hob hv hlt hl hcv hrow1 q1 hb1 ho' hg' hfr hb2 hgx
  go_wp2_with (at_builtin; refine wpList_append_run' _ rfl _ _ _ _ rfl _ _ rfl rfl _ _ hr ?_)
  go_ret
  exact ⟨rfl, HE.out⟩

set_option maxRecDepth 100000 in
set_option maxHeartbeats 2000000 in
theorem writeString_anyX (b : Nat) (cs : Array Value) (l : List UInt8) (s : ByteArray) (own : Nat → Prop) (w : World) (h : BuildX w own b l cs) (hlt : ∀ k, own k → k < w.heap.size) (hl : l.length + s.size ≤ 100000000) :
    Calls Try.prog 121 #[.pointer (some ⟨b, 0, none⟩), .string s] w (WrotePostX w own b (l ++ s.data.toList) cs (.tuple #[.int .i64 (s.size : Int), .nilIface])) := by
  obtain ⟨i0, hi, hz0, hz1, hz2⟩ := info_parts Try.byteB5
  obtain ⟨p, v, hp, hb, hcs, hc0, hc1, hrow, hob, hv⟩ := h
  have HC := Lib.hid (check_anyX b p cs w hp hb hcs hc0)
  have HH := Lib.hid (And.intro hrow (And.intro hob (And.intro hv (And.intro hlt (And.intro hl (And.intro hcs hc1))))))
  clear hp hb hrow hob hv hlt hl hcs hc0 hc1
  go_enter Try.func121, Try.ntmps121
  go_wp2_with (go_at_call 147; refine HC.out.mono ?_; rintro e w1 ⟨rfl, hb1, q1⟩; refine Hid.out ?_)
  refine Lib.hid ?_
  obtain ⟨hrow, hob, hv, hlt, hl, hcs, hc1⟩ := HH.out
  have hrow1 := q1.ownsRow hrow (fun g hg _ (e : g = b) => (hv g hg).2 e)
  have c1 := (hb1.cell 1).trans ((arr_set_ne (by decide) _).trans hc1)
  obtain ⟨v', w2, hr, ho', hg', hfr⟩ := run_append_fresh_string (P := Try.prog) w1 22 9 22 5 i0 Try.underlying22 Try.underlying9 hi hz0 hz1 hz2 v l.length _ hrow1 s (by unfold maxLen; omega) (by omega)
  have hbl := hb1.lt
  have hb2 : Blk w2 b (cs.setIfInBounds 0 (.pointer (some ⟨b, 0, none⟩))) 136 := (hg'.block b hbl (fun e => (hv b e.symm).2 rfl)).trans hb1
  have d1 := (hb2.cell 1).trans ((arr_set_ne (by decide) _).trans hc1)
  have z1 := hb2.free 1
  have HE := Lib.hid (builtX (cs := cs) (l := l) (l' := l ++ s.data.toList) hlt hv hob hb1 hcs q1 (by
    have e : Lib.byteCells (l ++ s.data.toList) = Lib.byteCells l ++ Lib.strCells s := by simp [Lib.byteCells, Lib.strCells]
    have e2 : (l ++ s.data.toList).length = l.length + s.size := by rw [List.length_append, Array.length_toList]; rfl
    rw [e, e2]
    exact ho') hg' (fun g hg => by
      rcases hfr with e | e
      · exact .inl (e ▸ hg)
      · exact .inr (e g hg)))
  obtain ⟨a', n', c', rfl⟩ : ∃ a n c, v' = .slice a n c := by
    rcases ho'.2 with ⟨e, _⟩ | ⟨g, cap, cur, e, _⟩
    · exact ⟨_, _, _, e⟩
    · exact ⟨_, _, _, e⟩
  clear hcs hc1 hrow hob hv hlt hl hrow1 q1 hb1 ho' hg' hfr hb2
  go_wp2_with (at_builtin; refine wpList_append_run' _ rfl _ _ _ _ rfl _ _ rfl rfl _ _ hr ?_)
  go_ret2
  exact ⟨rfl, HE.out⟩


set_option maxRecDepth 100000 in
set_option maxHeartbeats 2000000 in
theorem bstring_anyX (b : Nat) (cs : Array Value) (l : List UInt8) (own : Nat → Prop) (w : World) (h : BuildX w own b l cs) (h0 : l ≠ []) :
    Calls Try.prog 84 #[.pointer (some ⟨b, 0, none⟩)] w fun e w' => e = .returned (.string ⟨l.toArray⟩) ∧ Keeps own w w' := by
  obtain ⟨p, v, hp, hb, hcs0, hc0, hc1, hown, hob, hv⟩ := h
  obtain ⟨a, c, rfl⟩ := row_shape (ok := fun _ => True) ⟨hown, fun _ _ => trivial⟩
  have hl0 : l.length ≠ 0 := by simpa using h0
  obtain ⟨g, cap, cur, hv2, hgb, hg, hnc, hcm, hcs, htake⟩ : ∃ g cap cur, Value.slice a l.length c = .slice (some ⟨g, 0, none⟩) l.length cap ∧ 0 ≤ g ∧ w.heap[g]? = some (.cells cur 5 (0, 0)) ∧ l.length ≤ cap ∧ cap ≤ maxLen ∧ cur.size = cap * 1 ∧ cur.toList.take (l.length * 1) = Lib.byteCells l := by
    rcases hown.2 with ⟨_, hz⟩ | ⟨g, cap, cur, hv, r⟩
    · exact absurd hz hl0
    · exact ⟨g, cap, cur, hv, r⟩
  rw [hv2] at hown hv hc1
  have hog := (hv g rfl).1
  have c1 : w.drew.cell? ⟨b, 1, none⟩ = some (.slice (some ⟨g, 0, none⟩) l.length cap) := by
    have hb2 : Blk w.drew b cs 136 := hb
    exact (hb2.cell 1).trans hc1
  have hSD : (Builtin.unsafeSliceData_ #[22] 169 #[.slice (some ⟨g, 0, none⟩) l.length cap]).run Try.prog w.drew = .ok (.pointer (some ⟨g, 0, none⟩)) w.drew :=
    Lib.run_unsafeSliceData_row _ _ _ _ _ _ (by omega)
  have hUS : (Builtin.unsafeString_ #[169, 3] 9 #[.pointer (some ⟨g, 0, none⟩), .int .i64 l.length]).run Try.prog w.drew = .ok (.string ⟨l.toArray⟩) (w.drew.freeze ⟨g, 0, none⟩ l.length) := by
    refine Lib.run_unsafeString_row w.drew 169 3 9 5 Try.underlying169 Try.cellsByte g cur.size (by have hg' : w.drew.heap[g]? = some (.cells cur 5 (0, 0)) := hg; simp [World.shape?, hg']) l h0 (by omega) (by unfold maxLen at hcm; omega) ?_
    intro j x hx
    have := hown.cells (g := g) rfl j (.int .u8 x.toNat) (by simp [Lib.byteCells, hx])
    exact this
  have HE := Lib.hid (Keeps.freeze (w := w) (may := own) hog l.length)
  obtain ⟨n, hn⟩ : ∃ n, n = l.length := ⟨_, rfl⟩
  obtain ⟨S, hS⟩ : ∃ S : ByteArray, S = ⟨l.toArray⟩ := ⟨_, rfl⟩
  rw [← hn] at c1 hSD hUS HE
  rw [← hS] at hUS ⊢
  have mixed : Try.prog.follows .mixedOrders = true := by kernel_rfl
  clear hn hS hv2 hgb hg hnc hcm hcs htake hb hown hv hog hl0 h0 hcs0 hc0 hc1 hp hob
  go_enter Try.func84, Try.ntmps84
  go_wp2
  go_region_o
  all_goals (go_wp2; go_ret; exact ⟨rfl, HE.out⟩)


theorem Try.ptrByte : Try.prog.underlying 169 = some (.pointer 5) := Try.underlying169

set_option maxRecDepth 100000 in
set_option maxHeartbeats 2000000 in
theorem bstring_nilX (b : Nat) (cs : Array Value) (w : World) (hb : Blk w b cs 136) (hc1 : cs[1]? = some (.slice none 0 0)) :
    Calls Try.prog 84 #[.pointer (some ⟨b, 0, none⟩)] w fun e w' => e = .returned (.string ⟨#[]⟩) ∧ Keeps noB w w' := by
  have hUS : ∀ W q, (Builtin.unsafeString_ #[169, 3] 9 #[.pointer q, .int .i64 0]).run Try.prog W = .ok (.string .empty) W := fun W q => Lib.run_unsafeString_none W _ _ _ q
  have c1 : w.drew.cell? ⟨b, 1, none⟩ = some (.slice none 0 0) := by
    have hb2 : Blk w.drew b cs 136 := hb
    exact (hb2.cell 1).trans hc1
  have hSD : (Builtin.unsafeSliceData_ #[22] 169 #[.slice none 0 0]).run Try.prog w.drew = .ok (.pointer none) w.drew := rfl
  have mixed : Try.prog.follows .mixedOrders = true := by kernel_rfl
  clear hb hc1
  go_enter Try.func84, Try.ntmps84
  go_wp2
  go_region_o
  all_goals (go_wp2; go_ret; exact ⟨rfl, (Keeps.refl noB w).drew⟩)

set_option maxRecDepth 100000 in
set_option maxHeartbeats 2000000 in
theorem bstring_noroomX (b g : Nat) (cs cur : Array Value) (w : World) (hb : Blk w b cs 136) (hc1 : cs[1]? = some (.slice (some ⟨g, 0, none⟩) 0 0)) (hg : w.heap[g]? = some (.cells cur 5 (0, 0))) :
    Calls Try.prog 84 #[.pointer (some ⟨b, 0, none⟩)] w fun e w' => e = .returned (.string ⟨#[]⟩) ∧ Keeps noB w w' := by
  have hUS : ∀ W q, (Builtin.unsafeString_ #[169, 3] 9 #[.pointer q, .int .i64 0]).run Try.prog W = .ok (.string .empty) W := fun W q => Lib.run_unsafeString_none W _ _ _ q
  have hb2 : Blk w.drew b cs 136 := hb
  have c1 : w.drew.cell? ⟨b, 1, none⟩ = some (.slice (some ⟨g, 0, none⟩) 0 0) := (hb2.cell 1).trans hc1
  have hSD : (Builtin.unsafeSliceData_ #[22] 169 #[.slice (some ⟨g, 0, none⟩) 0 0]).run Try.prog w.drew = .ok (.pointer (some ⟨w.drew.heap.size, 0, none⟩)) (w.drew.alloc (.view ⟨g, 0, none⟩ 5)) :=
    Lib.run_unsafeSliceData_zero w.drew _ _ 5 Try.ptrByte ⟨g, 0, none⟩ 0 (5, cur.size) (by have hg' : w.drew.heap[g]? = some (.cells cur 5 (0, 0)) := hg; simp [World.shape?, hg'])
  have c2 : (w.drew.alloc (.view ⟨g, 0, none⟩ 5)).cell? ⟨b, 1, none⟩ = some (.slice (some ⟨g, 0, none⟩) 0 0) := ((hb2.alloc _).cell 1).trans hc1
  have c3 : (w.alloc (.view ⟨g, 0, none⟩ 5)).drew.cell? ⟨b, 1, none⟩ = some (.slice (some ⟨g, 0, none⟩) 0 0) := c2
  have c0 : w.cell? ⟨b, 1, none⟩ = some (.slice (some ⟨g, 0, none⟩) 0 0) := c1
  have mixed : Try.prog.follows .mixedOrders = true := by kernel_rfl
  clear hb hc1 hb2 hg
  go_enter Try.func84, Try.ntmps84
  go_wp2
  go_region_o
  all_goals (go_wp2; go_ret; exact ⟨rfl, ((Keeps.refl noB w).drew).alloc _⟩)

set_option maxRecDepth 100000 in
set_option maxHeartbeats 2000000 in
theorem bstring_roomX (b g cap : Nat) (cs : Array Value) (w : World) (hc0 : cap ≠ 0) (hb : Blk w b cs 136) (hc1 : cs[1]? = some (.slice (some ⟨g, 0, none⟩) 0 cap)) :
    Calls Try.prog 84 #[.pointer (some ⟨b, 0, none⟩)] w fun e w' => e = .returned (.string ⟨#[]⟩) ∧ Keeps noB w w' := by
  have hUS : ∀ W q, (Builtin.unsafeString_ #[169, 3] 9 #[.pointer q, .int .i64 0]).run Try.prog W = .ok (.string .empty) W := fun W q => Lib.run_unsafeString_none W _ _ _ q
  have hb2 : Blk w.drew b cs 136 := hb
  have c1 : w.drew.cell? ⟨b, 1, none⟩ = some (.slice (some ⟨g, 0, none⟩) 0 cap) := (hb2.cell 1).trans hc1
  have hSD : (Builtin.unsafeSliceData_ #[22] 169 #[.slice (some ⟨g, 0, none⟩) 0 cap]).run Try.prog w.drew = .ok (.pointer (some ⟨g, 0, none⟩)) w.drew :=
    Lib.run_unsafeSliceData_row _ _ _ _ _ _ hc0
  have mixed : Try.prog.follows .mixedOrders = true := by kernel_rfl
  clear hb hc1 hb2 hc0
  go_enter Try.func84, Try.ntmps84
  go_wp2
  go_region_o
  all_goals (go_wp2; go_ret; exact ⟨rfl, (Keeps.refl noB w).drew⟩)

/-- String, whatever the builder holds. -/
theorem btext_anyX (b : Nat) (cs : Array Value) (l : List UInt8) (own : Nat → Prop) (w : World) (h : BuildX w own b l cs) :
    Calls Try.prog 84 #[.pointer (some ⟨b, 0, none⟩)] w fun e w' => e = .returned (.string ⟨l.toArray⟩) ∧ Keeps own w w' := by
  by_cases h0 : l = []
  · subst h0
    obtain ⟨p, v, hp, hb, hcs0, hc0, hc1, hown, hob, hv⟩ := h
    rcases hown.2 with ⟨rfl, _⟩ | ⟨g, cap, cur, rfl, hbg, hg, _, _, _, _⟩
    · exact (bstring_nilX b cs w hb hc1).mono (fun e w' h => ⟨h.1, h.2.mono (fun _ e => e.elim)⟩)
    · by_cases hc : cap = 0
      · subst hc; exact (bstring_noroomX b g cs cur w hb hc1 hg).mono (fun e w' h => ⟨h.1, h.2.mono (fun _ e => e.elim)⟩)
      · exact (bstring_roomX b g cap cs w hc hb hc1).mono (fun e w' h => ⟨h.1, h.2.mono (fun _ e => e.elim)⟩)
  · exact bstring_anyX b cs l own w h h0

end Go.Proofs.Ytccpmhjffcceeaa

namespace Go.Proofs.Ytccpmhjffcceeaa
set_option linter.unusedVariables false
set_option linter.unusedSimpArgs false
open Go.RowKit

/-- A visitor behind its interface: its methods answer as V says of the steps that S names, in every world in which what lay in w0 lies as it lay. -/
structure VisAt (w0 : World) (ok : Nat → Prop) (V : Vis) (S : Nd → Prop) (vv : Value) : Prop where
  keeps : ∃ kf kr, (∀ W a, (callMethod vv "loop.example/endsoflife/impl.keeps" #[a]).run Try.prog W = .ok (.enter kf #[kr, a]) W) ∧
    ∀ z d v W, S z → RepI w0 ok z v → Keeps noB w0 W → Calls Try.prog kf #[kr, placeV v z.scope d] W (fun e w' => e = .returned (.bool (V.keeps z)) ∧ Keeps noB W w')
  ahead : ∃ kf kr, (∀ W a, (callMethod vv "loop.example/endsoflife/impl.ahead" #[a]).run Try.prog W = .ok (.enter kf #[kr, a]) W) ∧
    ∀ z d v W, S z → RepI w0 ok z v → Keeps noB w0 W → Calls Try.prog kf #[kr, placeV v z.scope d] W (fun e w' => e = .returned (str (V.ahead z)) ∧ Keeps noB W w')
  value : ∃ kf kr, (∀ W a, (callMethod vv "loop.example/endsoflife/impl.value" #[a]).run Try.prog W = .ok (.enter kf #[kr, a]) W) ∧
    ∀ z g W, S z → RepI w0 ok z (.iface 149 (ptr g)) → Keeps noB w0 W → Calls Try.prog kf #[kr, ptr g] W (fun e w' => e = .returned (str (V.value z)) ∧ Keeps noB W w')
  decls : ∃ kf kr, (∀ W a, (callMethod vv "loop.example/endsoflife/impl.declares" #[a]).run Try.prog W = .ok (.enter kf #[kr, a]) W) ∧
    ∀ z g W, S z → RepI w0 ok z (.iface 57 (ptr g)) → Keeps noB w0 W → Calls Try.prog kf #[kr, ptr g] W (fun e w' => e = .returned (str (V.decls z)) ∧ Keeps noB W w')
  ends : ∃ kf kr, (∀ W a, (callMethod vv "loop.example/endsoflife/impl.atEnd" #[a]).run Try.prog W = .ok (.enter kf #[kr, a]) W) ∧
    ∀ z g W, S z → RepI w0 ok z (.iface 57 (ptr g)) → Keeps noB w0 W → Calls Try.prog kf #[kr, ptr g] W (fun e w' => e = .returned (str (V.ends z)) ∧ Keeps noB W w')

/-- A writer in block b that has written l; 'own': the blocks that are its own, all of them newer than w0. -/
def WrI (w0 : World) (b : Nat) (vv : Value) (l : List UInt8) (own : Nat → Prop) (w : World) : Prop :=
  ∃ cs, BuildX w own b l cs ∧ cs[2]? = some vv ∧ (∀ k, own k → k < w.heap.size ∧ w0.heap.size ≤ k) ∧ Keeps noB w0 w

/-- How the writer ends that has written. -/
def WrPost (w0 : World) (b : Nat) (vv : Value) (w : World) (own : Nat → Prop) (l : List UInt8) (res : Value) (e : Ending) (w' : World) : Prop :=
  e = .returned res ∧ ∃ own', Owns own own' w w' ∧ WrI w0 b vv l own' w'

theorem WrI.lt {w0 w : World} {b : Nat} {vv : Value} {l : List UInt8} {own : Nat → Prop} (h : WrI w0 b vv l own w) : ∀ k, own k → k < w.heap.size := by
  obtain ⟨cs, _, _, h3, _⟩ := h; exact fun k e => (h3 k e).1
theorem WrI.new {w0 w : World} {b : Nat} {vv : Value} {l : List UInt8} {own : Nat → Prop} (h : WrI w0 b vv l own w) : ∀ k, own k → w0.heap.size ≤ k := by
  obtain ⟨cs, _, _, h3, _⟩ := h; exact fun k e => (h3 k e).2
theorem WrI.old {w0 w : World} {b : Nat} {vv : Value} {l : List UInt8} {own : Nat → Prop} (h : WrI w0 b vv l own w) : Keeps noB w0 w := by
  obtain ⟨cs, _, _, _, h4⟩ := h; exact h4
theorem WrI.vis {w0 w : World} {b : Nat} {vv : Value} {l : List UInt8} {own : Nat → Prop} (h : WrI w0 b vv l own w) : w.cell? ⟨b, 2, none⟩ = some vv := by
  obtain ⟨cs, ⟨p, v, hp, hb, _⟩, h2, _⟩ := h; exact (hb.cell 2).trans h2
theorem WrI.blt {w0 w : World} {b : Nat} {vv : Value} {l : List UInt8} {own : Nat → Prop} (h : WrI w0 b vv l own w) : b < w.heap.size := by
  obtain ⟨cs, ⟨p, v, hp, hb, _⟩, _⟩ := h; exact hb.lt

theorem BuildX.quiet {w w' : World} {own : Nat → Prop} {b : Nat} {l : List UInt8} {cs : Array Value} (h : BuildX w own b l cs) (q : Keeps noB w w') : BuildX w' own b l cs := by
  obtain ⟨p, v, hp, hb, hs, h0, h1, hrow, hob, hv⟩ := h
  exact ⟨p, v, hp, q.blk hb id, hs, h0, h1, q.ownsRow hrow (fun _ _ _ => id), hob, hv⟩

theorem WrI.quiet {w0 w w' : World} {b : Nat} {vv : Value} {l : List UInt8} {own : Nat → Prop} (h : WrI w0 b vv l own w) (q : Keeps noB w w') : WrI w0 b vv l own w' := by
  obtain ⟨cs, h1, h2, h3, h4⟩ := h
  exact ⟨cs, h1.quiet q, h2, fun k e => ⟨Nat.lt_of_lt_of_le (h3 k e).1 q.size, (h3 k e).2⟩, h4.trans q⟩

theorem WrI.of {w0 w w' : World} {b : Nat} {vv : Value} {l l' : List UInt8} {own own' : Nat → Prop} (h : WrI w0 b vv l own w) (ho : Owns own own' w w') {cs cs' : Array Value} (hb : BuildX w' own' b l' cs') (hc : cs[2]? = some vv) (hcs : ∀ j, 2 ≤ j → cs'[j]? = cs[j]?) : WrI w0 b vv l' own' w' :=
  ⟨cs', hb, (hcs 2 (Nat.le_refl _)).trans hc, fun k e => ⟨ho.lt k e, (ho.more k e).elim (h.new k) (fun e => Nat.le_trans h.old.size e)⟩, h.old.transNew ho.keeps (fun i hi e => by have := h.new i e; omega)⟩

theorem wbyte_any {w0 w : World} {b : Nat} {vv : Value} {l : List UInt8} {own : Nat → Prop} (c : UInt8) (h : WrI w0 b vv l own w) (hl : l.length ≤ 100000000) :
    Calls Try.prog 122 #[.pointer (some ⟨b, 0, none⟩), .int .u8 (c.toNat : Int)] w (WrPost w0 b vv w own (l ++ [c]) .nilIface) := by
  obtain ⟨cs, h1, h2, h3, h4⟩ := id h
  refine (writeByte_anyX b cs l c own w h1 (fun k e => (h3 k e).1) hl).mono ?_
  rintro e w' ⟨rfl, own', cs', ho, hb, hcs⟩
  exact ⟨rfl, own', ho, h.of ho hb h2 hcs⟩

theorem wstr_any {w0 w : World} {b : Nat} {vv : Value} {l : List UInt8} {own : Nat → Prop} (t : ByteArray) (h : WrI w0 b vv l own w) (hl : l.length + t.size ≤ 100000000) :
    Calls Try.prog 121 #[.pointer (some ⟨b, 0, none⟩), .string t] w (WrPost w0 b vv w own (l ++ t.data.toList) (.tuple #[.int .i64 (t.size : Int), .nilIface])) := by
  obtain ⟨cs, h1, h2, h3, h4⟩ := id h
  refine (writeString_anyX b cs l t own w h1 (fun k e => (h3 k e).1) hl).mono ?_
  rintro e w' ⟨rfl, own', cs', ho, hb, hcs⟩
  exact ⟨rfl, own', ho, h.of ho hb h2 hcs⟩

/-- What the writer's step says of a step of the tree. -/
def StepW (w0 : World) (ok : Nat → Prop) (V : Vis) (vv : Value) (b : Nat) (s : ByteArray) (z : Nd) : Prop :=
  ∀ (d : Nat) (v : Value) (l : List UInt8) (own : Nat → Prop) (w : World), z.Ok s d → RepI w0 ok z v → WrI w0 b vv l own w → l.length + 1000 * z.pre.len ≤ 10000000 →
    Calls Try.prog 83 #[.pointer (some ⟨b, 0, none⟩), placeV v z.scope d] w (WrPost w0 b vv w own (l ++ z.wr V) (.tuple #[]))

/-- How many steps stand in some steps, themselves included. -/
def lenL (l : List Nd) : Nat := (l.map (fun z => z.pre.len)).sum
theorem lenL_cons (z : Nd) (l : List Nd) : lenL (z :: l) = z.pre.len + lenL l := by simp [lenL]
theorem lenL_app (l m : List Nd) : lenL (l ++ m) = lenL l + lenL m := by simp [lenL]
theorem lenL_nds : ∀ x : Nds, lenL x.list = x.pre.len
  | .nil => rfl
  | .cons x r => by simp only [Nds.list, lenL_cons, Nds.pre, Nds.len_app, lenL_nds r]
theorem wrL_len (V : Vis) : ∀ l : List Nd, (∀ z ∈ l, ∀ y ∈ z.pre.list, ShortAt V y) → (wrL V l).length ≤ 1000 * lenL l
  | [], _ => by simp [wrL, lenL]
  | z :: r, h => by
    have h1 := Nd.wr_len V z (h z (by simp))
    have h2 := wrL_len V r (fun y hy => h y (by simp [hy]))
    unfold wrL at *
    rw [List.flatMap_cons, List.length_append, lenL_cons]
    omega
theorem wrL_app (V : Vis) (l m : List Nd) : wrL V (l ++ m) = wrL V l ++ wrL V m := by simp [wrL]
theorem wrL_one (V : Vis) (z : Nd) : wrL V [z] = z.wr V := by simp [wrL]

/-- What the loop over places has written. -/
def StepsI (w0 : World) (b : Nat) (vv : Value) (V : Vis) (kids : List Nd) (l : List UInt8) (w : World) (own : Nat → Prop) (v8 : Value) (wr : World) : Prop :=
  ∃ (done todo : List Nd) (own1 : Nat → Prop), kids = done ++ todo ∧ v8 = .int .i64 done.length ∧ Owns own own1 w wr ∧ WrI w0 b vv (l ++ wrL V done) own1 wr

set_option maxRecDepth 100000 in
set_option maxHeartbeats 2000000 in
theorem wsteps_any (w0 : World) (ok : Nat → Prop) (V : Vis) (vv : Value) (b : Nat) (s : ByteArray) (d : Nat) (kids : List Nd) (hk : ∀ z ∈ kids, StepW w0 ok V vv b s z ∧ z.Ok s d ∧ ∀ y ∈ z.pre.list, ShortAt V y)
    (l : List UInt8) (own : Nat → Prop) (w : World) (hw : WrI w0 b vv l own w) (hl : l.length + 1000 * lenL kids ≤ 10000000) (hkl : kids.length ≤ 1000) (R off m : Nat) (a : Option Addr) (cs : List Value) (hp : PlacesAt w0 ok d kids cs)
    (ha : 0 < kids.length → a = some ⟨R, off, none⟩ ∧ R < w.heap.size ∧ ¬ own R ∧ ∀ j u, cs[j]? = some u → w.cell? ⟨R, off + j, none⟩ = some u) :
    Calls Try.prog 148 #[.pointer (some ⟨b, 0, none⟩), .slice a kids.length m] w (WrPost w0 b vv w own (l ++ wrL V kids) (.tuple #[])) := by
  obtain ⟨n, hn⟩ : ∃ n, kids.length = n := ⟨_, rfl⟩
  rw [hn] at ha hkl ⊢
  have HN := Lib.hid hn
  have HK := Lib.hid hk
  have HA := Lib.hid ha
  have HP := Lib.hid hp
  have HS : Hid (StepsI w0 b vv V kids l w own (.int .i64 0) w) := ⟨[], kids, own, rfl, rfl, Owns.refl hw.lt, by simpa [wrL] using hw⟩
  have HL := Lib.hid hl
  clear hk ha hp hn hw hl
  go_enter Try.func148, Try.ntmps148
  go_wp2_with fail
  go_loopw [8] (fun v8 wr => StepsI w0 b vv V kids l w own v8 wr) (fun v8 _ => n - (intOf v8).toNat)
  case atStart => exact HS.out
  case round =>
    clear HS
    obtain ⟨done, todo, own1, hkids, rfl, ho, hI⟩ := hrel
    have hlen := congrArg List.length hkids
    rw [List.length_append, HN.out] at hlen
    cases todo with
    | nil =>
      have HE : Hid (WrPost w0 b vv w own (l ++ wrL V kids) (.tuple #[]) (.returned (.tuple #[])) wr) := ⟨rfl, own1, ho, by rw [hkids, List.append_nil]; exact hI⟩
      have hd : ¬ (done.length : Int) < (n : Int) := by simp at hlen; omega
      clear hkids hlen ho hI
      go_wp2_with fail
      go_end0
      exact HE.out
    | cons z todo =>
      have hd : (done.length : Int) < (n : Int) := by simp at hlen; omega
      have hn0 : 0 < n := by omega
      obtain ⟨rfl, hR, hRo, hcell⟩ := HA.out hn0
      obtain ⟨u, hzu, c0, c1, c2⟩ := HP.out.get hkids
      have hRb : wr.heap[R]? = w.heap[R]? := ho.keeps.block R hR hRo
      have s0 := (World.cell?_of_block (w := w) (w' := wr) (a := ⟨R, off + done.length * 3, none⟩) hRb).trans (hcell _ _ c0)
      have s1 := (World.cell?_of_block (w := w) (w' := wr) (a := ⟨R, off + (done.length * 3 + 1), none⟩) hRb).trans (hcell _ _ c1)
      have s2 := (World.cell?_of_block (w := w) (w' := wr) (a := ⟨R, off + (done.length * 3 + 2), none⟩) hRb).trans (hcell _ _ c2)
      rw [← Nat.add_assoc] at s1 s2
      obtain ⟨hzk, hzo, hzs⟩ := HK.out z (by rw [hkids]; simp)
      have hlz : (l ++ wrL V done).length + 1000 * z.pre.len ≤ 10000000 := by
        have h1 := wrL_len V done (fun y hy => (HK.out y (by rw [hkids]; simp [hy])).2.2)
        have h2 := HL.out
        rw [hkids, lenL_app, lenL_cons] at h2
        rw [List.length_append]
        omega
      obtain ⟨ss, hss⟩ : ∃ ss, str z.scope = .string ss := ⟨_, rfl⟩
      have hpv : placeV u z.scope d = .agg #[u, .string ss, .int .i64 (d : Int)] := by unfold placeV; rw [hss]; rfl
      rw [hss] at s1
      unfold i64 at s2
      obtain ⟨ty, g, rfl⟩ := rep_iface _ _ _ _ hzu
      have q0 : Keeps noB wr (wr.alloc (.cells #[.iface ty (ptr g), .string ss, .int .i64 (d : Int)] 48)) := (Keeps.refl _ _).alloc _
      have HC : Hid (Calls Try.prog 83 #[.pointer (some ⟨b, 0, none⟩), .agg #[.iface ty (ptr g), .string ss, .int .i64 (d : Int)]] (wr.alloc (.cells #[.iface ty (ptr g), .string ss, .int .i64 (d : Int)] 48))
          (fun e w' => e = .returned (.tuple #[]) ∧ StepsI w0 b vv V kids l w own (.int .i64 ((done.length : Int) + 1)) w')) := by
        rw [← hpv]
        refine (hzk d _ _ own1 _ hzo hzu (hI.quiet q0) hlz).mono ?_
        rintro e w' ⟨rfl, own2, ho2, hI2⟩
        refine ⟨rfl, done ++ [z], todo, own2, by rw [hkids]; simp, by simp, ho.trans (Owns.behind q0 ho2), ?_⟩
        rw [wrL_app, wrL_one, ← List.append_assoc]
        exact hI2
      clear hkids hlen ho hI hRb c0 c1 c2 hzk hzo hzs hlz hss hpv q0 hcell hzu HA HP HK HL
      unfold ptr at *
      go_wp2_with fail
      refine HC.out.mono ?_
      rintro e w' ⟨rfl, hS⟩
      have HS2 := Lib.hid hS
      clear hS
      go_wp2_with fail
      go_roundw
      case rel => exact HS2.out
      case measure => simp [intOf]; omega

end Go.Proofs.Ytccpmhjffcceeaa

namespace Go.Proofs.Ytccpmhjffcceeaa
set_option linter.unusedVariables false
set_option linter.unusedSimpArgs false
open Go.RowKit

/-- The places of some steps lie in a slice that begins at a. -/
def KidsAt (w0 : World) (ok : Nat → Prop) (d : Nat) (kids : List Nd) (own : Nat → Prop) (w : World) (a : Option Addr) : Prop :=
  ∃ R off cs, PlacesAt w0 ok d kids cs ∧ (0 < kids.length → a = some ⟨R, off, none⟩ ∧ R < w.heap.size ∧ ¬ own R ∧ ∀ j u, cs[j]? = some u → w.cell? ⟨R, off + j, none⟩ = some u)

theorem KidsAt.owns {w0 w w' : World} {ok : Nat → Prop} {d : Nat} {kids : List Nd} {own own' : Nat → Prop} {a : Option Addr} (h : KidsAt w0 ok d kids own w a) (ho : Owns own own' w w') : KidsAt w0 ok d kids own' w' a := by
  obtain ⟨R, off, cs, h1, h2⟩ := h
  refine ⟨R, off, cs, h1, fun hl => ?_⟩
  obtain ⟨e, hR, hn, hc⟩ := h2 hl
  refine ⟨e, Nat.lt_of_lt_of_le hR ho.keeps.size, fun e => (ho.more R e).elim hn (fun e => by omega), fun j u hj => ?_⟩
  exact (World.cell?_of_block (w := w) (w' := w') (a := ⟨R, off + j, none⟩) (ho.keeps.block R hR hn)).trans (hc j u hj)

theorem KidsAt.quiet {w0 w w' : World} {ok : Nat → Prop} {d : Nat} {kids : List Nd} {own : Nat → Prop} {a : Option Addr} (h : KidsAt w0 ok d kids own w a) (q : Keeps noB w w') (hlt : ∀ k, own k → k < w.heap.size) : KidsAt w0 ok d kids own w' a :=
  h.owns ⟨fun k e => .inl e, fun k e => Nat.lt_of_lt_of_le (hlt k e) q.size, q.mono (fun _ e => e.elim)⟩

theorem KidsAt.none {w0 w : World} {ok : Nat → Prop} {d : Nat} {own : Nat → Prop} {a : Option Addr} : KidsAt w0 ok d [] own w a :=
  ⟨0, 0, [], rfl, fun h => by simp at h⟩

theorem PlacesAt.split {w : World} {ok : Nat → Prop} {d : Nat} {m : List Nd} : ∀ {l : List Nd} {cs : List Value}, PlacesAt w ok d (l ++ m) cs → ∃ c1 c2, cs = c1 ++ c2 ∧ c1.length = l.length * 3 ∧ PlacesAt w ok d l c1 ∧ PlacesAt w ok d m c2
  | [], cs, h => ⟨[], cs, rfl, rfl, rfl, h⟩
  | z :: r, cs, h => by
    simp only [List.cons_append, PlacesAt] at h
    obtain ⟨u, cs', rfl, hz, h⟩ := h
    obtain ⟨c1, c2, rfl, hl, h1, h2⟩ := PlacesAt.split h
    exact ⟨u :: str z.scope :: i64 d :: c1, c2, rfl, by simp [hl]; omega, ⟨u, c1, rfl, hz, h1⟩, h2⟩

/-- The first ones of some places, and the others. -/
theorem KidsAt.fst {w0 w : World} {ok : Nat → Prop} {d : Nat} {k1 k2 : List Nd} {own : Nat → Prop} {a : Option Addr} (h : KidsAt w0 ok d (k1 ++ k2) own w a) : KidsAt w0 ok d k1 own w a := by
  obtain ⟨R, off, cs, h1, h2⟩ := h
  obtain ⟨c1, c2, rfl, hl, p1, p2⟩ := PlacesAt.split h1
  refine ⟨R, off, c1, p1, fun hk => ?_⟩
  obtain ⟨e, hR, hn, hc⟩ := h2 (by rw [List.length_append]; omega)
  exact ⟨e, hR, hn, fun j u hj => hc j u (by rw [List.getElem?_append_left (List.getElem?_eq_some_iff.1 hj).1]; exact hj)⟩
theorem KidsAt.snd {w0 w : World} {ok : Nat → Prop} {d : Nat} {k1 k2 : List Nd} {own : Nat → Prop} {R0 off0 : Nat} (h : KidsAt w0 ok d (k1 ++ k2) own w (some ⟨R0, off0, Option.none⟩)) : KidsAt w0 ok d k2 own w (some ⟨R0, off0 + k1.length * 3, Option.none⟩) := by
  obtain ⟨R, off, cs, h1, h2⟩ := h
  obtain ⟨c1, c2, rfl, hl, p1, p2⟩ := PlacesAt.split h1
  refine ⟨R, off + k1.length * 3, c2, p2, fun hk => ?_⟩
  obtain ⟨e, hR, hn, hc⟩ := h2 (by rw [List.length_append]; omega)
  obtain ⟨rfl, rfl⟩ : R0 = R ∧ off0 = off := by simpa using e
  refine ⟨rfl, hR, hn, fun j u hj => ?_⟩
  have := hc (c1.length + j) u (by rw [List.getElem?_append_right (by omega)]; simpa using hj)
  rwa [hl, ← Nat.add_assoc] at this

/-- What 'steps' says of some steps that lie in a slice. -/
def StepsC (w0 : World) (ok : Nat → Prop) (V : Vis) (vv : Value) (b : Nat) (d : Nat) (kids : List Nd) : Prop :=
  ∀ (l : List UInt8) (own : Nat → Prop) (w : World) (a : Option Addr) (m : Nat), WrI w0 b vv l own w → l.length + 1000 * lenL kids ≤ 10000000 → KidsAt w0 ok d kids own w a →
    Calls Try.prog 148 #[.pointer (some ⟨b, 0, none⟩), .slice a kids.length m] w (WrPost w0 b vv w own (l ++ wrL V kids) (.tuple #[]))

theorem stepsC (w0 : World) (ok : Nat → Prop) (V : Vis) (vv : Value) (b : Nat) (s : ByteArray) (d : Nat) (kids : List Nd) (hk : ∀ z ∈ kids, StepW w0 ok V vv b s z ∧ z.Ok s d ∧ ∀ y ∈ z.pre.list, ShortAt V y) (hkl : kids.length ≤ 1000) : StepsC w0 ok V vv b d kids := by
  rintro l own w a m hw hl ⟨R, off, cs, hp, ha⟩
  exact wsteps_any w0 ok V vv b s d kids hk l own w hw hl hkl R off m a cs hp ha

theorem wrPost_trans {w0 w w1 : World} {b : Nat} {vv : Value} {own own1 : Nat → Prop} {l : List UInt8} {res : Value} {e : Ending} {w' : World} (ho : Owns own own1 w w1) (h : WrPost w0 b vv w1 own1 l res e w') : WrPost w0 b vv w own l res e w' := by
  obtain ⟨he, own', ho', hI⟩ := h
  exact ⟨he, own', ho.trans ho', hI⟩

set_option maxRecDepth 100000 in
set_option maxHeartbeats 2000000 in
theorem wbracket_any {w0 : World} {ok : Nat → Prop} {V : Vis} {vv : Value} {b : Nat} {d : Nat} {kids : List Nd} (hS : StepsC w0 ok V vv b d kids) (hkl : (wrL V kids).length ≤ 1000 * lenL kids)
    (l : List UInt8) (own : Nat → Prop) (w : World) (a : Option Addr) (m : Nat) (hw : WrI w0 b vv l own w) (hl : l.length + 1000 * lenL kids + 10 ≤ 10000000) (ha : KidsAt w0 ok d kids own w a) :
    Calls Try.prog 123 #[.pointer (some ⟨b, 0, none⟩), .slice a kids.length m] w (WrPost w0 b vv w own (l ++ ([91] ++ wrL V kids ++ [93])) (.tuple #[])) := by
  have H1 : Hid (Calls Try.prog 122 #[.pointer (some ⟨b, 0, none⟩), .int .u8 91] w (WrPost w0 b vv w own (l ++ [91]) .nilIface)) := wbyte_any 91 hw (by omega)
  have H2 : Hid (∀ own1 w1, Owns own own1 w w1 → WrI w0 b vv (l ++ [91]) own1 w1 → Calls Try.prog 148 #[.pointer (some ⟨b, 0, none⟩), .slice a kids.length m] w1 (WrPost w0 b vv w own ((l ++ [91]) ++ wrL V kids) (.tuple #[]))) := fun own1 w1 ho h =>
    (hS _ own1 w1 a m h (by rw [List.length_append]; simp only [List.length_cons, List.length_nil]; omega) (ha.owns ho)).mono (fun e w' h => wrPost_trans ho h)
  have H3 : Hid (∀ own1 w1, Owns own own1 w w1 → WrI w0 b vv ((l ++ [91]) ++ wrL V kids) own1 w1 → Calls Try.prog 122 #[.pointer (some ⟨b, 0, none⟩), .int .u8 93] w1 (WrPost w0 b vv w own (l ++ ([91] ++ wrL V kids ++ [93])) .nilIface)) := fun own1 w1 ho h => by
    have e := wbyte_any 93 h (by simp only [List.length_append, List.length_cons, List.length_nil]; omega)
    rw [show l ++ ([91] ++ wrL V kids ++ [93]) = ((l ++ [91]) ++ wrL V kids) ++ [93] by simp]
    exact e.mono (fun e w' h => wrPost_trans ho h)
  clear hS hw ha hl hkl
  generalize kids.length = n at *
  go_enter Try.func123, Try.ntmps123
  go_wp2_with fail
  refine H1.out.mono ?_
  rintro e w1 ⟨rfl, own1, o1, i1⟩
  have HQ1 := Lib.hid (H2.out own1 w1 o1 i1)
  clear o1 i1
  go_wp2_with fail
  refine HQ1.out.mono ?_
  rintro e w2 ⟨rfl, own2, o2, i2⟩
  have HQ2 := Lib.hid (H3.out own2 w2 o2 i2)
  clear o2 i2
  go_wp2_with fail
  refine HQ2.out.mono ?_
  rintro e w3 ⟨rfl, h3⟩
  have HE := Lib.hid h3
  clear h3
  go_wp2_with fail
  go_end0
  exact ⟨rfl, HE.out⟩

theorem notEmptyD {s : ByteArray} (h : 0 < s.size) : s.toList.isEmpty = false := by
  rw [Go.ByteArray.toList_eq]
  have : s.data.toList ≠ [] := fun e => by
    have h2 := congrArg List.length e
    simp at h2
    rw [h2] at h
    exact absurd h (by decide)
  simpa using this


/-- What stands of a scope. -/
def scopeT (V : Vis) (z : Nd) (t : List UInt8) : List UInt8 := if V.decls z = [] then t else ([123] ++ V.decls z ++ [58]) ++ t ++ (V.ends z ++ [125])

theorem bytes_join (x y : List UInt8) : (⟨x.toArray⟩ : ByteArray) ++ ⟨y.toArray⟩ = ⟨(x ++ y).toArray⟩ := by
  apply ByteArray.ext
  rw [ByteArray.data_append]
  simp
theorem bytes_size (x : List UInt8) : (⟨x.toArray⟩ : ByteArray).size = x.length := by simp [ByteArray.size]

set_option maxRecDepth 100000 in
set_option maxHeartbeats 4000000 in
theorem wscope_any {w0 : World} {ok : Nat → Prop} {V : Vis} {S : Nd → Prop} {vt : TypeId} {vd : Value} (hV : VisAt w0 ok V S (.iface vt vd)) {b : Nat} {d : Nat} {kids : List Nd} (hS : StepsC w0 ok V (.iface vt vd) b d kids) (hkl : (wrL V kids).length ≤ 1000 * lenL kids)
    (z : Nd) (hz : S z) (hsh : ShortAt V z) (g : Nat) (hrep : RepI w0 ok z (.iface 57 (ptr g)))
    (l : List UInt8) (own : Nat → Prop) (w : World) (a : Option Addr) (m : Nat) (hw : WrI w0 b (.iface vt vd) l own w) (hl : l.length + 1000 * lenL kids + 500 ≤ 10000000) (ha : KidsAt w0 ok d kids own w a) :
    Calls Try.prog 124 #[.pointer (some ⟨b, 0, none⟩), .pointer (some ⟨g, 0, none⟩), .slice a kids.length m] w (WrPost w0 b (.iface vt vd) w own (l ++ scopeT V z (wrL V kids)) (.tuple #[])) := by
  refine (callsIn_wide (n := 9)).1 ?_
  obtain ⟨F, hF⟩ : ∃ F, F = Fence.wide := ⟨_, rfl⟩
  have hFf : ∀ f, F.fn f := by subst hF; exact fun _ => trivial
  have hdd : ∀ k : Nat, (F.depth.isSome = true → 1 ≤ k) := by subst hF; intro k h; simp [Fence.wide] at h
  have hro : F.round = none := by subst hF; rfl
  have hds : F.depth.isSome = false := by subst hF; rfl
  obtain ⟨kd, rd, hmd, hcd⟩ := hV.decls
  obtain ⟨ke, re, hme, hce⟩ := hV.ends
  have HMD := Lib.hid hmd
  have HME := Lib.hid hme
  obtain ⟨D, hD⟩ : ∃ D : ByteArray, D = ⟨(V.decls z).toArray⟩ := ⟨_, rfl⟩
  obtain ⟨E, hE⟩ : ∃ E : ByteArray, E = ⟨(V.ends z).toArray⟩ := ⟨_, rfl⟩
  have hDz : D.size = (V.decls z).length := by rw [hD]; exact bytes_size _
  have hEz : E.size = (V.ends z).length := by rw [hE]; exact bytes_size _
  have hDl : D.size ≤ 200 := by rw [hDz]; exact hsh.decls
  have hEl : E.size ≤ 200 := by rw [hEz]; exact hsh.ends
  have hwl : (wrL V kids).length ≤ 1000 * lenL kids := hkl
  have HCD : Hid (∀ n, CallsIn F n Try.prog kd #[rd, .pointer (some ⟨g, 0, none⟩)] w (fun e w' => e = .returned (.string D) ∧ Keeps noB w w')) := fun n => by rw [hF, hD]; exact callsIn_wide.2 (hcd z g w hz hrep hw.old)
  have HCE : Hid (∀ n W, Keeps noB w0 W → CallsIn F n Try.prog ke #[re, .pointer (some ⟨g, 0, none⟩)] W (fun e w' => e = .returned (.string E) ∧ Keeps noB W w')) := fun n W q => by rw [hF, hE]; exact callsIn_wide.2 (hce z g W hz hrep q)
  have HW := Lib.hid hw
  have r2 := hw.vis
  have hbl := hw.blt
  by_cases h0 : V.decls z = []
  · have hD0 : D = ⟨#[]⟩ := by rw [hD, h0]
    have HT : Hid (l ++ scopeT V z (wrL V kids) = l ++ wrL V kids) := by unfold scopeT; rw [if_pos h0]; rfl
    have HST : Hid (∀ n w1, Keeps noB w w1 → CallsIn F n Try.prog 148 #[.pointer (some ⟨b, 0, none⟩), .slice a kids.length m] w1 (WrPost w0 b (.iface vt vd) w own (l ++ wrL V kids) (.tuple #[]))) := fun n w1 q => by
      rw [hF]
      refine callsIn_wide.2 ((hS l own w1 a m (hw.quiet q) (by omega) (ha.quiet q hw.lt)).mono (fun e w' h => wrPost_trans ?_ h))
      exact ⟨fun k e => .inl e, fun k e => Nat.lt_of_lt_of_le (hw.lt k e) q.size, q.mono (fun _ e => e.elim)⟩
    rw [← hF]
    have HF := Lib.hid hF
    clear hF hV hS hz hsh hrep hw ha hcd hce hD hE hDz hEz hDl hEl hwl hkl h0 hl HCE hme hmd HME
    subst hD0
    have hmd := HMD.out
    simp [go_sem] at hmd
    generalize kids.length = kn at *
    refine callsIn_of_wp_marks Try.func124 rfl (hFf _) ?_ hro
    simp only [Try.ntmps124, List.size_toArray, List.length_cons, List.length_nil, Nat.reduceAdd, Nat.reduceSub, Array.replicate_succ, Array.replicate_zero, List.push_toArray, List.append_toArray, List.nil_append, List.cons_append]
    gi_wp2
    refine (HCD.out _).mono ?_
    rintro e w1 ⟨rfl, q1⟩
    have Q1 := Lib.hid q1
    clear q1
    gi_wp2
    refine (HST.out _ _ Q1.out).mono ?_
    rintro e w2 ⟨rfl, own2, o2, i2⟩
    have HE := Lib.hid (And.intro o2 i2)
    clear o2 i2
    gi_wp2
    refine leaves_marks [] _ List.nodup_nil (fun _ h => by cases h) (fun W' q _ => ?_)
    refine ⟨_, results_none rfl _ _ _, rfl, own2, HE.out.1.ahead q (fun _ e => by cases e), ?_⟩
    rw [HT.out]
    exact HE.out.2.quiet (q.mono (fun _ e => by cases e))
  · have hDe : D.toList.isEmpty = false := notEmptyD (by rw [hDz]; exact List.length_pos_iff.2 h0)
    have HT : Hid (l ++ scopeT V z (wrL V kids) = ((l ++ ([123] ++ V.decls z ++ [58])) ++ wrL V kids) ++ (V.ends z ++ [125])) := Lib.hid (by unfold scopeT; rw [if_neg h0]; simp)
    obtain ⟨T1, hT1⟩ : ∃ T1 : ByteArray, (⟨#[123]⟩ : ByteArray) ++ D ++ ⟨#[58]⟩ = T1 := ⟨_, rfl⟩
    have hT1l : T1.data.toList = [123] ++ V.decls z ++ [58] := by rw [← hT1, hD]; simp
    have hT1z : T1.size = D.size + 2 := by
      have e : T1.size = T1.data.toList.length := by rw [Array.length_toList]; rfl
      rw [e, hT1l, hDz]; simp
    have HS1 : Hid (∀ n w1, Keeps noB w w1 → CallsIn F n Try.prog 121 #[.pointer (some ⟨b, 0, none⟩), .string T1] w1 (WrPost w0 b (.iface vt vd) w own (l ++ ([123] ++ V.decls z ++ [58])) (.tuple #[.int .i64 (T1.size : Int), .nilIface]))) := fun n w1 q => by
      rw [hF]
      have e := wstr_any T1 (hw.quiet q) (by omega)
      rw [hT1l] at e
      exact callsIn_wide.2 (e.mono (fun e w' h => wrPost_trans ⟨fun k e => .inl e, fun k e => Nat.lt_of_lt_of_le (hw.lt k e) q.size, q.mono (fun _ e => e.elim)⟩ h))
    have hll : (l ++ ([123] ++ V.decls z ++ [58])).length = l.length + D.size + 2 := by simp only [List.length_append, List.length_cons, List.length_nil, hDz]; omega
    have HST : Hid (∀ n own1 w1, Owns own own1 w w1 → WrI w0 b (.iface vt vd) (l ++ ([123] ++ V.decls z ++ [58])) own1 w1 → CallsIn F n Try.prog 148 #[.pointer (some ⟨b, 0, none⟩), .slice a kids.length m] w1 (WrPost w0 b (.iface vt vd) w own ((l ++ ([123] ++ V.decls z ++ [58])) ++ wrL V kids) (.tuple #[]))) := fun n own1 w1 ho h => by
      rw [hF]
      exact callsIn_wide.2 ((hS _ own1 w1 a m h (by omega) (ha.owns ho)).mono (fun e w' h => wrPost_trans ho h))
    obtain ⟨T2, hT2⟩ : ∃ T2 : ByteArray, E ++ ⟨#[125]⟩ = T2 := ⟨_, rfl⟩
    have hT2l : T2.data.toList = V.ends z ++ [125] := by rw [← hT2, hE]; simp
    have hT2z : T2.size = E.size + 1 := by
      have e : T2.size = T2.data.toList.length := by rw [Array.length_toList]; rfl
      rw [e, hT2l, hEz]; simp
    have HS2 : Hid (∀ n own1 w1, Owns own own1 w w1 → WrI w0 b (.iface vt vd) ((l ++ ([123] ++ V.decls z ++ [58])) ++ wrL V kids) own1 w1 → CallsIn F n Try.prog 121 #[.pointer (some ⟨b, 0, none⟩), .string T2] w1 (WrPost w0 b (.iface vt vd) w own (l ++ scopeT V z (wrL V kids)) (.tuple #[.int .i64 (T2.size : Int), .nilIface]))) := fun n own1 w1 ho h => by
      rw [hF, HT.out]
      have e := wstr_any T2 h (by rw [List.length_append, hll]; omega)
      rw [hT2l] at e
      exact callsIn_wide.2 (e.mono (fun e w' h => wrPost_trans ho h))
    rw [← hF]
    have HF := Lib.hid hF
    have hz1 : (⟨#[123]⟩ : ByteArray).size = 1 := rfl
    have hz2 : (⟨#[58]⟩ : ByteArray).size = 1 := rfl
    have hz3 : (⟨#[125]⟩ : ByteArray).size = 1 := rfl
    have hn1 : ¬ 9223372036854775807 < (⟨#[123]⟩ : ByteArray).size + D.size := by omega
    have hn2 : ¬ 9223372036854775807 < ((⟨#[123]⟩ : ByteArray) ++ D).size + (⟨#[58]⟩ : ByteArray).size := by rw [ByteArray.size_append]; omega
    have hn3 : ¬ 9223372036854775807 < E.size + (⟨#[125]⟩ : ByteArray).size := by omega
    have hn4 : E.size ≤ 9223372036854775806 := by omega
    obtain ⟨A1, hA1⟩ : ∃ A1 : ByteArray, (⟨#[123]⟩ : ByteArray) ++ D = A1 := ⟨_, rfl⟩
    rw [hA1] at hT1 hn2
    clear hF hV hS hz hsh hrep hw ha hcd hce hD hE hDz hEz hDl hEl hwl hkl h0 hl hme hmd hT1l hT2l hll hz1 hz2 hz3 hT1z hT2z
    have hmd := HMD.out
    simp [go_sem] at hmd
    generalize kids.length = kn at *
    refine callsIn_of_wp_marks Try.func124 rfl (hFf _) ?_ hro
    simp only [Try.ntmps124, List.size_toArray, List.length_cons, List.length_nil, Nat.reduceAdd, Nat.reduceSub, Array.replicate_succ, Array.replicate_zero, List.push_toArray, List.append_toArray, List.nil_append, List.cons_append]
    gi_wp2
    refine (HCD.out _).mono ?_
    rintro e w1 ⟨rfl, q1⟩
    have Q1 := Lib.hid q1
    clear q1
    gi_wp2
    refine (HS1.out _ _ Q1.out).mono ?_
    rintro e w2 ⟨rfl, own2, o2, i2⟩
    have HI2 := Lib.hid (And.intro o2 i2)
    clear o2 i2
    gi_wp2
    refine (HST.out _ _ _ HI2.out.1 HI2.out.2).mono ?_
    rintro e w3 ⟨rfl, own3, o3, i3⟩
    have HI3 := Lib.hid (And.intro o3 i3)
    have v3 := i3.vis
    have b3 := i3.blt
    clear o3 i3 hmd
    have hme := HME.out
    simp [go_sem] at hme
    gi_wp2
    refine wpIn_region_seqP (fun W => W.cell? ⟨b, 2, none⟩ = some (.iface vt vd)) [(0, true), (1, true), (2, true), (3, true), (4, true), (5, true), (6, true), (7, true), (8, false), (9, true), (10, false)] hro hFf (by kernel_rfl) (by kernel_rfl) (by kernel_rfl) rfl (by kernel_rfl) v3 ?_
    refine seqH_take (.pointer (some ⟨b, 0, none⟩)) rfl rfl (fun W4 q4 => by have f0 : W4.cell? ⟨b, 2, none⟩ = some (.iface vt vd) := q4; go_simp) (fun K hK => ?_)
    go_simp
    refine hK _ ?_
    clear hK K
    refine seqH_take (.pointer (some ⟨b, 0, none⟩)) rfl rfl (fun W4 q4 => by have f0 : W4.cell? ⟨b, 2, none⟩ = some (.iface vt vd) := q4; go_simp) (fun K hK => ?_)
    go_simp
    refine hK _ ?_
    clear hK K
    refine seqH_take (.pointer (some ⟨b, 0, none⟩)) rfl rfl (fun W4 q4 => by have f0 : W4.cell? ⟨b, 2, none⟩ = some (.iface vt vd) := q4; go_simp) (fun K hK => ?_)
    go_simp
    refine hK _ ?_
    clear hK K
    refine seqH_take (.pointer (some ⟨b, 0, none⟩)) rfl rfl (fun W4 q4 => by have f0 : W4.cell? ⟨b, 2, none⟩ = some (.iface vt vd) := q4; go_simp) (fun K hK => ?_)
    go_simp
    refine hK _ ?_
    clear hK K
    refine seqH_take (.pointer (some ⟨b, 0, none⟩)) rfl rfl (fun W4 q4 => by have f0 : W4.cell? ⟨b, 2, none⟩ = some (.iface vt vd) := q4; go_simp) (fun K hK => ?_)
    go_simp
    refine hK _ ?_
    clear hK K
    refine seqH_take (.pointer (some ⟨b, 2, none⟩)) rfl rfl (fun W4 q4 => by have f0 : W4.cell? ⟨b, 2, none⟩ = some (.iface vt vd) := q4; go_simp) (fun K hK => ?_)
    go_simp
    refine hK _ ?_
    clear hK K
    refine seqH_take (.iface vt vd) rfl rfl (fun W4 q4 => by have f0 : W4.cell? ⟨b, 2, none⟩ = some (.iface vt vd) := q4; go_simp) (fun K hK => ?_)
    go_simp
    refine hK _ ?_
    clear hK K
    refine seqH_take (.pointer (some ⟨g, 0, none⟩)) rfl rfl (fun W4 q4 => by have f0 : W4.cell? ⟨b, 2, none⟩ = some (.iface vt vd) := q4; go_simp) (fun K hK => ?_)
    go_simp
    refine hK _ ?_
    clear hK K
    refine seqH_loud rfl (fun K hK => ?_)
    gi_wp2
    refine CallsIn.mono (HCE.out _ _ HI3.out.2.old.drew) ?_
    rintro e w4 ⟨rfl, q4⟩
    have HI4 : Hid (Owns own own3 w w4 ∧ WrI w0 b (.iface vt vd) ((l ++ ([123] ++ V.decls z ++ [58])) ++ wrL V kids) own3 w4) := ⟨HI3.out.1.ahead (Keeps.trans ((Keeps.refl noB w3).drew) q4) (fun _ e => e.elim), HI3.out.2.quiet (Keeps.trans ((Keeps.refl noB w3).drew) q4)⟩
    clear q4
    gi_wp2
    refine hK _ _ HI4.out.2.vis ?_
    clear hK K
    refine seqH_take (.string T2) rfl rfl (fun W4 q4 => by go_simp) (fun K hK => ?_)
    go_simp
    refine hK _ ?_
    clear hK K
    refine seqH_loud rfl (fun K hK => ?_)
    gi_wp2
    refine CallsIn.mono (HS2.out _ _ _ HI4.out.1 HI4.out.2) ?_
    rintro e w5 ⟨rfl, own5, o5, i5⟩
    have HI5 := Lib.hid (And.intro o5 i5)
    clear o5 i5
    gi_wp2
    refine hK _ _ HI5.out.2.vis ?_
    clear hK K
    simp only [wpSeqH, noPanic]
    gi_wp2
    refine leaves_marks [] _ List.nodup_nil (fun _ h => by cases h) (fun W' q _ => ?_)
    exact ⟨_, results_none rfl _ _ _, rfl, own5, HI5.out.1.ahead q (fun _ e => by cases e), HI5.out.2.quiet (q.mono (fun _ e => by cases e))⟩

end Go.Proofs.Ytccpmhjffcceeaa

namespace Go.Proofs.Ytccpmhjffcceeaa
set_option linter.unusedVariables false
set_option linter.unusedSimpArgs false
open Go.RowKit

/-- What a step of the writer reads. -/
structure WSeen (b N : Nat) (vt : TypeId) (vd : Value) (ty : TypeId) (g : Nat) (ss : ByteArray) (d : Int) (kc : Value) (W : World) : Prop where
  vis : W.cell? ⟨b, 2, none⟩ = some (.iface vt vd)
  n0 : W.cell? ⟨N, 0, none⟩ = some (.iface ty (.pointer (some ⟨g, 0, none⟩)))
  n1 : W.cell? ⟨N, 1, none⟩ = some (.string ss)
  n2 : W.cell? ⟨N, 2, none⟩ = some (.int .i64 d)
  g2 : W.cell? ⟨g, 2, none⟩ = some kc

theorem WSeen.owns {b N : Nat} {vt : TypeId} {vd : Value} {ty : TypeId} {g : Nat} {ss : ByteArray} {d : Int} {kc : Value} {w0 W W' : World} {l l' : List UInt8} {own own' : Nat → Prop} (h : WSeen b N vt vd ty g ss d kc W) (hi : WrI w0 b (.iface vt vd) l own W) (ho : Owns own own' W W') (hi' : WrI w0 b (.iface vt vd) l' own' W')
    (hN : ¬ own N ∧ N < W.heap.size) (hg : g < w0.heap.size) : WSeen b N vt vd ty g ss d kc W' := by
  have hgo : ¬ own g := fun e => by have := hi.new g e; omega
  have hgl : g < W.heap.size := Nat.lt_of_lt_of_le hg hi.old.size
  have eN := fun j => World.cell?_of_block (w := W) (w' := W') (a := ⟨N, j, none⟩) (ho.keeps.block N hN.2 hN.1)
  have eg := fun j => World.cell?_of_block (w := W) (w' := W') (a := ⟨g, j, none⟩) (ho.keeps.block g hgl hgo)
  exact ⟨hi'.vis, (eN 0).trans h.n0, (eN 1).trans h.n1, (eN 2).trans h.n2, (eg 2).trans h.g2⟩

theorem WrI.drew {w0 w : World} {b : Nat} {vv : Value} {l : List UInt8} {own : Nat → Prop} (h : WrI w0 b vv l own w) : WrI w0 b vv l own w.drew := h.quiet ((Keeps.refl noB w).drew)

theorem WSeen.quiet {b N : Nat} {vt : TypeId} {vd : Value} {ty : TypeId} {g : Nat} {ss : ByteArray} {d : Int} {kc : Value} {W W' : World} (h : WSeen b N vt vd ty g ss d kc W) (q : Keeps noB W W') (hb : b < W.heap.size) (hN : N < W.heap.size) (hg : g < W.heap.size) : WSeen b N vt vd ty g ss d kc W' :=
  ⟨(q.cell (p := ⟨b, 2, none⟩) hb id).trans h.vis, (q.cell (p := ⟨N, 0, none⟩) hN id).trans h.n0, (q.cell (p := ⟨N, 1, none⟩) hN id).trans h.n1, (q.cell (p := ⟨N, 2, none⟩) hN id).trans h.n2, (q.cell (p := ⟨g, 2, none⟩) hg id).trans h.g2⟩

/-- What a step of the writer asks: its visitor, the step in memory. -/
structure WEnv (w0 : World) (ok : Nat → Prop) (V : Vis) (S : Nd → Prop) (vt : TypeId) (vd : Value) (s : ByteArray) : Prop where
  vis : VisAt w0 ok V S (.iface vt vd)
  lt : ∀ g, ok g → g < w0.heap.size
  short : ∀ z, S z → ShortAt V z
  small : s.size ≤ 80

theorem WEnv.kids {w0 : World} {ok : Nat → Prop} {V : Vis} {S : Nd → Prop} {vt : TypeId} {vd : Value} {s : ByteArray} (H : WEnv w0 ok V S vt vd s) {z : Nd} {d : Nat} {v : Value} (hz : z.Ok s d) (hl : z.pre.len ≤ 200) (hr : RepI w0 ok z v) (W : World) (q : Keeps noB w0 W) :
    Calls Try.prog 92 #[placeV v z.scope d] W (fun e w' => ∃ a m, e = .returned (.slice a z.bodies.kids.length m) ∧ z.bodies.kids.length ≤ m ∧ (m = 0 → a = none ∨ ∃ g, a = some ⟨g, 0, none⟩) ∧ (0 < m → ∃ g, a = some ⟨g, 0, none⟩) ∧ Keeps noB W w' ∧ ∀ own, (∀ k, own k → k < W.heap.size) → KidsAt w0 ok (inD z.kind d) z.bodies.kids own w' a) := by
  have same : SameOn ok w0 W := fun k hk hlt => q.block k hlt id
  refine (inner_any s z d v ok W hl hz H.small ((Hands.of_same same H.lt).repI _ _ hr) (fun k hk => Nat.lt_of_lt_of_le (H.lt k hk) q.size)).mono ?_
  rintro e w' ⟨a, n, m, cs, rfl, rfl, hrow, hpl, q'⟩
  have hpl0 := hpl.hands (Hands.back same H.lt)
  have hsh : (a = none ∧ z.bodies.kids.length = 0 ∧ m = 0) ∨ ∃ g, a = some ⟨g, 0, none⟩ ∧ z.bodies.kids.length ≤ m := by
    rcases hrow.1.2 with ⟨e, h0⟩ | ⟨g, cap, cur, e, _, _, h1, _⟩
    · simp only [Value.slice.injEq] at e; exact .inl ⟨e.1, e.2.1, e.2.2⟩
    · simp only [Value.slice.injEq] at e; exact .inr ⟨g, e.1, by omega⟩
  refine ⟨a, m, rfl, ?_, fun hm => ?_, fun hm => ?_, q', fun own ho => ?_⟩
  · rcases hsh with ⟨_, h, h'⟩ | ⟨g, _, h⟩ <;> omega
  · rcases hsh with ⟨h, _⟩ | ⟨g, h, _⟩
    · exact .inl h
    · exact .inr ⟨g, h⟩
  · rcases hsh with ⟨_, _, h⟩ | ⟨g, h, _⟩
    · omega
    · exact ⟨g, h⟩
  · by_cases h0 : 0 < z.bodies.kids.length
    · obtain ⟨g, c, e, hg1, hg2, hc⟩ := row_get hrow h0
      have hg1 : W.heap.size ≤ g := hg1
      simp only [Value.slice.injEq] at e
      exact ⟨g, 0, cs, hpl0, fun _ => ⟨e.1, hg2, fun e => by have := ho g e; omega, fun j u hj => by rw [Nat.zero_add]; exact hc j u hj⟩⟩
    · exact ⟨0, 0, cs, hpl0, fun h => absurd h h0⟩

theorem RepI.value {w : World} {ok : Nat → Prop} {c : UInt8} {k e : Nat} {vs ar : List UInt8} {v : Value} (hc : c ≠ 94 ∧ c ≠ 33) (h : RepI w ok (.mk c k e vs ar .nil) v) : ∃ g, ok g ∧ v = .iface 149 (ptr g) ∧ ∃ t u, Blk w g #[i64 k, i64 e, u8 c, u8 t, u8 u] 194 := by
  simp only [RepI] at h
  obtain ⟨g, hg, h⟩ := h
  rcases h with ⟨_, t, _, e, hb⟩ | ⟨_, t, u, _, e, hb⟩ | ⟨h, _⟩
  · exact ⟨g, hg, e, t, 0, hb⟩
  · exact ⟨g, hg, e, t, u, hb⟩
  · rcases h with h | h
    · exact absurd h hc.1
    · exact absurd h hc.2
theorem RepI.leave {w : World} {ok : Nat → Prop} {c : UInt8} {k e : Nat} {vs ar : List UInt8} {v : Value} (hc : c = 94 ∨ c = 33) (h : RepI w ok (.mk c k e vs ar .nil) v) : ∃ g, ok g ∧ v = .iface 178 (ptr g) ∧ Blk w g #[i64 k, i64 e, u8 c] 181 := by
  simp only [RepI] at h
  obtain ⟨g, hg, h⟩ := h
  rcases h with ⟨h, _⟩ | ⟨h, _⟩ | ⟨_, _, e, hb⟩
  · rcases hc with rfl | rfl <;> simp at h
  · rcases hc with rfl | rfl <;> simp at h
  · exact ⟨g, hg, e, hb⟩


theorem RepI.loop {w : World} {ok : Nat → Prop} {k e : Nat} {vs ar : List UInt8} {y : Nds} {v : Value} (h : RepI w ok (.mk 42 k e vs ar (.cons y .nil)) v) : ∃ g, ok g ∧ v = .iface 69 (ptr g) ∧ ∃ vx, Blk w g #[i64 k, i64 e, vx] 192 := by
  simp only [RepI] at h
  obtain ⟨vx, n, xs, ⟨g, hg, h⟩, _⟩ := h
  rcases h with ⟨_, _, e, hb⟩ | ⟨h, _⟩
  · exact ⟨g, hg, e, vx, hb⟩
  · exact absurd h (by decide)
theorem RepI.scopeN {w : World} {ok : Nat → Prop} {k e : Nat} {vs ar : List UInt8} {y : Nds} {v : Value} (h : RepI w ok (.mk 123 k e vs ar (.cons y .nil)) v) : ∃ g, ok g ∧ v = .iface 57 (ptr g) ∧ ∃ vx, Blk w g #[i64 k, i64 e, str vs, vx] 63 := by
  simp only [RepI] at h
  obtain ⟨vx, n, xs, ⟨g, hg, h⟩, _⟩ := h
  rcases h with ⟨h, _⟩ | ⟨_, e, hb⟩
  · exact absurd h (by decide)
  · exact ⟨g, hg, e, vx, hb⟩
theorem RepI.branchN {w : World} {ok : Nat → Prop} {c : UInt8} {k e : Nat} {vs ar : List UInt8} {y u : Nds} {v : Value} (h : RepI w ok (.mk c k e vs ar (.cons y (.cons u .nil))) v) : ∃ g, ok g ∧ v = .iface 68 (ptr g) ∧ ∃ ax cx vy, Blk w g #[i64 k, i64 e, .slice ax y.list.length cx, vy] 184 := by
  simp only [RepI] at h
  obtain ⟨vx, vy, n, xs, m, ys, ⟨g, hg, _, _, e, hb⟩, ⟨hrow, hl⟩, _⟩ := h
  obtain ⟨ax, cx, rfl⟩ := row_shape hrow
  have h1 := hrow.1.1
  have h2 := (KidsI.of_repIL hl).len
  have e2 : n = y.list.length := by rw [← h2]; simpa using h1.symm
  subst e2
  exact ⟨g, hg, e, ax, cx, vy, hb⟩
theorem kids_one (y : Nds) : (Bds.cons y .nil).kids = y.list := by simp [Bds.kids]
theorem kids_two (y u : Nds) : (Bds.cons y (.cons u .nil)).kids = y.list ++ u.list := by simp [Bds.kids]


end Go.Proofs.Ytccpmhjffcceeaa

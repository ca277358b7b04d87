/-
  strings.Builder as the first field of a bigger block: the room writer's.
-/
import Derived.Test.YthgocacabadflaaDoorBe
namespace Go.Proofs.YthgocacabadflaaDoor
set_option linter.unusedVariables false
set_option linter.unusedSimpArgs false
open Go.RowKit

theorem arr_set_same {cs : Array Value} {i : Nat} {v : Value} (h : cs[i]? = some v) : cs.setIfInBounds i v = cs := by
  apply Array.ext_getElem?
  intro j
  rw [Array.getElem?_setIfInBounds]
  by_cases e : i = j
  · subst e
    rw [h]
    have := (Array.getElem?_eq_some_iff.1 h).1
    simp [this]
  · simp [e]
theorem arr_set_ne {cs : Array Value} {i j : Nat} (h : i ≠ j) (v : Value) : (cs.setIfInBounds i v)[j]? = cs[j]? := by
  rw [Array.getElem?_setIfInBounds]; simp [h]
theorem arr_set_eq {cs : Array Value} {i : Nat} (h : i < cs.size) (v : Value) : (cs.setIfInBounds i v)[i]? = some v := by
  rw [Array.getElem?_setIfInBounds]; simp [h]

/-- A builder at the head of block b, of the cells cs, that holds the bytes l. -/
def BuildX (w : World) (own : Nat → Prop) (b : Nat) (l : List UInt8) (cs : Array Value) : Prop :=
  ∃ p v, (p = .pointer none ∨ p = .pointer (some ⟨b, 0, none⟩)) ∧ Blk w b cs 78 ∧ cs.size = 604 ∧ cs[0]? = some p ∧ cs[1]? = some v ∧ w.ownsRow 0 5 1 v l.length (Lib.byteCells l) ∧ own b ∧ ∀ g, v.ownBlock = some g → own g ∧ g ≠ b

theorem Tryd.liesRoomW : liesAt Tryd.prog Tryd.prog.depth 78 (604 / Tryd.prog.cellsOf 78) 0 74 1 = true := by kernel_rfl

def CheckPostX (w : World) (b : Nat) (cs : Array Value) (e : Ending) (w' : World) : Prop :=
  e = .returned (.tuple #[]) ∧ Blk w' b (cs.setIfInBounds 0 (.pointer (some ⟨b, 0, none⟩))) 78 ∧ Keeps (oneB b) w w'

set_option maxRecDepth 100000 in
set_option maxHeartbeats 1000000 in
theorem check_usedX (b : Nat) (cs : Array Value) (w : World) (h : Blk w b cs 78) (h0 : cs[0]? = some (.pointer (some ⟨b, 0, none⟩))) :
    Calls Tryd.prog 72 #[.pointer (some ⟨b, 0, none⟩)] w (CheckPostX w b cs) := by
  obtain ⟨j, hj, _⟩ := Option.map_eq_some_iff.1 Tryd.sizeBuilder
  have r0 := (h.cell 0).trans h0
  have HB : Hid (Blk w b (cs.setIfInBounds 0 (.pointer (some ⟨b, 0, none⟩))) 78) := Lib.hid (by rw [arr_set_same h0]; exact h)
  clear h h0
  go_enter Tryd.func72, Tryd.ntmps72
  go_wp2
  rw [Lib.run_neq_ptr_same w _ Tryd.underlying71 hj]
  go_wp2
  go_end0
  exact ⟨rfl, HB.out, Keeps.refl _ _⟩

set_option maxRecDepth 100000 in
set_option maxHeartbeats 1000000 in
theorem check_freshX (b : Nat) (cs : Array Value) (w : World) (h : Blk w b cs 78) (hs : cs.size = 604) (h0 : cs[0]? = some (.pointer none)) :
    Calls Tryd.prog 72 #[.pointer (some ⟨b, 0, none⟩)] w (CheckPostX w b cs) := by
  obtain ⟨j, hj, hjs⟩ := Option.map_eq_some_iff.1 Tryd.sizeBuilder
  have r0 := (h.cell 0).trans h0
  have hfz := h.free 0
  have hsh : w.shape? b = some (78, 604) := by
    have e : w.heap[b]? = some (.cells cs 78 (0, 0)) := h
    simp [World.shape?, e, hs]
  have HB := Lib.hid h
  clear h h0 hs
  go_enter Tryd.func72, Tryd.ntmps72
  go_wp2
  rw [Lib.run_to_unsafe w ⟨b, 0, none⟩ Tryd.underlying71 Tryd.underlying124 hj (by rw [hjs]; decide) hsh (Nat.zero_lt_succ 603)]
  simp only [Result.andThen]
  rw [Oper.upon_value]
  go_wp2
  rw [run_callFunc_extern Tryd.func82 (by kernel_rfl) (by kernel_rfl) (e := Extern.AbiNoEscape.same) (by kernel_rfl)]
  rw [Lib.run_noEscape]
  simp only [Result.andThen]
  rw [Oper.upon_value]
  go_wp2
  rw [Lib.run_from_unsafe w ⟨b, 0, none⟩ Tryd.underlying124 Tryd.underlying71 hj hsh Tryd.liesRoomW]
  simp only [Result.andThen]
  rw [Oper.upon_value]
  go_wp2
  go_end0
  · exact ⟨rfl, HB.out.set 0 _, (Keeps.refl _ _).setCell (.inl (show oneB b b from rfl)) _⟩
  · kernel_rfl

theorem check_anyX (b : Nat) (p : Value) (cs : Array Value) (w : World) (hp : p = .pointer none ∨ p = .pointer (some ⟨b, 0, none⟩)) (h : Blk w b cs 78) (hs : cs.size = 604) (h0 : cs[0]? = some p) :
    Calls Tryd.prog 72 #[.pointer (some ⟨b, 0, none⟩)] w (CheckPostX w b cs) := by
  rcases hp with rfl | rfl
  · exact check_freshX b cs w h hs h0
  · exact check_usedX b cs w h h0

/-- What a write leaves. -/
theorem builtX {w w1 w2 : World} {own : Nat → Prop} {b : Nat} {cs : Array Value} {v v' : Value} {l l' : List UInt8} (hlt : ∀ k, own k → k < w.heap.size) (hv : ∀ g, v.ownBlock = some g → own g ∧ g ≠ b) (hob : own b) (hb : Blk w1 b (cs.setIfInBounds 0 (.pointer (some ⟨b, 0, none⟩))) 78) (hs : cs.size = 604)
    (q1 : Keeps (oneB b) w w1) (ho : w2.ownsRow 0 5 1 v' l'.length (Lib.byteCells l')) (hg : w1.grownBy w2 v.ownBlock) (hf : ∀ g, v'.ownBlock = some g → v.ownBlock = some g ∨ w1.heap.size ≤ g) :
    ∃ own' cs', Owns own own' w (w2.setCell ⟨b, 1, none⟩ v') ∧ BuildX (w2.setCell ⟨b, 1, none⟩ v') own' b l' cs' ∧ ∀ j, 2 ≤ j → cs'[j]? = cs[j]? := by
  have hbl := hb.lt
  have hs1 := q1.size
  have b2 : Blk w2 b (cs.setIfInBounds 0 (.pointer (some ⟨b, 0, none⟩))) 78 := (hg.block b hbl (fun e => (hv b e.symm).2 rfl)).trans hb
  have b3 := b2.set 1 v'
  have hbw := hlt b hob
  have hnew : ∀ g, v'.ownBlock = some g → g ≠ b := fun g e => (hf g e).elim (fun e2 => (hv g e2).2) (fun e2 => by omega)
  have k2 : Keeps own w w2 := (q1.mono (fun i (e : i = b) => e ▸ hob)).grown hg (fun k e => .inl (hv k e).1)
  have k3 : Keeps own w (w2.setCell ⟨b, 1, none⟩ v') := k2.setCell (.inl hob) _
  refine ⟨fun k => own k ∨ v'.ownBlock = some k, (cs.setIfInBounds 0 (.pointer (some ⟨b, 0, none⟩))).setIfInBounds 1 v', ⟨fun k e => e.elim .inl (fun e => (hf k e).elim (fun e2 => .inl (hv k e2).1) (fun e2 => .inr (by omega))), fun k e => ?_, k3⟩, ⟨_, v', .inr rfl, b3, by simp [hs], ?_, ?_, ?_, .inl hob, fun g e => ⟨.inr e, hnew g e⟩⟩, fun j hj => ?_⟩
  · rcases e with e | e
    · exact Nat.lt_of_lt_of_le (hlt k e) k3.size
    · simpa [World.setCell] using (ho.lt k e).2
  · rw [arr_set_ne (by omega)]; exact arr_set_eq (by omega) _
  · exact arr_set_eq (by simp [hs]) _
  · exact ((Keeps.refl (oneB b) w2).setCell (p := ⟨b, 1, none⟩) (.inl (show oneB b b from rfl)) v').ownsRow ho (fun g hg2 _ (e : g = b) => hnew g hg2 e)
  · rw [arr_set_ne (by omega), arr_set_ne (by omega)]

/-- How a write ends. -/
def WrotePostX (w : World) (own : Nat → Prop) (b : Nat) (l : List UInt8) (cs : Array Value) (res : Value) (e : Ending) (w' : World) : Prop :=
  e = .returned res ∧ ∃ own' cs', Owns own own' w w' ∧ BuildX w' own' b l cs' ∧ ∀ j, 2 ≤ j → cs'[j]? = cs[j]?

set_option maxRecDepth 100000 in
set_option maxHeartbeats 2000000 in
theorem writeByte_anyX (b : Nat) (cs : Array Value) (l : List UInt8) (c : UInt8) (own : Nat → Prop) (w : World) (h : BuildX w own b l cs) (hlt : ∀ k, own k → k < w.heap.size) (hl : l.length ≤ 100000000) :
    Calls Tryd.prog 56 #[.pointer (some ⟨b, 0, none⟩), .int .u8 (c.toNat : Int)] w (WrotePostX w own b (l ++ [c]) cs .nilIface) := by
  obtain ⟨i0, hi, hz0, hz1, hz2⟩ := info_parts Tryd.byteB5
  obtain ⟨p, v, hp, hb, hcs, hc0, hc1, hrow, hob, hv⟩ := h
  have HC := Lib.hid (check_anyX b p cs w hp hb hcs hc0)
  obtain ⟨cv, hcv⟩ : ∃ cv : Int, cv = (c.toNat : Int) := ⟨_, rfl⟩
  rw [← hcv]
  have HH := Lib.hid (And.intro hrow (And.intro hob (And.intro hv (And.intro hlt (And.intro hl (And.intro hcv (And.intro hcs hc1)))))))
  clear hp hb hrow hob hv hlt hl hcv hcs hc0 hc1
  go_enter Tryd.func56, Tryd.ntmps56
  go_wp2_with (go_at_call 72; refine HC.out.mono ?_; rintro e w1 ⟨rfl, hb1, q1⟩; refine Hid.out ?_)
  refine Lib.hid ?_
  obtain ⟨hrow, hob, hv, hlt, hl, hcv, hcs, hc1⟩ := HH.out
  have hrow1 := q1.ownsRow hrow (fun g hg _ (e : g = b) => (hv g hg).2 e)
  have c1 := (hb1.cell 1).trans ((arr_set_ne (by decide) _).trans hc1)
  obtain ⟨v', w2, hr, ho', hg', hfr⟩ := run_append_fresh (P := Tryd.prog) (w1.alloc (.cells #[.int .u8 cv] 5)) 72 72 5 i0 (.int .u8 0) 1 1 Tryd.underlying72 hi hz0 hz1 hz2 rfl (by decide)
    v l.length _ (((Keeps.refl noB w1).alloc _).ownsRow hrow1 (fun _ _ _ => id)) ⟨w1.heap.size, 0, none⟩ 1 1 [.int .u8 cv] rfl (fun j u hu => by
      have e0 : (⟨w1.heap.size, 0, none⟩ : Addr).add j = ⟨w1.heap.size, j, none⟩ := by unfold Addr.add; split <;> simp_all
      rw [e0, (Blk.new w1 #[.int .u8 cv] 5).cell j]
      simpa using hu) (fun u hu => by simp at hu; subst hu; rfl) (by unfold maxLen; omega) (by omega)
  have hbl := hb1.lt
  have hb2 : Blk w2 b (cs.setIfInBounds 0 (.pointer (some ⟨b, 0, none⟩))) 78 := (hg'.block b (by simp; omega) (fun e => (hv b e.symm).2 rfl)).trans (hb1.alloc _)
  have d1 := (hb2.cell 1).trans ((arr_set_ne (by decide) _).trans hc1)
  have z1 := hb2.free 1
  have hgx : (w1.alloc (.cells #[.int .u8 cv] 5)).heap.size = w1.heap.size + 1 := by simp
  have HE := Lib.hid (builtX (cs := cs) (l := l) (l' := l ++ [c]) hlt hv hob (hb1.alloc (.cells #[.int .u8 cv] 5)) hcs (q1.alloc _) (by
    have e : Lib.byteCells (l ++ [c]) = Lib.byteCells l ++ [.int .u8 cv] := by rw [hcv]; simp [Lib.byteCells]
    rw [e, List.length_append]
    exact ho') hg' (fun g hg => by
      rcases hfr with e | e
      · exact .inl (e ▸ hg)
      · exact .inr (e g hg)))
  obtain ⟨a', n', c', rfl⟩ : ∃ a n c, v' = .slice a n c := by
    rcases ho'.2 with ⟨e, _⟩ | ⟨g, cap, cur, e, _⟩
    · exact ⟨_, _, _, e⟩
    · exact ⟨_, _, _, e⟩
  clear hcs hc1 hrow hob hv hlt hl hcv hrow1 q1 hb1 ho' hg' hfr hb2 hgx
  go_wp2_with (at_builtin; refine wpList_append_run' _ rfl _ _ _ _ rfl _ _ rfl rfl _ _ hr ?_)
  go_ret
  exact ⟨rfl, HE.out⟩

set_option maxRecDepth 100000 in
set_option maxHeartbeats 2000000 in
theorem writeString_anyX (b : Nat) (cs : Array Value) (l : List UInt8) (s : ByteArray) (own : Nat → Prop) (w : World) (h : BuildX w own b l cs) (hlt : ∀ k, own k → k < w.heap.size) (hl : l.length + s.size ≤ 100000000) :
    Calls Tryd.prog 57 #[.pointer (some ⟨b, 0, none⟩), .string s] w (WrotePostX w own b (l ++ s.data.toList) cs (.tuple #[.int .i64 (s.size : Int), .nilIface])) := by
  obtain ⟨i0, hi, hz0, hz1, hz2⟩ := info_parts Tryd.byteB5
  obtain ⟨p, v, hp, hb, hcs, hc0, hc1, hrow, hob, hv⟩ := h
  have HC := Lib.hid (check_anyX b p cs w hp hb hcs hc0)
  have HH := Lib.hid (And.intro hrow (And.intro hob (And.intro hv (And.intro hlt (And.intro hl (And.intro hcs hc1))))))
  clear hp hb hrow hob hv hlt hl hcs hc0 hc1
  go_enter Tryd.func57, Tryd.ntmps57
  go_wp2_with (go_at_call 72; refine HC.out.mono ?_; rintro e w1 ⟨rfl, hb1, q1⟩; refine Hid.out ?_)
  refine Lib.hid ?_
  obtain ⟨hrow, hob, hv, hlt, hl, hcs, hc1⟩ := HH.out
  have hrow1 := q1.ownsRow hrow (fun g hg _ (e : g = b) => (hv g hg).2 e)
  have c1 := (hb1.cell 1).trans ((arr_set_ne (by decide) _).trans hc1)
  obtain ⟨v', w2, hr, ho', hg', hfr⟩ := run_append_fresh_string (P := Tryd.prog) w1 72 9 72 5 i0 Tryd.underlying72 Tryd.underlying9 hi hz0 hz1 hz2 v l.length _ hrow1 s (by unfold maxLen; omega) (by omega)
  have hbl := hb1.lt
  have hb2 : Blk w2 b (cs.setIfInBounds 0 (.pointer (some ⟨b, 0, none⟩))) 78 := (hg'.block b hbl (fun e => (hv b e.symm).2 rfl)).trans hb1
  have d1 := (hb2.cell 1).trans ((arr_set_ne (by decide) _).trans hc1)
  have z1 := hb2.free 1
  have HE := Lib.hid (builtX (cs := cs) (l := l) (l' := l ++ s.data.toList) hlt hv hob hb1 hcs q1 (by
    have e : Lib.byteCells (l ++ s.data.toList) = Lib.byteCells l ++ Lib.strCells s := by simp [Lib.byteCells, Lib.strCells]
    have e2 : (l ++ s.data.toList).length = l.length + s.size := by rw [List.length_append, Array.length_toList]; rfl
    rw [e, e2]
    exact ho') hg' (fun g hg => by
      rcases hfr with e | e
      · exact .inl (e ▸ hg)
      · exact .inr (e g hg)))
  obtain ⟨a', n', c', rfl⟩ : ∃ a n c, v' = .slice a n c := by
    rcases ho'.2 with ⟨e, _⟩ | ⟨g, cap, cur, e, _⟩
    · exact ⟨_, _, _, e⟩
    · exact ⟨_, _, _, e⟩
  clear hcs hc1 hrow hob hv hlt hl hrow1 q1 hb1 ho' hg' hfr hb2
  go_wp2_with (at_builtin; refine wpList_append_run' _ rfl _ _ _ _ rfl _ _ rfl rfl _ _ hr ?_)
  go_ret2
  exact ⟨rfl, HE.out⟩


set_option maxRecDepth 100000 in
set_option maxHeartbeats 2000000 in
theorem blen_anyX (b : Nat) (cs : Array Value) (l : List UInt8) (own : Nat → Prop) (w : World) (h : BuildX w own b l cs) :
    Calls Tryd.prog 55 #[.pointer (some ⟨b, 0, none⟩)] w fun e w' => e = .returned (.int .i64 (l.length : Int)) ∧ w' = w := by
  obtain ⟨p, v, hp, hb, hcs, hc0, hc1, hrow, hob, hv⟩ := h
  obtain ⟨a, c, rfl⟩ := row_shape (ok := fun _ => True) ⟨hrow, fun _ _ => trivial⟩
  have c1 := (hb.cell 1).trans hc1
  obtain ⟨n, hn⟩ : ∃ n, n = l.length := ⟨_, rfl⟩
  rw [← hn] at c1 ⊢
  clear hn hb hcs hc0 hc1 hrow hob hv hp
  go_enter Tryd.func55, Tryd.ntmps55
  go_wp2
  go_ret
  exact ⟨rfl, rfl⟩

set_option maxRecDepth 100000 in
set_option maxHeartbeats 2000000 in
theorem bstring_anyX (b : Nat) (cs : Array Value) (l : List UInt8) (own : Nat → Prop) (w : World) (h : BuildX w own b l cs) (h0 : l ≠ []) :
    Calls Tryd.prog 47 #[.pointer (some ⟨b, 0, none⟩)] w fun e w' => e = .returned (.string ⟨l.toArray⟩) ∧ Keeps own w w' := by
  obtain ⟨p, v, hp, hb, hcs0, hc0, hc1, hown, hob, hv⟩ := h
  obtain ⟨a, c, rfl⟩ := row_shape (ok := fun _ => True) ⟨hown, fun _ _ => trivial⟩
  have hl0 : l.length ≠ 0 := by simpa using h0
  obtain ⟨g, cap, cur, hv2, hgb, hg, hnc, hcm, hcs, htake⟩ : ∃ g cap cur, Value.slice a l.length c = .slice (some ⟨g, 0, none⟩) l.length cap ∧ 0 ≤ g ∧ w.heap[g]? = some (.cells cur 5 (0, 0)) ∧ l.length ≤ cap ∧ cap ≤ maxLen ∧ cur.size = cap * 1 ∧ cur.toList.take (l.length * 1) = Lib.byteCells l := by
    rcases hown.2 with ⟨_, hz⟩ | ⟨g, cap, cur, hv, r⟩
    · exact absurd hz hl0
    · exact ⟨g, cap, cur, hv, r⟩
  rw [hv2] at hown hv hc1
  have hog := (hv g rfl).1
  have c1 : w.drew.cell? ⟨b, 1, none⟩ = some (.slice (some ⟨g, 0, none⟩) l.length cap) := by
    have hb2 : Blk w.drew b cs 78 := hb
    exact (hb2.cell 1).trans hc1
  have hSD : (Builtin.unsafeSliceData_ #[72] 111 #[.slice (some ⟨g, 0, none⟩) l.length cap]).run Tryd.prog w.drew = .ok (.pointer (some ⟨g, 0, none⟩)) w.drew :=
    Lib.run_unsafeSliceData_row _ _ _ _ _ _ (by omega)
  have hUS : (Builtin.unsafeString_ #[111, 3] 9 #[.pointer (some ⟨g, 0, none⟩), .int .i64 l.length]).run Tryd.prog w.drew = .ok (.string ⟨l.toArray⟩) (w.drew.freeze ⟨g, 0, none⟩ l.length) := by
    refine Lib.run_unsafeString_row w.drew 111 3 9 5 Tryd.underlying111 Tryd.cellsByte g cur.size (by have hg' : w.drew.heap[g]? = some (.cells cur 5 (0, 0)) := hg; simp [World.shape?, hg']) l h0 (by omega) (by unfold maxLen at hcm; omega) ?_
    intro j x hx
    have := hown.cells (g := g) rfl j (.int .u8 x.toNat) (by simp [Lib.byteCells, hx])
    exact this
  have HE := Lib.hid (Keeps.freeze (w := w) (may := own) hog l.length)
  obtain ⟨n, hn⟩ : ∃ n, n = l.length := ⟨_, rfl⟩
  obtain ⟨S, hS⟩ : ∃ S : ByteArray, S = ⟨l.toArray⟩ := ⟨_, rfl⟩
  rw [← hn] at c1 hSD hUS HE
  rw [← hS] at hUS ⊢
  have mixed : Tryd.prog.follows .mixedOrders = true := by kernel_rfl
  clear hn hS hv2 hgb hg hnc hcm hcs htake hb hown hv hog hl0 h0 hcs0 hc0 hc1 hp hob
  go_enter Tryd.func47, Tryd.ntmps47
  go_wp2
  go_region_o
  all_goals (go_wp2; go_ret; exact ⟨rfl, HE.out⟩)

end Go.Proofs.YthgocacabadflaaDoor

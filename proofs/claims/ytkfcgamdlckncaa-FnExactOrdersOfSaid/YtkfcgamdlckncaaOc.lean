/-
  The program's WithOrder: texts as rows of six bytes, sorted and compared; a program whose outermost scope declares in another order.
-/
import Derived.Test.YtkfcgamdlckncaaOa
import Derived.Test.YtkfcgamdlckncaaOb
import Derived.Test.YtkfcgamdlckncaaIfW
import Derived.Laws.IdiomCopy
import Derived.Laws.Concat
import Derived.Laws.StructEq
namespace Go.Proofs.Ytkfcgamdlckncaa
set_option linter.unusedVariables false
set_option linter.unusedSimpArgs false
open Go.RowKit Go.Shelf

/-! ### copy from a text -/
def laidL (cs : Array Value) (o : Nat) : List Value → Array Value
  | [] => cs
  | v :: r => laidL (cs.setIfInBounds o v) (o + 1) r

theorem laidL_eq : ∀ (vs : List Value) (pre post : List Value), vs.length ≤ post.length → laidL (pre ++ post).toArray pre.length vs = (pre ++ (vs ++ post.drop vs.length)).toArray
  | [], pre, post, _ => by simp [laidL]
  | v :: r, pre, [], h => by simp at h
  | v :: r, pre, p :: post, h => by
    unfold laidL
    have e : (pre ++ p :: post).toArray.setIfInBounds pre.length v = ((pre ++ [v]) ++ post).toArray := by
      apply Array.toList_inj.1
      simp
    rw [e]
    have := laidL_eq r (pre ++ [v]) post (by simpa using h)
    rw [List.length_append, List.length_singleton] at this
    rw [this]
    simp

theorem blk_setCells {b : Nat} {t : TypeId} : ∀ (vs : List Value) (w : World) (cs : Array Value) (o : Nat), Blk w b cs t → Blk (w.setCells b o vs) b (laidL cs o vs) t
  | [], _, _, _, h => h
  | v :: r, w, cs, o, h => by
    rw [World.setCells]
    unfold laidL
    exact blk_setCells r _ _ _ (h.set o v)
theorem keeps_setCells {b : Nat} : ∀ (vs : List Value) (w0 w : World) (o : Nat), Keeps (oneB b) w0 w → Keeps (oneB b) w0 (w.setCells b o vs)
  | [], _, _, _, h => h
  | v :: r, w0, w, o, h => by
    rw [World.setCells]
    exact keeps_setCells r _ _ _ (h.setCell (p := ⟨b, o, none⟩) (.inl rfl) v)
theorem size_setCells {b : Nat} : ∀ (vs : List Value) (w : World) (o : Nat), (w.setCells b o vs).heap.size = w.heap.size
  | [], _, _ => rfl
  | v :: r, w, o => by
    rw [World.setCells, size_setCells r]
    simp [World.setCell]

theorem firstCells_str {P : Program} (k n : Nat) (s : ByteArray) (w : World) : (Builtin.firstCells k n (.string s)).run P w = .ok ((s.data.toList.take n).map u8).toArray w := by
  have e : (s.extract 0 n).data.map (fun b => Value.int .u8 (b.toNat : Int)) = ((s.data.toList.take n).map u8).toArray := by
    apply Array.toList_inj.1
    simp only [Array.toList_map, ByteArray.data_extract, Array.toList_extract, List.extract, Nat.sub_zero, List.drop_zero]
    rfl
  simp only [Builtin.firstCells, Sem.run_pure, e]

/-- copy from a text as the first step of a list of steps. -/
theorem wpList_copy_str {P : Program} {w : World} {ops : Array Oper} {rest : List Oper} {o : Oper} {a : Act} {Q : Exit → Act → World → Prop} (hgd : o.guard = none) (d s : Operand) (dT sT : TypeId)
    (ho : o.op = .call { callee := .builtin .copy, args := #[d, s], argTypes := #[dT, sT] }) (elem : TypeId) (hu : P.underlying dT = some (.slice elem)) (hsz : (P.info? elem).map (·.size) = some 1)
    (b n cap : Nat) (st : ByteArray) (hd : a.eval d = .slice (some ⟨b, 0, none⟩) n cap) (hs : a.eval s = .string st) (cur : List Value) (t : TypeId) (hg : Blk w b cur.toArray t) (hn : n ≤ cur.length)
    (h : ∀ w' q, Blk w' b (((st.data.toList.take n).map u8) ++ cur.drop (st.data.toList.take n).length).toArray t → Keeps (oneB b) w w' → w'.heap.size = w.heap.size → wpList P ops Q rest (a.put o.dst (goInt q)) w') : wpList P ops Q (o :: rest) a w := by
  refine wpList_plain hgd fun K hK => ?_
  obtain ⟨vs, hvs⟩ : ∃ vs, vs = (st.data.toList.take n).map u8 := ⟨_, rfl⟩
  have hlen : vs.length = Nat.min st.size n := by
    rw [hvs, List.length_map, List.length_take]; show min n st.size = _; exact Nat.min_comm _ _
  have hle : vs.length ≤ cur.length := by rw [hlen]; exact Nat.le_trans (Nat.min_le_right _ _) hn
  have hfc := firstCells_str (P := P) 1 (Nat.min st.size n) st w
  have htk : st.data.toList.take (Nat.min st.size n) = st.data.toList.take n := by
    rw [show Nat.min st.size n = min n st.data.toList.length from Nat.min_comm _ _]; exact List.take_eq_take_min.symm
  rw [htk, ← hvs] at hfc
  have hone : ∀ v ∈ vs, v.oneCell' = true := fun v hv => by
    rw [hvs] at hv
    obtain ⟨c, _, rfl⟩ := List.mem_map.1 hv; rfl
  have hk : (st.data.toList.take n).length = vs.length := by rw [hvs, List.length_map]
  have h' : ∀ w' q, Blk w' b (vs ++ cur.drop vs.length).toArray t → Keeps (oneB b) w w' → w'.heap.size = w.heap.size → wpList P ops Q rest (a.put o.dst (goInt q)) w' := fun w' q hb => h w' q (by rw [hk, ← hvs]; exact hb)
  clear h hvs
  have hrun : (Builtin.copy_ #[dT, sT] o.type #[.slice (some ⟨b, 0, none⟩) n cap, .string st]).run P w = .ok (goInt (Nat.min st.size n)) (w.setCells b 0 vs) := by
    have hst := run_storeCells_cells (P := P) b 0 vs 0 w (fun j hj => by
      simp only [Nat.zero_add]; rw [hg.cell j]; simp; omega) (fun j hj => by simp only [Nat.zero_add]; exact hg.free j) hone
    cases hq : P.info? elem with
    | none => simp [hq] at hsz
    | some i =>
      have hi : i.size = 1 := by simpa [hq] using hsz
      rw [Nat.zero_add] at hst
      simp [Builtin.copy_, run_underlying hu, Builtin.lenOf, sizeOf, typeInfo, hq, hi, hfc, hst]
  unfold Oper.wp
  simp [execOp, ho, resolve, invoke, builtin, hd, hs, hrun, Result.andThen]
  refine hK _ _ (h' _ _ ?_ (keeps_setCells _ _ _ _ (Keeps.refl _ _)) (size_setCells _ _ _))
  have h1 := blk_setCells vs w cur.toArray 0 hg
  have h2 := laidL_eq vs [] cur hle
  simp only [List.nil_append, List.length_nil] at h2
  rw [h2] at h1
  exact h1

theorem pad_cells (l : List UInt8) : ((l.take 6).map u8) ++ (List.replicate 6 (Value.int .u8 0)).drop (l.take 6).length = (padL l).map u8 := by
  unfold padL
  rw [List.take_append, List.map_append]
  congr 1
  rw [List.drop_replicate, List.take_replicate, List.map_replicate, List.length_take]
  congr 1
  omega

theorem Try.sizeB5 : (Try.prog.info? 5).map (·.size) = some 1 := by kernel_rfl

/-- A row of six bytes as a value. -/
def lineV (l : List UInt8) : Value := .agg (l.map u8).toArray

theorem six_of {l : List UInt8} (h : l.length = 6) : ∃ a b c d e f, l = [a, b, c, d, e, f] := by
  match l, h with
  | [a, b, c, d, e, f], _ => exact ⟨a, b, c, d, e, f, rfl⟩

/-- A result that lies in six cells of its own. -/
theorem resLine {f : Func} (hf : f.results = #[.cell 2 116]) {W : World} {N : Nat} {l : List UInt8} (hb : Blk W N (l.map u8).toArray 116) (hl : l.length = 6) (tmps : Array Value) (h : tmps.getD 2 undef = .pointer (some ⟨N, 0, none⟩)) :
    (results f tmps).run Try.prog W = .ok (lineV l) W := by
  have h' : tmps[2]?.getD undef = .pointer (some ⟨N, 0, none⟩) := by simpa using h
  obtain ⟨a, b, c, d, e, g, rfl⟩ := six_of hl
  have r0 := hb.cell 0
  have r1 := hb.cell 1
  have r2 := hb.cell 2
  have r3 := hb.cell 3
  have r4 := hb.cell 4
  have r5 := hb.cell 5
  simp at r0 r1 r2 r3 r4 r5
  simp [results, hf, go_sem, h', r0, r1, r2, r3, r4, r5, lineV]

/-- Six cells written over a row of six. -/
theorem line_set {W : World} {N : Nat} {u0 u1 u2 u3 u4 u5 : Value} (h : Blk W N #[u0, u1, u2, u3, u4, u5] 116) (v0 v1 v2 v3 v4 v5 : Value) :
    Blk ((((((W.setCell ⟨N, 0, none⟩ v0).setCell ⟨N, 1, none⟩ v1).setCell ⟨N, 2, none⟩ v2).setCell ⟨N, 3, none⟩ v3).setCell ⟨N, 4, none⟩ v4).setCell ⟨N, 5, none⟩ v5) N #[v0, v1, v2, v3, v4, v5] 116 := by
  have := ((((((h.set 0 v0).set 1 v1).set 2 v2).set 3 v3).set 4 v4).set 5 v5)
  simpa using this
theorem line_keeps {a W : World} {N : Nat} (h : Keeps noB a W) (hN : a.heap.size ≤ N) (v0 v1 v2 v3 v4 v5 : Value) :
    Keeps noB a ((((((W.setCell ⟨N, 0, none⟩ v0).setCell ⟨N, 1, none⟩ v1).setCell ⟨N, 2, none⟩ v2).setCell ⟨N, 3, none⟩ v3).setCell ⟨N, 4, none⟩ v4).setCell ⟨N, 5, none⟩ v5) :=
  (((((h.setCell (.inr hN) v0).setCell (.inr hN) v1).setCell (.inr hN) v2).setCell (.inr hN) v3).setCell (.inr hN) v4).setCell (.inr hN) v5

set_option maxRecDepth 100000 in
set_option maxHeartbeats 4000000 in
theorem lineup_any (s : ByteArray) (w : World) : Calls Try.prog 74 #[.string s] w (fun e w' => e = .returned (lineV (padL s.data.toList)) ∧ Keeps noB w w') := by
  have HPC := Lib.hid (pad_cells s.data.toList)
  have HPL := Lib.hid (padL_len s.data.toList)
  go_enter Try.func74, Try.ntmps74
  go_wp2_with (refine wpList_copy_str rfl (.tmp 4) (.tmp 5) 22 9 rfl 5 Try.underlying22 Try.sizeB5 (w.heap.size + 1) 6 6 s rfl rfl (List.replicate 6 (.int .u8 0)) 116 ?_ (by simp) ?_)
  · have := Blk.new (w.alloc (.cells #[Value.int .u8 0, .int .u8 0, .int .u8 0, .int .u8 0, .int .u8 0, .int .u8 0] 116)) #[Value.int .u8 0, .int .u8 0, .int .u8 0, .int .u8 0, .int .u8 0, .int .u8 0] 116
    rw [World.size_alloc] at this
    exact this
  · intro w' q hb hk hs
    have hpc : (List.take 6 (List.map u8 s.data.toList) ++ List.drop (min 6 s.size) [Value.int .u8 0, .int .u8 0, .int .u8 0, .int .u8 0, .int .u8 0, .int .u8 0]) = (padL s.data.toList).map u8 := by
      rw [← HPC.out, List.map_take, List.length_take]; rfl
    rw [hpc] at hb
    have h0 := hk.blk ((Blk.new w #[Value.int .u8 0, .int .u8 0, .int .u8 0, .int .u8 0, .int .u8 0, .int .u8 0] 116).alloc _) (show w.heap.size ≠ w.heap.size + 1 by omega)
    have HQ : Hid (Keeps noB w w') := Lib.hid ((((Keeps.refl noB w).alloc _).alloc _).transNew hk (fun i hi e => by have : i = w.heap.size + 1 := e; omega))
    obtain ⟨a, b, c, d, e, f, hl⟩ := six_of HPL.out
    rw [hl] at hb
    have HL := Lib.hid hl
    clear hk hs hpc HPC HPL hl
    unfold u8 at hb
    simp only [List.map_cons, List.map_nil] at hb
    have r0 := hb.cell 0
    have r1 := hb.cell 1
    have r2 := hb.cell 2
    have r3 := hb.cell 3
    have r4 := hb.cell 4
    have r5 := hb.cell 5
    have s0 := h0.cell 0
    have s1 := h0.cell 1
    have s2 := h0.cell 2
    have s3 := h0.cell 3
    have s4 := h0.cell 4
    have s5 := h0.cell 5
    have z0 := h0.free
    simp at r0 r1 r2 r3 r4 r5 s0 s1 s2 s3 s4 s5
    have HB := Lib.hid h0
    clear hb h0
    go_wp2_with fail
    refine bodyPost_ret (resLine (l := [a, b, c, d, e, f]) rfl (line_set HB.out _ _ _ _ _ _) rfl _ rfl) rfl ?_
    exact ⟨by rw [HL.out], line_keeps HQ.out (Nat.le_refl _) _ _ _ _ _ _⟩

/-! ### Rows of bytes compared -/
theorem all_range_bytes : ∀ (xs ys : List UInt8), xs.length = ys.length → ((List.range xs.length).all fun i => xs.getD i 0 == ys.getD i 0) = (xs == ys)
  | [], [], _ => rfl
  | x :: xs, y :: ys, h => by
    have ih := all_range_bytes xs ys (by simpa using h)
    rw [List.length_cons, List.range_succ_eq_map, List.all_cons, List.all_map]
    simp only [List.getD_cons_zero, Function.comp_def, List.getD_cons_succ, ih]
    simp [List.cons_beq_cons]
  | [], _ :: _, h => by simp at h
  | _ :: _, [], h => by simp at h
theorem run_equalIn_bytes {P : Program} (w : World) (d : Nat) (t e : TypeId) (n : Nat) (ht : P.underlying t = some (.array n e)) (he : P.underlying e = some (.int .u8)) (hsz : ∀ w, (sizeOf e).run P w = .ok 1 w)
    (xs ys : List UInt8) (hx : xs.length = n) (hy : ys.length = n) :
    (Op.equalIn (d + 2) t (.agg (xs.map u8).toArray) (.agg (ys.map u8).toArray)).run P w = .ok (xs == ys) w := by
  rw [← all_range_bytes xs ys (hx.trans hy.symm), hx, List.range_eq_range', Op.equalIn]
  simp only [Sem.run_bind, run_underlying ht, Result.andThen_ok, hsz, Std.Legacy.Range.forIn_eq_forIn_range', Std.Legacy.Range.size, Nat.sub_zero, Nat.add_sub_cancel, Nat.div_one]
  have hl : ∀ i ∈ List.range' 0 n 1, i < n := fun i hi => by simpa using (List.mem_range'_1.1 hi).2
  generalize List.range' 0 n 1 = l at hl ⊢
  induction l with
  | nil => simp
  | cons i l ih =>
    have hi : i < n := hl i (by simp)
    have px : (part e (xs.map u8).toArray (i * 1)).run P w = .ok (u8 (xs.getD i 0)) w := by
      simp [part, isAgg, run_underlying he, List.getD, List.getElem?_eq_getElem (show i < xs.length by omega)]
    have py : (part e (ys.map u8).toArray (i * 1)).run P w = .ok (u8 (ys.getD i 0)) w := by
      simp [part, isAgg, run_underlying he, List.getD, List.getElem?_eq_getElem (show i < ys.length by omega)]
    have pe : (Op.equalIn (d + 1) e (u8 (xs.getD i 0)) (u8 (ys.getD i 0))).run P w = .ok (xs.getD i 0 == ys.getD i 0) w := by
      rw [u8, u8, run_equalIn_int w d e .u8 .u8 _ _ he]
      congr 1
      rw [Bool.eq_iff_iff, beq_iff_eq, beq_iff_eq]
      exact ⟨fun h => UInt8.toNat_inj.1 (by omega), fun h => by rw [h]⟩
    simp only [List.forIn_cons, Sem.run_bind, px, py, pe, Result.andThen_ok, List.all_cons]
    cases hb : (xs.getD i 0 == ys.getD i 0)
    · simp
    · simp only [Bool.not_true, Bool.false_eq_true, if_false, Sem.run_pure, Result.andThen_ok, Bool.true_and]
      exact ih (fun j hj => hl j (by simp [hj]))

theorem Try.sizeBW (w : World) : (sizeOf 5).run Try.prog w = .ok 1 w := by
  obtain ⟨i, hi, hs⟩ := Option.map_eq_some_iff.1 (show (Try.prog.info? 5).map (·.size) = some 1 by kernel_rfl)
  simp [sizeOf, typeInfo, hi, hs]

theorem eql_lines (a b : List UInt8) (ha : a.length = 6) (hb : b.length = 6) (w : World) : (binOp .eql 116 (lineV a) (lineV b)).run Try.prog w = .ok (.bool (a == b)) w := by
  have h := run_equalIn_bytes (P := Try.prog) w 9998 116 5 6 Try.underlying116 Try.underlying5 Try.sizeBW a b ha hb
  unfold lineV
  rw [run_eql_struct, h]
  rfl

theorem line_guard (a b : List UInt8) (x y : Operand) (w : World) : (eqGuard .eql 116 x y (lineV a) (lineV b)).run Try.prog w = .ok () w := by
  unfold lineV
  exact run_eqGuard_agg w _ _ x y _ _ (by kernel_rfl)

/-! ### sorted, haveSameBytes -/
set_option maxRecDepth 100000 in
set_option maxHeartbeats 4000000 in
theorem lsorted_any (l : List UInt8) (hl : l.length = 6) (w : World) : Calls Try.prog 75 #[lineV l] w (fun e w' => ∃ l', SortsTo l l' ∧ e = .returned (lineV l') ∧ Keeps noB w w') := by
  have HS := Lib.hid (fun (w1 : World) (b : Nat) (h : Blk w1 b (l.toArray.map u8) 116) => sort_B b 6 6 l 116 w1 hl h (by omega) (by omega))
  obtain ⟨a, b, c, d, e, f, rfl⟩ := six_of hl
  clear hl
  unfold lineV u8
  simp only [List.map_cons, List.map_nil]
  go_enter Try.func75, Try.ntmps75
  go_wp2_with fail
  refine (HS.out _ w.heap.size ?_).mono ?_
  · have := (Blk.new w #[Value.int .u8 (a.toNat : Int), .int .u8 (b.toNat : Int), .int .u8 (c.toNat : Int), .int .u8 (d.toNat : Int), .int .u8 (e.toNat : Int), .int .u8 (f.toNat : Int)] 116).alloc (.cells #[Value.int .u8 0, .int .u8 0, .int .u8 0, .int .u8 0, .int .u8 0, .int .u8 0] 116)
    rw [List.map_toArray]
    exact this
  · rintro e2 w2 ⟨rfl, l', hst, hb, hk⟩
    have h0 := Blk.new (w.alloc (.cells #[Value.int .u8 (a.toNat : Int), .int .u8 (b.toNat : Int), .int .u8 (c.toNat : Int), .int .u8 (d.toNat : Int), .int .u8 (e.toNat : Int), .int .u8 (f.toNat : Int)] 116)) #[Value.int .u8 0, .int .u8 0, .int .u8 0, .int .u8 0, .int .u8 0, .int .u8 0] 116
    rw [World.size_alloc] at h0
    have h1 := hk.blk h0 (show w.heap.size + 1 ≠ w.heap.size by omega)
    have HQ : Hid (Keeps noB w w2) := Lib.hid ((((Keeps.refl noB w).alloc _).alloc _).transNew hk (fun i hi e => by have : i = w.heap.size := e; omega))
    have HL := hst.len
    have HST := Lib.hid hst
    obtain ⟨a', b', c', d', e', f', rfl⟩ := six_of (l := l') (by simpa using HL)
    unfold u8 at hb
    simp only [List.map_toArray, List.map_cons, List.map_nil] at hb
    have r0 := hb.cell 0
    have r1 := hb.cell 1
    have r2 := hb.cell 2
    have r3 := hb.cell 3
    have r4 := hb.cell 4
    have r5 := hb.cell 5
    have s0 := h1.cell 0
    have s1 := h1.cell 1
    have s2 := h1.cell 2
    have s3 := h1.cell 3
    have s4 := h1.cell 4
    have s5 := h1.cell 5
    have z0 := h1.free
    simp at r0 r1 r2 r3 r4 r5 s0 s1 s2 s3 s4 s5
    have HB := Lib.hid h1
    clear hb h0 h1 hk hst HL HS
    go_wp2_with fail
    refine bodyPost_ret (resLine (l := [a', b', c', d', e', f']) rfl (line_set HB.out _ _ _ _ _ _) rfl _ rfl) rfl ?_
    exact ⟨_, HST.out, rfl, line_keeps HQ.out (by omega) _ _ _ _ _ _⟩

set_option maxRecDepth 100000 in
set_option maxHeartbeats 4000000 in
theorem sameBytes_any (a b : ByteArray) (ha : a.size ≤ 1048576) (hd : DeclG [] b.data.toList) (h6 : b.size ≤ 6) (w : World) :
    Calls Try.prog 53 #[.string a, .string b] w (fun e w' => e = .returned (.bool (orderOk a.data.toList b.data.toList)) ∧ Keeps noB w w') := by
  by_cases hs : a.size = b.size
  · have h1 : a.data.toList.length = b.data.toList.length := hs
    have hz : ((a.size : Int) == (b.size : Int)) = true := by simp [hs]
    have HA := Lib.hid (fun w => lineup_any a w)
    have HB := Lib.hid (fun w => lineup_any b w)
    have HSA := Lib.hid (fun w => lsorted_any (padL a.data.toList) (padL_len _) w)
    have HSB := Lib.hid (fun w => lsorted_any (padL b.data.toList) (padL_len _) w)
    have HL1 := Lib.hid (padL_len a.data.toList)
    have HL2 := Lib.hid (padL_len b.data.toList)
    have HE : Hid (∀ l1 l2, SortsTo (padL a.data.toList) l1 → SortsTo (padL b.data.toList) l2 → (l1 == l2) = orderOk a.data.toList b.data.toList) := Lib.hid (fun l1 l2 k1 k2 => by
      rw [Bool.eq_iff_iff, beq_iff_eq, orderOk_iff hd, k1.same k2]
      exact pad_perm h1 (by rw [← h1]; show a.size ≤ 6; omega))
    generalize orderOk a.data.toList b.data.toList = res at HE ⊢
    generalize padL a.data.toList = pa at *
    generalize padL b.data.toList = pb at *
    clear h1 hd
    go_enter Try.func53, Try.ntmps53
    go_wp2_with fail
    refine (HA.out _).mono ?_
    rintro e w1 ⟨rfl, q1⟩
    go_wp2_with fail
    refine (HSA.out _).mono ?_
    rintro e w2 ⟨l1, k1, rfl, q2⟩
    go_wp2_with fail
    refine (HB.out _).mono ?_
    rintro e w3 ⟨rfl, q3⟩
    go_wp2_with fail
    refine (HSB.out _).mono ?_
    rintro e w4 ⟨l2, k2, rfl, q4⟩
    have hg := fun x y w => line_guard l1 l2 x y w
    have he := fun w => eql_lines l1 l2 (by rw [k1.len]; exact HL1.out) (by rw [k2.len]; exact HL2.out) w
    rw [HE.out l1 l2 k1 k2] at he
    unfold lineV at hg he ⊢
    go_wp2_with fail
    go_ret
    exact ⟨rfl, ((q1.trans q2).trans q3).trans q4⟩
  · have hz : ((a.size : Int) == (b.size : Int)) = false := by simp; omega
    have hr : orderOk a.data.toList b.data.toList = false := by
      unfold orderOk
      rw [decide_eq_false (show ¬ a.data.toList.length = b.data.toList.length from hs)]; rfl
    rw [hr]
    clear hr hd
    go_enter Try.func53, Try.ntmps53
    go_wp2_with fail
    go_ret
    exact ⟨rfl, Keeps.refl _ _⟩

end Go.Proofs.Ytkfcgamdlckncaa

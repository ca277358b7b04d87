/-
  Walks of the model: l2All, AllChoices.
-/
import Derived.Test.YtcohmhgmocdbfaaTq
import Derived.Test.YtcohmhgmocdbfaaKw
import Derived.Deep.LoopGhost
namespace Go.Proofs.Ytcohmhgmocdbfaa
set_option linter.unusedVariables false
set_option linter.unusedSimpArgs false
open Go.RowKit

/-- append, where its run is known. -/
theorem wpList_append_run {P : Program} (w : World) {ops : Array Oper} {rest : List Oper} {o : Oper} {a : Act} {Q : Exit → Act → World → Prop} (hgd : o.guard = none) (s x : Operand) (t : TypeId)
    (ho : o.op = .call { callee := .builtin .append, args := #[s, x], argTypes := #[t, t] }) (vs vx : Value) (hs : a.eval s = vs) (hx : a.eval x = vx)
    (v' : Value) (w' : World) (hr : (Builtin.append_ #[t, t] o.type #[vs, vx]).run P w = .ok v' w') (h : wpList P ops Q rest (a.put o.dst v') w') : wpList P ops Q (o :: rest) a w :=
  wpList_plain hgd fun K hK => by
    unfold Oper.wp execOp
    simp only [ho, resolve, invoke, builtin, Sem.run_bind, Sem.run_pure, Result.andThen_ok, List.map_toArray, List.map_cons, List.map_nil, hs, hx, hr]
    exact hK _ _ h

/-- A row of texts of the call's own, with one more. -/
theorem StrRow.put {B : Nat} {w : World} {v : Value} {l : List (List UInt8)} (h : StrRow B noB w v l) (c : List UInt8) (hl : l.length ≤ 100000) (hB : B ≤ w.heap.size) :
    ∃ v' w', (Builtin.append_ #[32, 32] 32 #[v, .slice (some ⟨w.heap.size, 0, none⟩) 1 1]).run Try.prog (w.alloc (.cells #[.string ⟨c.toArray⟩] 9)) = .ok v' w' ∧
      StrRow B noB w' v' (l ++ [c]) ∧ (∀ g, v'.ownBlock = some g → v.ownBlock = some g ∨ w.heap.size ≤ g) ∧ Keeps (fun g => v.ownBlock = some g) w w' := by
  obtain ⟨i0, hi, hz0, hz1, hz2⟩ := info_parts Try.zeroK9
  obtain ⟨v', w', hr, ho', hg', hfr⟩ := run_append_fresh (P := Try.prog) (w.alloc (.cells #[.string ⟨c.toArray⟩] 9)) 32 32 9 i0 (.string ⟨#[]⟩) 1 16 Try.underlying32 hi hz0 hz1 hz2 rfl (by omega)
    v l.length _ (((Keeps.refl noB w).alloc _).ownsRow h.1 (fun _ _ _ => id)) ⟨w.heap.size, 0, none⟩ 1 1 [.string ⟨c.toArray⟩] rfl (cells_one w _ _) (fun u hu => by simp at hu; subst hu; rfl) (by unfold maxLen; omega) (by omega)
  have hnew : ∀ g, v'.ownBlock = some g → v.ownBlock = some g ∨ w.heap.size ≤ g := by
    intro g hg
    rcases hfr with e | e
    · exact .inl (e ▸ hg)
    · have := e g hg; simp at this; exact .inr (by omega)
  refine ⟨v', w', hr, ⟨?_, fun g hg => ⟨?_, id⟩⟩, hnew, ((Keeps.refl _ w).alloc _).grown hg' (fun g hg => .inl hg)⟩
  · rw [strsC_snoc, List.length_append]
    exact ho'
  · rcases hnew g hg with e | e
    · exact (h.2 g e).1
    · omega

theorem wrap_j {j A : Nat} (h : j < A) (hA : A ≤ 1000) : wrap64 ((j : Int) + 1) = (j : Int) + 1 := by unfold wrap64; omega

/-- What the loop over the queue holds. -/
def Qu1 (x : Nd) (n : Nat) (w : World) (k : Nat) (v5 v6 : Value) (wr : World) : Prop :=
  ∃ (vis r t : List (List UInt8)) (g : Nat), k = r.length ∧ Queue x n t r ∧ x.upTo n = vis ++ r ∧ StrRow w.heap.size noB wr v5 (x.rights vis) ∧ v5.ownBlock ≠ some g ∧ QRow wr g v6 t ∧ w.heap.size ≤ g ∧ Keeps noB w wr

/-- What the loop over what is asked holds. -/
def Qu2 (x : Nd) (n : Nat) (w : World) (vis t : List (List UInt8)) (c : List UInt8) (b : Nat) (ls : ByteArray) (v5 : Value) (v6 v37 : Value) (wr : World) : Prop :=
  ∃ (j g : Nat), j ≤ (x.with c).asks.length ∧ v37 = .int .i64 (j : Int) ∧ StrRow w.heap.size noB wr v5 (x.rights vis) ∧ v5.ownBlock ≠ some g ∧ QRow wr g v6 (t ++ (if c.length < n then (x.longer c).take j else [])) ∧ w.heap.size ≤ g ∧ b ≠ g ∧ wr.cell? ⟨b, 13, none⟩ = some (.string ls) ∧ b < wr.heap.size ∧ Keeps noB w wr

theorem queue_len {x : Nd} {n : Nat} {t r : List (List UInt8)} (h : Queue x n t r) : t.length ≤ r.length := by
  induction h with
  | nil => exact Nat.le_refl _
  | cons c t r _ ih =>
    rw [List.length_append] at ih
    simp only [List.length_cons]
    omega

theorem next_all (x : Nd) (n : Nat) (c : List UInt8) : (if c.length < n then (x.longer c).take (x.with c).asks.length else []) = x.next n c := by
  unfold Nd.next
  split
  · rw [List.take_of_length_le]
    unfold Nd.longer
    rw [List.length_map]
    exact Nat.le_refl _
  · rfl

theorem rights_snoc (x : Nd) (vis : List (List UInt8)) (c : List UInt8) : x.rights (vis ++ [c]) = x.rights vis ++ (if (x.with c).right then [c] else []) := by
  unfold Nd.rights
  rw [List.filter_append]
  congr 1
  cases hr : (x.with c).right <;> simp [hr]

set_option maxRecDepth 100000 in
set_option maxHeartbeats 1000000 in
theorem Qu2.next {x : Nd} {n : Nat} {w : World} {vis t : List (List UInt8)} {c : List UInt8} {b : Nat} {ls : ByteArray} {v5 v6 : Value} {j g : Nat} {wr : World} {d : UInt8} (hcn : c.length < n) (hdj : (x.with c).asks[j]? = some d)
    (h5 : StrRow w.heap.size noB wr v5 (x.rights vis)) (hn : v5.ownBlock ≠ some g) (hq : QRow wr g v6 (t ++ (x.longer c).take j)) (hg : w.heap.size ≤ g) (hb : b ≠ g) (hc : wr.cell? ⟨b, 13, none⟩ = some (.string ls)) (hbl : b < wr.heap.size) (q : Keeps noB w wr) (hl : (t ++ (x.longer c).take j).length ≤ 100000) :
    ∃ v' w', (Builtin.append_ #[32, 32] 32 #[v6, .slice (some ⟨wr.heap.size, 0, none⟩) 1 1]).run Try.prog (wr.alloc (.cells #[.string ⟨(c ++ [d]).toArray⟩] 9)) = .ok v' w' ∧ Qu2 x n w vis t c b ls v5 v' (.int .i64 ((j : Int) + 1)) w' := by
  obtain ⟨v', w', g', hr, hq', hg', qk⟩ := hq.put (c ++ [d]) hl
  have hw := q.size
  have hgl := hq.lt
  have hjl := (List.getElem?_eq_some_iff.1 hdj).1
  have hlong : (x.longer c).take (j + 1) = (x.longer c).take j ++ [c ++ [d]] := by
    rw [List.take_add_one]
    congr 1
    unfold Nd.longer
    rw [List.getElem?_map, hdj]
    rfl
  refine ⟨v', w', hr, j + 1, g', hjl, by simp, h5.step qk (fun g2 hg2 (e : g2 = g) => hn (e ▸ hg2)) (fun _ e => .inl e), fun e => ?_, ?_, by omega, by omega, ?_, Nat.lt_of_lt_of_le hbl qk.size, q.transNew qk (fun i hi (e : i = g) => by omega)⟩
  · rcases hg' with rfl | hg'
    · exact hn e
    · have := (h5.1.lt g' e).2; omega
  · rw [if_pos hcn, hlong, ← List.append_assoc]
    exact hq'
  · exact (qk.cell (p := ⟨b, 13, none⟩) hbl (fun (e : b = g) => hb e)).trans hc

set_option maxRecDepth 100000 in
set_option maxHeartbeats 4000000 in
theorem l2All_any (s : ByteArray) (hs : s.size ≤ 1048576) (n : Nat) (hn : n ≤ 6) (x : Nd) (hp : progP s = some x) (w : World) : Calls Try.prog 58 #[.string s, .int .i64 (n : Int)] w
    (fun e w' => ∃ v, e = .returned v ∧ StrRow w.heap.size noB w' v (x.rights (x.upTo n)) ∧ Keeps noB w w') := by
  have HM := Lib.hid (fun (c : List UInt8) (hc : c.length ≤ 6) (hf : x.Fine c) (w : World) => runM_asks hp hs hc hf w)
  have HMEM : Hid (∀ c ∈ x.upTo n, c.length ≤ 6 ∧ x.Fine c) := Lib.hid (fun c hc => by
    obtain ⟨h1, h2⟩ := levels_mem x (n + 1) 0 c hc
    exact ⟨by omega, h2⟩)
  have HLEN : Hid ((x.upTo n).length ≤ 128) := Lib.hid (by
    have h2 := levels_len x (n + 1) 0
    have h3 : 2 ^ (0 + (n + 1)) ≤ 2 ^ 7 := Nat.pow_le_pow_right (by omega) (by omega)
    have h4 : (x.upTo n).length = (x.levels 0 (n + 1)).length := rfl
    omega)
  have hs1 : (w.alloc (.cells #[] 9)).heap.size = w.heap.size + 1 := by simp
  have HS : Hid (Qu1 x n w (x.upTo n).length (.slice (some ⟨w.heap.size, 0, none⟩) 0 0) (.slice (some ⟨w.heap.size + 1, 0, none⟩) 1 1) ((w.alloc (.cells #[] 9)).alloc (.cells #[.string ⟨#[]⟩] 9))) := by
    refine ⟨[], x.upTo n, [[]], w.heap.size + 1, rfl, queue_all x n, rfl, ⟨((Keeps.refl noB _).alloc _).ownsRow (World.ownsRow_made w #[] 0 (Nat.zero_le _) (by simp [maxLen]) rfl) (fun _ _ _ => id), fun g e => ?_⟩, fun e => ?_, ⟨_, 0, 1, _, rfl, fun _ => rfl, Nat.le_refl _, blk_new hs1 _ _, rfl, fun j c hj => ?_⟩, by omega, ((Keeps.refl _ w).alloc _).alloc _⟩
    · simp [Value.ownBlock] at e
      subst e
      exact ⟨Nat.le_refl _, id⟩
    · simp [Value.ownBlock] at e
    · have hj0 : j = 0 := by
        have := (List.getElem?_eq_some_iff.1 hj).1
        simp at this
        exact this
      subst hj0
      simp at hj
      subst hj
      rfl
  clear hp hs1
  go_enter Try.func58, Try.ntmps58
  go_wp2_with fail
  go_loopg [5, 6] (x.upTo n).length (fun k v5 v6 wr => Qu1 x n w k v5 v6 wr)
  case atStart => exact HS.out
  case round =>
    clear HS
    obtain ⟨vis, r, t, g, rfl, hqu, hall, h5, hng, hq, hg, q⟩ := hrel
    cases hqu with
    | nil =>
      rw [List.append_nil] at hall
      have hlen : ∃ ao cap, u6 = .slice ao 0 cap := by obtain ⟨ao, off, cap, cur, h1, _⟩ := hq; exact ⟨ao, cap, h1⟩
      obtain ⟨ao, cap, rfl⟩ := hlen
      have HE := Lib.hid (And.intro h5 (And.intro hall q))
      clear h5 hall q hq
      go_wp2_with fail
      go_ret
      exact ⟨_, rfl, by rw [HE.out.2.1]; exact HE.out.1, HE.out.2.2⟩
    | cons c t r' hqu' =>
      obtain ⟨hc6, hfine⟩ := HMEM.out c (by rw [hall]; simp)
      obtain ⟨off, cp, rfl, htc, hcell, hq0, hq1⟩ := hq.take
      obtain ⟨cs, hcs⟩ : ∃ cs : ByteArray, cs = ⟨c.toArray⟩ := ⟨_, rfl⟩
      obtain ⟨ls, hls⟩ : ∃ ls : ByteArray, ls = ⟨(x.with c).asks.toArray⟩ := ⟨_, rfl⟩
      obtain ⟨T, hT⟩ : ∃ T, T = t.length := ⟨_, rfl⟩
      have HC := Lib.hid (HM.out c hc6 hfine wr)
      rw [← hcs, ← hls] at HC
      rw [← hcs] at hcell
      rw [← hT] at htc hq0 hq1 ⊢
      have hT2 : T ≤ 128 := by
        have e1 := queue_len hqu'
        have e2 := HLEN.out
        rw [hall] at e2
        rw [List.length_append] at e1
        simp only [List.length_append, List.length_cons] at e2
        omega
      have hvl : (x.rights vis).length ≤ 128 := by
        have e1 := List.length_filter_le (fun c => (x.with c).right) vis
        have e2 := HLEN.out
        rw [hall] at e2
        simp only [List.length_append, List.length_cons] at e2
        unfold Nd.rights
        omega
      have HVL := Lib.hid hvl
      have HQ := Lib.hid (And.intro h5 (And.intro hng (And.intro hg (And.intro q (And.intro hq0 hq1)))))
      have HI := Lib.hid (And.intro hcs (And.intro hls (And.intro hc6 (And.intro hall (And.intro hqu' hT)))))
      clear h5 hng hg q hq0 hq1 hq hcs hls hc6 hall hqu' hT hfine hvl
      by_cases hcp : cp = 0
      · have hT0 : T = 0 := by omega
        subst hcp
        subst hT0
        cases hr : (x.with c).right with
        | true =>
          rw [hr] at HC
          go_wp2_with (go_at_call 59; refine HC.out.mono ?_; rintro e w1 ⟨b, rfl, hask, hb, hbl, q1⟩; refine Hid.out ?_)
          refine Lib.hid ?_
          have h5w := HQ.out.1.step q1 (fun _ _ e => e) (fun _ e => .inl e)
          have hww := HQ.out.2.2.2.1.size
          have hw1 := q1.size
          have hgl := (HQ.out.2.2.2.2.1 trivial).lt
          obtain ⟨v', w2, hrun, hrow', hnew, qk⟩ := h5w.put c (by have := HVL.out; omega) (by omega)
          obtain ⟨a', c', rfl⟩ := row_shape (ok := fun _ => True) ⟨hrow'.1, fun _ _ => trivial⟩
          have h5lt := HQ.out.1.1.lt
          rw [← HI.out.1] at hrun
          have y13 : w2.cell? ⟨b, 13, none⟩ = some (.string ls) := (qk.cell (p := ⟨b, 13, none⟩) hbl (fun e => by have := (h5lt b e).2; omega)).trans hask
          obtain ⟨L5, hL5⟩ : ∃ L5, L5 = (x.rights vis ++ [c]).length := ⟨_, rfl⟩
          rw [← hL5] at hrun hrow' hnew
          have HP : Hid (Qu2 x n w (vis ++ [c]) t c b ls (.slice a' L5 c') (.slice (some ⟨g, off, none⟩) 0 0) (.int .i64 0) w2) := by
            refine ⟨0, g, Nat.zero_le _, rfl, ?_, fun e => ?_, ?_, HQ.out.2.2.1, by omega, y13, Nat.lt_of_lt_of_le hbl qk.size, ?_⟩
            · rw [rights_snoc, if_pos hr]
              exact hrow'
            · rcases hnew g e with e2 | e2
              · exact HQ.out.2.1 e2
              · omega
            · have e : (if c.length < n then (x.longer c).take 0 else []) = [] := by split <;> rfl
              rw [e, List.append_nil]
              exact ((HQ.out.2.2.2.2.1 trivial).keeps q1 id).keeps qk (fun e => HQ.out.2.1 e)
            · exact (HQ.out.2.2.2.1.trans q1).transNew qk (fun i hi e => by have := (HQ.out.1.2 i e).1; omega)
          clear q1 h5w hrow' hnew qk h5lt hask hL5
          go_wp2_with (at_builtin; refine wpList_append_run _ rfl _ _ _ rfl _ _ rfl rfl _ _ hrun ?_)
          have hlz : ls.size = (x.with c).asks.length := by rw [HI.out.2.1]; simp [ByteArray.size]
          have hl2 : ls.size ≤ 2 := by rw [hlz]; exact asks_two _
          have hcz : cs.size = c.length := by rw [HI.out.1]; simp [ByteArray.size]
          have hcz6 : cs.size ≤ 6 := by rw [hcz]; exact HI.out.2.2.1
          have hl2i : (ls.size : Int) ≤ 2 := by omega
          have HLZ := Lib.hid (And.intro hlz hcz)
          clear hlz hcz
          go_loopw [6, 37] (fun v6 v37 wr => Qu2 x n w (vis ++ [c]) t c b ls (.slice a' L5 c') v6 v37 wr) (fun _ v37 _ => ls.size - (intOf v37).toNat)
          case atStart => exact HP.out
          case round =>
            clear HP
            try clear y13
            obtain ⟨j, g2, hj, rfl, h5, hng, hq, hg, hbg, hask2, hbl2, q⟩ := hrel
            rw [← HLZ.out.1] at hj
            by_cases hjl : j < ls.size
            · have hj0 : (0 : Int) ≤ (j : Int) := by omega
              have hj1 : (j : Int) < (ls.size : Int) := by omega
              have h3 : ((j : Int) + 1).toNat = j + 1 := by omega
              have h5b : (j : Int) + 1 ≤ (ls.size : Int) := by omega
              have h6b : (j : Int) ≤ (j : Int) + 1 := by omega
              have h7b : (0 : Int) ≤ (j : Int) + 1 := by omega
              by_cases hcn : c.length < n
              · have hcni : (cs.size : Int) < (n : Int) := by have := HLZ.out.2; omega
                rw [if_pos hcn] at hq
                obtain ⟨d, hdj⟩ : ∃ d, (x.with c).asks[j]? = some d := ⟨_, List.getElem?_eq_getElem (by have := HLZ.out.1; omega)⟩
                obtain ⟨v', w', hrun, hend⟩ := Qu2.next hcn hdj h5 hng hq hg hbg hask2 hbl2 q (by
                  have e1 := asks_two (x.with c)
                  have e3 : ((x.longer c).take j).length ≤ 2 := by
                    rw [List.length_take]
                    unfold Nd.longer
                    rw [List.length_map]
                    omega
                  rw [List.length_append, ← HI.out.2.2.2.2.2]
                  omega)
                have hxo := extract_one hjl
                have hx : cs ++ ls.extract j (j + 1) = (⟨(c ++ [d]).toArray⟩ : ByteArray) := by
                  have e : ls[j] = d := by
                    have e1 : ls.data.toList = (x.with c).asks := by rw [HI.out.2.1]
                    have e2 : ls.data.toList[j]? = some ls[j] := by
                      rw [Array.getElem?_toList]
                      exact Array.getElem?_eq_getElem hjl
                    rw [e1, hdj] at e2
                    exact (Option.some.inj e2).symm
                  apply ByteArray.ext
                  apply Array.ext'
                  rw [ByteArray.data_append, Array.toList_append, hxo, e, HI.out.1]
                have hxz : (ls.extract j (j + 1)).size = 1 := by
                  have e : (ls.extract j (j + 1)).size = (ls.extract j (j + 1)).data.toList.length := by rw [Array.length_toList]; rfl
                  rw [e, hxo]; rfl
                rw [← hx] at hrun
                have hcs2 : cs.size + (ls.extract j (j + 1)).size ≤ 9223372036854775807 := by omega
                have HE := Lib.hid hend
                obtain ⟨g2', off2, cap2, hqs⟩ : ∃ ao L cap, u6 = .slice ao L cap := by obtain ⟨ao, off, cap, cur, h1, _⟩ := hq; exact ⟨ao, _, cap, h1⟩
                subst hqs
                clear h5 hng hq hg hbg hbl2 q hend hdj hxo hx hxz
                go_wp2_with (at_builtin; refine wpList_append_run _ rfl _ _ _ rfl _ _ rfl rfl _ _ hrun ?_)
                go_roundw
                case rel => exact HE.out
                case measure => simp [intOf]; omega
              · have hcni : ¬ (cs.size : Int) < (n : Int) := by have := HLZ.out.2; omega
                rw [if_neg hcn] at hq
                have HE : Hid (Qu2 x n w (vis ++ [c]) t c b ls (.slice a' L5 c') u6 (.int .i64 ((j : Int) + 1)) wr) := ⟨j + 1, g2, by have := HLZ.out.1; omega, by simp, h5, hng, by rw [if_neg hcn]; exact hq, hg, hbg, hask2, hbl2, q⟩
                clear h5 hng hq hg hbg hbl2 q
                go_wp2_with fail
                go_roundw
                case rel => exact HE.out
                case measure => simp [intOf]; omega
            · have hje : j = (x.with c).asks.length := by have := HLZ.out.1; omega
              subst hje
              rw [next_all] at hq
              have HE : Hid (Qu1 x n w r'.length (.slice a' L5 c') u6 wr) := ⟨vis ++ [c], r', t ++ x.next n c, g2, rfl, HI.out.2.2.2.2.1, by rw [HI.out.2.2.2.1]; simp, h5, hng, hq, hg, q⟩
              clear h5 hng hq hg hbg hask2 hbl2 q
              go_wp2_with fail
              go_roundg r'.length
              case measure => simp
              case rel => exact HE.out
        | false =>
          rw [hr] at HC
          go_wp2_with (go_at_call 59; refine HC.out.mono ?_; rintro e w1 ⟨b, rfl, hask, hb, hbl, q1⟩; refine Hid.out ?_)
          refine Lib.hid ?_
          have h5w := HQ.out.1.step q1 (fun _ _ e => e) (fun _ e => .inl e)
          have hww := HQ.out.2.2.2.1.size
          have hw1 := q1.size
          have hgl := (HQ.out.2.2.2.2.1 trivial).lt
          have HP : Hid (Qu2 x n w (vis ++ [c]) t c b ls u5 (.slice (some ⟨g, off, none⟩) 0 0) (.int .i64 0) w1) := by
            refine ⟨0, g, Nat.zero_le _, rfl, ?_, HQ.out.2.1, ?_, HQ.out.2.2.1, by omega, hask, hbl, HQ.out.2.2.2.1.trans q1⟩
            · rw [rights_snoc, if_neg (by rw [hr]; simp), List.append_nil]
              exact h5w
            · have e : (if c.length < n then (x.longer c).take 0 else []) = [] := by split <;> rfl
              rw [e, List.append_nil]
              exact (HQ.out.2.2.2.2.1 trivial).keeps q1 id
          clear q1 h5w
          go_wp2_with fail
          have hlz : ls.size = (x.with c).asks.length := by rw [HI.out.2.1]; simp [ByteArray.size]
          have hl2 : ls.size ≤ 2 := by rw [hlz]; exact asks_two _
          have hcz : cs.size = c.length := by rw [HI.out.1]; simp [ByteArray.size]
          have hcz6 : cs.size ≤ 6 := by rw [hcz]; exact HI.out.2.2.1
          have hl2i : (ls.size : Int) ≤ 2 := by omega
          have HLZ := Lib.hid (And.intro hlz hcz)
          clear hlz hcz
          go_loopw [6, 37] (fun v6 v37 wr => Qu2 x n w (vis ++ [c]) t c b ls u5 v6 v37 wr) (fun _ v37 _ => ls.size - (intOf v37).toNat)
          case atStart => exact HP.out
          case round =>
            clear HP
            try clear y13
            obtain ⟨j, g2, hj, rfl, h5, hng, hq, hg, hbg, hask2, hbl2, q⟩ := hrel
            rw [← HLZ.out.1] at hj
            by_cases hjl : j < ls.size
            · have hj0 : (0 : Int) ≤ (j : Int) := by omega
              have hj1 : (j : Int) < (ls.size : Int) := by omega
              have h3 : ((j : Int) + 1).toNat = j + 1 := by omega
              have h5b : (j : Int) + 1 ≤ (ls.size : Int) := by omega
              have h6b : (j : Int) ≤ (j : Int) + 1 := by omega
              have h7b : (0 : Int) ≤ (j : Int) + 1 := by omega
              by_cases hcn : c.length < n
              · have hcni : (cs.size : Int) < (n : Int) := by have := HLZ.out.2; omega
                rw [if_pos hcn] at hq
                obtain ⟨d, hdj⟩ : ∃ d, (x.with c).asks[j]? = some d := ⟨_, List.getElem?_eq_getElem (by have := HLZ.out.1; omega)⟩
                obtain ⟨v', w', hrun, hend⟩ := Qu2.next hcn hdj h5 hng hq hg hbg hask2 hbl2 q (by
                  have e1 := asks_two (x.with c)
                  have e3 : ((x.longer c).take j).length ≤ 2 := by
                    rw [List.length_take]
                    unfold Nd.longer
                    rw [List.length_map]
                    omega
                  rw [List.length_append, ← HI.out.2.2.2.2.2]
                  omega)
                have hxo := extract_one hjl
                have hx : cs ++ ls.extract j (j + 1) = (⟨(c ++ [d]).toArray⟩ : ByteArray) := by
                  have e : ls[j] = d := by
                    have e1 : ls.data.toList = (x.with c).asks := by rw [HI.out.2.1]
                    have e2 : ls.data.toList[j]? = some ls[j] := by
                      rw [Array.getElem?_toList]
                      exact Array.getElem?_eq_getElem hjl
                    rw [e1, hdj] at e2
                    exact (Option.some.inj e2).symm
                  apply ByteArray.ext
                  apply Array.ext'
                  rw [ByteArray.data_append, Array.toList_append, hxo, e, HI.out.1]
                have hxz : (ls.extract j (j + 1)).size = 1 := by
                  have e : (ls.extract j (j + 1)).size = (ls.extract j (j + 1)).data.toList.length := by rw [Array.length_toList]; rfl
                  rw [e, hxo]; rfl
                rw [← hx] at hrun
                have hcs2 : cs.size + (ls.extract j (j + 1)).size ≤ 9223372036854775807 := by omega
                have HE := Lib.hid hend
                obtain ⟨g2', off2, cap2, hqs⟩ : ∃ ao L cap, u6 = .slice ao L cap := by obtain ⟨ao, off, cap, cur, h1, _⟩ := hq; exact ⟨ao, _, cap, h1⟩
                subst hqs
                clear h5 hng hq hg hbg hbl2 q hend hdj hxo hx hxz
                go_wp2_with (at_builtin; refine wpList_append_run _ rfl _ _ _ rfl _ _ rfl rfl _ _ hrun ?_)
                go_roundw
                case rel => exact HE.out
                case measure => simp [intOf]; omega
              · have hcni : ¬ (cs.size : Int) < (n : Int) := by have := HLZ.out.2; omega
                rw [if_neg hcn] at hq
                have HE : Hid (Qu2 x n w (vis ++ [c]) t c b ls u5 u6 (.int .i64 ((j : Int) + 1)) wr) := ⟨j + 1, g2, by have := HLZ.out.1; omega, by simp, h5, hng, by rw [if_neg hcn]; exact hq, hg, hbg, hask2, hbl2, q⟩
                clear h5 hng hq hg hbg hbl2 q
                go_wp2_with fail
                go_roundw
                case rel => exact HE.out
                case measure => simp [intOf]; omega
            · have hje : j = (x.with c).asks.length := by have := HLZ.out.1; omega
              subst hje
              rw [next_all] at hq
              have HE : Hid (Qu1 x n w r'.length u5 u6 wr) := ⟨vis ++ [c], r', t ++ x.next n c, g2, rfl, HI.out.2.2.2.2.1, by rw [HI.out.2.2.2.1]; simp, h5, hng, hq, hg, q⟩
              clear h5 hng hq hg hbg hask2 hbl2 q
              go_wp2_with fail
              go_roundg r'.length
              case measure => simp
              case rel => exact HE.out
      · cases hr : (x.with c).right with
        | true =>
          rw [hr] at HC
          go_wp2_with (go_at_call 59; refine HC.out.mono ?_; rintro e w1 ⟨b, rfl, hask, hb, hbl, q1⟩; refine Hid.out ?_)
          refine Lib.hid ?_
          have h5w := HQ.out.1.step q1 (fun _ _ e => e) (fun _ e => .inl e)
          have hww := HQ.out.2.2.2.1.size
          have hw1 := q1.size
          have hgl := (HQ.out.2.2.2.2.2).lt
          obtain ⟨v', w2, hrun, hrow', hnew, qk⟩ := h5w.put c (by have := HVL.out; omega) (by omega)
          obtain ⟨a', c', rfl⟩ := row_shape (ok := fun _ => True) ⟨hrow'.1, fun _ _ => trivial⟩
          have h5lt := HQ.out.1.1.lt
          rw [← HI.out.1] at hrun
          have y13 : w2.cell? ⟨b, 13, none⟩ = some (.string ls) := (qk.cell (p := ⟨b, 13, none⟩) hbl (fun e => by have := (h5lt b e).2; omega)).trans hask
          obtain ⟨L5, hL5⟩ : ∃ L5, L5 = (x.rights vis ++ [c]).length := ⟨_, rfl⟩
          rw [← hL5] at hrun hrow' hnew
          have HP : Hid (Qu2 x n w (vis ++ [c]) t c b ls (.slice a' L5 c') (.slice (some ⟨g, off + 1, none⟩) T cp) (.int .i64 0) w2) := by
            refine ⟨0, g, Nat.zero_le _, rfl, ?_, fun e => ?_, ?_, HQ.out.2.2.1, by omega, y13, Nat.lt_of_lt_of_le hbl qk.size, ?_⟩
            · rw [rights_snoc, if_pos hr]
              exact hrow'
            · rcases hnew g e with e2 | e2
              · exact HQ.out.2.1 e2
              · omega
            · have e : (if c.length < n then (x.longer c).take 0 else []) = [] := by split <;> rfl
              rw [e, List.append_nil]
              exact ((HQ.out.2.2.2.2.2).keeps q1 id).keeps qk (fun e => HQ.out.2.1 e)
            · exact (HQ.out.2.2.2.1.trans q1).transNew qk (fun i hi e => by have := (HQ.out.1.2 i e).1; omega)
          clear q1 h5w hrow' hnew qk h5lt hask hL5
          go_wp2_with (at_builtin; refine wpList_append_run _ rfl _ _ _ rfl _ _ rfl rfl _ _ hrun ?_)
          have hlz : ls.size = (x.with c).asks.length := by rw [HI.out.2.1]; simp [ByteArray.size]
          have hl2 : ls.size ≤ 2 := by rw [hlz]; exact asks_two _
          have hcz : cs.size = c.length := by rw [HI.out.1]; simp [ByteArray.size]
          have hcz6 : cs.size ≤ 6 := by rw [hcz]; exact HI.out.2.2.1
          have hl2i : (ls.size : Int) ≤ 2 := by omega
          have HLZ := Lib.hid (And.intro hlz hcz)
          clear hlz hcz
          go_loopw [6, 37] (fun v6 v37 wr => Qu2 x n w (vis ++ [c]) t c b ls (.slice a' L5 c') v6 v37 wr) (fun _ v37 _ => ls.size - (intOf v37).toNat)
          case atStart => exact HP.out
          case round =>
            clear HP
            try clear y13
            obtain ⟨j, g2, hj, rfl, h5, hng, hq, hg, hbg, hask2, hbl2, q⟩ := hrel
            rw [← HLZ.out.1] at hj
            by_cases hjl : j < ls.size
            · have hj0 : (0 : Int) ≤ (j : Int) := by omega
              have hj1 : (j : Int) < (ls.size : Int) := by omega
              have h3 : ((j : Int) + 1).toNat = j + 1 := by omega
              have h5b : (j : Int) + 1 ≤ (ls.size : Int) := by omega
              have h6b : (j : Int) ≤ (j : Int) + 1 := by omega
              have h7b : (0 : Int) ≤ (j : Int) + 1 := by omega
              by_cases hcn : c.length < n
              · have hcni : (cs.size : Int) < (n : Int) := by have := HLZ.out.2; omega
                rw [if_pos hcn] at hq
                obtain ⟨d, hdj⟩ : ∃ d, (x.with c).asks[j]? = some d := ⟨_, List.getElem?_eq_getElem (by have := HLZ.out.1; omega)⟩
                obtain ⟨v', w', hrun, hend⟩ := Qu2.next hcn hdj h5 hng hq hg hbg hask2 hbl2 q (by
                  have e1 := asks_two (x.with c)
                  have e3 : ((x.longer c).take j).length ≤ 2 := by
                    rw [List.length_take]
                    unfold Nd.longer
                    rw [List.length_map]
                    omega
                  rw [List.length_append, ← HI.out.2.2.2.2.2]
                  omega)
                have hxo := extract_one hjl
                have hx : cs ++ ls.extract j (j + 1) = (⟨(c ++ [d]).toArray⟩ : ByteArray) := by
                  have e : ls[j] = d := by
                    have e1 : ls.data.toList = (x.with c).asks := by rw [HI.out.2.1]
                    have e2 : ls.data.toList[j]? = some ls[j] := by
                      rw [Array.getElem?_toList]
                      exact Array.getElem?_eq_getElem hjl
                    rw [e1, hdj] at e2
                    exact (Option.some.inj e2).symm
                  apply ByteArray.ext
                  apply Array.ext'
                  rw [ByteArray.data_append, Array.toList_append, hxo, e, HI.out.1]
                have hxz : (ls.extract j (j + 1)).size = 1 := by
                  have e : (ls.extract j (j + 1)).size = (ls.extract j (j + 1)).data.toList.length := by rw [Array.length_toList]; rfl
                  rw [e, hxo]; rfl
                rw [← hx] at hrun
                have hcs2 : cs.size + (ls.extract j (j + 1)).size ≤ 9223372036854775807 := by omega
                have HE := Lib.hid hend
                obtain ⟨g2', off2, cap2, hqs⟩ : ∃ ao L cap, u6 = .slice ao L cap := by obtain ⟨ao, off, cap, cur, h1, _⟩ := hq; exact ⟨ao, _, cap, h1⟩
                subst hqs
                clear h5 hng hq hg hbg hbl2 q hend hdj hxo hx hxz
                go_wp2_with (at_builtin; refine wpList_append_run _ rfl _ _ _ rfl _ _ rfl rfl _ _ hrun ?_)
                go_roundw
                case rel => exact HE.out
                case measure => simp [intOf]; omega
              · have hcni : ¬ (cs.size : Int) < (n : Int) := by have := HLZ.out.2; omega
                rw [if_neg hcn] at hq
                have HE : Hid (Qu2 x n w (vis ++ [c]) t c b ls (.slice a' L5 c') u6 (.int .i64 ((j : Int) + 1)) wr) := ⟨j + 1, g2, by have := HLZ.out.1; omega, by simp, h5, hng, by rw [if_neg hcn]; exact hq, hg, hbg, hask2, hbl2, q⟩
                clear h5 hng hq hg hbg hbl2 q
                go_wp2_with fail
                go_roundw
                case rel => exact HE.out
                case measure => simp [intOf]; omega
            · have hje : j = (x.with c).asks.length := by have := HLZ.out.1; omega
              subst hje
              rw [next_all] at hq
              have HE : Hid (Qu1 x n w r'.length (.slice a' L5 c') u6 wr) := ⟨vis ++ [c], r', t ++ x.next n c, g2, rfl, HI.out.2.2.2.2.1, by rw [HI.out.2.2.2.1]; simp, h5, hng, hq, hg, q⟩
              clear h5 hng hq hg hbg hask2 hbl2 q
              go_wp2_with fail
              go_roundg r'.length
              case measure => simp
              case rel => exact HE.out
        | false =>
          rw [hr] at HC
          go_wp2_with (go_at_call 59; refine HC.out.mono ?_; rintro e w1 ⟨b, rfl, hask, hb, hbl, q1⟩; refine Hid.out ?_)
          refine Lib.hid ?_
          have h5w := HQ.out.1.step q1 (fun _ _ e => e) (fun _ e => .inl e)
          have hww := HQ.out.2.2.2.1.size
          have hw1 := q1.size
          have hgl := (HQ.out.2.2.2.2.2).lt
          have HP : Hid (Qu2 x n w (vis ++ [c]) t c b ls u5 (.slice (some ⟨g, off + 1, none⟩) T cp) (.int .i64 0) w1) := by
            refine ⟨0, g, Nat.zero_le _, rfl, ?_, HQ.out.2.1, ?_, HQ.out.2.2.1, by omega, hask, hbl, HQ.out.2.2.2.1.trans q1⟩
            · rw [rights_snoc, if_neg (by rw [hr]; simp), List.append_nil]
              exact h5w
            · have e : (if c.length < n then (x.longer c).take 0 else []) = [] := by split <;> rfl
              rw [e, List.append_nil]
              exact (HQ.out.2.2.2.2.2).keeps q1 id
          clear q1 h5w
          go_wp2_with fail
          have hlz : ls.size = (x.with c).asks.length := by rw [HI.out.2.1]; simp [ByteArray.size]
          have hl2 : ls.size ≤ 2 := by rw [hlz]; exact asks_two _
          have hcz : cs.size = c.length := by rw [HI.out.1]; simp [ByteArray.size]
          have hcz6 : cs.size ≤ 6 := by rw [hcz]; exact HI.out.2.2.1
          have hl2i : (ls.size : Int) ≤ 2 := by omega
          have HLZ := Lib.hid (And.intro hlz hcz)
          clear hlz hcz
          go_loopw [6, 37] (fun v6 v37 wr => Qu2 x n w (vis ++ [c]) t c b ls u5 v6 v37 wr) (fun _ v37 _ => ls.size - (intOf v37).toNat)
          case atStart => exact HP.out
          case round =>
            clear HP
            try clear y13
            obtain ⟨j, g2, hj, rfl, h5, hng, hq, hg, hbg, hask2, hbl2, q⟩ := hrel
            rw [← HLZ.out.1] at hj
            by_cases hjl : j < ls.size
            · have hj0 : (0 : Int) ≤ (j : Int) := by omega
              have hj1 : (j : Int) < (ls.size : Int) := by omega
              have h3 : ((j : Int) + 1).toNat = j + 1 := by omega
              have h5b : (j : Int) + 1 ≤ (ls.size : Int) := by omega
              have h6b : (j : Int) ≤ (j : Int) + 1 := by omega
              have h7b : (0 : Int) ≤ (j : Int) + 1 := by omega
              by_cases hcn : c.length < n
              · have hcni : (cs.size : Int) < (n : Int) := by have := HLZ.out.2; omega
                rw [if_pos hcn] at hq
                obtain ⟨d, hdj⟩ : ∃ d, (x.with c).asks[j]? = some d := ⟨_, List.getElem?_eq_getElem (by have := HLZ.out.1; omega)⟩
                obtain ⟨v', w', hrun, hend⟩ := Qu2.next hcn hdj h5 hng hq hg hbg hask2 hbl2 q (by
                  have e1 := asks_two (x.with c)
                  have e3 : ((x.longer c).take j).length ≤ 2 := by
                    rw [List.length_take]
                    unfold Nd.longer
                    rw [List.length_map]
                    omega
                  rw [List.length_append, ← HI.out.2.2.2.2.2]
                  omega)
                have hxo := extract_one hjl
                have hx : cs ++ ls.extract j (j + 1) = (⟨(c ++ [d]).toArray⟩ : ByteArray) := by
                  have e : ls[j] = d := by
                    have e1 : ls.data.toList = (x.with c).asks := by rw [HI.out.2.1]
                    have e2 : ls.data.toList[j]? = some ls[j] := by
                      rw [Array.getElem?_toList]
                      exact Array.getElem?_eq_getElem hjl
                    rw [e1, hdj] at e2
                    exact (Option.some.inj e2).symm
                  apply ByteArray.ext
                  apply Array.ext'
                  rw [ByteArray.data_append, Array.toList_append, hxo, e, HI.out.1]
                have hxz : (ls.extract j (j + 1)).size = 1 := by
                  have e : (ls.extract j (j + 1)).size = (ls.extract j (j + 1)).data.toList.length := by rw [Array.length_toList]; rfl
                  rw [e, hxo]; rfl
                rw [← hx] at hrun
                have hcs2 : cs.size + (ls.extract j (j + 1)).size ≤ 9223372036854775807 := by omega
                have HE := Lib.hid hend
                obtain ⟨g2', off2, cap2, hqs⟩ : ∃ ao L cap, u6 = .slice ao L cap := by obtain ⟨ao, off, cap, cur, h1, _⟩ := hq; exact ⟨ao, _, cap, h1⟩
                subst hqs
                clear h5 hng hq hg hbg hbl2 q hend hdj hxo hx hxz
                go_wp2_with (at_builtin; refine wpList_append_run _ rfl _ _ _ rfl _ _ rfl rfl _ _ hrun ?_)
                go_roundw
                case rel => exact HE.out
                case measure => simp [intOf]; omega
              · have hcni : ¬ (cs.size : Int) < (n : Int) := by have := HLZ.out.2; omega
                rw [if_neg hcn] at hq
                have HE : Hid (Qu2 x n w (vis ++ [c]) t c b ls u5 u6 (.int .i64 ((j : Int) + 1)) wr) := ⟨j + 1, g2, by have := HLZ.out.1; omega, by simp, h5, hng, by rw [if_neg hcn]; exact hq, hg, hbg, hask2, hbl2, q⟩
                clear h5 hng hq hg hbg hbl2 q
                go_wp2_with fail
                go_roundw
                case rel => exact HE.out
                case measure => simp [intOf]; omega
            · have hje : j = (x.with c).asks.length := by have := HLZ.out.1; omega
              subst hje
              rw [next_all] at hq
              have HE : Hid (Qu1 x n w r'.length u5 u6 wr) := ⟨vis ++ [c], r', t ++ x.next n c, g2, rfl, HI.out.2.2.2.2.1, by rw [HI.out.2.2.2.1]; simp, h5, hng, hq, hg, q⟩
              clear h5 hng hq hg hbg hask2 hbl2 q
              go_wp2_with fail
              go_roundg r'.length
              case measure => simp
              case rel => exact HE.out

end Go.Proofs.Ytcohmhgmocdbfaa

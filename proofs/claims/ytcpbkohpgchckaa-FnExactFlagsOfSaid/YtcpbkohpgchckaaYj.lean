/-
  The program's flags: gather, which adds the variables behind a ~ in a plan.
-/
import Derived.Test.YtcpbkohpgchckaaYi
import Derived.Test.YtcpbkohpgchckaaZb
namespace Go.Proofs.Ytcpbkohpgchckaa
set_option linter.unusedVariables false
set_option linter.unusedSimpArgs false
open Go.RowKit Go.Shelf

attribute [local go_sem] Oper.semAt_some

/-- The six truths of a set of letters. -/
def flagsA (s : List UInt8) : Array Value := (abc.map (fun v => Value.bool (decide (v ∈ s)))).toArray
theorem flagsA_size (s : List UInt8) : (flagsA s).size = 6 := by unfold flagsA; simp [abc]
theorem flagsA_set {v : UInt8} (hv : ltr v) (s : List UInt8) : (flagsA s).setIfInBounds (v.toNat - 97) (.bool true) = flagsA (s ++ [v]) := by
  rcases six_letters hv with rfl | rfl | rfl | rfl | rfl | rfl <;> simp [flagsA, abc]
theorem flagsA_nil : flagsA [] = #[.bool false, .bool false, .bool false, .bool false, .bool false, .bool false] := by simp [flagsA, abc]

/-- The variables behind a ~ in a plan of pairs. -/
def tildes (ps : List (Bool × UInt8)) : List UInt8 := (ps.filter (fun p => !p.1)).map Prod.snd
theorem tildes_snoc (ps : List (Bool × UInt8)) (p : Bool × UInt8) : tildes (ps ++ [p]) = tildes ps ++ (if p.1 then [] else [p.2]) := by
  unfold tildes
  rw [List.filter_append, List.map_append]
  cases h : p.1 <;> simp [h]

theorem pairs_two : ∀ (d r : List (Bool × UInt8)) (p : Bool × UInt8), ((d ++ p :: r).flatMap pairB)[2 * d.length + 1]? = some p.2
  | [], r, p => by simp [pairB]
  | q :: d, r, p => by
    have h := pairs_two d r p
    rw [List.cons_append, List.flatMap_cons, List.getElem?_append_right (by simp [pairB]; omega)]
    have e : 2 * (q :: d).length + 1 - (pairB q).length = 2 * d.length + 1 := by simp [pairB]; omega
    rw [e]; exact h

set_option maxRecDepth 100000 in
set_option maxHeartbeats 4000000 in
theorem gather_any (N : Nat) (s : List UInt8) (ps : List (Bool × UInt8)) (hps : ∀ p ∈ ps, ltr p.2) (hlen : ps.length ≤ 80) (w : World) (hb : Blk w N (flagsA s) 90) :
    Calls Try.prog 61 #[ptr N, .string ⟨(ps.flatMap pairB).toArray⟩] w (fun e w' => e = .returned (.tuple #[]) ∧ Blk w' N (flagsA (s ++ tildes ps)) 90 ∧ Keeps (oneB N) w w') := by
  refine (callsIn_wide (n := 9)).1 ?_
  obtain ⟨F, hF⟩ : ∃ F, F = Fence.wide := ⟨_, rfl⟩
  have hFf : ∀ f, F.fn f := by subst hF; exact fun _ => trivial
  have hdd : ∀ k : Nat, (F.depth.isSome = true → 1 ≤ k) := by subst hF; intro k h; simp [Fence.wide] at h
  have hro : F.round = none := by subst hF; rfl
  have hds : F.depth.isSome = false := by subst hF; rfl
  have HCH : Hid (∀ m a n c w, CallsIn F m Try.prog 92 #[.slice a n c, .int .i64 2] w (fun e w' => e = .returned (.func (.func 133) #[] #[ptr w.heap.size, ptr (w.heap.size + 1)]) ∧ w' = (w.alloc (.cells #[.slice a n c] 22)).alloc (.cells #[.int .i64 2] 3))) := fun m a n c w => by
    rw [hF]; exact callsIn_wide.2 (chunk_any a n c w)
  rw [← hF]
  have HF := Lib.hid hF
  clear hF
  obtain ⟨l, hl⟩ : ∃ l, l = ps.flatMap pairB := ⟨_, rfl⟩
  have hll : l.length = 2 * ps.length := by rw [hl]; exact pairs_len ps
  obtain ⟨ls, hls⟩ : ∃ ls : ByteArray, ls = ⟨l.toArray⟩ := ⟨_, rfl⟩
  rw [← hl, ← hls]
  have hlz : ls.size = 2 * ps.length := by rw [hls, size_arr, hll]
  have hld : ls.data.toList = l := by rw [hls]
  have HL := Lib.hid (And.intro hl hld)
  have HPS := Lib.hid hps
  clear hl hls hld hps
  refine callsIn_of_wp_marks Try.func61 rfl (hFf _) ?_ hro
  simp only [Try.ntmps61, List.size_toArray, List.length_cons, List.length_nil, Nat.reduceAdd, Nat.reduceSub, Array.replicate_succ, Array.replicate_zero, List.push_toArray, List.append_toArray, List.nil_append, List.cons_append]
  have k0 : Keeps noB w (w.alloc (.cells #[ptr N] 147)) := (Keeps.refl _ _).alloc _
  have b0 := Blk.new w #[ptr N] 147
  have hs0 : (w.alloc (.cells #[ptr N] 147)).heap.size = w.heap.size + 1 := by simp
  obtain ⟨C, W2, hcv, hk2, hs2, hC, hce⟩ := bytes_own (w.alloc (.cells #[ptr N] 147)) ls (by omega)
  rw [hs0] at hcv hs2 hce
  have hNl := hb.lt
  have HW2 := Lib.hid (And.intro (hk2.blk b0 id) (And.intro ((k0.trans hk2).blk hb id) (And.intro (k0.trans hk2) (And.intro hs2 (And.intro hC hce)))))
  unfold ptr at hcv b0 k0 hs0 ⊢
  clear k0 b0 hs0 hk2 hs2 hC hce hb
  obtain ⟨m, hm⟩ : ∃ m, m = ps.length := ⟨_, rfl⟩
  rw [← hm] at hlz hll hlen
  have HMM := Lib.hid hm
  clear hm
  gi_wp2
  refine (HCH.out _ _ _ _ _).mono ?_
  rintro e w5 ⟨rfl, hw5⟩
  have HW5 : Hid (ChunkAt w5 W2.heap.size (W2.heap.size + 1) (w.heap.size + 1) m C ∧ Keeps noB W2 w5 ∧ w5.heap.size = W2.heap.size + 2) := by
    have b1 := (Blk.new W2 #[.slice (some ⟨w.heap.size + 1, 0, none⟩) (2 * m) C] 22).alloc (.cells #[.int .i64 2] 3)
    have b2 := Blk.new (W2.alloc (.cells #[.slice (some ⟨w.heap.size + 1, 0, none⟩) (2 * m) C] 22)) #[.int .i64 2] 3
    rw [World.size_alloc] at b2
    rw [hw5]
    exact ⟨⟨b1, b2, by have := HW2.out.2.2.2.2.1; omega⟩, ((Keeps.refl _ _).alloc _).alloc _, by simp⟩
  clear hw5
  gi_wp2
  have hsz5 := HW5.out.2.2
  have hsz2 := HW2.out.2.2.2.1
  have HSZ := Lib.hid (And.intro hsz5 hsz2)
  refine wp_range HF.out (gf := 133) (lb := #[ptr W2.heap.size, ptr (W2.heap.size + 1)]) (all := List.range m) (enc := encC (w.heap.size + 1)) (prot := fun k => k = W2.heap.size ∨ k = W2.heap.size + 1) (own := oneB N)
    rfl (enters_of Try.func133 (by kernel_rfl) rfl) (fun W q => chunk_iter W _ _ _ m C (HW5.out.1.keeps q id id) (by omega))
    (fun pre own W' => own = oneB N ∧ Owns (oneB N) own w5 W' ∧ Blk W' N (flagsA (s ++ tildes (ps.take pre.length))) 90) (fun _ _ _ _ => False) ?hI ?hIx ?hown ?hprot ?hps ?h0 ?hround ?hdone ?hstop
  case hI =>
    rintro pre own W W' ⟨rfl, h3, h4⟩ q
    exact ⟨rfl, h3.ahead q (fun i e => e.1), q.blk h4 (fun e => by have := e.1; omega)⟩
  case hIx => rintro c pre own W W' h q; exact h
  case hown => rintro k rfl; omega
  case hprot => rintro k (rfl | rfl) <;> exact ⟨fun e => by have e : _ = N := e; omega, by omega⟩
  case hps => rintro y args rfl; rfl
  case h0 =>
    refine ⟨rfl, Owns.refl (by rintro k rfl; omega), ?_⟩
    have := HW5.out.2.1.blk HW2.out.2.1 id
    simpa [tildes] using this
  case hround =>
    rintro lq n pre p post args own1 W1 hall henc ⟨rfl, ho1, hbN⟩ hlt hl hnl hll1
    unfold encC at henc
    subst henc
    have hp : p = pre.length ∧ p < m := by
      have h1 := congrArg (fun l => l[pre.length]?) hall
      have h2 := congrArg List.length hall
      simp at h1 h2
      rw [List.getElem?_range (by omega)] at h1
      injection h1 with h1
      omega
    obtain ⟨hp1, hp2⟩ := hp
    obtain ⟨q, hq⟩ : ∃ q, ps[p]? = some q := ⟨_, List.getElem?_eq_getElem (by rw [← HMM.out]; exact hp2)⟩
    have hsplit : ps = ps.take p ++ q :: ps.drop (p + 1) := by
      obtain ⟨h1, h2⟩ := List.getElem?_eq_some_iff.1 hq
      have e := (List.take_append_drop p ps).symm
      rw [List.drop_eq_getElem_cons h1, h2] at e
      exact e
    have htl : (ps.take p).length = p := by rw [List.length_take]; have := HMM.out; omega
    have hlv : ltr q.2 := HPS.out q (List.mem_of_getElem? hq)
    have hg1 := pairs_get (ps.take p) (ps.drop (p + 1)) q
    have hg2 := pairs_two (ps.take p) (ps.drop (p + 1)) q
    rw [← hsplit, htl, ← HL.out.1] at hg1 hg2
    have hts : tildes (ps.take (pre ++ [p]).length) = tildes (ps.take p) ++ (if q.1 then [] else [q.2]) := by
      have e : ps.take (pre ++ [p]).length = ps.take p ++ [q] := by
        rw [List.length_append, ← hp1, List.length_singleton, List.take_add_one, hq]; rfl
      rw [e, tildes_snoc]
    rw [← hp1] at hbN
    have HTS := Lib.hid hts
    have hbytes : ∀ i u, l[i]? = some u → W2.cell? ⟨w.heap.size + 1, i, none⟩ = some (.int .u8 (u.toNat : Int)) := fun i u hu => by
      have h1 := HW2.out.2.2.2.2.2 i (by have h1 := (List.getElem?_eq_some_iff.1 hu).1; omega)
      rw [HL.out.2, List.getD_eq_getElem?_getD, hu] at h1
      exact h1
    have c1 := hbytes _ _ hg1
    have c2 := hbytes _ _ hg2
    have HW5' := HW5
    have HPP := Lib.hid hp1
    clear hall hts hg1 hg2 hsplit htl hq hbytes hp1
    obtain ⟨i2, hi2⟩ : ∃ i2, i2 = 2 * p := ⟨_, rfl⟩
    rw [← hi2] at c1 c2 ⊢
    clear hi2
    gi_wp2
    refine ⟨Keeps.refl _ _, fun W3 q3 hs3 => ?_⟩
    clear hs3
    have hk13 : Keeps (fun k => w5.heap.size ≤ k ∧ ¬ oneB N k) W1 W3 := q3.mono (fun k e => by obtain rfl : k = lq := e; exact ⟨hl, hnl⟩)
    have ho3 := ho1.ahead hk13 (fun i e => e.1)
    have bN3 : Blk W3 N (flagsA (s ++ tildes (ps.take p))) 90 := hk13.blk hbN (fun e => e.2 rfl)
    have k25 : Keeps (oneB N) W2 W3 := (HW5.out.2.1.mono (fun _ e => e.elim)).trans ho3.keeps
    have d1 := (k25.cell (p := ⟨w.heap.size + 1, i2, none⟩) (show w.heap.size + 1 < W2.heap.size by omega) (fun e => by have e : w.heap.size + 1 = N := e; omega)).trans c1
    have d2 := (k25.cell (p := ⟨w.heap.size + 1, i2 + 1, none⟩) (show w.heap.size + 1 < W2.heap.size by omega) (fun e => by have e : w.heap.size + 1 = N := e; omega)).trans c2
    have d3 := (k25.blk HW2.out.1 (fun e => by have e : w.heap.size = N := e; omega)).cell 0
    simp at d3
    have HO3 := Lib.hid (And.intro ho3 bN3)
    clear ho3 bN3 k25 hk13 q3 ho1 hbN c1 c2 hsz5 hsz2 hlz hll
    cases hq1 : q.1 with
    | true =>
      rw [hq1] at d1 HTS
      have HE : Hid (∃ own', Owns (oneB N) own' W3 W3 ∧ (own' = oneB N ∧ Owns (oneB N) own' w5 W3 ∧ Blk W3 N (flagsA (s ++ tildes (ps.take (pre ++ [p]).length))) 90)) :=
        ⟨_, Owns.refl HO3.out.1.lt, rfl, HO3.out.1, by rw [HTS.out]; simpa using HO3.out.2⟩
      have d1 : W3.cell? ⟨w.heap.size + 1, i2, none⟩ = some (.int .u8 45) := d1
      clear hq1
      gi_wp2
      exact HE.out
    | false =>
      rw [hq1] at d1 HTS
      have d1 : W3.cell? ⟨w.heap.size + 1, i2, none⟩ = some (.int .u8 126) := d1
      have HLT : Hid (w.heap.size < W3.heap.size ∧ w.heap.size + 1 < W3.heap.size) := by
        have h1 := HO3.out.1.keeps.size
        have h2 := HSZ.out
        exact ⟨by omega, by omega⟩
      have hTS : tildes (ps.take (pre ++ [p]).length) = tildes (ps.take p) ++ [q.2] := by rw [HTS.out]; rfl
      have HTS := Lib.hid hTS
      clear hTS hq1
      rcases six_letters hlv with e | e | e | e | e | e
      · have d2 : W3.cell? ⟨w.heap.size + 1, i2 + 1, none⟩ = some (.int .u8 97) := by rw [d2, e]; rfl
        have hset : (flagsA (s ++ tildes (ps.take p))).setIfInBounds 0 (.bool true) = flagsA (s ++ tildes (ps.take (pre ++ [p]).length)) := by
          have h1 := flagsA_set hlv (s ++ tildes (ps.take p))
          rw [HTS.out, ← List.append_assoc]
          rw [e] at h1 ⊢
          exact h1
        have HLL : Hid (∀ W4, Keeps noB W3 W4 → W4.cell? ⟨w.heap.size, 0, none⟩ = some (.pointer (some ⟨N, 0, none⟩)) ∧ W4.cell? ⟨w.heap.size + 1, i2 + 1, none⟩ = some (.int .u8 97)) := fun W4 q4 => ⟨(q4.cell (p := ⟨w.heap.size, 0, none⟩) HLT.out.1 id).trans d3, (q4.cell (p := ⟨w.heap.size + 1, i2 + 1, none⟩) HLT.out.2 id).trans d2⟩
        have HSET := Lib.hid hset
        clear e hset d2
        gi_wp2
        refine wpIn_region_tail_class (fun W4 => Keeps noB W3 W4) 7 hro (by kernel_rfl) (by kernel_rfl) (by kernel_rfl) (by kernel_rfl) (by kernel_rfl) (by kernel_rfl) (by decide) (by kernel_rfl) ((Keeps.refl _ _).drew) ?_
        simp only [List.take, List.drop]
        refine quiet_on (Value.pointer (some ⟨N, 0, none⟩)) (fun _ _ f _ => hFf f) rfl (fun W4 q4 => ?_) (fun K hK => ?_)
        · obtain ⟨f0, f1⟩ := HLL.out W4 q4
          go_simp
        go_simp
        refine hK _ ?_
        clear hK K
        refine quiet_on (Value.slice (some ⟨w.heap.size + 1, i2, none⟩) 2 2) (fun _ _ f _ => hFf f) rfl (fun W4 q4 => ?_) (fun K hK => ?_)
        · obtain ⟨f0, f1⟩ := HLL.out W4 q4
          go_simp
        go_simp
        refine hK _ ?_
        clear hK K
        refine quiet_on (Value.pointer (some ⟨w.heap.size + 1, i2 + 1, none⟩)) (fun _ _ f _ => hFf f) rfl (fun W4 q4 => ?_) (fun K hK => ?_)
        · obtain ⟨f0, f1⟩ := HLL.out W4 q4
          go_simp
        go_simp
        refine hK _ ?_
        clear hK K
        refine quiet_on (Value.int .u8 97) (fun _ _ f _ => hFf f) rfl (fun W4 q4 => ?_) (fun K hK => ?_)
        · obtain ⟨f0, f1⟩ := HLL.out W4 q4
          go_simp
        go_simp
        refine hK _ ?_
        clear hK K
        refine quiet_on (Value.int .u8 0) (fun _ _ f _ => hFf f) rfl (fun W4 q4 => ?_) (fun K hK => ?_)
        · obtain ⟨f0, f1⟩ := HLL.out W4 q4
          go_simp
          (first | rfl | decide | (rw [IntKind.wrap]; rfl))
        go_simp
        refine hK _ ?_
        clear hK K
        refine quiet_on (Value.pointer (some ⟨N, 0, none⟩)) (fun _ _ f _ => hFf f) rfl (fun W4 q4 => ?_) (fun K hK => ?_)
        · obtain ⟨f0, f1⟩ := HLL.out W4 q4
          go_simp
        go_simp
        refine hK _ ?_
        clear hK K
        refine quiet_on (Value.pointer (some ⟨N, 0, none⟩)) (fun _ _ f _ => hFf f) rfl (fun W4 q4 => ?_) (fun K hK => ?_)
        · obtain ⟨f0, f1⟩ := HLL.out W4 q4
          go_simp
        go_simp
        refine hK _ ?_
        clear hK K
        refine wpQuietIn_nil ?_
        intro W4 q4
        have b4 := q4.blk HO3.out.2 id
        have z4 := b4.free 0
        have y4 : W4.cell? ⟨N, 0, none⟩ = some (.bool (decide (97 ∈ s ++ tildes (ps.take p)))) := (b4.cell 0).trans rfl
        have HE : Hid (∃ own', Owns (oneB N) own' W3 (W4.setCell ⟨N, 0, none⟩ (.bool true)) ∧ (own' = oneB N ∧ Owns (oneB N) own' w5 (W4.setCell ⟨N, 0, none⟩ (.bool true)) ∧ Blk (W4.setCell ⟨N, 0, none⟩ (.bool true)) N (flagsA (s ++ tildes (ps.take (pre ++ [p]).length))) 90)) := by
          have q5 : Keeps (oneB N) W3 (W4.setCell ⟨N, 0, none⟩ (.bool true)) := (q4.mono (fun _ e => e.elim)).setCell (p := ⟨N, 0, none⟩) (.inl (show oneB N N from rfl)) _
          have o : Owns (oneB N) (oneB N) W3 (W4.setCell ⟨N, 0, none⟩ (.bool true)) := ⟨fun k h => .inl h, fun k h => Nat.lt_of_lt_of_le (HO3.out.1.lt k h) q5.size, q5⟩
          refine ⟨_, o, rfl, HO3.out.1.trans o, ?_⟩
          have e := b4.set 0 (.bool true)
          rw [HSET.out] at e
          exact e
        clear b4 q4
        gi_wp2
        exact HE.out
      · have d2 : W3.cell? ⟨w.heap.size + 1, i2 + 1, none⟩ = some (.int .u8 98) := by rw [d2, e]; rfl
        have hset : (flagsA (s ++ tildes (ps.take p))).setIfInBounds 1 (.bool true) = flagsA (s ++ tildes (ps.take (pre ++ [p]).length)) := by
          have h1 := flagsA_set hlv (s ++ tildes (ps.take p))
          rw [HTS.out, ← List.append_assoc]
          rw [e] at h1 ⊢
          exact h1
        have HLL : Hid (∀ W4, Keeps noB W3 W4 → W4.cell? ⟨w.heap.size, 0, none⟩ = some (.pointer (some ⟨N, 0, none⟩)) ∧ W4.cell? ⟨w.heap.size + 1, i2 + 1, none⟩ = some (.int .u8 98)) := fun W4 q4 => ⟨(q4.cell (p := ⟨w.heap.size, 0, none⟩) HLT.out.1 id).trans d3, (q4.cell (p := ⟨w.heap.size + 1, i2 + 1, none⟩) HLT.out.2 id).trans d2⟩
        have HSET := Lib.hid hset
        clear e hset d2
        gi_wp2
        refine wpIn_region_tail_class (fun W4 => Keeps noB W3 W4) 7 hro (by kernel_rfl) (by kernel_rfl) (by kernel_rfl) (by kernel_rfl) (by kernel_rfl) (by kernel_rfl) (by decide) (by kernel_rfl) ((Keeps.refl _ _).drew) ?_
        simp only [List.take, List.drop]
        refine quiet_on (Value.pointer (some ⟨N, 0, none⟩)) (fun _ _ f _ => hFf f) rfl (fun W4 q4 => ?_) (fun K hK => ?_)
        · obtain ⟨f0, f1⟩ := HLL.out W4 q4
          go_simp
        go_simp
        refine hK _ ?_
        clear hK K
        refine quiet_on (Value.slice (some ⟨w.heap.size + 1, i2, none⟩) 2 2) (fun _ _ f _ => hFf f) rfl (fun W4 q4 => ?_) (fun K hK => ?_)
        · obtain ⟨f0, f1⟩ := HLL.out W4 q4
          go_simp
        go_simp
        refine hK _ ?_
        clear hK K
        refine quiet_on (Value.pointer (some ⟨w.heap.size + 1, i2 + 1, none⟩)) (fun _ _ f _ => hFf f) rfl (fun W4 q4 => ?_) (fun K hK => ?_)
        · obtain ⟨f0, f1⟩ := HLL.out W4 q4
          go_simp
        go_simp
        refine hK _ ?_
        clear hK K
        refine quiet_on (Value.int .u8 98) (fun _ _ f _ => hFf f) rfl (fun W4 q4 => ?_) (fun K hK => ?_)
        · obtain ⟨f0, f1⟩ := HLL.out W4 q4
          go_simp
        go_simp
        refine hK _ ?_
        clear hK K
        refine quiet_on (Value.int .u8 1) (fun _ _ f _ => hFf f) rfl (fun W4 q4 => ?_) (fun K hK => ?_)
        · obtain ⟨f0, f1⟩ := HLL.out W4 q4
          go_simp
          (first | rfl | decide | (rw [IntKind.wrap]; rfl))
        go_simp
        refine hK _ ?_
        clear hK K
        refine quiet_on (Value.pointer (some ⟨N, 0, none⟩)) (fun _ _ f _ => hFf f) rfl (fun W4 q4 => ?_) (fun K hK => ?_)
        · obtain ⟨f0, f1⟩ := HLL.out W4 q4
          go_simp
        go_simp
        refine hK _ ?_
        clear hK K
        refine quiet_on (Value.pointer (some ⟨N, 1, none⟩)) (fun _ _ f _ => hFf f) rfl (fun W4 q4 => ?_) (fun K hK => ?_)
        · obtain ⟨f0, f1⟩ := HLL.out W4 q4
          go_simp
        go_simp
        refine hK _ ?_
        clear hK K
        refine wpQuietIn_nil ?_
        intro W4 q4
        have b4 := q4.blk HO3.out.2 id
        have z4 := b4.free 1
        have y4 : W4.cell? ⟨N, 1, none⟩ = some (.bool (decide (98 ∈ s ++ tildes (ps.take p)))) := (b4.cell 1).trans rfl
        have HE : Hid (∃ own', Owns (oneB N) own' W3 (W4.setCell ⟨N, 1, none⟩ (.bool true)) ∧ (own' = oneB N ∧ Owns (oneB N) own' w5 (W4.setCell ⟨N, 1, none⟩ (.bool true)) ∧ Blk (W4.setCell ⟨N, 1, none⟩ (.bool true)) N (flagsA (s ++ tildes (ps.take (pre ++ [p]).length))) 90)) := by
          have q5 : Keeps (oneB N) W3 (W4.setCell ⟨N, 1, none⟩ (.bool true)) := (q4.mono (fun _ e => e.elim)).setCell (p := ⟨N, 1, none⟩) (.inl (show oneB N N from rfl)) _
          have o : Owns (oneB N) (oneB N) W3 (W4.setCell ⟨N, 1, none⟩ (.bool true)) := ⟨fun k h => .inl h, fun k h => Nat.lt_of_lt_of_le (HO3.out.1.lt k h) q5.size, q5⟩
          refine ⟨_, o, rfl, HO3.out.1.trans o, ?_⟩
          have e := b4.set 1 (.bool true)
          rw [HSET.out] at e
          exact e
        clear b4 q4
        gi_wp2
        exact HE.out
      · have d2 : W3.cell? ⟨w.heap.size + 1, i2 + 1, none⟩ = some (.int .u8 99) := by rw [d2, e]; rfl
        have hset : (flagsA (s ++ tildes (ps.take p))).setIfInBounds 2 (.bool true) = flagsA (s ++ tildes (ps.take (pre ++ [p]).length)) := by
          have h1 := flagsA_set hlv (s ++ tildes (ps.take p))
          rw [HTS.out, ← List.append_assoc]
          rw [e] at h1 ⊢
          exact h1
        have HLL : Hid (∀ W4, Keeps noB W3 W4 → W4.cell? ⟨w.heap.size, 0, none⟩ = some (.pointer (some ⟨N, 0, none⟩)) ∧ W4.cell? ⟨w.heap.size + 1, i2 + 1, none⟩ = some (.int .u8 99)) := fun W4 q4 => ⟨(q4.cell (p := ⟨w.heap.size, 0, none⟩) HLT.out.1 id).trans d3, (q4.cell (p := ⟨w.heap.size + 1, i2 + 1, none⟩) HLT.out.2 id).trans d2⟩
        have HSET := Lib.hid hset
        clear e hset d2
        gi_wp2
        refine wpIn_region_tail_class (fun W4 => Keeps noB W3 W4) 7 hro (by kernel_rfl) (by kernel_rfl) (by kernel_rfl) (by kernel_rfl) (by kernel_rfl) (by kernel_rfl) (by decide) (by kernel_rfl) ((Keeps.refl _ _).drew) ?_
        simp only [List.take, List.drop]
        refine quiet_on (Value.pointer (some ⟨N, 0, none⟩)) (fun _ _ f _ => hFf f) rfl (fun W4 q4 => ?_) (fun K hK => ?_)
        · obtain ⟨f0, f1⟩ := HLL.out W4 q4
          go_simp
        go_simp
        refine hK _ ?_
        clear hK K
        refine quiet_on (Value.slice (some ⟨w.heap.size + 1, i2, none⟩) 2 2) (fun _ _ f _ => hFf f) rfl (fun W4 q4 => ?_) (fun K hK => ?_)
        · obtain ⟨f0, f1⟩ := HLL.out W4 q4
          go_simp
        go_simp
        refine hK _ ?_
        clear hK K
        refine quiet_on (Value.pointer (some ⟨w.heap.size + 1, i2 + 1, none⟩)) (fun _ _ f _ => hFf f) rfl (fun W4 q4 => ?_) (fun K hK => ?_)
        · obtain ⟨f0, f1⟩ := HLL.out W4 q4
          go_simp
        go_simp
        refine hK _ ?_
        clear hK K
        refine quiet_on (Value.int .u8 99) (fun _ _ f _ => hFf f) rfl (fun W4 q4 => ?_) (fun K hK => ?_)
        · obtain ⟨f0, f1⟩ := HLL.out W4 q4
          go_simp
        go_simp
        refine hK _ ?_
        clear hK K
        refine quiet_on (Value.int .u8 2) (fun _ _ f _ => hFf f) rfl (fun W4 q4 => ?_) (fun K hK => ?_)
        · obtain ⟨f0, f1⟩ := HLL.out W4 q4
          go_simp
          (first | rfl | decide | (rw [IntKind.wrap]; rfl))
        go_simp
        refine hK _ ?_
        clear hK K
        refine quiet_on (Value.pointer (some ⟨N, 0, none⟩)) (fun _ _ f _ => hFf f) rfl (fun W4 q4 => ?_) (fun K hK => ?_)
        · obtain ⟨f0, f1⟩ := HLL.out W4 q4
          go_simp
        go_simp
        refine hK _ ?_
        clear hK K
        refine quiet_on (Value.pointer (some ⟨N, 2, none⟩)) (fun _ _ f _ => hFf f) rfl (fun W4 q4 => ?_) (fun K hK => ?_)
        · obtain ⟨f0, f1⟩ := HLL.out W4 q4
          go_simp
        go_simp
        refine hK _ ?_
        clear hK K
        refine wpQuietIn_nil ?_
        intro W4 q4
        have b4 := q4.blk HO3.out.2 id
        have z4 := b4.free 2
        have y4 : W4.cell? ⟨N, 2, none⟩ = some (.bool (decide (99 ∈ s ++ tildes (ps.take p)))) := (b4.cell 2).trans rfl
        have HE : Hid (∃ own', Owns (oneB N) own' W3 (W4.setCell ⟨N, 2, none⟩ (.bool true)) ∧ (own' = oneB N ∧ Owns (oneB N) own' w5 (W4.setCell ⟨N, 2, none⟩ (.bool true)) ∧ Blk (W4.setCell ⟨N, 2, none⟩ (.bool true)) N (flagsA (s ++ tildes (ps.take (pre ++ [p]).length))) 90)) := by
          have q5 : Keeps (oneB N) W3 (W4.setCell ⟨N, 2, none⟩ (.bool true)) := (q4.mono (fun _ e => e.elim)).setCell (p := ⟨N, 2, none⟩) (.inl (show oneB N N from rfl)) _
          have o : Owns (oneB N) (oneB N) W3 (W4.setCell ⟨N, 2, none⟩ (.bool true)) := ⟨fun k h => .inl h, fun k h => Nat.lt_of_lt_of_le (HO3.out.1.lt k h) q5.size, q5⟩
          refine ⟨_, o, rfl, HO3.out.1.trans o, ?_⟩
          have e := b4.set 2 (.bool true)
          rw [HSET.out] at e
          exact e
        clear b4 q4
        gi_wp2
        exact HE.out
      · have d2 : W3.cell? ⟨w.heap.size + 1, i2 + 1, none⟩ = some (.int .u8 100) := by rw [d2, e]; rfl
        have hset : (flagsA (s ++ tildes (ps.take p))).setIfInBounds 3 (.bool true) = flagsA (s ++ tildes (ps.take (pre ++ [p]).length)) := by
          have h1 := flagsA_set hlv (s ++ tildes (ps.take p))
          rw [HTS.out, ← List.append_assoc]
          rw [e] at h1 ⊢
          exact h1
        have HLL : Hid (∀ W4, Keeps noB W3 W4 → W4.cell? ⟨w.heap.size, 0, none⟩ = some (.pointer (some ⟨N, 0, none⟩)) ∧ W4.cell? ⟨w.heap.size + 1, i2 + 1, none⟩ = some (.int .u8 100)) := fun W4 q4 => ⟨(q4.cell (p := ⟨w.heap.size, 0, none⟩) HLT.out.1 id).trans d3, (q4.cell (p := ⟨w.heap.size + 1, i2 + 1, none⟩) HLT.out.2 id).trans d2⟩
        have HSET := Lib.hid hset
        clear e hset d2
        gi_wp2
        refine wpIn_region_tail_class (fun W4 => Keeps noB W3 W4) 7 hro (by kernel_rfl) (by kernel_rfl) (by kernel_rfl) (by kernel_rfl) (by kernel_rfl) (by kernel_rfl) (by decide) (by kernel_rfl) ((Keeps.refl _ _).drew) ?_
        simp only [List.take, List.drop]
        refine quiet_on (Value.pointer (some ⟨N, 0, none⟩)) (fun _ _ f _ => hFf f) rfl (fun W4 q4 => ?_) (fun K hK => ?_)
        · obtain ⟨f0, f1⟩ := HLL.out W4 q4
          go_simp
        go_simp
        refine hK _ ?_
        clear hK K
        refine quiet_on (Value.slice (some ⟨w.heap.size + 1, i2, none⟩) 2 2) (fun _ _ f _ => hFf f) rfl (fun W4 q4 => ?_) (fun K hK => ?_)
        · obtain ⟨f0, f1⟩ := HLL.out W4 q4
          go_simp
        go_simp
        refine hK _ ?_
        clear hK K
        refine quiet_on (Value.pointer (some ⟨w.heap.size + 1, i2 + 1, none⟩)) (fun _ _ f _ => hFf f) rfl (fun W4 q4 => ?_) (fun K hK => ?_)
        · obtain ⟨f0, f1⟩ := HLL.out W4 q4
          go_simp
        go_simp
        refine hK _ ?_
        clear hK K
        refine quiet_on (Value.int .u8 100) (fun _ _ f _ => hFf f) rfl (fun W4 q4 => ?_) (fun K hK => ?_)
        · obtain ⟨f0, f1⟩ := HLL.out W4 q4
          go_simp
        go_simp
        refine hK _ ?_
        clear hK K
        refine quiet_on (Value.int .u8 3) (fun _ _ f _ => hFf f) rfl (fun W4 q4 => ?_) (fun K hK => ?_)
        · obtain ⟨f0, f1⟩ := HLL.out W4 q4
          go_simp
          (first | rfl | decide | (rw [IntKind.wrap]; rfl))
        go_simp
        refine hK _ ?_
        clear hK K
        refine quiet_on (Value.pointer (some ⟨N, 0, none⟩)) (fun _ _ f _ => hFf f) rfl (fun W4 q4 => ?_) (fun K hK => ?_)
        · obtain ⟨f0, f1⟩ := HLL.out W4 q4
          go_simp
        go_simp
        refine hK _ ?_
        clear hK K
        refine quiet_on (Value.pointer (some ⟨N, 3, none⟩)) (fun _ _ f _ => hFf f) rfl (fun W4 q4 => ?_) (fun K hK => ?_)
        · obtain ⟨f0, f1⟩ := HLL.out W4 q4
          go_simp
        go_simp
        refine hK _ ?_
        clear hK K
        refine wpQuietIn_nil ?_
        intro W4 q4
        have b4 := q4.blk HO3.out.2 id
        have z4 := b4.free 3
        have y4 : W4.cell? ⟨N, 3, none⟩ = some (.bool (decide (100 ∈ s ++ tildes (ps.take p)))) := (b4.cell 3).trans rfl
        have HE : Hid (∃ own', Owns (oneB N) own' W3 (W4.setCell ⟨N, 3, none⟩ (.bool true)) ∧ (own' = oneB N ∧ Owns (oneB N) own' w5 (W4.setCell ⟨N, 3, none⟩ (.bool true)) ∧ Blk (W4.setCell ⟨N, 3, none⟩ (.bool true)) N (flagsA (s ++ tildes (ps.take (pre ++ [p]).length))) 90)) := by
          have q5 : Keeps (oneB N) W3 (W4.setCell ⟨N, 3, none⟩ (.bool true)) := (q4.mono (fun _ e => e.elim)).setCell (p := ⟨N, 3, none⟩) (.inl (show oneB N N from rfl)) _
          have o : Owns (oneB N) (oneB N) W3 (W4.setCell ⟨N, 3, none⟩ (.bool true)) := ⟨fun k h => .inl h, fun k h => Nat.lt_of_lt_of_le (HO3.out.1.lt k h) q5.size, q5⟩
          refine ⟨_, o, rfl, HO3.out.1.trans o, ?_⟩
          have e := b4.set 3 (.bool true)
          rw [HSET.out] at e
          exact e
        clear b4 q4
        gi_wp2
        exact HE.out
      · have d2 : W3.cell? ⟨w.heap.size + 1, i2 + 1, none⟩ = some (.int .u8 101) := by rw [d2, e]; rfl
        have hset : (flagsA (s ++ tildes (ps.take p))).setIfInBounds 4 (.bool true) = flagsA (s ++ tildes (ps.take (pre ++ [p]).length)) := by
          have h1 := flagsA_set hlv (s ++ tildes (ps.take p))
          rw [HTS.out, ← List.append_assoc]
          rw [e] at h1 ⊢
          exact h1
        have HLL : Hid (∀ W4, Keeps noB W3 W4 → W4.cell? ⟨w.heap.size, 0, none⟩ = some (.pointer (some ⟨N, 0, none⟩)) ∧ W4.cell? ⟨w.heap.size + 1, i2 + 1, none⟩ = some (.int .u8 101)) := fun W4 q4 => ⟨(q4.cell (p := ⟨w.heap.size, 0, none⟩) HLT.out.1 id).trans d3, (q4.cell (p := ⟨w.heap.size + 1, i2 + 1, none⟩) HLT.out.2 id).trans d2⟩
        have HSET := Lib.hid hset
        clear e hset d2
        gi_wp2
        refine wpIn_region_tail_class (fun W4 => Keeps noB W3 W4) 7 hro (by kernel_rfl) (by kernel_rfl) (by kernel_rfl) (by kernel_rfl) (by kernel_rfl) (by kernel_rfl) (by decide) (by kernel_rfl) ((Keeps.refl _ _).drew) ?_
        simp only [List.take, List.drop]
        refine quiet_on (Value.pointer (some ⟨N, 0, none⟩)) (fun _ _ f _ => hFf f) rfl (fun W4 q4 => ?_) (fun K hK => ?_)
        · obtain ⟨f0, f1⟩ := HLL.out W4 q4
          go_simp
        go_simp
        refine hK _ ?_
        clear hK K
        refine quiet_on (Value.slice (some ⟨w.heap.size + 1, i2, none⟩) 2 2) (fun _ _ f _ => hFf f) rfl (fun W4 q4 => ?_) (fun K hK => ?_)
        · obtain ⟨f0, f1⟩ := HLL.out W4 q4
          go_simp
        go_simp
        refine hK _ ?_
        clear hK K
        refine quiet_on (Value.pointer (some ⟨w.heap.size + 1, i2 + 1, none⟩)) (fun _ _ f _ => hFf f) rfl (fun W4 q4 => ?_) (fun K hK => ?_)
        · obtain ⟨f0, f1⟩ := HLL.out W4 q4
          go_simp
        go_simp
        refine hK _ ?_
        clear hK K
        refine quiet_on (Value.int .u8 101) (fun _ _ f _ => hFf f) rfl (fun W4 q4 => ?_) (fun K hK => ?_)
        · obtain ⟨f0, f1⟩ := HLL.out W4 q4
          go_simp
        go_simp
        refine hK _ ?_
        clear hK K
        refine quiet_on (Value.int .u8 4) (fun _ _ f _ => hFf f) rfl (fun W4 q4 => ?_) (fun K hK => ?_)
        · obtain ⟨f0, f1⟩ := HLL.out W4 q4
          go_simp
          (first | rfl | decide | (rw [IntKind.wrap]; rfl))
        go_simp
        refine hK _ ?_
        clear hK K
        refine quiet_on (Value.pointer (some ⟨N, 0, none⟩)) (fun _ _ f _ => hFf f) rfl (fun W4 q4 => ?_) (fun K hK => ?_)
        · obtain ⟨f0, f1⟩ := HLL.out W4 q4
          go_simp
        go_simp
        refine hK _ ?_
        clear hK K
        refine quiet_on (Value.pointer (some ⟨N, 4, none⟩)) (fun _ _ f _ => hFf f) rfl (fun W4 q4 => ?_) (fun K hK => ?_)
        · obtain ⟨f0, f1⟩ := HLL.out W4 q4
          go_simp
        go_simp
        refine hK _ ?_
        clear hK K
        refine wpQuietIn_nil ?_
        intro W4 q4
        have b4 := q4.blk HO3.out.2 id
        have z4 := b4.free 4
        have y4 : W4.cell? ⟨N, 4, none⟩ = some (.bool (decide (101 ∈ s ++ tildes (ps.take p)))) := (b4.cell 4).trans rfl
        have HE : Hid (∃ own', Owns (oneB N) own' W3 (W4.setCell ⟨N, 4, none⟩ (.bool true)) ∧ (own' = oneB N ∧ Owns (oneB N) own' w5 (W4.setCell ⟨N, 4, none⟩ (.bool true)) ∧ Blk (W4.setCell ⟨N, 4, none⟩ (.bool true)) N (flagsA (s ++ tildes (ps.take (pre ++ [p]).length))) 90)) := by
          have q5 : Keeps (oneB N) W3 (W4.setCell ⟨N, 4, none⟩ (.bool true)) := (q4.mono (fun _ e => e.elim)).setCell (p := ⟨N, 4, none⟩) (.inl (show oneB N N from rfl)) _
          have o : Owns (oneB N) (oneB N) W3 (W4.setCell ⟨N, 4, none⟩ (.bool true)) := ⟨fun k h => .inl h, fun k h => Nat.lt_of_lt_of_le (HO3.out.1.lt k h) q5.size, q5⟩
          refine ⟨_, o, rfl, HO3.out.1.trans o, ?_⟩
          have e := b4.set 4 (.bool true)
          rw [HSET.out] at e
          exact e
        clear b4 q4
        gi_wp2
        exact HE.out
      · have d2 : W3.cell? ⟨w.heap.size + 1, i2 + 1, none⟩ = some (.int .u8 102) := by rw [d2, e]; rfl
        have hset : (flagsA (s ++ tildes (ps.take p))).setIfInBounds 5 (.bool true) = flagsA (s ++ tildes (ps.take (pre ++ [p]).length)) := by
          have h1 := flagsA_set hlv (s ++ tildes (ps.take p))
          rw [HTS.out, ← List.append_assoc]
          rw [e] at h1 ⊢
          exact h1
        have HLL : Hid (∀ W4, Keeps noB W3 W4 → W4.cell? ⟨w.heap.size, 0, none⟩ = some (.pointer (some ⟨N, 0, none⟩)) ∧ W4.cell? ⟨w.heap.size + 1, i2 + 1, none⟩ = some (.int .u8 102)) := fun W4 q4 => ⟨(q4.cell (p := ⟨w.heap.size, 0, none⟩) HLT.out.1 id).trans d3, (q4.cell (p := ⟨w.heap.size + 1, i2 + 1, none⟩) HLT.out.2 id).trans d2⟩
        have HSET := Lib.hid hset
        clear e hset d2
        gi_wp2
        refine wpIn_region_tail_class (fun W4 => Keeps noB W3 W4) 7 hro (by kernel_rfl) (by kernel_rfl) (by kernel_rfl) (by kernel_rfl) (by kernel_rfl) (by kernel_rfl) (by decide) (by kernel_rfl) ((Keeps.refl _ _).drew) ?_
        simp only [List.take, List.drop]
        refine quiet_on (Value.pointer (some ⟨N, 0, none⟩)) (fun _ _ f _ => hFf f) rfl (fun W4 q4 => ?_) (fun K hK => ?_)
        · obtain ⟨f0, f1⟩ := HLL.out W4 q4
          go_simp
        go_simp
        refine hK _ ?_
        clear hK K
        refine quiet_on (Value.slice (some ⟨w.heap.size + 1, i2, none⟩) 2 2) (fun _ _ f _ => hFf f) rfl (fun W4 q4 => ?_) (fun K hK => ?_)
        · obtain ⟨f0, f1⟩ := HLL.out W4 q4
          go_simp
        go_simp
        refine hK _ ?_
        clear hK K
        refine quiet_on (Value.pointer (some ⟨w.heap.size + 1, i2 + 1, none⟩)) (fun _ _ f _ => hFf f) rfl (fun W4 q4 => ?_) (fun K hK => ?_)
        · obtain ⟨f0, f1⟩ := HLL.out W4 q4
          go_simp
        go_simp
        refine hK _ ?_
        clear hK K
        refine quiet_on (Value.int .u8 102) (fun _ _ f _ => hFf f) rfl (fun W4 q4 => ?_) (fun K hK => ?_)
        · obtain ⟨f0, f1⟩ := HLL.out W4 q4
          go_simp
        go_simp
        refine hK _ ?_
        clear hK K
        refine quiet_on (Value.int .u8 5) (fun _ _ f _ => hFf f) rfl (fun W4 q4 => ?_) (fun K hK => ?_)
        · obtain ⟨f0, f1⟩ := HLL.out W4 q4
          go_simp
          (first | rfl | decide | (rw [IntKind.wrap]; rfl))
        go_simp
        refine hK _ ?_
        clear hK K
        refine quiet_on (Value.pointer (some ⟨N, 0, none⟩)) (fun _ _ f _ => hFf f) rfl (fun W4 q4 => ?_) (fun K hK => ?_)
        · obtain ⟨f0, f1⟩ := HLL.out W4 q4
          go_simp
        go_simp
        refine hK _ ?_
        clear hK K
        refine quiet_on (Value.pointer (some ⟨N, 5, none⟩)) (fun _ _ f _ => hFf f) rfl (fun W4 q4 => ?_) (fun K hK => ?_)
        · obtain ⟨f0, f1⟩ := HLL.out W4 q4
          go_simp
        go_simp
        refine hK _ ?_
        clear hK K
        refine wpQuietIn_nil ?_
        intro W4 q4
        have b4 := q4.blk HO3.out.2 id
        have z4 := b4.free 5
        have y4 : W4.cell? ⟨N, 5, none⟩ = some (.bool (decide (102 ∈ s ++ tildes (ps.take p)))) := (b4.cell 5).trans rfl
        have HE : Hid (∃ own', Owns (oneB N) own' W3 (W4.setCell ⟨N, 5, none⟩ (.bool true)) ∧ (own' = oneB N ∧ Owns (oneB N) own' w5 (W4.setCell ⟨N, 5, none⟩ (.bool true)) ∧ Blk (W4.setCell ⟨N, 5, none⟩ (.bool true)) N (flagsA (s ++ tildes (ps.take (pre ++ [p]).length))) 90)) := by
          have q5 : Keeps (oneB N) W3 (W4.setCell ⟨N, 5, none⟩ (.bool true)) := (q4.mono (fun _ e => e.elim)).setCell (p := ⟨N, 5, none⟩) (.inl (show oneB N N from rfl)) _
          have o : Owns (oneB N) (oneB N) W3 (W4.setCell ⟨N, 5, none⟩ (.bool true)) := ⟨fun k h => .inl h, fun k h => Nat.lt_of_lt_of_le (HO3.out.1.lt k h) q5.size, q5⟩
          refine ⟨_, o, rfl, HO3.out.1.trans o, ?_⟩
          have e := b4.set 5 (.bool true)
          rw [HSET.out] at e
          exact e
        clear b4 q4
        gi_wp2
        exact HE.out
  case hdone =>
    rintro D own' W' hb ⟨rfl, ho, hbN⟩
    have hn := hb.new
    rw [List.length_range, HMM.out, List.take_length] at hbN
    have HD := Lib.hid hb.none
    have HE : Hid (∀ W2', Keeps (fun k => k ∈ [D]) W' W2' → Blk W2' N (flagsA (s ++ tildes ps)) 90 ∧ Keeps (oneB N) w W2') := fun W2' q2 => by
      have h1 := HSZ.out
      have h2 := ho.keeps.size
      refine ⟨q2.blk hbN (fun e => by simp at e; omega), ?_⟩
      exact ((((HW2.out.2.2.1.trans HW5.out.2.1).mono (fun _ e => e.elim)).trans ho.keeps).transNew q2 (fun i hi e => by simp at e; omega))
    clear hb ho hbN
    dsimp only
    gi_wp2
    refine leaves_marks [D] _ (by simp) (fun D' hD' => by simp at hD'; subst hD'; exact HD.out) (fun W2' q _ => ?_)
    exact ⟨_, results_none rfl _ _ _, rfl, (HE.out W2' q).1, (HE.out W2' q).2⟩
  case hstop => intro D c pre post own' W' _ _ h; exact h.elim

end Go.Proofs.Ytcpbkohpgchckaa

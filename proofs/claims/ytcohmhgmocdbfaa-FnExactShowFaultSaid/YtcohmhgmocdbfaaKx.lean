/-
  Walks of the program's run: the iterator of choicesUpTo.
-/
import Derived.Test.YtcohmhgmocdbfaaKv
namespace Go.Proofs.Ytcohmhgmocdbfaa
set_option linter.unusedVariables false
set_option linter.unusedSimpArgs false
open Go.RowKit

attribute [local go_sem] Oper.semAt_some

/-- What the outermost loop holds. -/
def Up1 (x : Nd) (n B : Nat) (J : List (List UInt8) → (Nat → Prop) → World → Prop) (own : Nat → Prop) (W : World) (v4 v16 : Value) (wr : World) : Prop :=
  ∃ (k : Nat) (own' : Nat → Prop), k ≤ n + 1 ∧ v16 = .int .i64 (k : Int) ∧ StrRow B own' wr v4 (x.level k) ∧ Side J own W (upDone x k 0) own' wr

/-- What the loop over a level holds. -/
def Up2 (x : Nd) (k B : Nat) (J : List (List UInt8) → (Nat → Prop) → World → Prop) (own : Nat → Prop) (W : World) (v4 v5 v20 : Value) (wr : World) : Prop :=
  ∃ (i : Nat) (own' : Nat → Prop), i ≤ (x.level k).length ∧ v20 = .int .i64 (i : Int) ∧ StrRow B own' wr v4 (x.level k) ∧ StrRow B own' wr v5 (((x.level k).take i).flatMap x.longer) ∧ (∀ g, v4.ownBlock = some g → v5.ownBlock ≠ some g) ∧ Side J own W (upDone x k i) own' wr

/-- What is so behind a run in a round. -/
structure UpBack (x : Nd) (k i B : Nat) (J : List (List UInt8) → (Nat → Prop) → World → Prop) (own : Nat → Prop) (W : World) (v4 v5 : Value) (done : List (List UInt8)) (own3 : Nat → Prop) (W1 : World) : Prop where
  r4 : StrRow B own3 W1 v4 (x.level k)
  r5 : StrRow B own3 W1 v5 (((x.level k).take i).flatMap x.longer)
  dis : ∀ g, v4.ownBlock = some g → v5.ownBlock ≠ some g
  side : Side J own W done own3 W1

theorem UpBack.quiet {x : Nd} {k i B : Nat} {J : List (List UInt8) → (Nat → Prop) → World → Prop} {own : Nat → Prop} {W : World} {v4 v5 : Value} {done : List (List UInt8)} {own3 : Nat → Prop} {w w' : World} (h : UpBack x k i B J own W v4 v5 done own3 w) (hJ : Stab W.heap.size J) (q : Keeps noB w w') : UpBack x k i B J own W v4 v5 done own3 w' :=
  ⟨h.r4.step q (fun _ _ e => e) (fun _ e => .inl e), h.r5.step q (fun _ _ e => e) (fun _ e => .inl e), h.dis, h.side.step hJ (q.mono (fun _ e => e.elim))⟩

theorem UpBack.yielded {x : Nd} {k i B : Nat} {J : List (List UInt8) → (Nat → Prop) → World → Prop} {own : Nat → Prop} {W : World} {v4 v5 : Value} {done done' : List (List UInt8)} {own2 own3 : Nat → Prop} {w w' : World} (h : UpBack x k i B J own W v4 v5 done own2 w) (ho : Owns own2 own3 w w') (hj : J done' own3 w') : UpBack x k i B J own W v4 v5 done' own3 w' :=
  ⟨h.r4.step ho.keeps (fun g hg => (h.r4.2 g hg).2) ho.more, h.r5.step ho.keeps (fun g hg => (h.r5.2 g hg).2) ho.more, h.dis, ⟨hj, h.side.owns.trans ho⟩⟩

/-- What the loop over what is asked holds. -/
def Up3 (x : Nd) (k i B : Nat) (J : List (List UInt8) → (Nat → Prop) → World → Prop) (own : Nat → Prop) (W : World) (c : List UInt8) (done : List (List UInt8)) (own3 : Nat → Prop) (gb : Nat) (v4 v5 v42 : Value) (wr : World) : Prop :=
  ∃ (j : Nat), j ≤ (x.with c).asks.length ∧ v42 = .int .i64 (j : Int) ∧ StrRow B own3 wr v4 (x.level k) ∧ StrRow B own3 wr v5 (((x.level k).take i).flatMap x.longer ++ (x.longer c).take j) ∧ (∀ g, v4.ownBlock = some g → v5.ownBlock ≠ some g) ∧ v5.ownBlock ≠ some gb ∧
    (∀ j', j' < (x.with c).asks.length → wr.cell? ⟨gb, j', none⟩ = some (.int .u8 (((x.with c).asks.getD j' 0).toNat : Int))) ∧ gb < wr.heap.size ∧ Side J own W done own3 wr

set_option maxRecDepth 100000 in
set_option maxHeartbeats 1000000 in
theorem up3_next {x : Nd} {k i : Nat} {J : List (List UInt8) → (Nat → Prop) → World → Prop} {own : Nat → Prop} {W : World} {c : List UInt8} {done : List (List UInt8)} {own3 : Nat → Prop} {gb : Nat} {v4 : Value} {a6 : Option Addr} {L6 c6 j : Nat} {wr : World} {d : UInt8} (hJ : Stab W.heap.size J)
    (h4 : StrRow W.heap.size own3 wr v4 (x.level k)) (h5 : StrRow W.heap.size own3 wr (.slice a6 L6 c6) (((x.level k).take i).flatMap x.longer ++ (x.longer c).take j)) (hd : ∀ g, v4.ownBlock = some g → (Value.slice a6 L6 c6).ownBlock ≠ some g) (hgn : (Value.slice a6 L6 c6).ownBlock ≠ some gb)
    (hcells : ∀ j', j' < (x.with c).asks.length → wr.cell? ⟨gb, j', none⟩ = some (.int .u8 (((x.with c).asks.getD j' 0).toNat : Int))) (hgl : gb < wr.heap.size) (hs : Side J own W done own3 wr)
    (hL6 : L6 = (((x.level k).take i).flatMap x.longer ++ (x.longer c).take j).length) (hdj : (x.with c).asks[j]? = some d) (hL : L6 ≤ 100000) {cs : ByteArray} (hcs : cs = ⟨c.toArray⟩) :
    ∃ a' c' w', (Builtin.append_ #[32, 32] 32 #[.slice a6 L6 c6, .slice (some ⟨wr.heap.size, 0, none⟩) 1 1]).run Try.prog (wr.alloc (.cells #[.string (cs ++ ⟨#[d]⟩)] 9)) = .ok (.slice a' (L6 + 1) c') w' ∧
      Up3 x k i W.heap.size J own W c done own3 gb v4 (.slice a' (L6 + 1) c') (.int .i64 ((j : Int) + 1)) w' := by
  obtain ⟨i0, hi, hz0, hz1, hz2⟩ := info_parts Try.zeroK9
  have hcd : cs ++ ⟨#[d]⟩ = (⟨(c ++ [d]).toArray⟩ : ByteArray) := by rw [hcs]; apply ByteArray.ext; simp
  rw [hcd]
  have h5' : wr.ownsRow 0 9 1 (.slice a6 L6 c6) L6 (strsC (((x.level k).take i).flatMap x.longer ++ (x.longer c).take j)) := by have := h5.1; rwa [← hL6] at this
  obtain ⟨v', w', hr, ho', hg', hfr⟩ := run_append_fresh (P := Try.prog) (wr.alloc (.cells #[.string ⟨(c ++ [d]).toArray⟩] 9)) 32 32 9 i0 (.string ⟨#[]⟩) 1 16 Try.underlying32 hi hz0 hz1 hz2 rfl (by omega)
    (.slice a6 L6 c6) L6 _ (((Keeps.refl noB wr).alloc _).ownsRow h5' (fun _ _ _ => id)) ⟨wr.heap.size, 0, none⟩ 1 1 [.string ⟨(c ++ [d]).toArray⟩] rfl (cells_one wr _ _) (fun u hu => by simp at hu; subst hu; rfl) (by unfold maxLen; omega) (by omega)
  obtain ⟨a', c', rfl⟩ := row_shape (ok := fun _ => True) ⟨ho', fun _ _ => trivial⟩
  refine ⟨a', c', w', hr, ?_⟩
  have qa : Keeps (fun g => (Value.slice a6 L6 c6).ownBlock = some g) wr w' := ((Keeps.refl _ wr).alloc _).grown hg' (fun g hg => .inl hg)
  have hW := hs.owns.keeps.size
  have hnew : ∀ g, (Value.slice a' (L6 + 1) c').ownBlock = some g → (Value.slice a6 L6 c6).ownBlock = some g ∨ wr.heap.size ≤ g := by
    intro g hg
    rcases hfr with e | e
    · exact .inl (e ▸ hg)
    · have := e g hg; simp at this; exact .inr (by omega)
  have hjl := (List.getElem?_eq_some_iff.1 hdj).1
  have hlong : (x.longer c).take (j + 1) = (x.longer c).take j ++ [c ++ [d]] := by
    rw [List.take_add_one]
    congr 1
    unfold Nd.longer
    rw [List.getElem?_map, hdj]
    rfl
  refine ⟨j + 1, hjl, by simp, h4.step qa (fun g hg => hd g hg) (fun _ e => .inl e), ⟨?_, fun g hg => ?_⟩, fun g hg hg' => ?_, fun e => ?_, fun j' hj' => ?_, Nat.lt_of_lt_of_le hgl qa.size, hs.step hJ (qa.mono (fun g hg => h5.2 g hg))⟩
  · rw [hlong, ← List.append_assoc, strsC_snoc, List.length_append, ← hL6]
    exact ho'
  · rcases hnew g hg with e | e
    · exact h5.2 g e
    · exact ⟨by omega, fun e2 => by have := hs.owns.lt g e2; omega⟩
  · rcases hnew g hg' with e | e
    · exact hd g hg e
    · have := (h4.1.lt g hg).2; omega
  · rcases hnew gb e with e | e
    · exact hgn e
    · omega
  · exact (qa.cell (p := ⟨gb, j', none⟩) hgl (fun e => hgn e)).trans (hcells j' hj')

set_option maxRecDepth 100000 in
set_option maxHeartbeats 4000000 in
theorem upTo_iter (x : Nd) (n Bn Br g : Nat) (prot : Nat → Prop) (W : World) (h : UpAt x n Bn Br g prot W) (hn : n ≤ 6) (hpl : ∀ k, prot k → k < W.heap.size) : IterAt Try.prog 60 #[ptr Bn, ptr Br] (x.rights (x.upTo n)) encU prot W := by
  intro lb J Jx own hJ hJx hown hprot hR h0 n0
  obtain ⟨F, hF⟩ : ∃ F, F = Fence.wide := ⟨_, rfl⟩
  have hFf : ∀ f, F.fn f := by subst hF; exact fun _ => trivial
  have hdd : ∀ k : Nat, (F.depth.isSome = true → 1 ≤ k) := by subst hF; intro k h; simp [Fence.wide] at h
  have hro : F.round = none := by subst hF; rfl
  have hds : F.depth.isSome = false := by subst hF; rfl
  have HC : Hid (∀ (own' : Nat → Prop) (done : List (List UInt8)) (W' : World), Side J own W done own' W' → ∀ m c, c.length ≤ 6 → CallsIn F m Try.prog 44 #[.pointer (some ⟨g, 0, none⟩), .string ⟨c.toArray⟩] W' (fun e w' => ∃ b ex yi, e = .returned (.tuple #[.pointer (some ⟨b, 0, none⟩), .agg #[.int .i64 ex, .int .i64 yi, .string ⟨(x.with c).asks.toArray⟩], .bool (x.with c).right]) ∧ Keeps noB W' w')) := by
    intro own' done W' hs m c hc
    rw [hF]
    refine callsIn_wide.2 (h.runs W' hs.owns.keeps.size (fun k hk => hs.owns.keeps.block k (hpl k hk) (fun e => hprot k hk e)) c hc)
  rw [← hF]
  have HF := Lib.hid hF
  clear hF
  refine callsIn_of_wp_marks Try.func60 rfl (hFf _) ?_ hro
  simp only [Try.ntmps60, List.size_toArray, List.length_cons, List.length_nil, Nat.reduceAdd, Nat.reduceSub, Array.replicate_succ, Array.replicate_zero, List.push_toArray, List.append_toArray, List.nil_append, List.cons_append]
  have r0 := h.num.cell 0
  simp at r0
  have hBl := h.num.lt
  have hnB : ¬ own Bn := hprot Bn h.pn
  have HBr : Hid (∀ (own' : Nat → Prop) (done : List (List UInt8)) (W' : World), Side J own W done own' W' → W'.cell? ⟨Br, 0, none⟩ = some (.pointer (some ⟨g, 0, none⟩))) := fun own' done W' hs => by
    have e := hs.owns.keeps.cell (p := ⟨Br, 0, none⟩) h.root.lt (hprot Br h.pr)
    rw [e]
    simpa using h.root.cell 0
  have HR := Lib.hid hR
  have HJ := Lib.hid hJ
  have HJX := Lib.hid hJx
  have HS : Hid (Up1 x n W.heap.size J own W (.slice (some ⟨W.heap.size, 0, none⟩) 1 1) (.int .i64 0) (W.alloc (.cells #[.string ⟨#[]⟩] 9))) := by
    have hk : Keeps noB W (W.alloc (.cells #[.string ⟨#[]⟩] 9)) := (Keeps.refl _ _).alloc _
    have hs : Side J own W (upDone x 0 0) own W := ⟨h0, Owns.refl hown⟩
    refine ⟨0, own, by omega, rfl, ⟨⟨rfl, .inr ⟨_, 1, _, rfl, Nat.zero_le _, Blk.new _ _ _, Nat.le_refl _, by simp [maxLen], rfl, rfl⟩⟩, fun g e => ?_⟩, hs.step hJ (hk.mono (fun _ e => e.elim))⟩
    simp [Value.ownBlock] at e
    subst e
    exact ⟨Nat.le_refl _, fun e => by have := hown _ e; omega⟩
  clear h hR hJ hJx h0
  unfold ptr
  gi_wp2
  gi_loopw [4, 16] (fun v4 v16 wr => Up1 x n W.heap.size J own W v4 v16 wr) (fun _ v16 _ => n + 1 - (intOf v16).toNat)
  case atStart => exact HS.out
  case round =>
    clear HS r0
    obtain ⟨k, own', hk, rfl, hrow, hs⟩ := hrel
    by_cases hkn : k < n + 1
    · have hki : (k : Int) < (n : Int) + 1 := by omega
      have hlen : (x.level k).length ≤ 64 := Nat.le_trans (level_len x k) (Nat.pow_le_pow_right (n := 2) (by omega) (show k ≤ 6 by omega))
      obtain ⟨a4, c4, rfl⟩ := row_shape (ok := fun _ => True) ⟨hrow.1, fun _ _ => trivial⟩
      have HP : Hid (Up2 x k W.heap.size J own W (.slice a4 (x.level k).length c4) (.slice none 0 0) (.int .i64 0) wr) := by
        refine ⟨0, own', Nat.zero_le _, rfl, hrow, ⟨⟨rfl, .inl ⟨rfl, rfl⟩⟩, fun g e => by simp [Value.ownBlock] at e⟩, fun g _ e => by simp [Value.ownBlock] at e, hs⟩
      obtain ⟨m, hm⟩ : ∃ m, m = (x.level k).length := ⟨_, rfl⟩
      have HM := Lib.hid hm
      clear hrow hs
      rw [← hm] at HP hlen ⊢
      clear hm
      gi_wp2
      gi_loopw [5, 20] (fun v5 v20 wr => Up2 x k W.heap.size J own W (.slice a4 m c4) v5 v20 wr) (fun _ v20 _ => m - (intOf v20).toNat)
      case atStart => exact HP.out
      case round =>
        clear HP
        obtain ⟨i, own2, hi, rfl, hrow4, hrow5, hd, hs⟩ := hrel
        rw [← HM.out] at hi
        by_cases him : i < m
        · have hi0 : (0 : Int) ≤ (i : Int) := by omega
          have hi1 : (i : Int) < (m : Int) := by omega
          have hil : i < (x.level k).length := by have := HM.out; omega
          obtain ⟨c, hc⟩ : ∃ c, (x.level k)[i]? = some c := ⟨_, List.getElem?_eq_getElem hil⟩
          have hck := (level_mem x k c (List.mem_of_getElem? hc)).1
          obtain ⟨g4, c4', hv, _, hg4, hcell⟩ := row_get (ok := fun _ => True) ⟨hrow4.1, fun _ _ => trivial⟩ (by omega)
          rw [← HM.out] at hv
          obtain ⟨rfl, rfl⟩ : a4 = some ⟨g4, 0, none⟩ ∧ c4 = c4' := by simpa using hv
          have hcap : m ≤ c4 := by
            have e := hrow4.1
            rw [← HM.out] at e
            exact row_capV (ok := fun _ => True) ⟨e, fun _ _ => trivial⟩
          have x4 : wr.cell? ⟨g4, i, none⟩ = some (.string ⟨c.toArray⟩) := hcell _ _ (by unfold strsC; rw [List.getElem?_map, hc]; rfl)
          have rB := HBr.out _ _ _ hs
          have HRW := Lib.hid (fun m => HC.out own2 _ wr hs m c (by omega))
          obtain ⟨ls, hls⟩ : ∃ ls : ByteArray, ls = ⟨(x.with c).asks.toArray⟩ := ⟨_, rfl⟩
          obtain ⟨cs, hcs⟩ : ∃ cs : ByteArray, cs = ⟨c.toArray⟩ := ⟨_, rfl⟩
          rw [← hls, ← hcs] at HRW
          rw [← hcs] at x4
          have HI := Lib.hid (And.intro hc (And.intro hck (And.intro (show ls.data.toList = (x.with c).asks by rw [hls]) (And.intro (show ls.size = (x.with c).asks.length by rw [hls]; simp [ByteArray.size]) (And.intro (show ls.size ≤ 2 by rw [hls]; simpa [ByteArray.size] using asks_two (x.with c)) hcs)))))
          have HB0 := Lib.hid (UpBack.mk (i := i) hrow4 hrow5 hd hs)
          obtain ⟨a5, c5, rfl⟩ := row_shape (ok := fun _ => True) ⟨hrow5.1, fun _ _ => trivial⟩
          obtain ⟨L5, hL5⟩ : ∃ L5, L5 = (((x.level k).take i).flatMap x.longer).length := ⟨_, rfl⟩
          have HL5 := Lib.hid hL5
          rw [← hL5] at HB0 ⊢
          have HZS := Lib.hid hs.owns.lt
          have HSN := Lib.hid (upDone_snoc x k i hc)
          have HL5B : Hid ((((x.level k).take i).flatMap x.longer).length ≤ 128) := Lib.hid (by
            have e1 := level_len x (k + 1)
            have e2 : 2 ^ (k + 1) ≤ 2 ^ 7 := Nat.pow_le_pow_right (by omega) (by omega)
            have e3 : (((x.level k).take i).flatMap x.longer).length ≤ ((x.level k).flatMap x.longer).length := by
              conv => rhs; rw [← List.take_append_drop i (x.level k), List.flatMap_append, List.length_append]
              omega
            have e4 : ((x.level k).flatMap x.longer).length = (x.level (k + 1)).length := rfl
            omega)
          clear hrow4 hrow5 hd hs hcell hv hc hck hls hcs hL5
          by_cases hr : (x.with c).right = true
          · rw [hr] at HRW
            gi_wp2
            refine (HRW.out _).mono ?_
            rintro e w1 ⟨b, ex, yi, rfl, q1⟩
            have HB1 := Lib.hid (HB0.out.quiet HJ.out (q1.alloc (.cells #[.int .i64 ex, .int .i64 yi, .string ls] 82)))
            have bN := Blk.new w1 #[.int .i64 ex, .int .i64 yi, .string ls] 82
            have hq1 := q1.size
            have hpost : x.rights (x.upTo n) = upDone x k i ++ c :: upRest x n k (i + 1) := by rw [up_all x n k i (by omega), upRest_cons x n k i HI.out.1 hr]
            obtain ⟨fn, tmps, assign, body, hy, hRd⟩ := HR.out (n0 - 1) (upDone x k i) c (upRest x n k (i + 1)) #[.string cs] own2 _ hpost (by unfold encU; rw [HI.out.2.2.2.2.2]) HB1.out.side.said HB1.out.side.owns.lt
            rw [← HF.out] at hRd
            rw [if_pos hr] at HSN
            have HPO := Lib.hid hpost
            clear hpost q1
            gi_wp2
            refine hRd.mono ?_
            clear hRd hy
            rintro e W1 ⟨own3, ho3, (⟨rfl, hj3⟩ | ⟨rfl, hj3⟩)⟩
            · have HB := Lib.hid (HB1.out.yielded ho3 (by rw [← HSN.out] at hj3; exact hj3))
              have y2 := (ho3.keeps.cell (p := ⟨w1.heap.size, 2, none⟩) bN.lt (fun e => by have := HZS.out w1.heap.size e; omega)).trans (bN.cell 2)
              simp at y2
              clear ho3 hj3 bN
              obtain ⟨C, W2, hcv, hk2, hs2, hC, hce⟩ := bytes_own W1 ls (by have := HI.out.2.2.2.2.1; omega)
              have hlz := HI.out.2.2.2.1
              have HP : Hid (Up3 x k i W.heap.size J own W c (upDone x k (i + 1)) own3 W1.heap.size (.slice (some ⟨g4, 0, none⟩) m c4) (.slice a5 L5 c5) (.int .i64 0) W2) := by
                have hb := HB.out.quiet HJ.out hk2
                refine ⟨0, Nat.zero_le _, rfl, hb.r4, by rw [List.take_zero, List.append_nil]; exact hb.r5, hb.dis, fun e => ?_, fun j' hj' => ?_, by omega, hb.side⟩
                · have := (HB.out.r5.1.lt _ e).2; omega
                · rw [hce j' (by rw [hlz]; exact hj'), HI.out.2.2.1]
              obtain ⟨gb, hgb⟩ : ∃ gb, gb = W1.heap.size := ⟨_, rfl⟩
              rw [← hgb] at HP hcv
              obtain ⟨L, hL⟩ : ∃ L, L = ls.size := ⟨_, rfl⟩
              have hLa : L = (x.with c).asks.length := by rw [hL, hlz]
              have hL2 : L ≤ 2 := by rw [hLa]; exact asks_two _
              rw [← hL] at hcv hC
              have HLA := Lib.hid hLa
              clear hce hk2 hs2 hlz hgb hL hLa
              gi_wp2
              gi_loopw [5, 42] (fun v5 v42 wr => Up3 x k i W.heap.size J own W c (upDone x k (i + 1)) own3 gb (.slice (some ⟨g4, 0, none⟩) m c4) v5 v42 wr) (fun _ v42 _ => L - (intOf v42).toNat)
              case atStart => exact HP.out
              case round =>
                clear HP hcv y2
                obtain ⟨j, hj, rfl, h4, h5, hd, hgn, hcells, hgl, hs⟩ := hrel
                rw [← HLA.out] at hj
                by_cases hjl : j < L
                · have hj0 : (0 : Int) ≤ (j : Int) := by omega
                  have hj1 : (j : Int) < (L : Int) := by omega
                  have hjl2 : j < (x.with c).asks.length := by have := HLA.out; omega
                  obtain ⟨d, hdd2⟩ : ∃ d, (x.with c).asks[j]? = some d := ⟨_, List.getElem?_eq_getElem hjl2⟩
                  have hcell := hcells j hjl2
                  rw [List.getD_eq_getElem?_getD, hdd2, Option.getD_some] at hcell
                  have hcd := fun w => conv_choice w d (asks_in _ d (List.mem_of_getElem? hdd2))
                  obtain ⟨a6, c6, rfl⟩ := row_shape (ok := fun _ => True) ⟨h5.1, fun _ _ => trivial⟩
                  obtain ⟨L6, hL6⟩ : ∃ L6, L6 = (((x.level k).take i).flatMap x.longer ++ (x.longer c).take j).length := ⟨_, rfl⟩
                  rw [← hL6] at h5 hd hgn ⊢
                  have hL6b : L6 ≤ 100000 := by
                    have e1 : (((x.level k).take i).flatMap x.longer).length ≤ 128 := HL5B.out
                    have e2 := asks_two (x.with c)
                    have e3 : ((x.longer c).take j).length ≤ 2 := by
                      rw [List.length_take]
                      unfold Nd.longer
                      rw [List.length_map]
                      omega
                    rw [hL6, List.length_append]
                    omega
                  have HN := Lib.hid (up3_next HJ.out h4 h5 hd hgn hcells hgl hs hL6 hdd2 hL6b HI.out.2.2.2.2.2)
                  obtain ⟨dv, hdv⟩ : ∃ dv : Int, dv = (d.toNat : Int) := ⟨_, rfl⟩
                  rw [← hdv] at hcell hcd
                  have hcz : cs.size ≤ 6 := by rw [HI.out.2.2.2.2.2]; have := HI.out.2.1; simp [ByteArray.size]; omega
                  obtain ⟨ds, hds⟩ : ∃ ds : ByteArray, ds = ⟨#[d]⟩ := ⟨_, rfl⟩
                  have hdz : ds.size = 1 := by rw [hds]; rfl
                  rw [← hds] at hcd HN
                  obtain ⟨a', c', w', hrun, hend⟩ := HN.out
                  have HE := Lib.hid hend
                  clear h4 h5 hd hgn hcells hs hdd2 hL6 hdv hds HN hend hL6b
                  gi_wp2_with (gi_at_builtin; refine wpListIn_append_run _ rfl _ _ _ _ rfl _ _ rfl rfl _ _ hrun ?_)
                  refine ⟨HE.out, ?_⟩
                  simp [intOf]
                  omega
                · have hje : j = (x.with c).asks.length := by have := HLA.out; omega
                  have HE : Hid (Up2 x k W.heap.size J own W (.slice (some ⟨g4, 0, none⟩) m c4) u5 (.int .i64 ((i : Int) + 1)) wr) := by
                    subst hje
                    have e : (x.longer c).take (x.with c).asks.length = x.longer c := by rw [List.take_of_length_le]; unfold Nd.longer; rw [List.length_map]; exact Nat.le_refl _
                    rw [e, ← longer_snoc x HI.out.1] at h5
                    exact ⟨i + 1, own3, (List.getElem?_eq_some_iff.1 HI.out.1).1, by simp, h4, h5, hd, hs⟩
                  clear h4 h5 hd hgn hcells hs
                  gi_wp2
                  refine ⟨HE.out, ?_⟩
                  simp [intOf]
                  omega
            · have HE : Hid (∀ W', Keeps (fun k => k ∈ []) W1 W' → IterEnds J Jx (x.rights (x.upTo n)) own W (.returned (.tuple #[])) W') := by
                intro W' q
                refine ⟨_, own3, rfl, (HB1.out.side.owns.trans ho3).ahead q (fun i e => by cases e), .inr ⟨upDone x k i ++ [c], upRest x n k (i + 1), by rw [HPO.out]; simp, HJX.out _ _ _ _ hj3 (q.mono (fun _ e => by cases e))⟩⟩
              clear hj3 ho3 bN
              gi_wp2
              refine leaves_marks [] W1 List.nodup_nil (fun _ h => by cases h) (fun W' q _ => ?_)
              exact ⟨_, results_none rfl _ _ _, HE.out _ q⟩
          · have hrf : (x.with c).right = false := by simpa using hr
            rw [hrf] at HRW
            gi_wp2
            refine (HRW.out _).mono ?_
            rintro e w1 ⟨b, ex, yi, rfl, q1⟩
            have hq1 := q1.size
            have HB1 := Lib.hid (HB0.out.quiet HJ.out (q1.alloc (.cells #[.int .i64 ex, .int .i64 yi, .string ls] 82)))
            have bN := Blk.new w1 #[.int .i64 ex, .int .i64 yi, .string ls] 82
            rw [if_neg hr, List.append_nil] at HSN
            have HB : Hid (UpBack x k i W.heap.size J own W (.slice (some ⟨g4, 0, none⟩) m c4) (.slice a5 L5 c5) (upDone x k (i + 1)) own2 (w1.alloc (.cells #[.int .i64 ex, .int .i64 yi, .string ls] 82))) := by
              have e := HB1.out
              rw [← HSN.out] at e
              exact e
            obtain ⟨own3, how3⟩ : ∃ own3, own3 = own2 := ⟨_, rfl⟩
            rw [← how3] at HB
            have y2 := bN.cell 2
            simp at y2
            clear q1 how3
            obtain ⟨W1, hW1⟩ : ∃ W1, W1 = w1.alloc (.cells #[.int .i64 ex, .int .i64 yi, .string ls] 82) := ⟨_, rfl⟩
            rw [← hW1] at HB
            obtain ⟨C, W2, hcv, hk2, hs2, hC, hce⟩ := bytes_own W1 ls (by have := HI.out.2.2.2.2.1; omega)
            have hlz := HI.out.2.2.2.1
            have HP : Hid (Up3 x k i W.heap.size J own W c (upDone x k (i + 1)) own3 W1.heap.size (.slice (some ⟨g4, 0, none⟩) m c4) (.slice a5 L5 c5) (.int .i64 0) W2) := by
              have hb := HB.out.quiet HJ.out hk2
              refine ⟨0, Nat.zero_le _, rfl, hb.r4, by rw [List.take_zero, List.append_nil]; exact hb.r5, hb.dis, fun e => ?_, fun j' hj' => ?_, by omega, hb.side⟩
              · have := (HB.out.r5.1.lt _ e).2; omega
              · rw [hce j' (by rw [hlz]; exact hj'), HI.out.2.2.1]
            obtain ⟨gb, hgb⟩ : ∃ gb, gb = W1.heap.size := ⟨_, rfl⟩
            rw [← hgb] at HP hcv
            obtain ⟨L, hL⟩ : ∃ L, L = ls.size := ⟨_, rfl⟩
            have hLa : L = (x.with c).asks.length := by rw [hL, hlz]
            have hL2 : L ≤ 2 := by rw [hLa]; exact asks_two _
            rw [← hL] at hcv hC
            have HLA := Lib.hid hLa
            clear hce hk2 hs2 hlz hgb hL hLa
            rw [hW1] at hcv
            clear hW1 bN
            gi_wp2
            gi_loopw [5, 42] (fun v5 v42 wr => Up3 x k i W.heap.size J own W c (upDone x k (i + 1)) own3 gb (.slice (some ⟨g4, 0, none⟩) m c4) v5 v42 wr) (fun _ v42 _ => L - (intOf v42).toNat)
            case atStart => exact HP.out
            case round =>
              clear HP hcv y2
              obtain ⟨j, hj, rfl, h4, h5, hd, hgn, hcells, hgl, hs⟩ := hrel
              rw [← HLA.out] at hj
              by_cases hjl : j < L
              · have hj0 : (0 : Int) ≤ (j : Int) := by omega
                have hj1 : (j : Int) < (L : Int) := by omega
                have hjl2 : j < (x.with c).asks.length := by have := HLA.out; omega
                obtain ⟨d, hdd2⟩ : ∃ d, (x.with c).asks[j]? = some d := ⟨_, List.getElem?_eq_getElem hjl2⟩
                have hcell := hcells j hjl2
                rw [List.getD_eq_getElem?_getD, hdd2, Option.getD_some] at hcell
                have hcd := fun w => conv_choice w d (asks_in _ d (List.mem_of_getElem? hdd2))
                obtain ⟨a6, c6, rfl⟩ := row_shape (ok := fun _ => True) ⟨h5.1, fun _ _ => trivial⟩
                obtain ⟨L6, hL6⟩ : ∃ L6, L6 = (((x.level k).take i).flatMap x.longer ++ (x.longer c).take j).length := ⟨_, rfl⟩
                rw [← hL6] at h5 hd hgn ⊢
                have hL6b : L6 ≤ 100000 := by
                  have e1 : (((x.level k).take i).flatMap x.longer).length ≤ 128 := HL5B.out
                  have e2 := asks_two (x.with c)
                  have e3 : ((x.longer c).take j).length ≤ 2 := by
                    rw [List.length_take]
                    unfold Nd.longer
                    rw [List.length_map]
                    omega
                  rw [hL6, List.length_append]
                  omega
                have HN := Lib.hid (up3_next HJ.out h4 h5 hd hgn hcells hgl hs hL6 hdd2 hL6b HI.out.2.2.2.2.2)
                obtain ⟨dv, hdv⟩ : ∃ dv : Int, dv = (d.toNat : Int) := ⟨_, rfl⟩
                rw [← hdv] at hcell hcd
                have hcz : cs.size ≤ 6 := by rw [HI.out.2.2.2.2.2]; have := HI.out.2.1; simp [ByteArray.size]; omega
                obtain ⟨ds, hds⟩ : ∃ ds : ByteArray, ds = ⟨#[d]⟩ := ⟨_, rfl⟩
                have hdz : ds.size = 1 := by rw [hds]; rfl
                rw [← hds] at hcd HN
                obtain ⟨a', c', w', hrun, hend⟩ := HN.out
                have HE := Lib.hid hend
                clear h4 h5 hd hgn hcells hs hdd2 hL6 hdv hds HN hend hL6b
                gi_wp2_with (gi_at_builtin; refine wpListIn_append_run _ rfl _ _ _ _ rfl _ _ rfl rfl _ _ hrun ?_)
                refine ⟨HE.out, ?_⟩
                simp [intOf]
                omega
              · have hje : j = (x.with c).asks.length := by have := HLA.out; omega
                have HE : Hid (Up2 x k W.heap.size J own W (.slice (some ⟨g4, 0, none⟩) m c4) u5 (.int .i64 ((i : Int) + 1)) wr) := by
                  subst hje
                  have e : (x.longer c).take (x.with c).asks.length = x.longer c := by rw [List.take_of_length_le]; unfold Nd.longer; rw [List.length_map]; exact Nat.le_refl _
                  rw [e, ← longer_snoc x HI.out.1] at h5
                  exact ⟨i + 1, own3, (List.getElem?_eq_some_iff.1 HI.out.1).1, by simp, h4, h5, hd, hs⟩
                clear h4 h5 hd hgn hcells hs
                gi_wp2
                refine ⟨HE.out, ?_⟩
                simp [intOf]
                omega
        · have hie : i = (x.level k).length := by have := HM.out; omega
          have HE : Hid (Up1 x n W.heap.size J own W u5 (.int .i64 ((k : Int) + 1)) wr) := by
            subst hie
            rw [List.take_length] at hrow5
            rw [upDone_level] at hs
            exact ⟨k + 1, own2, by omega, by simp, hrow5, hs⟩
          clear hrow4 hrow5 hd hs
          gi_wp2
          refine ⟨HE.out, ?_⟩
          simp [intOf]
          omega
    · have hke : k = n + 1 := by omega
      have HE : Hid (∀ W', Keeps (fun k => k ∈ []) wr W' → IterEnds J Jx (x.rights (x.upTo n)) own W (.returned (.tuple #[])) W') := by
        intro W' q
        refine ⟨_, own', rfl, hs.owns.ahead q (fun i e => by cases e), .inl ?_⟩
        have e := hs.said
        subst hke
        have e2 : upDone x (n + 1) 0 = x.rights (x.upTo n) := by unfold upDone Nd.upTo; rw [List.take_zero, List.append_nil]
        rw [e2] at e
        exact HJ.out _ _ _ _ e (q.mono (fun _ e => by cases e))
      have hki : ¬ (k : Int) < (n : Int) + 1 := by omega
      clear hrow hs
      gi_wp2
      refine leaves_marks [] wr List.nodup_nil (fun _ h => by cases h) (fun W' q _ => ?_)
      exact ⟨_, results_none rfl _ _ _, HE.out _ q⟩

end Go.Proofs.Ytcohmhgmocdbfaa

/-
  Walks of the library: slices.Chunk over bytes by twos, and the iterator that it hands back.
-/
import Derived.Test.YtcpbkohpgchckaaBw
import Derived.Test.YtcpbkohpgchckaaWqV
namespace Go.Proofs.Ytcpbkohpgchckaa
set_option linter.unusedVariables false
set_option linter.unusedSimpArgs false
open Go.RowKit Go.Shelf

attribute [local go_sem] Oper.semAt_some

theorem chunk_any (a : Option Addr) (n c : Nat) (w : World) : Calls Try.prog 92 #[.slice a n c, .int .i64 2] w
    fun e w' => e = .returned (.func (.func 133) #[] #[ptr w.heap.size, ptr (w.heap.size + 1)]) ∧ w' = (w.alloc (.cells #[.slice a n c] 22)).alloc (.cells #[.int .i64 2] 3) := by
  go_enter Try.func92, Try.ntmps92
  go_wp2
  go_ret
  exact ⟨rfl, rfl⟩

/-- What is yielded: a cut of two bytes. -/
def encC (R : Nat) (j : Nat) (args : Array Value) : Prop := args = #[.slice (some ⟨R, 2 * j, none⟩) 2 2]

/-- The bytes that are gone through by twos: 2 m of them, in block R; B, B2: the boxes. -/
structure ChunkAt (W : World) (B B2 R m c : Nat) : Prop where
  box : Blk W B #[.slice (some ⟨R, 0, none⟩) (2 * m) c] 22
  two : Blk W B2 #[.int .i64 2] 3
  cap : 2 * m ≤ c

theorem ChunkAt.keeps {W W' : World} {B B2 R m c : Nat} {may : Nat → Prop} (h : ChunkAt W B B2 R m c) (q : Keeps may W W') (h1 : ¬ may B) (h2 : ¬ may B2) : ChunkAt W' B B2 R m c := ⟨q.blk h.box h1, q.blk h.two h2, h.cap⟩

theorem range_split {j m : Nat} (h : j < m) : ∃ post, List.range m = List.range j ++ j :: post := by
  refine ⟨(List.range m).drop (j + 1), ?_⟩
  have e := (List.take_append_drop j (List.range m)).symm
  rw [List.drop_eq_getElem_cons (by simpa using h), List.getElem_range, List.take_range, Nat.min_eq_left (by omega)] at e
  exact e

/-- What the loop of the iterator holds. -/
def ChunkLoop (J : List Nat → (Nat → Prop) → World → Prop) (lb B B2 m : Nat) (own : Nat → Prop) (W : World) (a : Act) (wr : World) : Prop :=
  ∃ (j i : Nat) (own' : Nat → Prop) (u3 u5 u6 u7 u8 u9 u10 u11 u12 u13 u14 u15 u16 u17 u18 u19 u20 u21 u22 u23 u24 u25 u26 u27 u28 u29 u30 : Value),
    a = { tmps := #[.func (.yield lb) #[] #[], .pointer (some ⟨B, 0, none⟩), .pointer (some ⟨B2, 0, none⟩), u3, .int .i64 (i : Int), u5, u6, u7, u8, u9, u10, u11, u12, u13, u14, u15, u16, u17, u18, u19, u20, u21, u22, u23, u24, u25, u26, u27, u28, u29, u30], defers := [] } ∧ i = 2 * j ∧ j ≤ m ∧ J (List.range j) own' wr ∧ Owns own own' W wr

set_option maxRecDepth 100000 in
set_option maxHeartbeats 4000000 in
theorem chunk_iter (W : World) (B B2 R m c : Nat) (h : ChunkAt W B B2 R m c) (hm : m ≤ 500) : IterAt Try.prog 133 #[ptr B, ptr B2] (List.range m) (encC R) (fun k => k = B ∨ k = B2) W := by
  intro lb J Jx own hJ hJx hown hprot hR h0 n0
  obtain ⟨F, hF⟩ : ∃ F, F = Fence.wide := ⟨_, rfl⟩
  have hFf : ∀ f, F.fn f := by subst hF; exact fun _ => trivial
  have hdd : ∀ k : Nat, (F.depth.isSome = true → 1 ≤ k) := by subst hF; intro k h; simp [Fence.wide] at h
  have hro : F.round = none := by subst hF; rfl
  have hds : F.depth.isSome = false := by subst hF; rfl
  rw [← hF]
  have HF := Lib.hid hF
  clear hF
  refine callsIn_of_wp_marks Try.func133 rfl (hFf _) ?_ hro
  simp only [Try.ntmps133, List.size_toArray, List.length_cons, List.length_nil, Nat.reduceAdd, Nat.reduceSub, Array.replicate_succ, Array.replicate_zero, List.push_toArray, List.append_toArray, List.nil_append, List.cons_append]
  have HH := Lib.hid h
  have hcap := h.cap
  have hnB : ¬ own B := hprot B (.inl rfl)
  have hnB2 : ¬ own B2 := hprot B2 (.inr rfl)
  have HR := Lib.hid hR
  obtain ⟨n, hn⟩ : ∃ n, n = 2 * m := ⟨_, rfl⟩
  have HN := Lib.hid hn
  clear h hR
  unfold ptr
  gi_wp2
  refine wpIn_loop (ChunkLoop J lb B B2 m own W) (fun a _ => n - (intOf (a.tmps.getD 4 undef)).toNat) ?_ ?_
  · exact ⟨0, 0, own, _, _, _, _, _, _, _, _, _, _, _, _, _, _, _, _, _, _, _, _, _, _, _, _, _, _, _, rfl, rfl, Nat.zero_le _, h0, Owns.refl hown⟩
  · rintro a wr ⟨j, i, own', u3, u5, u6, u7, u8, u9, u10, u11, u12, u13, u14, u15, u16, u17, u18, u19, u20, u21, u22, u23, u24, u25, u26, u27, u28, u29, u30, rfl, hi, hjm, hj, ho⟩
    have hC := HH.out.keeps ho.keeps hnB hnB2
    have HC : Hid (∀ W4, Keeps noB wr W4 → W4.cell? ⟨B, 0, none⟩ = some (.slice (some ⟨R, 0, none⟩) n c) ∧ W4.cell? ⟨B2, 0, none⟩ = some (.int .i64 2)) := fun W4 q4 => by
      rw [HN.out]
      exact ⟨((q4.blk hC.box id).cell 0).trans rfl, ((q4.blk hC.two id).cell 0).trans rfl⟩
    obtain ⟨r0, r1⟩ := HC.out wr (Keeps.refl _ _)
    by_cases hlt : j < m
    · have hin : i < n := by omega
      have hi1 : (i : Int) < (n : Int) := by omega
      have hi0 : (0 : Int) ≤ (i : Int) := by omega
      have hic : ¬ c - i = 0 := by omega
      have hic2 : ¬ c = i := by omega
      have hnc : n ≤ c := by omega
      have h1000 : n ≤ 1000 := by omega
      have hmin : min (2 : Int) ((n - i : Nat) : Int) = 2 := by omega
      have hni : 2 ≤ n - i := by omega
      obtain ⟨post, hpost⟩ := range_split hlt
      have hin2 : (i : Int) ≤ (n : Int) := by omega
      have hjm2 : i + 2 ≤ n := by omega
      have hjm3 : j + 1 ≤ m := hlt
      have HJ := Lib.hid (And.intro hj (And.intro ho (And.intro hi hpost)))
      clear hC hn hj ho hi hpost
      gi_wp2
      refine wpIn_region_tail_plain (fun W4 => Keeps noB wr W4) 7 hro (by kernel_rfl) (by kernel_rfl) (by kernel_rfl) (by kernel_rfl) (by kernel_rfl) (by kernel_rfl) (by decide) (by kernel_rfl) ((Keeps.refl _ _).drew) ?_
      simp only [List.take, List.drop]
      refine quiet_on (Value.int .i64 2) (fun _ _ f _ => hFf f) rfl (fun W4 q4 => ?_) (fun K hK => ?_)
      · obtain ⟨f0, f1⟩ := HC.out W4 q4
        go_simp
      go_simp
      refine hK _ ?_
      clear hK K
      refine quiet_on (Value.slice (some ⟨R, 0, none⟩) n c) (fun _ _ f _ => hFf f) rfl (fun W4 q4 => ?_) (fun K hK => ?_)
      · obtain ⟨f0, f1⟩ := HC.out W4 q4
        go_simp
      go_simp
      refine hK _ ?_
      clear hK K
      refine quiet_on (Value.int .i64 (i : Int)) (fun _ _ f _ => hFf f) rfl (fun W4 q4 => ?_) (fun K hK => ?_)
      · obtain ⟨f0, f1⟩ := HC.out W4 q4
        go_simp
      go_simp
      refine hK _ ?_
      clear hK K
      refine quiet_on (Value.slice (some ⟨R, i, none⟩) (n - i) (c - i)) (fun _ _ f _ => hFf f) rfl (fun W4 q4 => ?_) (fun K hK => ?_)
      · obtain ⟨f0, f1⟩ := HC.out W4 q4
        go_simp
      go_simp
      refine hK _ ?_
      clear hK K
      refine quiet_on (Value.int .i64 ((n - i : Nat) : Int)) (fun _ _ f _ => hFf f) rfl (fun W4 q4 => ?_) (fun K hK => ?_)
      · obtain ⟨f0, f1⟩ := HC.out W4 q4
        go_simp
      go_simp
      refine hK _ ?_
      clear hK K
      refine quiet_on (Value.int .i64 2) (fun _ _ f _ => hFf f) rfl (fun W4 q4 => ?_) (fun K hK => ?_)
      · obtain ⟨f0, f1⟩ := HC.out W4 q4
        go_simp
      go_simp
      refine hK _ ?_
      clear hK K
      refine quiet_on (Value.int .i64 2) (fun _ _ f _ => hFf f) rfl (fun W4 q4 => ?_) (fun K hK => ?_)
      · obtain ⟨f0, f1⟩ := HC.out W4 q4
        go_simp
      go_simp
      refine hK _ ?_
      clear hK K
      refine wpQuietIn_nil ?_
      intro W4 q4
      obtain ⟨f0, f1⟩ := HC.out W4 q4
      have hj4 := hJ _ _ _ _ HJ.out.1 (q4.mono (fun _ e => e.elim))
      have ho4 := HJ.out.2.1.ahead q4 (fun _ e => e.elim)
      obtain ⟨fn2, tmps2, assign2, body2, hy2, hR2⟩ := HR.out (n0 - 1) (List.range j) j post #[.slice (some ⟨R, i, none⟩) 2 2] own' W4 HJ.out.2.2.2 (by unfold encC; rw [HJ.out.2.2.1]) hj4 ho4.lt
      rw [← HF.out] at hR2
      have HO4 := Lib.hid ho4
      have e2 : (i : Int) + 2 - (i : Int) = 2 := by omega
      have e3 : ((i : Int) + 2 - (i : Int)).toNat = 2 := by omega
      have e4 : ((i : Int) + 2).toNat = i + 2 := by omega
      have hic3 : (i : Int) + 2 ≤ (c : Int) := by omega
      have hi02 : (0 : Int) ≤ (i : Int) + 2 := by omega
      have hle2 : (i : Int) ≤ (i : Int) + 2 := by omega
      clear hj4 ho4
      gi_wp2
      refine (show RoundIn F _ _ _ _ _ _ _ _ _ from hR2).mono ?_
      clear hR2 hy2
      have e5 : List.range j ++ [j] = List.range (j + 1) := List.range_succ.symm
      rintro e W1 ⟨own1, ho1, (⟨rfl, hj1⟩ | ⟨rfl, hj1⟩)⟩
      · rw [e5] at hj1
        have HE : Hid (∀ (u3 u5 u6 u7 u8 u9 u10 u11 u12 u13 u14 u15 u16 u17 u18 u19 u20 u21 u22 u23 u24 u25 u26 u27 u28 u29 u30 : Value), ChunkLoop J lb B B2 m own W { tmps := #[.func (.yield lb) #[] #[], .pointer (some ⟨B, 0, none⟩), .pointer (some ⟨B2, 0, none⟩), u3, .int .i64 ((i + 2 : Nat) : Int), u5, u6, u7, u8, u9, u10, u11, u12, u13, u14, u15, u16, u17, u18, u19, u20, u21, u22, u23, u24, u25, u26, u27, u28, u29, u30], defers := [] } W1) :=
          fun u3 u5 u6 u7 u8 u9 u10 u11 u12 u13 u14 u15 u16 u17 u18 u19 u20 u21 u22 u23 u24 u25 u26 u27 u28 u29 u30 => ⟨j + 1, i + 2, own1, u3, u5, u6, u7, u8, u9, u10, u11, u12, u13, u14, u15, u16, u17, u18, u19, u20, u21, u22, u23, u24, u25, u26, u27, u28, u29, u30, rfl, by rw [HJ.out.2.2.1]; omega, hjm3, hj1, HO4.out.trans ho1⟩
        have y1 := (HH.out.keeps (HO4.out.trans ho1).keeps hnB hnB2).two.cell 0
        simp at y1
        clear hj1 ho1
        gi_wp2
        refine ⟨HE.out _ _ _ _ _ _ _ _ _ _ _ _ _ _ _ _ _ _ _ _ _ _ _ _ _ _ _, ?_⟩
        simp [intOf]; omega
      · have HE : Hid (∀ W', Keeps (fun k => k ∈ []) W1 W' → IterEnds J Jx (List.range m) own W (.returned (.tuple #[])) W') := by
          intro W' q
          refine ⟨_, own1, rfl, (HO4.out.trans ho1).ahead q (fun i e => by cases e), .inr ⟨List.range j ++ [j], post, by rw [HJ.out.2.2.2]; simp, hJx _ _ _ _ hj1 (q.mono (fun _ e => by cases e))⟩⟩
        clear hj1 ho1
        gi_wp2
        refine leaves_marks [] W1 List.nodup_nil (fun _ h => by cases h) (fun W' q _ => ?_)
        exact ⟨_, results_none rfl _ _ _, HE.out _ q⟩
    · have hjm4 : j = m := by omega
      have hin : ¬ i < n := by omega
      have hi1 : ¬ (i : Int) < (n : Int) := by omega
      have HE : Hid (∀ W', Keeps (fun k => k ∈ []) wr W' → IterEnds J Jx (List.range m) own W (.returned (.tuple #[])) W') := by
        intro W' q
        refine ⟨_, own', rfl, ho.ahead q (fun i e => by cases e), .inl ?_⟩
        rw [← hjm4]
        exact hJ _ _ _ _ hj (q.mono (fun _ e => by cases e))
      clear hj ho hC hn hi hjm4
      gi_wp2
      refine leaves_marks [] wr List.nodup_nil (fun _ h => by cases h) (fun W' q _ => ?_)
      exact ⟨_, results_none rfl _ _ _, HE.out _ q⟩

end Go.Proofs.Ytcpbkohpgchckaa

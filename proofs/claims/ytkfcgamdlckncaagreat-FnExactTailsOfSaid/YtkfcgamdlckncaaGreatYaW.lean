/-
  What a step of the program destroys unsaid.
  The program's planner: what it hands back, and what that answers.
  The program's planner: what its closure answers.
-/
import Derived.Test.YtkfcgamdlckncaaGreatPyW
import Derived.Test.YtkfcgamdlckncaaGreatVdW
import Derived.Test.YtkfcgamdlckncaaGreatVb
import Derived.Test.YtkfcgamdlckncaaGreatBw
import Derived.Test.YtkfcgamdlckncaaGreatScW
import Derived.Test.YtkfcgamdlckncaaGreatIjW
import Derived.Test.YtkfcgamdlckncaaGreatRtW
namespace Go.Proofs.YtkfcgamdlckncaaGreat
set_option linter.unusedVariables false
set_option linter.unusedSimpArgs false
open Go.RowKit

set_option maxRecDepth 100000 in
set_option maxHeartbeats 4000000 in
theorem unsaid_val (g : Nat) (c t u : UInt8) (ht : ltr t) (sv : ByteArray) (dv : Int) (w : World) (h2 : w.cell? ⟨g, 2, none⟩ = some (.int .u8 (c.toNat : Int))) (h3 : w.cell? ⟨g, 3, none⟩ = some (.int .u8 (t.toNat : Int))) (hg : g < w.heap.size) (r : ByteArray)
    (hc : ((c = 43 ∨ c = 61) ∧ r = ⟨#[t]⟩) ∨ ((c = 126 ∨ c = 46 ∨ c = 45) ∧ r = ⟨#[]⟩)) :
    Calls Tryz.prog 48 #[.agg #[.iface 141 (.pointer (some ⟨g, 0, none⟩)), .string sv, .int .i64 dv]] w (fun e w' => e = .returned (.string r) ∧ Keeps noB w w') := by
  have a0 := isVV (.pointer (some ⟨g, 0, none⟩))
  have hcv := fun W => conv_letter W ht
  unfold str at hcv
  have hne : ¬ g = w.heap.size := by omega
  rcases hc with ⟨rfl | rfl, rfl⟩ | ⟨rfl | rfl | rfl, rfl⟩
  all_goals
    go_enter Tryz.func48, Tryz.ntmps48
    go_wp2_with fail
    go_ret
    exact ⟨rfl, (Keeps.refl _ _).alloc _⟩

set_option maxRecDepth 100000 in
set_option maxHeartbeats 4000000 in
theorem unsaid_leave (g : Nat) (sv : ByteArray) (dv : Int) (w : World) :
    Calls Tryz.prog 48 #[.agg #[.iface 107 (.pointer (some ⟨g, 0, none⟩)), .string sv, .int .i64 dv]] w (fun e w' => e = .returned (.string sv) ∧ Keeps noB w w') := by
  have a0 := isLV (.pointer (some ⟨g, 0, none⟩))
  have a1 := isLL (.pointer (some ⟨g, 0, none⟩))
  go_enter Tryz.func48, Tryz.ntmps48
  go_wp2_with fail
  go_ret
  exact ⟨rfl, (Keeps.refl _ _).alloc _⟩

set_option maxRecDepth 100000 in
set_option maxHeartbeats 4000000 in
theorem unsaid_oth (g : Nat) (ty : TypeId) (sv : ByteArray) (dv : Int) (w : World) (ht : ty = 150 ∨ ty = 64 ∨ ty = 145) :
    Calls Tryz.prog 48 #[.agg #[.iface ty (.pointer (some ⟨g, 0, none⟩)), .string sv, .int .i64 dv]] w (fun e w' => e = .returned (.string ⟨#[]⟩) ∧ Keeps noB w w') := by
  have a1 := isOV (.pointer (some ⟨g, 0, none⟩))
  have a2 := isSV (.pointer (some ⟨g, 0, none⟩))
  have a3 := isBV (.pointer (some ⟨g, 0, none⟩))
  have b1 := isOL (.pointer (some ⟨g, 0, none⟩))
  have b2 := isSL (.pointer (some ⟨g, 0, none⟩))
  have b3 := isBL (.pointer (some ⟨g, 0, none⟩))
  rcases ht with rfl | rfl | rfl
  all_goals
    go_enter Tryz.func48, Tryz.ntmps48
    go_wp2_with fail
    go_ret
    exact ⟨rfl, (Keeps.refl _ _).alloc _⟩

theorem unsaidBy_any {W : World} {z : Nd} {ty : TypeId} {g : Nat} (h : StepIs W z ty g) (hg : g < W.heap.size) (hl : ∀ v ∈ z.vars, ltr v) (dv : Int) :
    Calls Tryz.prog 48 #[.agg #[.iface ty (.pointer (some ⟨g, 0, none⟩)), .string ⟨z.scope.toArray⟩, .int .i64 dv]] W (fun e w' => e = .returned (.string ⟨(unsaidN z).toArray⟩) ∧ Keeps noB W w') := by
  rcases h.tys with rfl | ⟨rfl, hk⟩ | ⟨ht, hk⟩ | ⟨ht, hk⟩ | ⟨ht, hk⟩
  · obtain ⟨c, t, u, hk, h2, h3, h4, hv⟩ := h.val rfl
    have ht : ltr t := by
      rcases hv with ⟨_, hv⟩ | ⟨_, hv⟩ <;> exact hl t (by rw [hv]; simp)
    refine unsaid_val g c t u ht _ dv W h2 h3 hg _ ?_
    unfold unsaidN
    rw [hk]
    rcases hv with ⟨rfl | rfl | rfl | rfl, hv⟩ | ⟨rfl, hv⟩ <;> rw [hv] <;> simp
  · have e : unsaidN z = z.scope := by unfold unsaidN; rcases hk with hk | hk <;> rw [hk] <;> simp
    rw [e]; exact unsaid_leave g _ dv W
  · have e : unsaidN z = [] := by unfold unsaidN; rw [hk]; simp
    rw [e]; exact unsaid_oth g ty _ dv W (.inl ht)
  · have e : unsaidN z = [] := by unfold unsaidN; rw [hk]; simp
    rw [e]; exact unsaid_oth g ty _ dv W (.inr (.inl ht))
  · have e : unsaidN z = [] := by unfold unsaidN; rw [hk]; simp
    rw [e]; exact unsaid_oth g ty _ dv W (.inr (.inr ht))

end Go.Proofs.YtkfcgamdlckncaaGreat

namespace Go.Proofs.YtkfcgamdlckncaaGreat
set_option linter.unusedVariables false
set_option linter.unusedSimpArgs false
open Go.RowKit Go.Shelf

attribute [local go_sem] Oper.semAt_some

set_option maxHeartbeats 1000000 in
theorem planner_any (k : Kn) (w : World) : Calls Tryz.prog 47 #[knV k] w
    fun e w' => e = .returned (.func (.func 68) #[] #[ptr w.heap.size]) ∧ w' = w.alloc (.cells #[.int .u8 (k.may : Int), .int .u8 (k.must : Int)] 111) := by
  unfold knV
  go_enter Tryz.func47, Tryz.ntmps47
  go_wp2
  go_ret
  exact ⟨rfl, rfl⟩

/-- What a plan says of one variable. -/
def partK (k : Kn) (v : UInt8) : List UInt8 := if hasV k.must v then [45, v] else if hasV k.may v then [126, v] else []
theorem planK_part {k : Kn} (h : k ≠ Kn.no) (vs : List UInt8) : planK k vs = vs.reverse.flatMap (partK k) := by unfold planK; rw [if_neg h]; rfl
theorem partK_len (k : Kn) (v : UInt8) : (partK k v).length ≤ 2 := by
  unfold partK; split
  · exact Nat.le_refl _
  · split
    · exact Nat.le_refl _
    · exact Nat.zero_le _

theorem backTo_take (l : List UInt8) : ∀ m : Nat, m ≤ l.length → (backTo l m).map Prod.snd = (l.take m).reverse
  | 0, _ => by simp [backTo]
  | m + 1, h => by
    have hm : m < l.length := by omega
    have e : l.take (m + 1) = l.take m ++ [l.getD m 0] := by
      rw [List.take_add_one, List.getElem?_eq_getElem hm]
      simp [List.getD, List.getElem?_eq_getElem hm]
    simp only [backTo, List.map_cons]
    rw [backTo_take l m (by omega), e, List.reverse_append]
    rfl

def partsK (k : Kn) (done : List (Nat × UInt8)) : List UInt8 := done.flatMap (fun p => partK k p.2)
theorem partsK_snoc (k : Kn) (done : List (Nat × UInt8)) (p : Nat × UInt8) : partsK k (done ++ [p]) = partsK k done ++ partK k p.2 := by
  unfold partsK; rw [List.flatMap_append]; simp
theorem partsK_len (k : Kn) : ∀ done : List (Nat × UInt8), (partsK k done).length ≤ 2 * done.length
  | [] => Nat.le_refl _
  | p :: r => by
    have h1 := partsK_len k r
    have h2 := partK_len k p.2
    have e : partsK k (p :: r) = partK k p.2 ++ partsK k r := by unfold partsK; rw [List.flatMap_cons]
    rw [e, List.length_append, List.length_cons]
    omega
theorem partsK_all (k : Kn) (h : k ≠ Kn.no) (l : List UInt8) : partsK k (backTo l l.length) = planK k l := by
  have e := backTo_take l l.length (Nat.le_refl _)
  rw [List.take_length] at e
  rw [planK_part h, ← e]
  unfold partsK
  rw [List.flatMap_map]

/-- A byte's value. -/
def byteP (c : UInt8) : Value := .int .u8 (c.toNat : Int)

/-- Bytes that a loop has gathered in the box N. -/
def BytesI (N : Nat) (w2 : World) (l : List UInt8) (own : Nat → Prop) (W' : World) : Prop :=
  Owns (oneB N) own w2 W' ∧ own N ∧ ∃ a c, Blk W' N #[.slice a l.length c] 80 ∧ W'.ownsRow 0 5 1 (.slice a l.length c) l.length (l.map byteP) ∧ ∀ g, (Value.slice a l.length c).ownBlock = some g → own g ∧ w2.heap.size ≤ g

theorem BytesI.stab {N : Nat} {w2 : World} (hN : N < w2.heap.size) {l : List UInt8} {own : Nat → Prop} {W W' : World} (h : BytesI N w2 l own W) (q : Keeps (fun k => w2.heap.size ≤ k ∧ ¬ own k) W W') : BytesI N w2 l own W' := by
  obtain ⟨h1, h2, a, c, h3, h4, h5⟩ := h
  exact ⟨h1.ahead q (fun i e => e.1), h2, a, c, q.blk h3 (fun e => by have := e.1; omega), q.ownsRow h4 (fun g hg hl e => e.2 (h5 g hg).1), h5⟩

theorem BytesI.start {N : Nat} {w2 : World} (b : Blk w2 N #[.slice none 0 0] 80) : BytesI N w2 [] (oneB N) w2 :=
  ⟨Owns.refl (by rintro k rfl; exact b.lt), rfl, none, 0, b, ⟨rfl, .inl ⟨rfl, rfl⟩⟩, fun g hg => by simp [Value.ownBlock] at hg⟩

theorem Tryz.infoB5 : (Tryz.prog.info? 5).map (fun i => (i.zero, i.size, i.bytes)) = some (some (.int .u8 0), 1, 1) := by kernel_rfl

theorem cells_two (w : World) (v u : Value) (t : TypeId) : ∀ j x, [v, u][j]? = some x → (w.alloc (.cells #[v, u] t)).cell? ((⟨w.heap.size, 0, none⟩ : Addr).add j) = some x := by
  intro j x hx
  have b := Blk.new w #[v, u] t
  match j, hx with
  | 0, hx => simp at hx; subst hx; exact (b.cell 0).trans rfl
  | 1, hx => simp at hx; subst hx; exact (b.cell 1).trans rfl
  | j + 2, hx => simp at hx

/-- Two bytes more. -/
theorem BytesI.more {N : Nat} {w2 W3 : World} {l : List UInt8} {own1 : Nat → Prop} (hN : N < w2.heap.size) (h : BytesI N w2 l own1 W3) (hl : l.length ≤ 2000) (b1 b2 : UInt8) :
    ∃ a c, (W3.alloc (.cells #[.int .u8 (b1.toNat : Int), .int .u8 (b2.toNat : Int)] 5)).cell? ⟨N, 0, none⟩ = some (.slice a l.length c) ∧ W3.cell? ⟨N, 0, none⟩ = some (.slice a l.length c) ∧
      ∃ a' c' w', (Builtin.append_ #[80, 80] 80 #[.slice a l.length c, .slice (some ⟨W3.heap.size, 0, none⟩) 2 2]).run Tryz.prog (W3.alloc (.cells #[.int .u8 (b1.toNat : Int), .int .u8 (b2.toNat : Int)] 5)) = .ok (.slice a' (l.length + 2) c') w' ∧
        w'.frozen? ⟨N, 0, none⟩ = false ∧ w'.cell? ⟨N, 0, none⟩ = some (.slice a l.length c) ∧ ∃ own', Owns own1 own' W3 (w'.setCell ⟨N, 0, none⟩ (.slice a' (l.length + 2) c')) ∧ BytesI N w2 (l ++ [b1, b2]) own' (w'.setCell ⟨N, 0, none⟩ (.slice a' (l.length + 2) c')) := by
  obtain ⟨k3, hoN, a3, c3, d3, d4, d5⟩ := h
  obtain ⟨i0, hi, hz0, hz1, hz2⟩ := info_parts Tryz.infoB5
  refine ⟨a3, c3, ((d3.alloc _).cell 0).trans rfl, (d3.cell 0).trans rfl, ?_⟩
  have d4' : (W3.alloc (.cells #[.int .u8 (b1.toNat : Int), .int .u8 (b2.toNat : Int)] 5)).ownsRow 0 5 1 (.slice a3 l.length c3) l.length (l.map byteP) :=
    ((Keeps.refl noB W3).alloc _).ownsRow d4 (fun _ _ _ => id)
  obtain ⟨v', w', hr, ho', hg', hfr⟩ := run_append_fresh (P := Tryz.prog) (W3.alloc (.cells #[.int .u8 (b1.toNat : Int), .int .u8 (b2.toNat : Int)] 5)) 80 80 5 i0 (.int .u8 0) 1 1 Tryz.underlying80 hi hz0 hz1 hz2 rfl (by omega)
    (.slice a3 l.length c3) l.length _ d4' ⟨W3.heap.size, 0, none⟩ 2 2 [.int .u8 (b1.toNat : Int), .int .u8 (b2.toNat : Int)] rfl (cells_two W3 _ _ _) (fun u hu => by simp at hu; rcases hu with rfl | rfl <;> rfl) (by unfold maxLen; omega) (by omega)
  have hNl : N < W3.heap.size := d3.lt
  have hs3 := k3.keeps.size
  have hNw : w'.heap[N]? = W3.heap[N]? := (hg'.block N (by simp; omega) (fun e => by have := (d5 N e.symm).2; omega)).trans (Below.heap_alloc _ _ _ hNl)
  have b4 : Blk w' N #[.slice a3 l.length c3] 80 := hNw.trans d3
  obtain ⟨a', c', rfl⟩ := row_shape (ok := fun _ => True) ⟨ho', fun _ _ => trivial⟩
  refine ⟨a', c', w', hr, b4.free 0, (b4.cell 0).trans rfl, ?_⟩
  have hkA : Keeps own1 W3 w' := ((Keeps.refl _ W3).alloc _).grown hg' (fun k e => .inl (d5 k e).1)
  have hkB : Keeps own1 W3 (w'.setCell ⟨N, 0, none⟩ (.slice a' (l.length + 2) c')) := hkA.setCell (.inl hoN) _
  have hnew : ∀ k, (Value.slice a' (l.length + 2) c').ownBlock = some k → (own1 k ∨ W3.heap.size ≤ k) ∧ w2.heap.size ≤ k := by
    intro k hk
    rcases hfr with e | e
    · have := d5 k (e.symm.trans hk); exact ⟨.inl this.1, this.2⟩
    · have := e k hk; simp at this; exact ⟨.inr (by omega), by omega⟩
  have hk : Owns own1 (fun k => own1 k ∨ (Value.slice a' (l.length + 2) c').ownBlock = some k) W3 (w'.setCell ⟨N, 0, none⟩ (.slice a' (l.length + 2) c')) := by
    refine ⟨fun k e => e.elim .inl (fun e => (hnew k e).1), fun k e => ?_, hkB⟩
    rcases e with e | e
    · exact Nat.lt_of_lt_of_le (k3.lt k e) hkB.size
    · simpa [World.setCell] using (ho'.lt k e).2
  refine ⟨_, hk, k3.trans hk, .inl hoN, a', c', ?_, ?_, ?_⟩
  · have e := b4.set 0 (.slice a' (l.length + 2) c')
    rw [List.length_append]
    simpa using e
  · have e := ((Keeps.refl (oneB N) w').setCell (p := ⟨N, 0, none⟩) (.inl rfl) (.slice a' (l.length + 2) c')).ownsRow ho' (fun k hk hl e => by have : k = N := e; have := (hnew k hk).2; omega)
    rw [List.length_append, List.map_append]
    exact e
  · intro k hk
    rw [List.length_append] at hk
    exact ⟨.inr hk, (hnew k hk).2⟩

end Go.Proofs.YtkfcgamdlckncaaGreat

namespace Go.Proofs.YtkfcgamdlckncaaGreat
set_option linter.unusedVariables false
set_option linter.unusedSimpArgs false
open Go.RowKit Go.Shelf

attribute [local go_sem] Oper.semAt_some

theorem resPlan (W : World) (x : ByteArray) (tmps : Array Value) (h : tmps.getD 3 undef = .string x) : (results Tryz.f68 tmps).run Tryz.prog W = .ok (.string x) W := by
  have h' : tmps[3]?.getD undef = .string x := by simpa using h
  simp [results, Tryz.results68, go_sem, h']

/-- Bytes as a text. -/
theorem conv_bytesP (W : World) (v : Value) (l : List UInt8) (h : W.ownsRow 0 5 1 v l.length (l.map byteP)) : (convert 80 9 v).run Tryz.prog W = .ok (.string ⟨l.toArray⟩) W := by
  have h2 := h.2
  rcases h2 with ⟨rfl, h0⟩ | ⟨g, cap, cur, rfl, _⟩
  · have hl : l = [] := List.length_eq_zero_iff.1 h0
    subst hl
    rw [run_convert_bytes_string W 80 9 5 none 0 0 Tryz.underlying80 Tryz.underlying5 Tryz.underlying9]
    rfl
  · refine run_convert_bytes_back W 80 9 5 ⟨g, 0, none⟩ cap l Tryz.underlying80 Tryz.underlying5 Tryz.underlying9 (fun j hj => ?_)
    exact h.cells rfl j _ (by rw [List.getElem?_map, List.getElem?_eq_getElem hj]; rfl)

set_option maxRecDepth 100000 in
set_option maxHeartbeats 4000000 in
theorem plan_any (k : Kn) (hk : k.Wf) (vs : List UInt8) (hv : ∀ v ∈ vs, ltr v) (hn : vs.length ≤ 100) (K : Nat) (w : World) (hb : Blk w K #[.int .u8 (k.may : Int), .int .u8 (k.must : Int)] 111) :
    Calls Tryz.prog 68 #[.string ⟨vs.toArray⟩, ptr K] w (fun e w' => e = .returned (.string ⟨(planK k vs).toArray⟩) ∧ Keeps noB w w') := by
  refine (callsIn_wide (n := 9)).1 ?_
  obtain ⟨F, hF⟩ : ∃ F, F = Fence.wide := ⟨_, rfl⟩
  have hFf : ∀ f, F.fn f := by subst hF; exact fun _ => trivial
  have hdd : ∀ k : Nat, (F.depth.isSome = true → 1 ≤ k) := by subst hF; intro k h; simp [Fence.wide] at h
  have hro : F.round = none := by subst hF; rfl
  have hds : F.depth.isSome = false := by subst hF; rfl
  have HB : Hid (∀ m a n c w, CallsIn F m Tryz.prog 69 #[.slice a n c] w (fun e w' => e = .returned (.func (.func 91) #[] #[ptr w.heap.size]) ∧ w' = w.alloc (.cells #[.slice a n c] 80))) := fun m a n c w => by
    rw [hF]; exact callsIn_wide.2 (backward_any a n c w)
  have HI : Hid (∀ n w, CallsIn F n Tryz.prog 46 #[knV k] w (fun e w' => e = .returned (.bool (decide (k ≠ Kn.no))) ∧ Keeps noB w w')) := fun n w => by
    rw [hF]; exact callsIn_wide.2 (isReached_any k w)
  have HM : Hid (∀ n v w, ltr v → CallsIn F n Tryz.prog 70 #[.int .u8 (k.must : Int), .int .u8 (v.toNat : Int)] w (fun e w' => e = .returned (.bool (hasV k.must v)) ∧ w' = w)) := fun n v w hv => by
    rw [hF]; exact callsIn_wide.2 (has_any hk.must hv w)
  have HA : Hid (∀ n v w, ltr v → CallsIn F n Tryz.prog 70 #[.int .u8 (k.may : Int), .int .u8 (v.toNat : Int)] w (fun e w' => e = .returned (.bool (hasV k.may v)) ∧ w' = w)) := fun n v w hv => by
    rw [hF]; exact callsIn_wide.2 (has_any hk.may hv w)
  rw [← hF]
  have HF := Lib.hid hF
  clear hF hk
  have HBK := Lib.hid hb
  have hKl := hb.lt
  have c0 : w.cell? ⟨K, 0, none⟩ = some (.int .u8 (k.may : Int)) := (hb.cell 0).trans rfl
  have c1 : w.cell? ⟨K, 1, none⟩ = some (.int .u8 (k.must : Int)) := (hb.cell 1).trans rfl
  clear hb
  refine callsIn_of_wp_marks Tryz.func68 rfl (hFf _) ?_ hro
  simp only [Tryz.ntmps68, List.size_toArray, List.length_cons, List.length_nil, Nat.reduceAdd, Nat.reduceSub, Array.replicate_succ, Array.replicate_zero, List.push_toArray, List.append_toArray, List.nil_append, List.cons_append]
  unfold knV at HI
  unfold ptr
  by_cases hno : k = Kn.no
  · have hd : decide (k ≠ Kn.no) = false := by simp [hno]
    rw [hd] at HI
    have HP : Hid (planK k vs = []) := by unfold planK; rw [if_pos hno]; exact rfl
    clear hno hd
    gi_wp2
    refine (HI.out _ _).mono ?_
    rintro e w1 ⟨rfl, q1⟩
    gi_wp2
    refine leaves_marks [] _ List.nodup_nil (fun _ h => by cases h) (fun W' q _ => ?_)
    refine ⟨_, resPlan W' ⟨#[]⟩ _ rfl, ?_⟩
    rw [HP.out]
    exact ⟨rfl, q1.trans (q.mono (fun _ e => by cases e))⟩
  · have hd : decide (k ≠ Kn.no) = true := by simp [hno]
    rw [hd] at HI
    have HPA := Lib.hid (partsK_all k hno vs)
    clear hno hd
    obtain ⟨ls, hls⟩ : ∃ ls : ByteArray, ls = ⟨vs.toArray⟩ := ⟨_, rfl⟩
    rw [← hls]
    have hlz : ls.size = vs.length := by rw [hls]; simp [ByteArray.size]
    have hld : ls.data.toList = vs := by rw [hls]
    clear hls
    gi_wp2
    refine (HI.out _ _).mono ?_
    rintro e w1 ⟨rfl, q1⟩
    have k0 : Keeps noB w (w1.alloc (.cells #[.slice none 0 0] 80)) := q1.alloc _
    have bN := Blk.new w1 #[.slice none 0 0] 80
    have hs1 : (w1.alloc (.cells #[.slice none 0 0] 80)).heap.size = w1.heap.size + 1 := by simp
    obtain ⟨C, W2, hcv, hk2, hs2, hC, hce⟩ := bytes_own (w1.alloc (.cells #[.slice none 0 0] 80)) ls (by omega)
    rw [hs1] at hcv hs2 hce
    have hW1 := q1.size
    have HS := Lib.hid (And.intro hs2 (And.intro hC (And.intro hce (And.intro hlz (And.intro hld hW1)))))
    have HK := Lib.hid (And.intro (hk2.blk bN id) (k0.trans hk2))
    clear q1 k0 bN hs1 hs2 hC hce hlz hld hk2 hW1
    gi_wp2
    refine (HB.out _ _ _ _ _).mono ?_
    rintro e w3 ⟨rfl, rfl⟩
    obtain ⟨w3, hw3⟩ : ∃ w3, w3 = W2.alloc (.cells #[.slice (some ⟨w1.heap.size + 1, 0, none⟩) ls.size C] 80) := ⟨_, rfl⟩
    rw [← hw3]
    have q3 : Keeps noB W2 w3 := by rw [hw3]; exact (Keeps.refl _ _).alloc _
    have b3 : Blk w3 W2.heap.size #[.slice (some ⟨w1.heap.size + 1, 0, none⟩) ls.size C] 80 := by rw [hw3]; exact Blk.new _ _ _
    have hs3 : w3.heap.size = W2.heap.size + 1 := by rw [hw3]; simp
    have bN3 := q3.blk HK.out.1 id
    have k3 : Keeps noB w w3 := HK.out.2.trans q3
    have hA0 : BackAt w3 W2.heap.size (w1.heap.size + 1) ls.size C vs := by
      obtain ⟨h1, h2, h3, h4, h5, h6⟩ := HS.out
      refine ⟨b3, h4.symm, h2, by omega, fun i hi => ?_⟩
      have e := (q3.cell (p := ⟨w1.heap.size + 1, i, none⟩) (show w1.heap.size + 1 < W2.heap.size by omega) id).trans (h3 i hi)
      rw [h5] at e
      exact e
    obtain ⟨hsw, _, _, hsl, _, hW1⟩ := HS.out
    rw [hsw] at hA0 hs3
    rw [hsl] at hA0
    have HAA := Lib.hid hA0
    have HK3 := Lib.hid (And.intro k3 (k3.blk HBK.out id))
    have HBN := Lib.hid bN3
    clear hw3 hA0 b3 k3 hcv q3
    gi_wp2
    obtain ⟨N, hN⟩ : ∃ N, N = w1.heap.size := ⟨_, rfl⟩
    rw [← hN] at hs3 hW1 bN3 ⊢
    have HZ := Lib.hid (And.intro hs3 (And.intro hW1 hN))
    clear hsl hsw hN
    refine wp_range HF.out (gf := 91) (lb := #[ptr (N + 1 + 1)]) (all := backTo vs vs.length) (enc := encB) (prot := fun k => k = N + 1 + 1 ∨ k = N + 1) (own := oneB N)
      rfl (enters_of Tryz.func91 (by kernel_rfl) rfl) (fun W q => by have h := back_iter W _ _ _ C vs (HAA.out.keeps q) (by omega); rw [← HZ.out.2.2] at h; exact h) (fun pre own W' => BytesI N w3 (partsK k pre) own W') (fun _ _ _ _ => False) ?hI ?hIx ?hown ?hprot ?hps ?h0 ?hround ?hdone ?hstop
    case hI => intro pre own W W' h q; exact h.stab (by omega) q
    case hIx => rintro c pre own W W' h q; exact h
    case hown => rintro k rfl; omega
    case hprot => rintro k (rfl | rfl) <;> exact ⟨fun e => by have e : _ = N := e; omega, by omega⟩
    case hps => rintro y args rfl; rfl
    case h0 => exact BytesI.start bN3
    case hround =>
      rintro l n pre p post args own1 W1 hall rfl hI hlt hl hnl hll
      have hpm : p.2 ∈ vs := by
        have h1 : p.2 ∈ (backTo vs vs.length).map Prod.snd := by rw [hall]; simp
        rw [backTo_take vs vs.length (Nat.le_refl _), List.take_length, List.mem_reverse] at h1
        exact h1
      have hpl : (partsK k pre).length ≤ 200 := by
        have h1 := congrArg List.length (backTo_take vs vs.length (Nat.le_refl _))
        rw [hall] at h1
        simp at h1
        have h2 := partsK_len k pre
        omega
      have hlv := hv _ hpm
      have hsn := partsK_snoc k pre p
      have HSN := Lib.hid hsn
      clear hsn hall
      gi_wp2
      refine ⟨Keeps.refl _ _, fun W3 q3 hs3 => ?_⟩
      have hk13 : Keeps (fun k => w3.heap.size ≤ k ∧ ¬ own1 k) W1 W3 := q3.mono (fun k e => by obtain rfl : k = l := e; exact ⟨hl, hnl⟩)
      have I3 := BytesI.stab (by omega) hI hk13
      have k31 := I3.1.keeps
      have bK := k31.blk HK3.out.2 (fun e => by have : K = N := e; omega)
      have r0 := bK.cell 0
      have r1 := bK.cell 1
      simp at r0 r1
      have HI3 := Lib.hid I3
      have HSM := HSN
      unfold partK at HSM
      have HO : Hid (∀ k, own1 k → k < W3.heap.size) := fun k h => by have := hlt k h; omega
      clear hs3
      clear hI hk13 k31 bK I3 HAA HBN bN3 HK HS
      gi_wp2
      refine CallsIn.mono (CallsIn.inRound l (HM.out _ _ _ hlv)) ?_
      rintro e w4 ⟨rfl, rfl⟩
      by_cases hm : hasV k.must p.2 = true
      · rw [hm]
        rw [if_pos hm] at HSM
        clear hm
        obtain ⟨a, c, y4, y6, a', c', w', hr, z4, y5, own', ho, hI'⟩ := HI3.out.more (by omega) (by omega) 45 p.2
        have HE : Hid (∃ own', Owns own1 own' _ (w'.setCell ⟨N, 0, none⟩ (.slice a' ((partsK k pre).length + 2) c')) ∧ BytesI N w3 (partsK k (pre ++ [p])) own' (w'.setCell ⟨N, 0, none⟩ (.slice a' ((partsK k pre).length + 2) c'))) := ⟨own', ho, by rw [HSM.out]; exact hI'⟩
        clear hI' ho
        have e45 : (((45 : UInt8).toNat : Nat) : Int) = 45 := rfl
        rw [e45] at hr y4
        gi_wp2_with (gi_at_builtin; refine wpListIn_append_run _ rfl _ _ _ _ rfl _ _ rfl rfl _ _ hr ?_)
        exact HE.out
      · have hm' : hasV k.must p.2 = false := by simpa using hm
        rw [hm']
        rw [if_neg hm] at HSM
        clear hm hm'
        gi_wp2
        refine CallsIn.mono (CallsIn.inRound l (HA.out _ _ _ hlv)) ?_
        rintro e w5 ⟨rfl, rfl⟩
        by_cases hm : hasV k.may p.2 = true
        · rw [hm]
          rw [if_pos hm] at HSM
          clear hm
          obtain ⟨a, c, y4, y6, a', c', w', hr, z4, y5, own', ho, hI'⟩ := HI3.out.more (by omega) (by omega) 126 p.2
          have HE : Hid (∃ own', Owns own1 own' _ (w'.setCell ⟨N, 0, none⟩ (.slice a' ((partsK k pre).length + 2) c')) ∧ BytesI N w3 (partsK k (pre ++ [p])) own' (w'.setCell ⟨N, 0, none⟩ (.slice a' ((partsK k pre).length + 2) c'))) := ⟨own', ho, by rw [HSM.out]; exact hI'⟩
          clear hI' ho
          have e45 : (((126 : UInt8).toNat : Nat) : Int) = 126 := rfl
          rw [e45] at hr y4
          gi_wp2_with (gi_at_builtin; refine wpListIn_append_run _ rfl _ _ _ _ rfl _ _ rfl rfl _ _ hr ?_)
          exact HE.out
        · have hm' : hasV k.may p.2 = false := by simpa using hm
          rw [hm']
          rw [if_neg hm] at HSM
          clear hm hm'
          have HE : Hid (∃ own', Owns own1 own' w5 w5 ∧ BytesI N w3 (partsK k (pre ++ [p])) own' w5) := ⟨own1, Owns.refl HO.out, by rw [HSM.out, List.append_nil]; exact HI3.out⟩
          gi_wp2
          exact HE.out
    case hdone =>
      rintro D own' W' hbeh hI
      obtain ⟨hw, ho, a, c, d3, d4, d5⟩ := hI
      have r0 := d3.cell 0
      simp at r0
      have hcv := conv_bytesP W' _ _ d4
      have HD := Lib.hid hbeh.none
      have HN := Lib.hid (And.intro hbeh.new HK3.out.1.size)
      have HE : Hid (Keeps noB w W') := HK3.out.1.transNew hw.keeps (fun i hi e => by have : i = N := e; omega)
      rw [HPA.out] at hcv r0
      clear hbeh hw ho d3 d4 d5 HAA HBN bN3 HK HS
      dsimp only
      gi_wp2
      refine leaves_marks [D] _ (by simp) (fun D' hD' => by simp at hD'; subst hD'; exact HD.out) (fun W2 q _ => ?_)
      refine ⟨_, resPlan W2 _ _ rfl, rfl, HE.out.transNew q (fun i hi e => ?_)⟩
      simp at e
      obtain ⟨h1, h2⟩ := HN.out
      omega
    case hstop => intro D c pre post own' W' _ _ h; exact h.elim

end Go.Proofs.YtkfcgamdlckncaaGreat

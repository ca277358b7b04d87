/-
  Walks of the program: DepthOf.
-/
import Derived.Test.YtaaphpcbiibpcaaIy
import Derived.Test.YtaaphpcbiibpcaaEg
namespace Go.Proofs.Ytaaphpcbiibpcaa
set_option linter.unusedVariables false
set_option linter.unusedSimpArgs false
open Go.RowKit Go.Shelf

attribute [local go_sem] Oper.semAt_some

/-- How many scopes lie within each other at the deepest of some places that is a scope. -/
def depthL : List PN → Nat
  | [] => 0
  | p :: r => max (if p.1.kind = 123 then p.2 + 1 else 0) (depthL r)

theorem depthL_app : ∀ x y : List PN, depthL (x ++ y) = max (depthL x) (depthL y)
  | [], y => by simp [depthL]
  | p :: r, y => by simp only [List.cons_append, depthL, depthL_app r y]; omega

theorem depth_max {a b x y d : Nat} (h : a = if x = 0 then 0 else d + x) (k : b = if y = 0 then 0 else d + y) : max a b = if max x y = 0 then 0 else d + max x y := by
  subst h k
  by_cases hx : x = 0
  · by_cases hy : y = 0
    · rw [if_pos hx, if_pos hy, if_pos (show max x y = 0 by omega)]; rfl
    · rw [if_pos hx, if_neg hy, if_neg (show ¬ max x y = 0 by omega)]; omega
  · by_cases hy : y = 0
    · rw [if_neg hx, if_pos hy, if_neg (show ¬ max x y = 0 by omega)]; omega
    · rw [if_neg hx, if_neg hy, if_neg (show ¬ max x y = 0 by omega)]; omega

theorem depth_scope {a n d : Nat} (h : a = if n = 0 then 0 else d + 1 + n) : max (d + 1) a = if n + 1 = 0 then 0 else d + (n + 1) := by
  rw [if_neg (show ¬ n + 1 = 0 by omega)]
  by_cases hn : n = 0
  · rw [if_pos hn] at h; omega
  · rw [if_neg hn] at h; omega

mutual
theorem Nd.depthL_eq : ∀ (x : Nd) (d : Nat), depthL (x.preD d) = if x.depth = 0 then 0 else d + x.depth
  | .mk c k e vs ar bs, d => by
    have h0 := Bds.depthL_eq bs (inD c d)
    have e1 : depthL ((Nd.mk c k e vs ar bs).preD d) = max (if c = 123 then d + 1 else 0) (depthL (bs.preD (inD c d))) := rfl
    have e2 : (Nd.mk c k e vs ar bs).depth = bs.depth + if c = 123 then 1 else 0 := rfl
    rw [e1]
    by_cases h : c = 123
    · have e3 : inD c d = d + 1 := if_pos h
      have e4 : (Nd.mk c k e vs ar bs).depth = bs.depth + 1 := by rw [e2, if_pos h]
      rw [if_pos h, e4]
      rw [e3] at h0 ⊢
      exact depth_scope h0
    · have e3 : inD c d = d := if_neg h
      have e4 : (Nd.mk c k e vs ar bs).depth = bs.depth := by rw [e2, if_neg h]; rfl
      rw [if_neg h, e4]
      rw [e3] at h0 ⊢
      rw [h0, Nat.zero_max]
theorem Nds.depthL_eq : ∀ (x : Nds) (d : Nat), depthL (x.preD d) = if x.depth = 0 then 0 else d + x.depth
  | .nil, _ => rfl
  | .cons x r, d => by
    simp only [Nds.preD, depthL_app, Nds.depth]
    exact depth_max (Nd.depthL_eq x d) (Nds.depthL_eq r d)
theorem Bds.depthL_eq : ∀ (x : Bds) (d : Nat), depthL (x.preD d) = if x.depth = 0 then 0 else d + x.depth
  | .nil, _ => rfl
  | .cons x r, d => by
    simp only [Bds.preD, depthL_app, Bds.depth]
    exact depth_max (Nds.depthL_eq x d) (Bds.depthL_eq r d)
end

theorem depthL_root (x : Nd) : depthL (x.preD 0) = x.depth := by
  rw [Nd.depthL_eq]; split <;> omega

def DepthPost (w : World) (n : Int) (e : Ending) (w' : World) : Prop := e = .returned (.int .i64 n) ∧ Keeps noB w w'

theorem resDepth (W : World) (n : Int) (tmps : Array Value) (ht : tmps.getD 2 undef = .int .i64 n) : (results Try.f20 tmps).run Try.prog W = .ok (.int .i64 n) W := by
  have ht' : tmps[2]?.getD undef = .int .i64 n := by simpa using ht
  simp [results, Try.results20, go_sem, ht']

set_option maxRecDepth 100000 in
set_option maxHeartbeats 4000000 in
theorem depth_none (s : ByteArray) (hs : s.size ≤ 1048576) (hp : progP s = none) (w : World) : Calls Try.prog 20 #[.string s] w (DepthPost w (-1)) := by
  refine (callsIn_wide (n := 9)).1 ?_
  obtain ⟨F, hF⟩ : ∃ F, F = Fence.wide := ⟨_, rfl⟩
  have hFf : ∀ f, F.fn f := by subst hF; exact fun _ => trivial
  have hdd : ∀ k : Nat, (F.depth.isSome = true → 1 ≤ k) := by subst hF; intro k h; simp [Fence.wide] at h
  have hro : F.round = none := by subst hF; rfl
  have hds : F.depth.isSome = false := by subst hF; rfl
  have HC : Hid (∀ m w, CallsIn F m Try.prog 47 #[.string s] w (PlacesPost s w none)) := fun m w => by
    rw [hF]; exact callsIn_wide.2 (places_none s hs hp w)
  rw [← hF]
  clear hF
  refine callsIn_of_wp_marks Try.func20 rfl (hFf _) ?_ hro
  simp only [Try.ntmps20, List.size_toArray, List.length_cons, List.length_nil, Nat.reduceAdd, Nat.reduceSub, Array.replicate_succ, Array.replicate_zero, List.push_toArray, List.append_toArray, List.nil_append, List.cons_append]
  gi_wp2
  refine (HC.out _ _).mono ?_
  rintro e w1 ⟨rfl, q1⟩
  gi_wp2
  refine leaves_marks [] _ List.nodup_nil (fun _ h => by cases h) (fun W' q _ => ?_)
  exact ⟨_, resDepth W' (-1) _ rfl, rfl, q1.trans (q.mono (fun _ e => by cases e))⟩

/-- What the loop over the places has found; N: the number's block. -/
def DepthI (N : Nat) (w2 : World) (pre : List PN) (own : Nat → Prop) (W' : World) : Prop :=
  own = oneB N ∧ Owns (oneB N) own w2 W' ∧ Blk W' N #[.int .i64 (depthL pre : Int)] 3

theorem depthL_snoc (pre : List PN) (p : PN) : depthL (pre ++ [p]) = max (depthL pre) (if p.1.kind = 123 then p.2 + 1 else 0) := by
  rw [depthL_app]; simp [depthL]

set_option maxRecDepth 100000 in
set_option maxHeartbeats 4000000 in
theorem depth_some (s : ByteArray) (hs : s.size ≤ 1048576) (x : Nd) (hp : progP s = some x) (w : World) : Calls Try.prog 20 #[.string s] w (DepthPost w x.depth) := by
  refine (callsIn_wide (n := 9)).1 ?_
  obtain ⟨F, hF⟩ : ∃ F, F = Fence.wide := ⟨_, rfl⟩
  have hFf : ∀ f, F.fn f := by subst hF; exact fun _ => trivial
  have hdd : ∀ k : Nat, (F.depth.isSome = true → 1 ≤ k) := by subst hF; intro k h; simp [Fence.wide] at h
  have hro : F.round = none := by subst hF; rfl
  have hds : F.depth.isSome = false := by subst hF; rfl
  have HC : Hid (∀ m w, CallsIn F m Try.prog 47 #[.string s] w (PlacesPost s w (some x))) := fun m w => by
    rw [hF]; exact callsIn_wide.2 (places_some s hs x hp w)
  rw [← hF]
  have HF := Lib.hid hF
  clear hF hp
  refine callsIn_of_wp_marks Try.func20 rfl (hFf _) ?_ hro
  simp only [Try.ntmps20, List.size_toArray, List.length_cons, List.length_nil, Nat.reduceAdd, Nat.reduceSub, Array.replicate_succ, Array.replicate_zero, List.push_toArray, List.append_toArray, List.nil_append, List.cons_append]
  gi_wp2
  refine (HC.out _ _).mono ?_
  rintro e w1 ⟨B, rfl, hpl, q1⟩
  have HQ := Lib.hid q1
  have hM1 := q1.size
  obtain ⟨M, hM⟩ : ∃ M, M = w.heap.size := ⟨_, rfl⟩
  rw [← hM] at hpl hM1
  have HM := Lib.hid hM
  clear q1 hM
  gi_wp2
  have q2 : Keeps noB w1 (w1.alloc (.cells #[.int .i64 0] 3)) := (Keeps.refl _ _).alloc _
  have bN := Blk.new w1 #[.int .i64 0] 3
  have hs2 : (w1.alloc (.cells #[.int .i64 0] 3)).heap.size = w1.heap.size + 1 := by simp
  generalize w1.alloc (.cells #[.int .i64 0] 3) = w2 at q2 bN hs2 ⊢
  obtain ⟨N, hN⟩ : ∃ N, N = w1.heap.size := ⟨_, rfl⟩
  rw [← hN] at bN hs2 hM1 ⊢
  have HH := Lib.hid hN
  clear hN
  have HG := Lib.hid (Nd.Ok.all x 0 hpl.ok)
  have HD := Lib.hid (depthL_root x)
  refine wp_range HF.out (gf := 85) (lb := #[ptr B]) (all := x.preD 0) (enc := encP w1 (between M w1)) (prot := between M w1) (own := oneB N)
    rfl (enters_of Try.func85 (by kernel_rfl) rfl) (fun W q => hpl.iter W (q2.trans q)) (DepthI N w2) (fun _ _ _ _ => False) ?hI ?hIx ?hown ?hprot ?hps ?h0 ?hround ?hdone ?hstop
  case hI =>
    rintro pre own W W' ⟨rfl, h3, h4⟩ q
    exact ⟨rfl, h3.ahead q (fun i e => e.1), q.blk h4 (fun e => by have := e.1; omega)⟩
  case hIx => rintro c pre own W W' h q; exact h
  case hown => rintro k rfl; omega
  case hprot => intro k hk; exact ⟨fun e => by have := hk.2; have : k = N := e; have := HH.out; omega, by have := hk.2; have := HH.out; omega⟩
  case hps => rintro y args ⟨v', rfl, _⟩; rfl
  case h0 => exact ⟨rfl, Owns.refl (by rintro k rfl; omega), bN⟩
  case hround =>
    rintro l m pre p post args own1 W1 hall henc ⟨rfl, h3, h4⟩ hlt hl hnl hll
    obtain ⟨ty, g, sv, rfl, hsv, hst, hty, hg1, hg2⟩ := enc_open henc (same_of_owns q2 h3 (fun k e => by have := e.2; intro e2; have : k = N := e2; have := HH.out; omega))
    have hpg := (HG.out p (by rw [hall]; simp)).good
    have hnext := depthL_snoc pre p
    have hdeep := hpg.deep
    obtain ⟨dk, hdk⟩ : ∃ dk, depthL pre = dk := ⟨_, rfl⟩
    rw [hdk] at h4 hnext
    clear henc hsv hst hg1 hall hdk hpg
    have h4l := h4.lt
    gi_wp2
    refine ⟨(Keeps.refl _ _).alloc _, fun W3 q3 hs3 => ?_⟩
    have hk13 : Keeps (fun k => w2.heap.size ≤ k ∧ ¬ oneB N k) W1 W3 := (((Keeps.refl noB _).alloc _).mono (fun _ e => e.elim)).trans (q3.mono (fun k e => by obtain rfl : k = l := e; exact ⟨hl, hnl⟩))
    have b5 : Blk W3 W1.heap.size #[.iface ty (.pointer (some ⟨g, 0, none⟩)), .string sv, .int .i64 (p.2 : Int)] 57 := q3.blk (Blk.new _ _ _) (show W1.heap.size ≠ l by omega)
    have b4 := hk13.blk h4 (fun e => by have := e.1; omega)
    have z4 := b4.free 0
    have y4 := b4.cell 0
    have r0 := b5.cell 0
    have r1 := b5.cell 1
    have r2 := b5.cell 2
    simp at r0 r1 r2 y4
    have HK3 : Owns (oneB N) (oneB N) w2 W3 := h3.ahead hk13 (fun i e => e.1)
    have HY1 : Hid (p.1.kind = 123 → ∃ own', Owns (oneB N) own' W3 (W3.setCell ⟨N, 0, none⟩ (.int .i64 (max (dk : Int) ((p.2 : Int) + 1)))) ∧ DepthI N w2 (pre ++ [p]) own' (W3.setCell ⟨N, 0, none⟩ (.int .i64 (max (dk : Int) ((p.2 : Int) + 1))))) := by
      intro hkk
      have hk : Owns (oneB N) (oneB N) W3 (W3.setCell ⟨N, 0, none⟩ (.int .i64 (max (dk : Int) ((p.2 : Int) + 1)))) := ⟨fun k e => .inl e, by rintro k rfl; simpa [World.setCell] using b4.lt, (Keeps.refl _ _).setCell (.inl (show oneB N N from rfl)) _⟩
      refine ⟨oneB N, hk, rfl, HK3.trans hk, ?_⟩
      have e := b4.set 0 (.int .i64 (max (dk : Int) ((p.2 : Int) + 1)))
      rw [hnext, if_pos hkk, show ((max dk (p.2 + 1) : Nat) : Int) = max (dk : Int) ((p.2 : Int) + 1) by omega]
      simpa using e
    have HY2 : Hid (p.1.kind ≠ 123 → ∃ own', Owns (oneB N) own' W3 W3 ∧ DepthI N w2 (pre ++ [p]) own' W3) := by
      intro hkk
      refine ⟨oneB N, Owns.refl (by rintro k rfl; exact b4.lt), rfl, HK3, ?_⟩
      rw [hnext, if_neg hkk, Nat.max_zero]
      exact b4
    clear HK3 b4 b5 h3 h4 hk13 bN hnext q2 q3
    have hd5 : p.1.kind = 123 → (p.2 : Int) ≤ 4 := fun e => by unfold inD at hdeep; rw [if_pos e] at hdeep; omega
    rcases hty with ⟨rfl, hk⟩ | ⟨rfl, hk⟩ | ⟨rfl, hk⟩ | ⟨rfl, hk, _⟩ | ⟨rfl, hk⟩
    · have a1 := isVS (.pointer (some ⟨g, 0, none⟩))
      have HE := Lib.hid (HY2.out (by rcases hk with h | h | h | h | h <;> rw [h] <;> decide))
      clear hk HY1 HY2 hd5 hdeep
      gi_wp2
      exact HE.out
    · have a1 := isLS (.pointer (some ⟨g, 0, none⟩))
      have HE := Lib.hid (HY2.out (by rcases hk with h | h <;> rw [h] <;> decide))
      clear hk HY1 HY2 hd5 hdeep
      gi_wp2
      exact HE.out
    · have a1 := isOS (.pointer (some ⟨g, 0, none⟩))
      have HE := Lib.hid (HY2.out (by rw [hk]; decide))
      clear hk HY1 HY2 hd5 hdeep
      gi_wp2
      exact HE.out
    · have a1 := isSS (.pointer (some ⟨g, 0, none⟩))
      have HE := Lib.hid (HY1.out hk)
      have hd6 := hd5 hk
      clear hk HY1 HY2 hd5 hdeep
      gi_wp2
      exact HE.out
    · have a1 := isBS (.pointer (some ⟨g, 0, none⟩))
      have HE := Lib.hid (HY2.out (by rw [hk]; decide))
      clear hk HY1 HY2 hd5 hdeep
      gi_wp2
      exact HE.out
  case hdone =>
    rintro D own' W' hb ⟨rfl, h3, h4⟩
    have y4 := h4.cell 0
    rw [HD.out] at y4
    simp at y4
    have HE : Hid (∀ W2, Keeps (fun k => k ∈ [D]) W' W2 → Keeps noB w W2) := by
      intro W2 q
      have hs1 := HQ.out.size
      have hNw := HH.out
      have k2 : Keeps noB w W' := (HQ.out.trans q2).transNew h3.keeps (fun i hi e => by have : i = N := e; omega)
      exact k2.transNew q (fun i hi e => by simp at e; have := hb.new; omega)
    have HD := Lib.hid hb.none
    clear h3 h4 hb
    dsimp only
    gi_wp2
    refine leaves_marks [D] _ (by simp) (fun D' hD' => by simp at hD'; subst hD'; exact HD.out) (fun W2 q _ => ?_)
    exact ⟨_, resDepth W2 _ _ rfl, rfl, HE.out _ q⟩
  case hstop => intro D c pre post own' W' _ _ h; exact h.elim

theorem depth_any (s : ByteArray) (hs : s.size ≤ 1048576) (w : World) : Calls Try.prog 20 #[.string s] w (DepthPost w (depthP s)) := by
  unfold depthP
  cases hp : progP s with
  | none => exact depth_none s hs hp w
  | some x => exact depth_some s hs x hp w

end Go.Proofs.Ytaaphpcbiibpcaa

/-
  Walks of the program: CountSteps.
-/
import Derived.Test.YtjpmeecdndnknaaJdW
import Derived.Test.YtjpmeecdndnknaaEf
import Derived.Test.YtjpmeecdndnknaaShelf
import Derived.Test.YtjpmeecdndnknaaRtW
namespace Go.Proofs.Ytjpmeecdndnknaa
set_option linter.unusedVariables false
set_option linter.unusedSimpArgs false
open Go.RowKit Go.Shelf

attribute [local go_sem] Oper.semAt_some

def ikinds : ByteArray := ⟨#[43, 61, 46, 45, 126, 94, 33, 63, 42, 123]⟩

theorem ikinds_mem (c : UInt8) : decide (0 ≤ Lib.indexByte ikinds.data.toList c) = decide (c ∈ kinds.data.toList) := by
  have h := Lib.contains_iff_indexByte ikinds.data.toList c
  rw [← h]
  rw [Bool.eq_iff_iff, List.contains_iff_mem, decide_eq_true_iff]
  simp only [ikinds, kinds, List.mem_cons, List.not_mem_nil, or_false]
  constructor <;> (rintro (h | h | h | h | h | h | h | h | h | h) <;> simp [h])

def CountPost (w : World) (n : Int) (e : Ending) (w' : World) : Prop := e = .returned (.int .i64 n) ∧ Keeps noB w w'

theorem kind_one {kind : ByteArray} (h : kind.size = 1) : ∃ c, kind = ⟨#[c]⟩ := by
  obtain ⟨⟨l⟩⟩ := kind
  match l, h with
  | [c], _ => exact ⟨c, rfl⟩

theorem res26 (W : World) (n : Int) (tmps : Array Value) (ht : tmps.getD 4 undef = .int .i64 n) : (results Try.f17 tmps).run Try.prog W = .ok (.int .i64 n) W := by
  have ht' : tmps[4]?.getD undef = .int .i64 n := by simpa using ht
  simp [results, Try.results17, go_sem, ht']

/-- Where the count is -1. -/
def NoCount (s kind : ByteArray) : Prop := progP s = none ∨ kind.size ≠ 1 ∨ ∃ c, kind = ⟨#[c]⟩ ∧ c ∉ kinds.data.toList

set_option maxRecDepth 100000 in
set_option maxHeartbeats 4000000 in
theorem count_no (s kind : ByteArray) (hs : s.size ≤ 1048576) (hk : kind.size ≤ 1048576) (hno : NoCount s kind) (w : World) : Calls Try.prog 17 #[.string s, .string kind] w (CountPost w (-1)) := by
  refine (callsIn_wide (n := 9)).1 ?_
  obtain ⟨F, hF⟩ : ∃ F, F = Fence.wide := ⟨_, rfl⟩
  have hFf : ∀ f, F.fn f := by subst hF; exact fun _ => trivial
  have hdd : ∀ k : Nat, (F.depth.isSome = true → 1 ≤ k) := by subst hF; intro k h; simp [Fence.wide] at h
  have hro : F.round = none := by subst hF; rfl
  have hds : F.depth.isSome = false := by subst hF; rfl
  have HC : Hid (∀ m w, CallsIn F m Try.prog 28 #[.string s] w (PlacesPost s w (progP s))) := fun m w => by
    rw [hF]
    refine callsIn_wide.2 ?_
    cases hp : progP s with
    | none => exact places_none s hs hp w
    | some x => exact places_some s hs x hp w
  have HK : Hid (∀ c, kind = ⟨#[c]⟩ → c ∉ kinds.data.toList → ∀ m w, CallsIn F m Try.prog 36 #[.string ikinds, .string kind] w (fun e w' => e = .returned (.bool false) ∧ w' = w)) := fun c hc hn m w => by
    rw [hF]
    refine callsIn_wide.2 ?_
    subst hc
    have := Try.strings_Contains_one ikinds c w
    rw [ikinds_mem, decide_eq_false hn] at this
    exact this
  rw [← hF]
  clear hF
  refine callsIn_of_wp_marks Try.func17 rfl (hFf _) ?_ hro
  simp only [Try.ntmps17, List.size_toArray, List.length_cons, List.length_nil, Nat.reduceAdd, Nat.reduceSub, Array.replicate_succ, Array.replicate_zero, List.push_toArray, List.append_toArray, List.nil_append, List.cons_append]
  have HB1 := Lib.hid (Blk.new w #[.string s] 9)
  have HB2 := Lib.hid (Blk.new (w.alloc (.cells #[.string s] 9)) #[.string kind] 9)
  have hlen : kind.size ≤ 9223372036854775807 := by omega
  have HNO := Lib.hid hno
  clear hno hs hk
  gi_wp2
  refine (HC.out _ _).mono ?_
  rintro e w1 hq
  cases hp : progP s with
  | none =>
    rw [hp] at hq
    obtain ⟨rfl, q1⟩ := hq
    clear hp
    gi_wp2
    refine leaves_marks [] _ List.nodup_nil (fun _ h => by cases h) (fun W' q _ => ?_)
    exact ⟨_, res26 W' (-1) _ rfl, rfl, ((((Keeps.refl noB w).alloc _).alloc _).trans q1).trans (q.mono (fun _ e => by cases e))⟩
  | some x =>
    rw [hp] at hq
    obtain ⟨B, rfl, _, q1⟩ := hq
    have HPP := Lib.hid hp
    clear hp
    have b2 := q1.blk HB2.out id
    rw [World.size_alloc] at b2
    have r2 := b2.cell 0
    simp at r2
    have HQ := Lib.hid q1
    clear q1 b2
    have hcase : kind.size ≠ 1 ∨ ∃ c, kind = ⟨#[c]⟩ ∧ c ∉ kinds.data.toList := by
      rcases HNO.out with h | h | h
      · rw [HPP.out] at h; cases h
      · exact .inl h
      · exact .inr h
    rcases hcase with h | ⟨c, hc, hm⟩
    · have e1 : ((kind.size : Int) != 1) = true := by rw [bne_iff_ne]; omega
      clear h
      gi_wp2
      refine leaves_marks [] _ List.nodup_nil (fun _ h => by cases h) (fun W' q _ => ?_)
      exact ⟨_, res26 W' (-1) _ rfl, rfl, ((((Keeps.refl noB w).alloc _).alloc _).trans HQ.out).trans (q.mono (fun _ e => by cases e))⟩
    · have HK2 := Lib.hid (HK.out c hc hm)
      have e1 : ((kind.size : Int) != 1) = false := by rw [hc]; rfl
      clear hc hm HK
      gi_wp2
      refine (HK2.out _ _).mono ?_
      rintro e w2 ⟨rfl, rfl⟩
      gi_wp2
      refine leaves_marks [] _ List.nodup_nil (fun _ h => by cases h) (fun W' q _ => ?_)
      exact ⟨_, res26 W' (-1) _ rfl, rfl, ((((Keeps.refl noB w).alloc _).alloc _).trans HQ.out).trans (q.mono (fun _ e => by cases e))⟩

/-- What the loop over the places has counted; N: the count's block. -/
def CountI (c : UInt8) (N : Nat) (w2 : World) (pre : List PN) (own : Nat → Prop) (W' : World) : Prop :=
  own = oneB N ∧ Owns (oneB N) own w2 W' ∧ Blk W' N #[.int .i64 (countK c (pre.map Prod.fst) : Int)] 3

theorem countK_snoc (c : UInt8) (pre : List PN) (p : PN) : countK c ((pre ++ [p]).map Prod.fst) = countK c (pre.map Prod.fst) + if p.1.kind = c then 1 else 0 := by
  rw [List.map_append, countK_app]; simp [countK]

set_option maxRecDepth 100000 in
set_option maxHeartbeats 4000000 in
theorem count_yes (s kind : ByteArray) (hs : s.size ≤ 1048576) (x : Nd) (hp : progP s = some x) (c : UInt8) (hkind : kind = ⟨#[c]⟩) (hm : c ∈ kinds.data.toList) (w : World) : Calls Try.prog 17 #[.string s, .string kind] w (CountPost w (countK c x.pre.list)) := by
  refine (callsIn_wide (n := 9)).1 ?_
  obtain ⟨F, hF⟩ : ∃ F, F = Fence.wide := ⟨_, rfl⟩
  have hFf : ∀ f, F.fn f := by subst hF; exact fun _ => trivial
  have hdd : ∀ k : Nat, (F.depth.isSome = true → 1 ≤ k) := by subst hF; intro k h; simp [Fence.wide] at h
  have hro : F.round = none := by subst hF; rfl
  have hds : F.depth.isSome = false := by subst hF; rfl
  have HC : Hid (∀ m w, CallsIn F m Try.prog 28 #[.string s] w (PlacesPost s w (some x))) := fun m w => by
    rw [hF]; exact callsIn_wide.2 (places_some s hs x hp w)
  have HK : Hid (∀ m w, CallsIn F m Try.prog 36 #[.string ikinds, .string kind] w (fun e w' => e = .returned (.bool true) ∧ w' = w)) := fun m w => by
    rw [hF]
    refine callsIn_wide.2 ?_
    subst hkind
    have := Try.strings_Contains_one ikinds c w
    rw [ikinds_mem, decide_eq_true hm] at this
    exact this
  rw [← hF]
  have HF := Lib.hid hF
  have hks : kind.size = 1 := by rw [hkind]; rfl
  have e1 : ((kind.size : Int) != 1) = false := by rw [hkind]; rfl
  have hk0 : 0 < kind.size := by omega
  have hkg : kind[0] = c := by subst hkind; rfl
  clear hF hp hkind
  refine callsIn_of_wp_marks Try.func17 rfl (hFf _) ?_ hro
  simp only [Try.ntmps17, List.size_toArray, List.length_cons, List.length_nil, Nat.reduceAdd, Nat.reduceSub, Array.replicate_succ, Array.replicate_zero, List.push_toArray, List.append_toArray, List.nil_append, List.cons_append]
  have HB1 := Lib.hid ((Blk.new w #[.string s] 9).alloc (.cells #[.string kind] 9))
  have HB2 := Lib.hid (Blk.new (w.alloc (.cells #[.string s] 9)) #[.string kind] 9)
  have hlen : kind.size ≤ 9223372036854775807 := by omega
  clear hks
  have HKG := Lib.hid hkg
  clear hkg
  gi_wp2
  refine (HC.out _ _).mono ?_
  rintro e w1 ⟨B, rfl, hpl, q1⟩
  have b1 := q1.blk HB1.out id
  have b2 := q1.blk HB2.out id
  rw [World.size_alloc] at b2
  obtain ⟨M, hM⟩ : ∃ M, M = w.heap.size := ⟨_, rfl⟩
  have hw : ((w.alloc (.cells #[.string s] 9)).alloc (.cells #[.string kind] 9)).heap.size = M + 2 := by rw [hM]; simp
  rw [← hM] at b1 b2 ⊢
  rw [hw] at hpl
  have HQ := Lib.hid (And.intro q1 hM)
  have hM1 := q1.size
  rw [hw] at hM1
  clear q1 hM hw
  have r1 := b1.cell 0
  have r2 := b2.cell 0
  simp at r1 r2
  gi_wp2
  refine (HK.out _ _).mono ?_
  rintro e w1' ⟨rfl, rfl⟩
  gi_wp2
  have q2 : Keeps noB w1' (w1'.alloc (.cells #[.int .i64 0] 3)) := (Keeps.refl _ _).alloc _
  have bN := Blk.new w1' #[.int .i64 0] 3
  have hs2 : (w1'.alloc (.cells #[.int .i64 0] 3)).heap.size = w1'.heap.size + 1 := by simp
  generalize w1'.alloc (.cells #[.int .i64 0] 3) = w2 at q2 bN hs2 ⊢
  obtain ⟨N, hN⟩ : ∃ N, N = w1'.heap.size := ⟨_, rfl⟩
  have hpl' := hpl.lt
  have c1 := q2.blk b1 id
  have c2 := q2.blk b2 id
  rw [← hN] at bN hs2 hM1 hpl' ⊢
  have HH := Lib.hid hN
  clear hN
  have hgood := Nd.Ok.all x 0 hpl.ok
  have hxs := hpl.small
  have hxf := hpl.few
  have hxl := Nd.preD_len x 0
  have hxfst := Nd.preD_fst x 0
  have HG := Lib.hid (And.intro hgood (And.intro hxl hxfst))
  clear r1 r2 b1 b2 hgood hxl hxfst
  refine wp_range HF.out (gf := 57) (lb := #[ptr B]) (all := x.preD 0) (enc := encP w1' (between (M + 2) w1')) (prot := between (M + 2) w1') (own := oneB N)
    rfl (enters_of Try.func57 (by kernel_rfl) rfl) (fun W q => hpl.iter W (q2.trans q)) (CountI c N w2) (fun _ _ _ _ => False) ?hI ?hIx ?hown ?hprot ?hps ?h0 ?hround ?hdone ?hstop
  case hI =>
    rintro pre own W W' ⟨rfl, h3, h4⟩ q
    exact ⟨rfl, h3.ahead q (fun i e => e.1), q.blk h4 (fun e => by have := e.1; omega)⟩
  case hIx => rintro c pre own W W' h q; exact h
  case hown => rintro k rfl; omega
  case hprot => intro k hk; exact ⟨fun e => by have := hk.2; have : k = N := e; have := HH.out; omega, by have := hk.2; have := HH.out; omega⟩
  case hps => rintro y args ⟨v', rfl, _⟩; rfl
  case h0 => exact ⟨rfl, Owns.refl (by rintro k rfl; omega), bN⟩
  case hround =>
    rintro l m pre p post args own1 W1 hall henc ⟨rfl, h3, h4⟩ hlt hl hnl hll
    obtain ⟨ty, g, sv, rfl, hsv, hst, hty, hg1, hg2⟩ := enc_open henc (same_of_owns q2 h3 (fun k e => by have := e.2; intro e2; have : k = N := e2; have := HH.out; omega))
    have hh3 := h3.keeps.size
    have hpm : p ∈ x.preD 0 := by rw [hall]; simp
    obtain ⟨HG1, HG2, HG3⟩ := HG.out
    have hpg := (HG1 p hpm).good
    have hcl := countK_le c (pre.map Prod.fst)
    have hpre : (pre.map Prod.fst).length ≤ 80 := by
      have := congrArg List.length hall
      rw [HG2] at this
      simp at this ⊢
      omega
    have hkind := hpg.kind
    have hblt : p.1.beg < s.size := at?_lt hkind
    have hget := at?_get hkind hblt
    have hbI : (p.1.beg : Int) < (s.size : Int) := by omega
    have f0 := h3.keeps.blk c1 (show M ≠ N by omega)
    have f1 := h3.keeps.blk c2 (show M + 1 ≠ N by omega)
    have hnext := countK_snoc c pre p
    obtain ⟨kc, hkc⟩ : ∃ kc, countK c (pre.map Prod.fst) = kc := ⟨_, rfl⟩
    rw [hkc] at h4 hcl hnext
    have hk80 : (kc : Int) ≤ 80 := by omega
    clear henc hsv hty hg1 HG1 HG2 HG3 hpm hpg hkind hpre hcl hall hkc
    have h4l := h4.lt
    gi_wp2
    refine ⟨(Keeps.refl _ _).alloc _, fun W3 q3 hs3 => ?_⟩
    have hk13 : Keeps (fun k => w2.heap.size ≤ k ∧ ¬ oneB N k) W1 W3 := (((Keeps.refl noB _).alloc _).mono (fun _ e => e.elim)).trans (q3.mono (fun k e => by obtain rfl : k = l := e; exact ⟨hl, hnl⟩))
    have b5 : Blk W3 W1.heap.size #[.iface ty (.pointer (some ⟨g, 0, none⟩)), .string sv, .int .i64 (p.2 : Int)] 52 := q3.blk (Blk.new _ _ _) (show W1.heap.size ≠ l by omega)
    have b4 := hk13.blk h4 (fun e => by have := e.1; omega)
    have g0 := hk13.blk f0 (fun e => by have := e.1; omega)
    have g1 := hk13.blk f1 (fun e => by have := e.1; omega)
    have z4 := b4.free 0
    have y4 := b4.cell 0
    have y5 := g0.cell 0
    have y6 := g1.cell 0
    have r0 := b5.cell 0
    have r1 := b5.cell 1
    have r2 := b5.cell 2
    have hst3 := hst.keeps hk13 (by have := q2.size; omega) (fun e => by have := e.1; have := q2.size; omega)
    have hbeg := hst3.beg
    have HBG : Hid (∀ m k, CallsIn F m Try.prog 116 #[.pointer (some ⟨g, 0, none⟩)] (W3.drewN k) (fun e w' => e = .returned (.int .i64 (p.1.beg : Int)) ∧ w' = W3.drewN k)) := fun m k => by
      rw [HF.out]; exact callsIn_wide.2 (begin_any g _ _ hst3.c0)
    have hc0 := hst3.c0
    simp [go_sem] at hbeg
    simp at r0 r1 r2 y4 y5 y6
    have hkg := HKG.out
    have HK3 : Owns (oneB N) (oneB N) w2 W3 := h3.ahead hk13 (fun i e => e.1)
    have HY1 : Hid (p.1.kind = c → ∀ nq, ∃ own', Owns (oneB N) own' W3 ((W3.drewN nq).setCell ⟨N, 0, none⟩ (.int .i64 ((kc : Int) + 1))) ∧ CountI c N w2 (pre ++ [p]) own' ((W3.drewN nq).setCell ⟨N, 0, none⟩ (.int .i64 ((kc : Int) + 1)))) := by
      intro hkk nq
      have hk : Owns (oneB N) (oneB N) W3 ((W3.drewN nq).setCell ⟨N, 0, none⟩ (.int .i64 ((kc : Int) + 1))) := ⟨fun k e => .inl e, by rintro k rfl; simpa [World.setCell] using b4.lt, ((Keeps.refl _ _).drewN nq).setCell (.inl (show oneB N N from rfl)) _⟩
      refine ⟨oneB N, hk, rfl, HK3.trans hk, ?_⟩
      have e := (show Blk (W3.drewN nq) N #[.int .i64 (kc : Int)] 3 from b4).set 0 (.int .i64 ((kc : Int) + 1))
      rw [hnext, if_pos hkk]
      simpa using e
    have HY2 : Hid (p.1.kind ≠ c → ∀ nq, ∃ own', Owns (oneB N) own' W3 (W3.drewN nq) ∧ CountI c N w2 (pre ++ [p]) own' (W3.drewN nq)) := by
      intro hkk nq
      have hk : Owns (oneB N) (oneB N) W3 (W3.drewN nq) := ⟨fun k e => .inl e, by rintro k rfl; exact b4.lt, (Keeps.refl _ _).drewN nq⟩
      refine ⟨oneB N, hk, rfl, HK3.trans hk, ?_⟩
      rw [hnext, if_neg hkk, Nat.add_zero]
      exact b4
    clear hst hst3 HK3 b4 b5 g0 g1 f0 f1 h3 h4 hk13 bN c1 c2 hnext q2 q3
    by_cases hkk : p.1.kind = c
    · have e2 : ((p.1.kind.toNat : Int) == (c.toNat : Int)) = true := by rw [hkk]; simp
      have HE := Lib.hid (HY1.out hkk)
      clear hkk HY1 HY2
      gi_wp2
      refine wpIn_region_quiet_round hro (by kernel_rfl) (by kernel_rfl) (by kernel_rfl) ?_
      repeat (gi_big_quiet_step ((refine CallsIn.quiet_of_same (HBG.out _ _))))
      refine wpQuietIn_nil ?_
      intro _ hw'
      obtain ⟨nq, hw''⟩ := hw'
      subst hw''
      gi_wp2
      exact HE.out nq
    · have e2 : ((p.1.kind.toNat : Int) == (c.toNat : Int)) = false := by
        rw [beq_eq_false_iff_ne]; intro e; exact hkk (UInt8.toNat_inj.1 (by omega))
      have HE := Lib.hid (HY2.out hkk)
      clear hkk HY1 HY2
      gi_wp2
      refine wpIn_region_quiet_round hro (by kernel_rfl) (by kernel_rfl) (by kernel_rfl) ?_
      repeat (gi_big_quiet_step ((refine CallsIn.quiet_of_same (HBG.out _ _))))
      refine wpQuietIn_nil ?_
      intro _ hw'
      obtain ⟨nq, hw''⟩ := hw'
      subst hw''
      gi_wp2
      exact HE.out nq
  case hdone =>
    rintro D own' W' hb ⟨rfl, h3, h4⟩
    have y4 := h4.cell 0
    simp at y4
    obtain ⟨HG1, HG2, HG3⟩ := HG.out
    rw [HG3] at y4
    have HE : Hid (∀ W2, Keeps (fun k => k ∈ [D]) W' W2 → Keeps noB w W2) := by
      intro W2 q
      have k1 : Keeps noB w w1' := (((Keeps.refl _ _).alloc _).alloc _).trans HQ.out.1
      have hs1 := k1.size
      have hNw := HH.out
      have k2 : Keeps noB w W' := (k1.trans q2).transNew h3.keeps (fun i hi e => by have : i = N := e; omega)
      exact k2.transNew q (fun i hi e => by simp at e; have := hb.new; omega)
    have HD := Lib.hid hb.none
    clear h3 h4 hb HG1 HG2 HG3
    dsimp only
    gi_wp2
    refine leaves_marks [D] _ (by simp) (fun D' hD' => by simp at hD'; subst hD'; exact HD.out) (fun W2 q _ => ?_)
    exact ⟨_, res26 W2 _ _ rfl, rfl, HE.out _ q⟩
  case hstop => intro D c pre post own' W' _ _ h; exact h.elim

theorem count_any (s kind : ByteArray) (hs : s.size ≤ 1048576) (hk : kind.size ≤ 1048576) (w : World) : Calls Try.prog 17 #[.string s, .string kind] w (CountPost w (countP s kind)) := by
  cases hp : progP s with
  | none =>
    have e : countP s kind = -1 := by unfold countP; rw [hp]
    rw [e]; exact count_no s kind hs hk (.inl hp) w
  | some x =>
    by_cases h1 : kind.size = 1
    · obtain ⟨c, rfl⟩ := kind_one h1
      have h0 : at? ⟨#[c]⟩ 0 = some c := by rw [at?_some (by simp [ByteArray.size])]; rfl
      by_cases hm : c ∈ kinds.data.toList
      · have e : countP s ⟨#[c]⟩ = (countK c x.pre.list : Int) := by unfold countP; rw [hp]; simp only [h0, h1, if_true, if_pos hm]
        rw [e]; exact count_yes s _ hs x hp c rfl hm w
      · have e : countP s ⟨#[c]⟩ = -1 := by unfold countP; rw [hp]; simp only [h0, h1, if_true, if_neg hm]
        rw [e]; exact count_no s _ hs hk (.inr (.inr ⟨c, rfl, hm⟩)) w
    · have e : countP s kind = -1 := by unfold countP; rw [hp]; simp only [if_neg h1]
      rw [e]; exact count_no s kind hs hk (.inr (.inl h1)) w

end Go.Proofs.Ytjpmeecdndnknaa

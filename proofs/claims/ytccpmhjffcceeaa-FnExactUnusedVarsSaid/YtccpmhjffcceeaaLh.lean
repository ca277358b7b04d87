/-
  The program's usedIn: the letters in a step and within it.
-/
import Derived.Test.YtccpmhjffcceeaaLg
import Derived.Test.YtccpmhjffcceeaaJdW
import Derived.Test.YtccpmhjffcceeaaVdW
import Derived.Test.YtccpmhjffcceeaaWqfW
import Derived.Test.YtccpmhjffcceeaaHk
namespace Go.Proofs.Ytccpmhjffcceeaa
set_option linter.unusedVariables false
set_option linter.unusedSimpArgs false
open Go.RowKit Go.Shelf

attribute [local go_sem] Oper.semAt_some

/-- Whether a step is a valueStep. -/
theorem value_any {W : World} {z : Nd} {ty : TypeId} {g : Nat} (h : StepIs W z ty g) (hb : Bare (bareN z)) : ∃ pv isv, (∀ w, (Instr.typeAssert (.iface ty (.pointer (some ⟨g, 0, none⟩))) 46 149 true).run Try.prog w = .ok (.tuple #[.pointer pv, .bool isv]) w) ∧
    ((isv = false ∧ lettersN z = []) ∨ (isv = true ∧ pv = some ⟨g, 0, none⟩ ∧ ∃ c t u, W.cell? ⟨g, 2, none⟩ = some (.int .u8 (c.toNat : Int)) ∧ W.cell? ⟨g, 3, none⟩ = some (.int .u8 (t.toNat : Int)) ∧ W.cell? ⟨g, 4, none⟩ = some (.int .u8 (u.toNat : Int)) ∧ valueText c t u = c :: lettersN z)) := by
  have hv : ∀ k : UInt8, (k = 94 ∨ k = 33 ∨ k = 42 ∨ k = 63) → z.kind = k → lettersN z = [] := fun k hk e => by
    unfold lettersN
    rw [if_neg (by rw [e]; rcases hk with rfl | rfl | rfl | rfl <;> decide)]
    exact hb.1 (by show z.kind = 94 ∨ z.kind = 33 ∨ z.kind = 42 ∨ z.kind = 63; rw [e]; exact hk)
  rcases h.tys with rfl | ⟨rfl, hk⟩ | ⟨rfl, hk⟩ | ⟨rfl, hk⟩ | ⟨rfl, hk⟩
  · obtain ⟨c, t, u, h0, h1, h2, h3, h4⟩ := h.val rfl
    refine ⟨_, _, fun w => isVV _ _, .inr ⟨rfl, rfl, c, t, u, h1, h2, h3, ?_⟩⟩
    unfold valueText lettersN
    rcases h4 with ⟨hc, hv⟩ | ⟨hc, hv⟩
    · rw [if_neg (by rcases hc with h | h | h | h <;> rw [h] <;> decide), if_neg (by rw [h0]; rcases hc with h | h | h | h <;> rw [h] <;> decide), hv]
    · rw [if_pos hc, if_neg (by rw [h0, hc]; decide), hv]
  · exact ⟨_, _, fun w => isLV _ _, .inl ⟨rfl, hk.elim (hv 94 (.inl rfl)) (hv 33 (.inr (.inl rfl)))⟩⟩
  · exact ⟨_, _, fun w => isOV _ _, .inl ⟨rfl, hv 42 (.inr (.inr (.inl rfl))) hk⟩⟩
  · exact ⟨_, _, fun w => isSV _ _, .inl ⟨rfl, by unfold lettersN; rw [if_pos hk]⟩⟩
  · exact ⟨_, _, fun w => isBV _ _, .inl ⟨rfl, hv 63 (.inr (.inr (.inr rfl))) hk⟩⟩

/-- A type assertion, where its run is known. -/
theorem wpListIn_assert_runU {F : Fence} {n : Nat} {P : Program} (w : World) {ops : Array Oper} {rest : List Oper} {o : Oper} {a : Act} {Q : Exit → Act → World → Prop} (hgd : o.guard = none) (x : Operand) (t1 t2 : TypeId) (c : Bool)
    (ho : o.op = .typeAssert x t1 t2 c) (vx : Value) (hx : a.eval x = vx) (v' : Value) (hr : (Instr.typeAssert vx t1 t2 c).run P w = .ok v' w) (h : wpListIn F n P ops Q rest (a.put o.dst v') w) : wpListIn F n P ops Q (o :: rest) a w := by
  refine wpListIn_plain hgd fun K hK => ?_
  unfold Oper.wpIn
  refine ⟨?_, ?_⟩
  · simp [Oper.about, ho]
  · rw [Oper.semAt_plain F _ _ (by rw [ho]; intro c hc; cases hc)]
    simp [execOp, ho, hx, hr, Result.andThen]
    exact hK _ _ h

/-- What the loop over the places has gathered; U: the set's block. -/
def UsedI (U : Nat) (w2 : World) (pre : List PN) (own : Nat → Prop) (W' : World) : Prop :=
  own = oneB U ∧ Owns (oneB U) own w2 W' ∧ Blk W' U #[.int .u8 (bitsV (usedLs (pre.map Prod.fst)) : Int)] 96

theorem resUsed (W : World) (v : Value) (tmps : Array Value) (h2 : tmps.getD 2 undef = v) : (results Try.f65 tmps).run Try.prog W = .ok v W := by
  have h2' : tmps[2]?.getD undef = v := by simpa using h2
  simp [results, Try.results65, go_sem, h2']

theorem cut_one (c : UInt8) (l : List UInt8) : ∀ wx, (Instr.slice 9 (.string ⟨(c :: l).toArray⟩) (some (.int .i64 1)) none none).run Try.prog wx = .ok (.string ⟨l.toArray⟩) wx := fun wx => by
  have hsz : (⟨(c :: l).toArray⟩ : ByteArray).size = l.length + 1 := by simp [ByteArray.size]
  have := run_slice_string_l (P := Try.prog) wx 9 ⟨(c :: l).toArray⟩ Try.underlying9 .i64 1 (by omega) (by rw [hsz]; omega)
  have e : (⟨(c :: l).toArray⟩ : ByteArray).extract 1 (⟨(c :: l).toArray⟩ : ByteArray).size = ⟨l.toArray⟩ := by
    apply ByteArray.ext
    apply Array.toList_inj.1
    rw [hsz]
    simp
  rw [← e]
  simpa using this

set_option maxRecDepth 100000 in
set_option maxHeartbeats 4000000 in
theorem usedIn_any (s : ByteArray) (z0 : Nd) (d : Nat) (v : Value) (w : World) (ok : Nat → Prop) (hz : z0.Ok s d) (hs : s.size ≤ 80) (hlen : z0.pre.len ≤ 200) (hbare : ∀ q ∈ z0.pre.list, Bare (bareN q)) (hrep : RepI w ok z0 v) (hok : ∀ k, ok k → k < w.heap.size) :
    Calls Try.prog 65 #[v] w (fun e w' => e = .returned (.int .u8 (bitsV (usedLs z0.pre.list) : Int)) ∧ Keeps noB w w') := by
  obtain ⟨z, hzz⟩ : ∃ z, z = z0.resc [] := ⟨_, rfl⟩
  have hZ : z.Ok s 0 := by rw [hzz]; exact Nd.resc_ok z0 [] d 0 hz (Nat.zero_le _) (Nat.zero_le _)
  have hR : RepI w (between 0 w) z v := by
    rw [hzz]
    refine Nd.resc_rep _ _ _ ((Hands.of_keeps (Keeps.refl noB w) (fun _ _ _ e => e) (fun k hk hl => ⟨Nat.zero_le _, hl⟩)).repI _ _ hrep)
  have hU : usedLs z.pre.list = usedLs z0.pre.list := by rw [hzz]; exact resc_used z0 []
  have hB : ∀ q ∈ z.pre.list, Bare (bareN q) := fun q hq => by
    have h1 : bareN q ∈ z.pre.list.map bareN := List.mem_map.2 ⟨q, hq, rfl⟩
    rw [hzz, Nd.resc_pre] at h1
    obtain ⟨q', hq', e⟩ := List.mem_map.1 h1
    rw [← e]; exact hbare q' hq'
  have hsc : z.scope = [] := by rw [hzz]; cases z0; rfl
  have hL : z.pre.len ≤ 200 := by
    have h1 : (z.pre.list.map bareN).length = (z0.pre.list.map bareN).length := by rw [hzz, Nd.resc_pre]
    rw [List.length_map, List.length_map, ← Nd.preD_fst z 0, ← Nd.preD_fst z0 0, List.length_map, List.length_map, Nd.preD_len, Nd.preD_len] at h1
    omega
  rw [← hU]
  clear hU hbare hrep hzz hz hlen
  refine (callsIn_wide (n := 9)).1 ?_
  obtain ⟨F, hF⟩ : ∃ F, F = Fence.wide := ⟨_, rfl⟩
  have hFf : ∀ f, F.fn f := by subst hF; exact fun _ => trivial
  have hdd : ∀ k : Nat, (F.depth.isSome = true → 1 ≤ k) := by subst hF; intro k h; simp [Fence.wide] at h
  have hro : F.round = none := by subst hF; rfl
  have hds : F.depth.isSome = false := by subst hF; rfl
  obtain ⟨ty0, g0, rfl⟩ := rep_iface _ _ _ _ hR
  have HP : Hid (∀ m w, CallsIn F m Try.prog 58 #[.agg #[.iface ty0 (.pointer (some ⟨g0, 0, none⟩)), .string ⟨#[]⟩, .int .i64 0]] w (fun e w' => e = .returned (.func (.func 91) #[] #[.pointer (some ⟨w.heap.size, 0, none⟩)]) ∧ w' = w.alloc (.cells #[.iface ty0 (.pointer (some ⟨g0, 0, none⟩)), .string ⟨#[]⟩, .int .i64 0] 48))) := fun m w => by
    rw [hF]; exact callsIn_wide.2 (placesWithin_any _ _ _ w)
  rw [← hF]
  have HF := Lib.hid hF
  clear hF
  refine callsIn_of_wp_marks Try.func65 rfl (hFf _) ?_ hro
  simp only [Try.ntmps65, List.size_toArray, List.length_cons, List.length_nil, Nat.reduceAdd, Nat.reduceSub, Array.replicate_succ, Array.replicate_zero, List.push_toArray, List.append_toArray, List.nil_append, List.cons_append]
  have hRR := Lib.hid hR
  clear hR
  gi_wp2
  refine (HP.out _ _).mono ?_
  rintro e w1 ⟨rfl, hw1⟩
  gi_wp2
  have q1 : Keeps noB w w1 := by rw [hw1]; exact ((Keeps.refl _ _).alloc _).alloc _
  have hs1 : w1.heap.size = w.heap.size + 2 := by rw [hw1]; simp
  have bU : Blk w1 w.heap.size #[.int .u8 0] 96 := by rw [hw1]; exact (Blk.new _ _ _).alloc _
  have bP : Blk w1 (w.heap.size + 1) #[.iface ty0 (.pointer (some ⟨g0, 0, none⟩)), .string ⟨#[]⟩, .int .i64 0] 48 := by
    rw [hw1]
    have := Blk.new (w.alloc (.cells #[.int .u8 0] 96)) #[.iface ty0 (.pointer (some ⟨g0, 0, none⟩)), .string ⟨#[]⟩, .int .i64 0] 48
    rwa [World.size_alloc] at this
  try rw [← hw1]
  have hsz2 : (w.alloc (.cells #[.int .u8 0] 96)).heap.size = w.heap.size + 1 := by simp
  clear hw1
  obtain ⟨U, hUU⟩ : ∃ U, U = w.heap.size := ⟨_, rfl⟩
  rw [← hUU] at hs1 bU bP hsz2 ⊢
  try rw [hsz2]
  have HUU := Lib.hid hUU
  clear hUU hsz2
  have hIT : ∀ W, Keeps noB w1 W → IterAt Try.prog 91 #[ptr (U + 1)] (z.preD 0) (encP w (between 0 w)) (fun k => between 0 w k ∨ k = U + 1) W := fun W q =>
    within_all z.pre.len s z 0 (.iface ty0 (ptr g0)) w W (between 0 w) (U + 1) rfl hL hZ hs hRR.out (fun k e => e.2) (by have := q.size; have := HUU.out; omega) (fun k e hl => (q1.trans q).block k hl id) (by rw [hsc]; exact q.blk bP id)
  have HB := Lib.hid hB
  have HLN : Hid ((z.preD 0).length ≤ 200) := by rw [Nd.preD_len]; exact hL
  have HFS := Lib.hid (Nd.preD_fst z 0)
  clear hB hL hZ hok hs bP
  refine wp_range HF.out (gf := 91) (lb := #[ptr (U + 1)]) (all := z.preD 0) (enc := encP w (between 0 w)) (prot := fun k => between 0 w k ∨ k = U + 1) (own := oneB U)
    rfl (enters_of Try.func91 (by kernel_rfl) rfl) hIT (UsedI U w1) (fun _ _ _ _ => False) ?hI ?hIx ?hown ?hprot ?hps ?h0 ?hround ?hdone ?hstop
  case hI =>
    rintro pre own W W' ⟨rfl, h3, h4⟩ q
    exact ⟨rfl, h3.ahead q (fun i e => e.1), q.blk h4 (fun e => by have := e.1; omega)⟩
  case hIx => rintro c pre own W W' h q; exact h
  case hown => rintro k rfl; omega
  case hprot =>
    rintro k (hk | rfl)
    · exact ⟨fun e => by have h1 := hk.2; have h2 : k = U := e; have := HUU.out; omega, by have := hk.2; have := HUU.out; omega⟩
    · exact ⟨fun e => by have h2 : U + 1 = U := e; omega, by omega⟩
  case hps => rintro y args ⟨v', rfl, _⟩; rfl
  case h0 => exact ⟨rfl, Owns.refl (by rintro k rfl; omega), bU⟩
  case hround =>
    rintro l m pre p post args own1 W1 hall henc ⟨rfl, h3, h4⟩ hlt hl hnl hll
    obtain ⟨ty, g, sv, rfl, hsv, hst, hty, hg1, hg2⟩ := enc_open henc (same_of_owns q1 h3 (fun k hk e => by have h1 := hk.2; have h2 : k = U := e; have := HUU.out; omega))
    have hUw := HUU.out
    have hh3 := h3.keeps.size
    have hpm : p.1 ∈ z.pre.list := by rw [← HFS.out, hall]; simp
    have hall2 : ∀ q ∈ pre.map Prod.fst, q ∈ z.pre.list := fun q hq => by rw [← HFS.out, hall, List.map_append]; exact List.mem_append_left _ hq
    have hnext : usedLs ((pre ++ [p]).map Prod.fst) = usedLs (pre.map Prod.fst ++ [p.1]) := by rw [List.map_append]; rfl
    have hb64 : bitsV (usedLs (pre.map Prod.fst)) < 64 := bitsV_lt (usedLs_ltr (fun q hq => HB.out q (hall2 q hq)))
    have hbp := HB.out _ hpm
    have hnx := usedLs_snoc (pre.map Prod.fst) p.1
    rw [← hnext] at hnx
    obtain ⟨kc, hkc⟩ : ∃ kc, bitsV (usedLs (pre.map Prod.fst)) = kc := ⟨_, rfl⟩
    rw [hkc] at h4 hb64 hnx
    clear henc hsv hty hg1 hpm hall hall2 hnext hkc
    have h4l := h4.lt
    have hgU : g < U := by omega
    have hgW : g < W1.heap.size := by omega
    clear hUw hg2
    gi_wp2
    refine ⟨(Keeps.refl _ _).alloc _, fun W3 q3 hs3 => ?_⟩
    have hk13 : Keeps (fun k => w1.heap.size ≤ k ∧ ¬ oneB U k) W1 W3 := (((Keeps.refl noB _).alloc _).mono (fun _ e => e.elim)).trans (q3.mono (fun k e => by obtain rfl : k = l := e; exact ⟨hl, hnl⟩))
    have b5 : Blk W3 W1.heap.size #[.iface ty (.pointer (some ⟨g, 0, none⟩)), .string sv, .int .i64 (p.2 : Int)] 48 := q3.blk (Blk.new _ _ _) (show W1.heap.size ≠ l by omega)
    have b4 := hk13.blk h4 (fun e => by have := e.1; omega)
    have r0 := b5.cell 0
    simp at r0
    have hst3 := hst.keeps hk13 hgW (fun e => by have := e.1; omega)
    obtain ⟨pv, isv, hta, hcase⟩ := value_any hst3 hbp
    have HTA := Lib.hid hta
    have HK3 : Owns (oneB U) (oneB U) w1 W3 := h3.ahead hk13 (fun i e => e.1)
    have HB4 := Lib.hid b4
    have HO3 := Lib.hid HK3
    have HNX := Lib.hid hnx
    have hgl : g < W3.heap.size := by have := hk13.size; omega
    rcases hcase with ⟨rfl, hk⟩ | ⟨rfl, rfl, c, tv, u, hc2, hc3, hc4, hvt⟩
    · have HE : Hid (∃ own', Owns (oneB U) own' W3 W3 ∧ UsedI U w1 (pre ++ [p]) own' W3) := by
        refine ⟨oneB U, Owns.refl (by rintro k rfl; exact b4.lt), rfl, HK3, ?_⟩
        rw [HNX.out, hk]
        have : bitsV [] = 0 := rfl
        rw [this, Nat.or_zero]
        exact b4
      clear hst hst3 hk13 q3 hs3 h3 h4 b5 b4 hlt hl hnl hll hbp hk hnx hta HK3
      gi_wp2_with (refine wpListIn_assert_runU _ rfl _ _ _ _ rfl _ rfl _ (HTA.out _) ?_)
      exact HE.out
    · obtain ⟨LL, hLL⟩ : ∃ LL, lettersN p.1 = LL := ⟨_, rfl⟩
      rw [hLL] at hvt hnx HNX
      have hLt : ∀ v ∈ LL, ltr v := fun v hv => by
        rw [← hLL] at hv; unfold lettersN at hv; split at hv
        · cases hv
        · exact hbp.2 v hv
      have hLn : LL.length ≤ 1000 := by
        have h1 := congrArg List.length hvt
        unfold valueText at h1
        split at h1 <;> simp at h1 <;> omega
      have h64 := bitsV_lt hLt
      obtain ⟨T0, hT0⟩ : ∃ T0 : ByteArray, (⟨(c :: LL).toArray⟩ : ByteArray) = T0 := ⟨_, rfl⟩
      obtain ⟨T1, hT1⟩ : ∃ T1 : ByteArray, (⟨LL.toArray⟩ : ByteArray) = T1 := ⟨_, rfl⟩
      obtain ⟨BL, hBL⟩ : ∃ BL, bitsV LL = BL := ⟨_, rfl⟩
      have hso := setOf_any LL hLt hLn
      unfold str at hso
      have hcut := cut_one c LL
      rw [hT0, hT1] at hcut
      rw [hT1, hBL] at hso
      rw [hBL] at h64 HNX
      have HCUT := Lib.hid hcut
      have HTX : Hid (∀ n W4, Keeps noB W3 W4 → CallsIn F n Try.prog 95 #[.pointer (some ⟨g, 0, none⟩)] W4 (fun e w' => e = .returned (.string T0) ∧ Keeps noB W4 w')) := fun n W4 q4 => by
        rw [HF.out, ← hT0, ← hvt]
        exact callsIn_wide.2 (vtext_any g c tv u W4 ((q4.cell (p := ⟨g, 2, none⟩) hgl id).trans hc2) ((q4.cell (p := ⟨g, 3, none⟩) hgl id).trans hc3) ((q4.cell (p := ⟨g, 4, none⟩) hgl id).trans hc4))
      have HSO : Hid (∀ n W4, CallsIn F n Try.prog 63 #[.string T1] W4 (fun e w' => e = .returned (.int .u8 (BL : Int)) ∧ Keeps noB W4 w')) := fun n W4 => by
        rw [HF.out]; exact callsIn_wide.2 (hso W4)
      have HWI : Hid (∀ n W4, CallsIn F n Try.prog 62 #[.int .u8 (kc : Int), .int .u8 (BL : Int)] W4 (fun e w' => e = .returned (.int .u8 ((kc ||| BL : Nat) : Int)) ∧ w' = W4)) := fun n W4 => by
        rw [HF.out]; exact callsIn_wide.2 (with_any hb64 h64 W4)
      obtain ⟨NB, hNB⟩ : ∃ NB, kc ||| BL = NB := ⟨_, rfl⟩
      rw [hNB] at HWI HNX
      have HL : Hid (∀ W4, Keeps noB W3 W4 → W4.cell? ⟨U, 0, none⟩ = some (.int .u8 (kc : Int))) := fun W4 q4 => ((q4.blk b4 id).cell 0).trans rfl
      have hFf2 := Lib.hid hFf
      clear hst hst3 hk13 q3 hs3 h3 h4 b5 b4 hlt hl hnl hll hbp hnx hta HK3 hvt hLL hLt hLn h64 hb64 hT0 hT1 hBL hso hcut hc2 hc3 hc4 hgl hNB hh3 h4l
      gi_wp2_with (refine wpListIn_assert_runU _ rfl _ _ _ _ rfl _ rfl _ (HTA.out _) ?_)
      refine wpIn_region_seqZ_round (fun W4 => Keeps noB W3 W4) 6 [(0, true), (1, true), (2, false), (3, true), (4, false), (5, false), (6, false)] hro hFf2.out (by kernel_rfl) (by kernel_rfl) (by kernel_rfl) rfl (by kernel_rfl) (fun _ _ _ _ h => h) ((Keeps.refl _ _).drew) ?_
      refine seqH_take (.int .u8 (kc : Int)) rfl rfl (fun W4 q4 => by have f0 := HL.out W4 q4; go_simp) (fun K hK => ?_)
      go_simp
      refine hK _ ?_
      clear hK K
      refine seqH_take (.pointer (some ⟨g, 0, none⟩)) rfl rfl (fun W4 q4 => by have f0 := HL.out W4 q4; go_simp) (fun K hK => ?_)
      go_simp
      refine hK _ ?_
      clear hK K
      refine seqH_loud rfl (fun K hK => ?_)
      gi_wp2
      refine CallsIn.mono (HTX.out _ _ ((Keeps.refl _ _).drew)) ?_
      rintro e W4 ⟨rfl, q4⟩
      have q4 := ((Keeps.refl noB W3).drew).trans q4
      have HQ4 := Lib.hid q4
      clear q4
      gi_wp2
      refine hK _ _ HQ4.out ?_
      clear hK K
      refine seqH_take (.string T1) rfl rfl (fun W4 q4 => by have f0 := HCUT.out W4; go_simp) (fun K hK => ?_)
      go_simp
      refine hK _ ?_
      clear hK K
      refine seqH_loud rfl (fun K hK => ?_)
      gi_wp2
      refine CallsIn.mono (HSO.out _ _) ?_
      rintro e W5 ⟨rfl, q5⟩
      have q5 := HQ4.out.trans q5
      have HQ5 := Lib.hid q5
      clear q5
      gi_wp2
      refine hK _ _ HQ5.out ?_
      clear hK K
      refine seqH_loud rfl (fun K hK => ?_)
      gi_wp2
      refine CallsIn.mono (HWI.out _ _) ?_
      rintro e W6 ⟨rfl, rfl⟩
      gi_wp2
      refine hK _ _ HQ5.out ?_
      clear hK K
      have HB6 : Hid (Blk W6 U #[.int .u8 (kc : Int)] 96) := HQ5.out.blk HB4.out id
      have z6 := HB6.out.free 0
      have y6 := HB6.out.cell 0
      simp at y6
      refine seqH_last rfl (fun K hK => ?_)
      gi_wp2
      have hk : Owns (oneB U) (oneB U) W3 (W6.setCell ⟨U, 0, none⟩ (.int .u8 (NB : Int))) := ⟨fun k e => .inl e, by rintro k rfl; simpa [World.setCell] using HB6.out.lt, (HQ5.out.mono (fun _ e => e.elim)).setCell (.inl (show oneB U U from rfl)) _⟩
      refine ⟨oneB U, hk, rfl, HO3.out.trans hk, ?_⟩
      have e := HB6.out.set 0 (.int .u8 (NB : Int))
      rw [HNX.out]
      simpa using e
  case hdone =>
    rintro D own' W' hb ⟨rfl, h3, h4⟩
    have y4 := h4.cell 0
    simp at y4
    rw [HFS.out] at y4
    have HE : Hid (∀ W2, Keeps (fun k => k ∈ [D]) W' W2 → Keeps noB w W2) := by
      intro W2 q
      have hUw := HUU.out
      have k2 : Keeps noB w W' := q1.transNew h3.keeps (fun i hi e => by have : i = U := e; omega)
      exact k2.transNew q (fun i hi e => by simp at e; have := hb.new; omega)
    have HD := Lib.hid hb.none
    clear h3 h4 hb
    dsimp only
    gi_wp2
    refine leaves_marks [D] _ (by simp) (fun D' hD' => by simp at hD'; subst hD'; exact HD.out) (fun W2 q _ => ?_)
    exact ⟨_, resUsed W2 _ _ rfl, rfl, HE.out _ q⟩
  case hstop => intro D c pre post own' W' _ _ h; exact h.elim

end Go.Proofs.Ytccpmhjffcceeaa

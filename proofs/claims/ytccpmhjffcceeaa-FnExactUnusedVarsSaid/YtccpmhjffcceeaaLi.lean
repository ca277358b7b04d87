/-
  The program's UnusedVars.
-/
import Derived.Test.YtccpmhjffcceeaaLh
import Derived.Test.YtccpmhjffcceeaaWqg
import Derived.Test.YtccpmhjffcceeaaVrn
namespace Go.Proofs.Ytccpmhjffcceeaa
set_option linter.unusedVariables false
set_option linter.unusedSimpArgs false
open Go.RowKit Go.Shelf

attribute [local go_sem] Oper.semAt_some

mutual
theorem Nd.pre_sub : ∀ (x z : Nd), z ∈ x.pre.list → (∀ q ∈ z.pre.list, q ∈ x.pre.list) ∧ z.pre.len ≤ x.pre.len
  | .mk c k e vs ar bs, z, h => by
    simp only [Nd.pre, Nds.list, List.mem_cons] at h
    rcases h with rfl | h
    · exact ⟨fun _ h => h, Nat.le_refl _⟩
    · obtain ⟨h1, h2⟩ := Bds.pre_sub bs z h
      exact ⟨fun q hq => by simp only [Nd.pre, Nds.list, List.mem_cons]; exact .inr (h1 q hq), by simp only [Nd.pre, Nds.len]; omega⟩
theorem Nds.pre_sub : ∀ (x : Nds) (z : Nd), z ∈ x.pre.list → (∀ q ∈ z.pre.list, q ∈ x.pre.list) ∧ z.pre.len ≤ x.pre.len
  | .nil, z, h => by simp [Nds.pre, Nds.list] at h
  | .cons x r, z, h => by
    simp only [Nds.pre, Nds.list_app, List.mem_append] at h
    rcases h with h | h
    · obtain ⟨h1, h2⟩ := Nd.pre_sub x z h
      exact ⟨fun q hq => by simp only [Nds.pre, Nds.list_app, List.mem_append]; exact .inl (h1 q hq), by simp only [Nds.pre, Nds.len_app]; omega⟩
    · obtain ⟨h1, h2⟩ := Nds.pre_sub r z h
      exact ⟨fun q hq => by simp only [Nds.pre, Nds.list_app, List.mem_append]; exact .inr (h1 q hq), by simp only [Nds.pre, Nds.len_app]; omega⟩
theorem Bds.pre_sub : ∀ (x : Bds) (z : Nd), z ∈ x.pre.list → (∀ q ∈ z.pre.list, q ∈ x.pre.list) ∧ z.pre.len ≤ x.pre.len
  | .nil, z, h => by simp [Bds.pre, Nds.list] at h
  | .cons x r, z, h => by
    simp only [Bds.pre, Nds.list_app, List.mem_append] at h
    rcases h with h | h
    · obtain ⟨h1, h2⟩ := Nds.pre_sub x z h
      exact ⟨fun q hq => by simp only [Bds.pre, Nds.list_app, List.mem_append]; exact .inl (h1 q hq), by simp only [Bds.pre, Nds.len_app]; omega⟩
    · obtain ⟨h1, h2⟩ := Bds.pre_sub r z h
      exact ⟨fun q hq => by simp only [Bds.pre, Nds.list_app, List.mem_append]; exact .inr (h1 q hq), by simp only [Bds.pre, Nds.len_app]; omega⟩
end

/-- The letters that a step declares and that stand in no step within it. -/
def unuN (z : Nd) : Nat := if z.kind = 123 then strike (bitsV z.vars) (bitsV (usedLs z.pre.list)) else 0
def unuK (l : List Nd) : Nat := (l.map unuN).foldl (· ||| ·) 0
theorem unuK_snoc (l : List Nd) (z : Nd) : unuK (l ++ [z]) = unuK l ||| unuN z := by
  unfold unuK
  rw [List.map_append, List.foldl_append]; rfl
/-- What UnusedVars answers. -/
def unusedP (s : ByteArray) : Option (List UInt8) := (progP s).map (fun x => lets (unuK x.pre.list))

theorem unuN_lt {z : Nd} (h : ∀ v ∈ z.vars, ltr v) : unuN z < 64 := by
  unfold unuN
  split
  · exact strike_lt _ (bitsV_lt h)
  · decide
theorem unuK_lt : ∀ (l : List Nd), (∀ z ∈ l, unuN z < 64) → unuK l < 64 := by
  intro l h
  have : ∀ (l : List Nat) (a : Nat), a < 64 → (∀ z ∈ l, z < 64) → l.foldl (· ||| ·) a < 64 := by
    intro l
    induction l with
    | nil => intro a ha _; exact ha
    | cons b r ih => intro a ha hb; exact ih _ (or_lt64 ha (hb b (by simp))) (fun z hz => hb z (by simp [hz]))
  exact this _ 0 (by decide) (fun z hz => by obtain ⟨y, hy, rfl⟩ := List.mem_map.1 hz; exact h y hy)

/-- Whether a step is a scopeStep. -/
theorem scope_any {W : World} {z : Nd} {ty : TypeId} {g : Nat} (h : TypeIs W z ty g) : ∃ pv iss, (∀ w, (Instr.typeAssert (.iface ty (.pointer (some ⟨g, 0, none⟩))) 46 57 true).run Try.prog w = .ok (.tuple #[.pointer pv, .bool iss]) w) ∧
    ((iss = false ∧ z.kind ≠ 123) ∨ (iss = true ∧ pv = some ⟨g, 0, none⟩ ∧ ty = 57 ∧ z.kind = 123 ∧ W.cell? ⟨g, 2, none⟩ = some (str z.vars))) := by
  rcases h with ⟨rfl, hk⟩ | ⟨rfl, hk⟩ | ⟨rfl, hk⟩ | ⟨rfl, hk, hc⟩ | ⟨rfl, hk⟩
  · exact ⟨_, _, fun w => isVS _ _, .inl ⟨rfl, by rcases hk with h | h | h | h | h <;> rw [h] <;> decide⟩⟩
  · exact ⟨_, _, fun w => isLS _ _, .inl ⟨rfl, by rcases hk with h | h <;> rw [h] <;> decide⟩⟩
  · exact ⟨_, _, fun w => isOS _ _, .inl ⟨rfl, by rw [hk]; decide⟩⟩
  · exact ⟨_, _, fun w => isSS _ _, .inr ⟨rfl, rfl, rfl, hk, hc⟩⟩
  · exact ⟨_, _, fun w => isBS _ _, .inl ⟨rfl, by rw [hk]; decide⟩⟩

/-- What the loop over the places has gathered; U: the set's block. -/
def UnuI (U : Nat) (w2 : World) (pre : List PN) (own : Nat → Prop) (W' : World) : Prop :=
  own = oneB U ∧ Owns (oneB U) own w2 W' ∧ Blk W' U #[.int .u8 (unuK (pre.map Prod.fst) : Int)] 96

theorem resUnu (W : World) (v b : Value) (tmps : Array Value) (h2 : tmps.getD 2 undef = v) (h3 : tmps.getD 3 undef = b) : (results Try.f35 tmps).run Try.prog W = .ok (.tuple #[v, b]) W := by
  have h2' : tmps[2]?.getD undef = v := by simpa using h2
  have h3' : tmps[3]?.getD undef = b := by simpa using h3
  simp [results, Try.results35, go_sem, h2', h3']

set_option maxRecDepth 100000 in
set_option maxHeartbeats 4000000 in
theorem unused_none (s : ByteArray) (hs : s.size ≤ 1048576) (hp : progP s = none) (w : World) : Calls Try.prog 35 #[.string s] w (RewritePost w none) := by
  refine (callsIn_wide (n := 9)).1 ?_
  obtain ⟨F, hF⟩ : ∃ F, F = Fence.wide := ⟨_, rfl⟩
  have hFf : ∀ f, F.fn f := by subst hF; exact fun _ => trivial
  have hdd : ∀ k : Nat, (F.depth.isSome = true → 1 ≤ k) := by subst hF; intro k h; simp [Fence.wide] at h
  have hro : F.round = none := by subst hF; rfl
  have hds : F.depth.isSome = false := by subst hF; rfl
  have HC : Hid (∀ m w, CallsIn F m Try.prog 40 #[.string s] w (PlacesPost s w none)) := fun m w => by
    rw [hF]; exact callsIn_wide.2 (places_none s hs hp w)
  rw [← hF]
  have HF := Lib.hid hF
  clear hF hp
  refine callsIn_of_wp_marks Try.func35 rfl (hFf _) ?_ hro
  simp only [Try.ntmps35, List.size_toArray, List.length_cons, List.length_nil, Nat.reduceAdd, Nat.reduceSub, Array.replicate_succ, Array.replicate_zero, List.push_toArray, List.append_toArray, List.nil_append, List.cons_append]
  gi_wp2
  refine (HC.out _ _).mono ?_
  rintro e w1 ⟨rfl, q1⟩
  have HQ := Lib.hid q1
  clear q1
  gi_wp2
  refine leaves_marks [] _ List.nodup_nil (fun _ h => by cases h) (fun W' q _ => ?_)
  exact ⟨_, resUnu W' _ _ _ rfl rfl, rfl, HQ.out.trans (q.mono (fun _ e => by cases e))⟩

set_option maxRecDepth 100000 in
set_option maxHeartbeats 4000000 in
theorem unused_some (s : ByteArray) (hs : s.size ≤ 1048576) (x : Nd) (hp : progP s = some x) (w : World) : Calls Try.prog 35 #[.string s] w (RewritePost w (some (lets (unuK x.pre.list)))) := by
  refine (callsIn_wide (n := 9)).1 ?_
  obtain ⟨F, hF⟩ : ∃ F, F = Fence.wide := ⟨_, rfl⟩
  have hFf : ∀ f, F.fn f := by subst hF; exact fun _ => trivial
  have hdd : ∀ k : Nat, (F.depth.isSome = true → 1 ≤ k) := by subst hF; intro k h; simp [Fence.wide] at h
  have hro : F.round = none := by subst hF; rfl
  have hds : F.depth.isSome = false := by subst hF; rfl
  have HC : Hid (∀ m w, CallsIn F m Try.prog 40 #[.string s] w (PlacesPost s w (some x))) := fun m w => by
    rw [hF]; exact callsIn_wide.2 (places_some s hs x hp w)
  rw [← hF]
  have HF := Lib.hid hF
  have HFIT : Hid (∀ z ∈ x.pre.list, Bare (bareN z) ∧ z.vars.length ≤ 100 ∧ (∀ q ∈ z.pre.list, Bare (bareN q)) ∧ z.pre.len ≤ x.pre.len) := fun z hz => by
    have h1 := Nd.pre_sub x z hz
    exact ⟨fit_bare (step_fit hp hz).fit (step_fit hp hz).vars, Nat.le_trans (pre_vars hp hz) (by decide), fun q hq => fit_bare (step_fit hp (h1.1 q hq)).fit (step_fit hp (h1.1 q hq)).vars, h1.2⟩
  clear hF hp
  refine callsIn_of_wp_marks Try.func35 rfl (hFf _) ?_ hro
  simp only [Try.ntmps35, List.size_toArray, List.length_cons, List.length_nil, Nat.reduceAdd, Nat.reduceSub, Array.replicate_succ, Array.replicate_zero, List.push_toArray, List.append_toArray, List.nil_append, List.cons_append]
  gi_wp2
  refine (HC.out _ _).mono ?_
  rintro e w1 ⟨B, rfl, hpl, q1⟩
  have HQ := Lib.hid q1
  clear q1
  gi_wp2
  have q2 : Keeps noB w1 (w1.alloc (.cells #[.int .u8 0] 96)) := (Keeps.refl _ _).alloc _
  have bN := Blk.new w1 #[.int .u8 0] 96
  have hs2 : (w1.alloc (.cells #[.int .u8 0] 96)).heap.size = w1.heap.size + 1 := by simp
  generalize w1.alloc (.cells #[.int .u8 0] 96) = w2 at q2 bN hs2 ⊢
  obtain ⟨U, hUU⟩ : ∃ U, U = w1.heap.size := ⟨_, rfl⟩
  rw [← hUU] at bN hs2 ⊢
  have HUU := Lib.hid hUU
  clear hUU
  have hOK := Nd.Ok.all x 0 hpl.ok
  have hxs := hpl.small
  have hxf := hpl.few
  have HOK := Lib.hid (And.intro hOK (And.intro hxs (show x.pre.len ≤ 80 by omega)))
  have HFS := Lib.hid (Nd.preD_fst x 0)
  have HPL := Lib.hid hpl
  clear hOK hxs hxf
  refine wp_range HF.out (gf := 91) (lb := #[ptr B]) (all := x.preD 0) (enc := encP w1 (between w.heap.size w1)) (prot := between w.heap.size w1) (own := oneB U)
    rfl (enters_of Try.func91 (by kernel_rfl) rfl) (fun W q => hpl.iter W (q2.trans q)) (UnuI U w2) (fun _ _ _ _ => False) ?hI ?hIx ?hown ?hprot ?hps ?h0 ?hround ?hdone ?hstop
  case hI =>
    rintro pre own W W' ⟨rfl, h3, h4⟩ q
    exact ⟨rfl, h3.ahead q (fun i e => e.1), q.blk h4 (fun e => by have := e.1; omega)⟩
  case hIx => rintro c pre own W W' h q; exact h
  case hown => rintro k rfl; omega
  case hprot =>
    intro k hk
    exact ⟨fun e => by have h1 := hk.2; have h2 : k = U := e; have := HUU.out; omega, by have := hk.2; have := HUU.out; omega⟩
  case hps => rintro y args ⟨v', rfl, _⟩; rfl
  case h0 => exact ⟨rfl, Owns.refl (by rintro k rfl; omega), bN⟩
  case hround =>
    rintro l m pre p post args own1 W1 hall henc ⟨rfl, h3, h4⟩ hlt hl hnl hll
    have henc0 := henc
    obtain ⟨v', hv', hrep⟩ := henc0
    obtain ⟨ty, g, sv, hargs, hsv, hst, hty, hg1, hg2⟩ := enc_open henc (same_of_owns q2 h3 (fun k hk e => by have h1 := hk.2; have h2 : k = U := e; have := HUU.out; omega))
    have hvv : v' = .iface ty (ptr g) := by
      rw [hv'] at hargs
      have h1 := congrArg (fun a => a.getD 0 undef) hargs
      unfold placeV at h1
      simp at h1
      exact h1.1
    subst hargs
    rw [hvv] at hrep
    have hpm : p ∈ x.preD 0 := by rw [hall]; simp
    have hpx : p.1 ∈ x.pre.list := by rw [← HFS.out]; exact List.mem_map.2 ⟨p, hpm, rfl⟩
    have hall2 : ∀ q ∈ pre.map Prod.fst, q ∈ x.pre.list := fun q hq => by rw [← HFS.out, hall, List.map_append]; exact List.mem_append_left _ hq
    obtain ⟨hb1, hb2, hb3, hb4⟩ := HFIT.out _ hpx
    have hpo := HOK.out.1 p hpm
    have hnx := unuK_snoc (pre.map Prod.fst) p.1
    have hnext : (pre ++ [p]).map Prod.fst = pre.map Prod.fst ++ [p.1] := by rw [List.map_append]; rfl
    rw [← hnext] at hnx
    have hk64 : unuK (pre.map Prod.fst) < 64 := unuK_lt _ (fun q hq => unuN_lt (HFIT.out _ (hall2 q hq)).1.2)
    obtain ⟨kc, hkc⟩ : ∃ kc, unuK (pre.map Prod.fst) = kc := ⟨_, rfl⟩
    rw [hkc] at h4 hk64 hnx
    have hU := HUU.out
    have hgU : g < U := by omega
    have hh3 := h3.keeps.size
    have hgW : g < W1.heap.size := by omega
    have h4l := h4.lt
    clear henc hv' hsv hg1 hg2 hpm hall hall2 hnext hkc hU
    gi_wp2
    refine ⟨(Keeps.refl _ _).alloc _, fun W3 q3 hs3 => ?_⟩
    have hk13 : Keeps (fun k => w2.heap.size ≤ k ∧ ¬ oneB U k) W1 W3 := (((Keeps.refl noB _).alloc _).mono (fun _ e => e.elim)).trans (q3.mono (fun k e => by obtain rfl : k = l := e; exact ⟨hl, hnl⟩))
    have b5 : Blk W3 W1.heap.size #[.iface ty (.pointer (some ⟨g, 0, none⟩)), .string sv, .int .i64 (p.2 : Int)] 48 := q3.blk (Blk.new _ _ _) (show W1.heap.size ≠ l by omega)
    have b4 := hk13.blk h4 (fun e => by have := e.1; omega)
    have r0 := b5.cell 0
    simp at r0
    obtain ⟨pv, iss, hta, hcase⟩ := scope_any hty
    have HTA := Lib.hid hta
    have HK3 : Owns (oneB U) (oneB U) w2 W3 := h3.ahead hk13 (fun i e => e.1)
    have HB4 := Lib.hid b4
    have HO3 := Lib.hid HK3
    have HNX := Lib.hid hnx
    have hgl : g < W3.heap.size := by have := hk13.size; omega
    rcases hcase with ⟨rfl, hk⟩ | ⟨rfl, rfl, rfl, hk, hc2⟩
    · have HE : Hid (∃ own', Owns (oneB U) own' W3 W3 ∧ UnuI U w2 (pre ++ [p]) own' W3) := by
        refine ⟨oneB U, Owns.refl (by rintro k rfl; exact b4.lt), rfl, HK3, ?_⟩
        rw [HNX.out]
        unfold unuN
        rw [if_neg hk, Nat.or_zero]
        exact b4
      clear hst hk13 q3 hs3 h3 h4 b5 b4 hlt hl hnl hll hb1 hb2 hb3 hb4 hpo hk hnx hta HK3 hrep hpx hty hvv
      gi_wp2_with (refine wpListIn_assert_runU _ rfl _ _ _ _ rfl _ rfl _ (HTA.out _) ?_)
      exact HE.out
    · have h64a : bitsV p.1.vars < 64 := bitsV_lt hb1.2
      have hUS : Hid (∀ W4, Keeps noB W3 W4 → Calls Try.prog 65 #[.iface 57 (ptr g)] W4 (fun e w' => e = .returned (.int .u8 (bitsV (usedLs p.1.pre.list) : Int)) ∧ Keeps noB W4 w')) := fun W4 q4 => by
        have k0 : Keeps (fun k => U ≤ k) w1 W4 := (((q2.mono (fun _ e => e.elim)).trans (h3.keeps.mono (fun k e => by have h : k = U := e; omega))).trans (hk13.mono (fun k e => by have := e.1; omega))).trans (q4.mono (fun _ e => e.elim))
        have hh : Hands w1 W4 (between w.heap.size w1) (fun k => k < W4.heap.size) := Hands.of_keeps k0 (fun k hk _ => by have := hk.2; have := HUU.out; omega) (fun k hk hl => Nat.lt_of_lt_of_le hl k0.size)
        exact usedIn_any s p.1 p.2 _ W4 (fun k => k < W4.heap.size) hpo HOK.out.2.1 (by have := HOK.out.2.2; omega) hb3 (hh.repI _ _ hrep) (fun _ h => h)
      obtain ⟨VS, hVS⟩ : ∃ VS : ByteArray, (⟨p.1.vars.toArray⟩ : ByteArray) = VS := ⟨_, rfl⟩
      have hso := setOf_any p.1.vars hb1.2 (by omega)
      unfold str at hso hc2
      rw [hVS] at hso hc2
      have h64b : bitsV (usedLs p.1.pre.list) < 64 := bitsV_lt (usedLs_ltr hb3)
      have hNN : unuN p.1 = strike (bitsV p.1.vars) (bitsV (usedLs p.1.pre.list)) := by unfold unuN; rw [if_pos hk]
      rw [hNN] at HNX
      obtain ⟨AV, hAV⟩ : ∃ AV, bitsV p.1.vars = AV := ⟨_, rfl⟩
      obtain ⟨BV, hBV⟩ : ∃ BV, bitsV (usedLs p.1.pre.list) = BV := ⟨_, rfl⟩
      rw [hAV] at hso HNX h64a
      rw [hBV] at hUS HNX h64b
      have h64c := strike_lt BV h64a
      obtain ⟨SV, hSV⟩ : ∃ SV, strike AV BV = SV := ⟨_, rfl⟩
      obtain ⟨NB, hNB⟩ : ∃ NB, kc ||| SV = NB := ⟨_, rfl⟩
      rw [hSV, hNB] at HNX
      have HSO : Hid (∀ n W4, CallsIn F n Try.prog 63 #[.string VS] W4 (fun e w' => e = .returned (.int .u8 (AV : Int)) ∧ Keeps noB W4 w')) := fun n W4 => by
        rw [HF.out]; exact callsIn_wide.2 (hso W4)
      have HUS : Hid (∀ n W4, Keeps noB W3 W4 → CallsIn F n Try.prog 65 #[.iface 57 (.pointer (some ⟨g, 0, none⟩))] W4 (fun e w' => e = .returned (.int .u8 (BV : Int)) ∧ Keeps noB W4 w')) := fun n W4 q4 => by
        rw [HF.out]; exact callsIn_wide.2 (hUS.out W4 q4)
      have HWO : Hid (∀ n W4, CallsIn F n Try.prog 64 #[.int .u8 (AV : Int), .int .u8 (BV : Int)] W4 (fun e w' => e = .returned (.int .u8 (SV : Int)) ∧ w' = W4)) := fun n W4 => by
        rw [HF.out, ← hSV]; exact callsIn_wide.2 (without_any h64a h64b W4)
      have HWI : Hid (∀ n W4, CallsIn F n Try.prog 62 #[.int .u8 (kc : Int), .int .u8 (SV : Int)] W4 (fun e w' => e = .returned (.int .u8 (NB : Int)) ∧ w' = W4)) := fun n W4 => by
        rw [HF.out, ← hNB]; exact callsIn_wide.2 (with_any hk64 (hSV ▸ h64c) W4)
      have HL : Hid (∀ W4, Keeps noB W3 W4 → W4.cell? ⟨U, 0, none⟩ = some (.int .u8 (kc : Int)) ∧ W4.cell? ⟨g, 2, none⟩ = some (.string VS)) := fun W4 q4 => ⟨((q4.blk b4 id).cell 0).trans rfl, (q4.cell (p := ⟨g, 2, none⟩) hgl id).trans ((hk13.cell (p := ⟨g, 2, none⟩) hgW (fun e => by have := e.1; have e2 : (⟨g, 2, none⟩ : Addr).block = g := rfl; omega)).trans hc2)⟩
      have HFIN : Hid (∀ W6, Keeps noB W3 W6 → ∃ own', Owns (oneB U) own' W3 (W6.setCell ⟨U, 0, none⟩ (.int .u8 (NB : Int))) ∧ UnuI U w2 (pre ++ [p]) own' (W6.setCell ⟨U, 0, none⟩ (.int .u8 (NB : Int)))) := fun W6 q6 => by
        have hB6 : Blk W6 U #[.int .u8 (kc : Int)] 96 := q6.blk HB4.out id
        have hk : Owns (oneB U) (oneB U) W3 (W6.setCell ⟨U, 0, none⟩ (.int .u8 (NB : Int))) := ⟨fun k e => .inl e, by rintro k rfl; simpa [World.setCell] using hB6.lt, (q6.mono (fun _ e => e.elim)).setCell (.inl (show oneB U U from rfl)) _⟩
        refine ⟨oneB U, hk, rfl, HO3.out.trans hk, ?_⟩
        have e := hB6.set 0 (.int .u8 (NB : Int))
        rw [HNX.out]
        simpa using e
      have hFf2 := Lib.hid hFf
      clear hst hk13 q3 hs3 h3 h4 b5 b4 hlt hl hnl hll hb1 hb2 hb3 hb4 hpo hk hnx hta HK3 hrep hpx hty hvv h64a h64b h64c hVS hAV hBV hSV hNB hso hc2 hgl hgW hgU hh3 h4l hNN hUS hk64 q2
      gi_wp2_with (refine wpListIn_assert_runU _ rfl _ _ _ _ rfl _ rfl _ (HTA.out _) ?_)
      refine wpIn_region_ordZ_round (fun W4 => Keeps noB W3 W4) 11 (.read 0 (.read 1 (.read 2 (.read 3 (.read 4 (.read 6 (.read 7 (.loud 5 (.loud 8 (.loud 9 (.loud 10 (.loud 11 .fin)))))))))))) hro hFf2.out (by kernel_rfl) (by kernel_rfl) (by kernel_rfl) rfl (by kernel_rfl) (fun _ _ _ _ h => h) ((Keeps.refl _ _).drew) ?_
      refine ordZ_read (.int .u8 (kc : Int)) rfl rfl (fun W4 q4 => by obtain ⟨f0, f1⟩ := HL.out W4 q4; go_simp) (fun K hK => ?_)
      go_simp
      refine hK _ ?_
      clear hK K
      refine ordZ_read (.pointer (some ⟨g, 0, none⟩)) rfl rfl (fun W4 q4 => by obtain ⟨f0, f1⟩ := HL.out W4 q4; go_simp) (fun K hK => ?_)
      go_simp
      refine hK _ ?_
      clear hK K
      refine ordZ_read (.pointer (some ⟨g, 0, none⟩)) rfl rfl (fun W4 q4 => by obtain ⟨f0, f1⟩ := HL.out W4 q4; go_simp) (fun K hK => ?_)
      go_simp
      refine hK _ ?_
      clear hK K
      refine ordZ_read (.pointer (some ⟨g, 2, none⟩)) rfl rfl (fun W4 q4 => by obtain ⟨f0, f1⟩ := HL.out W4 q4; go_simp) (fun K hK => ?_)
      go_simp
      refine hK _ ?_
      clear hK K
      refine ordZ_read (.string VS) rfl rfl (fun W4 q4 => by obtain ⟨f0, f1⟩ := HL.out W4 q4; go_simp) (fun K hK => ?_)
      go_simp
      refine hK _ ?_
      clear hK K
      refine ordZ_read (.pointer (some ⟨g, 0, none⟩)) rfl rfl (fun W4 q4 => by obtain ⟨f0, f1⟩ := HL.out W4 q4; go_simp) (fun K hK => ?_)
      go_simp
      refine hK _ ?_
      clear hK K
      refine ordZ_read (.iface 57 (.pointer (some ⟨g, 0, none⟩))) rfl rfl (fun W4 q4 => by obtain ⟨f0, f1⟩ := HL.out W4 q4; go_simp) (fun K hK => ?_)
      go_simp
      refine hK _ ?_
      clear hK K
      · refine ordZ_loud rfl (fun K hK => ?_)
        gi_wp2
        refine CallsIn.mono (HSO.out _ _) ?_
        rintro e W4 ⟨rfl, q4⟩
        have q4 := ((Keeps.refl noB W3).drew).trans q4
        have HQ4 := Lib.hid q4
        clear q4
        gi_wp2
        refine hK _ _ HQ4.out ?_
        clear hK K
        refine ordZ_loud rfl (fun K hK => ?_)
        gi_wp2
        refine CallsIn.mono (HUS.out _ _ HQ4.out) ?_
        rintro e W5 ⟨rfl, q5⟩
        have q5 := HQ4.out.trans q5
        have HQ5 := Lib.hid q5
        clear q5
        gi_wp2
        refine hK _ _ HQ5.out ?_
        clear hK K
        refine ordZ_loud rfl (fun K hK => ?_)
        gi_wp2
        refine CallsIn.mono (HWO.out _ _) ?_
        rintro e W6 ⟨rfl, rfl⟩
        gi_wp2
        refine hK _ _ HQ5.out ?_
        clear hK K
        refine ordZ_loud rfl (fun K hK => ?_)
        gi_wp2
        refine CallsIn.mono (HWI.out _ _) ?_
        rintro e W7 ⟨rfl, rfl⟩
        gi_wp2
        refine hK _ _ HQ5.out ?_
        clear hK K
        have HB6 : Hid (Blk W7 U #[.int .u8 (kc : Int)] 96) := HQ5.out.blk HB4.out id
        have z6 := HB6.out.free 0
        have y6 := HB6.out.cell 0
        simp at y6
        refine ordZ_last rfl (fun K hK => ?_)
        gi_wp2
        exact HFIN.out _ HQ5.out
  case hdone =>
    rintro D own' W' hb ⟨rfl, h3, h4⟩
    rw [HFS.out] at h4
    have hk64 : unuK x.pre.list < 64 := unuK_lt _ (fun q hq => unuN_lt (HFIT.out _ hq).1.2)
    have hna := namesK_any (unuK x.pre.list) hk64
    unfold str at hna
    obtain ⟨RS, hRS⟩ : ∃ RS : ByteArray, (⟨(lets (unuK x.pre.list)).toArray⟩ : ByteArray) = RS := ⟨_, rfl⟩
    rw [hRS] at hna
    have HPOST : Hid (∀ w', Keeps noB w w' → RewritePost w (some (lets (unuK x.pre.list))) (.returned (.tuple #[.string RS, .bool true])) w') := fun w' q => ⟨by rw [← hRS]; rfl, q⟩
    obtain ⟨kc, hkc⟩ : ∃ kc, unuK x.pre.list = kc := ⟨_, rfl⟩
    rw [hkc] at hna h4
    have HNA : Hid (∀ n W4, CallsIn F n Try.prog 66 #[.int .u8 (kc : Int)] W4 (fun e w' => e = .returned (.string RS) ∧ Keeps noB W4 w')) := fun n W4 => by
      rw [HF.out]; exact callsIn_wide.2 (hna W4)
    have HL : Hid (∀ W4, Keeps noB W' W4 → W4.cell? ⟨U, 0, none⟩ = some (.int .u8 (kc : Int))) := fun W4 q4 => ((q4.blk h4 id).cell 0).trans rfl
    have HE : Hid (∀ W4 W2, Keeps noB W' W4 → Keeps (fun k => k ∈ [D]) W4 W2 → Keeps noB w W2) := by
      intro W4 W2 q4 q
      have hU := HUU.out
      have k2 : Keeps noB w1 W' := q2.transNew h3.keeps (fun i hi e => by have : i = U := e; omega)
      have hsz := HQ.out.size
      exact ((HQ.out.trans k2).trans q4).transNew q (fun i hi e => by simp at e; have := hb.new; omega)
    have HD := Lib.hid hb.none
    have HDL : Hid (D < W'.heap.size) := by
      have := hb.none
      exact (Array.getElem?_eq_some_iff.1 this).1
    have y4 := HL.out W' (Keeps.refl _ _)
    clear h3 h4 hb hna hRS hkc hk64
    generalize RewritePost w (some (lets (unuK x.pre.list))) = POST at *
    dsimp only
    gi_wp2
    refine CallsIn.mono (HNA.out _ _) ?_
    rintro e W4 ⟨rfl, q4⟩
    have HQ4 := Lib.hid q4
    have HD4 : Hid (W4.heap[D]? = some (.deferred (some []))) := (q4.block D HDL.out id).trans HD.out
    clear q4
    gi_wp2
    refine leaves_marks [D] _ (by simp) (fun D' hD' => by simp at hD'; subst hD'; exact HD4.out) (fun W2 q _ => ?_)
    exact ⟨_, resUnu W2 _ _ _ rfl rfl, HPOST.out _ (HE.out _ _ HQ4.out q)⟩
  case hstop => intro D c pre post own' W' _ _ h; exact h.elim

theorem unused_any (s : ByteArray) (hs : s.size ≤ 1048576) (w : World) : Calls Try.prog 35 #[.string s] w (RewritePost w (unusedP s)) := by
  unfold unusedP
  cases hp : progP s with
  | none => exact unused_none s hs hp w
  | some x => exact unused_some s hs x hp w

end Go.Proofs.Ytccpmhjffcceeaa

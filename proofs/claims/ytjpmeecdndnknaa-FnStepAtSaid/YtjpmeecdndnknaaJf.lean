/-
  Walks of the program: StepsOf.
-/
import Derived.Test.YtjpmeecdndnknaaJdW
import Derived.Test.YtjpmeecdndnknaaMemW
import Derived.Test.YtjpmeecdndnknaaEbW
import Derived.Test.YtjpmeecdndnknaaRtW
namespace Go.Proofs.Ytjpmeecdndnknaa
set_option linter.unusedVariables false
set_option linter.unusedSimpArgs false
open Go.RowKit Go.Shelf

attribute [local go_sem] Oper.semAt_some

theorem resSteps (W : World) (v : Value) (b : Bool) (tmps : Array Value) (h2 : tmps.getD 2 undef = v) (h3 : tmps.getD 3 undef = .bool b) : (results Try.f6 tmps).run Try.prog W = .ok (.tuple #[v, .bool b]) W := by
  have h2' : tmps[2]?.getD undef = v := by simpa using h2
  have h3' : tmps[3]?.getD undef = .bool b := by simpa using h3
  simp [results, Try.results6, go_sem, h2', h3']

set_option maxRecDepth 100000 in
set_option maxHeartbeats 4000000 in
theorem steps_none (s : ByteArray) (hs : s.size ≤ 1048576) (hp : progP s = none) (w : World) : Calls Try.prog 6 #[.string s] w (StepsPost w none) := by
  refine (callsIn_wide (n := 9)).1 ?_
  obtain ⟨F, hF⟩ : ∃ F, F = Fence.wide := ⟨_, rfl⟩
  have hFf : ∀ f, F.fn f := by subst hF; exact fun _ => trivial
  have hdd : ∀ k : Nat, (F.depth.isSome = true → 1 ≤ k) := by subst hF; intro k h; simp [Fence.wide] at h
  have hro : F.round = none := by subst hF; rfl
  have hds : F.depth.isSome = false := by subst hF; rfl
  have HC : Hid (∀ m w, CallsIn F m Try.prog 28 #[.string s] w (PlacesPost s w none)) := fun m w => by
    rw [hF]; exact callsIn_wide.2 (places_none s hs hp w)
  rw [← hF]
  clear hF
  refine callsIn_of_wp_marks Try.func6 rfl (hFf _) ?_ hro
  simp only [Try.ntmps6, List.size_toArray, List.length_cons, List.length_nil, Nat.reduceAdd, Nat.reduceSub, Array.replicate_succ, Array.replicate_zero, List.push_toArray, List.append_toArray, List.nil_append, List.cons_append]
  gi_wp2
  refine (HC.out _ _).mono ?_
  rintro e w1 ⟨rfl, q1⟩
  gi_wp2
  refine leaves_marks [] _ List.nodup_nil (fun _ h => by cases h) (fun W' q _ => ?_)
  refine ⟨_, resSteps W' (.slice none 0 0) false _ rfl rfl, ?_⟩
  exact ⟨_, _, [], rfl, ⟨⟨rfl, .inl ⟨rfl, rfl⟩⟩, fun g hg => by simp [Value.ownBlock] at hg⟩, q1.trans (q.mono (fun _ e => by cases e)), rfl, rfl⟩

/-- What the loop over the places has gathered; N: the list's block. -/
def StepsI (N : Nat) (w2 : World) (pre : List PN) (own : Nat → Prop) (W' : World) : Prop :=
  Owns (oneB N) own w2 W' ∧ own N ∧ ∃ a c, Blk W' N #[.slice a pre.length c] 24 ∧ W'.ownsRow 0 3 1 (.slice a pre.length c) pre.length (pre.map fun p => i64 p.1.beg) ∧ ∀ g, (Value.slice a pre.length c).ownBlock = some g → own g ∧ w2.heap.size ≤ g

theorem StepsI.stab {N : Nat} {w2 : World} (hN : N < w2.heap.size) : Stab w2.heap.size (StepsI N w2) := by
  rintro pre own W W' ⟨h1, h2, a, c, h3, h4, h5⟩ q
  refine ⟨h1.ahead q (fun i e => e.1), h2, a, c, q.blk h3 (fun e => by have := e.1; omega), q.ownsRow h4 (fun g hg hl e => e.2 (h5 g hg).1), h5⟩

set_option maxRecDepth 100000 in
set_option maxHeartbeats 4000000 in
theorem steps_some (s : ByteArray) (hs : s.size ≤ 1048576) (x : Nd) (hp : progP s = some x) (w : World) : Calls Try.prog 6 #[.string s] w (StepsPost w (some x)) := by
  refine (callsIn_wide (n := 9)).1 ?_
  obtain ⟨F, hF⟩ : ∃ F, F = Fence.wide := ⟨_, rfl⟩
  have hFf : ∀ f, F.fn f := by subst hF; exact fun _ => trivial
  have hdd : ∀ k : Nat, (F.depth.isSome = true → 1 ≤ k) := by subst hF; intro k h; simp [Fence.wide] at h
  have hro : F.round = none := by subst hF; rfl
  have hds : F.depth.isSome = false := by subst hF; rfl
  have HC : Hid (∀ m w, CallsIn F m Try.prog 28 #[.string s] w (PlacesPost s w (some x))) := fun m w => by
    rw [hF]; exact callsIn_wide.2 (places_some s hs x hp w)
  rw [← hF]
  have HF := Lib.hid hF
  clear hF hp
  refine callsIn_of_wp_marks Try.func6 rfl (hFf _) ?_ hro
  simp only [Try.ntmps6, List.size_toArray, List.length_cons, List.length_nil, Nat.reduceAdd, Nat.reduceSub, Array.replicate_succ, Array.replicate_zero, List.push_toArray, List.append_toArray, List.nil_append, List.cons_append]
  gi_wp2
  refine (HC.out _ _).mono ?_
  rintro e w1 ⟨B, rfl, hpl, q1⟩
  have HQ := Lib.hid q1
  have hM1 := q1.size
  obtain ⟨M, hM⟩ : ∃ M, M = w.heap.size := ⟨_, rfl⟩
  rw [← hM] at hpl hM1
  have HM := Lib.hid hM
  clear q1 hM
  gi_wp2
  have q2 : Keeps noB w1 (w1.alloc (.cells #[.slice none 0 0] 24)) := (Keeps.refl _ _).alloc _
  have bN := Blk.new w1 #[.slice none 0 0] 24
  have hs2 : (w1.alloc (.cells #[.slice none 0 0] 24)).heap.size = w1.heap.size + 1 := by simp
  generalize w1.alloc (.cells #[.slice none 0 0] 24) = w2 at q2 bN hs2 ⊢
  obtain ⟨N, hN⟩ : ∃ N, N = w1.heap.size := ⟨_, rfl⟩
  rw [← hN] at bN hs2 hM1 ⊢
  have HH := Lib.hid hN
  clear hN
  have HG := Lib.hid (And.intro (Nd.preD_len x 0) (And.intro hpl.few (And.intro hpl.small (Nd.preD_fst x 0))))
  refine wp_range HF.out (gf := 57) (lb := #[ptr B]) (all := x.preD 0) (enc := encP w1 (between M w1)) (prot := between M w1) (own := oneB N)
    rfl (enters_of Try.func57 (by kernel_rfl) rfl) (fun W q => hpl.iter W (q2.trans q)) (StepsI N w2) (fun _ _ _ _ => False) ?hI ?hIx ?hown ?hprot ?hps ?h0 ?hround ?hdone ?hstop
  case hI => exact StepsI.stab (by omega)
  case hIx => rintro c pre own W W' h q; exact h
  case hown => rintro k rfl; omega
  case hprot => intro k hk; exact ⟨fun e => by have := hk.2; have : k = N := e; have := HH.out; omega, by have := hk.2; have := HH.out; omega⟩
  case hps => rintro y args ⟨v', rfl, _⟩; rfl
  case h0 => exact ⟨Owns.refl (by rintro k rfl; omega), rfl, none, 0, bN, ⟨rfl, .inl ⟨rfl, rfl⟩⟩, fun g hg => by simp [Value.ownBlock] at hg⟩
  case hround =>
    rintro l m pre p post args own1 W1 hall henc ⟨h3, hoN, a, c, h4, h5, h6⟩ hlt hl hnl hll
    obtain ⟨ty, g, sv, rfl, hsv, hst, hty, hg1, hg2⟩ := enc_open henc (same_of_owns q2 h3 (fun k e => by have := e.2; intro e2; have : k = N := e2; have := HH.out; omega))
    have hpre : pre.length + 1 ≤ 80 := by
      obtain ⟨e1, e2, e3, _⟩ := HG.out
      have := congrArg List.length hall
      simp at this
      omega
    have hw2 := h3.keeps.size
    have hno : ¬ own1 l := hnl
    clear henc hsv hty hall
    have h4l := h4.lt
    gi_wp2
    refine ⟨(Keeps.refl _ _).alloc _, fun W3 q3 hs3 => ?_⟩
    have hk13 : Keeps (fun k => w2.heap.size ≤ k ∧ ¬ own1 k) W1 W3 := (((Keeps.refl noB _).alloc _).mono (fun _ e => e.elim)).trans (q3.mono (fun k e => by obtain rfl : k = l := e; exact ⟨hl, hnl⟩))
    have b5 : Blk W3 W1.heap.size #[.iface ty (.pointer (some ⟨g, 0, none⟩)), .string sv, .int .i64 (p.2 : Int)] 52 := q3.blk (Blk.new _ _ _) (show W1.heap.size ≠ l by omega)
    obtain ⟨k3, _, a3, c3, d3, d4, d5⟩ := StepsI.stab (N := N) (w2 := w2) (by omega) pre own1 W1 W3 ⟨h3, hoN, a, c, h4, h5, h6⟩ hk13
    obtain ⟨i0, hi, hz0, hz1, hz2⟩ := info_parts Try.info3
    have hst3 := hst.keeps hk13 (by have := HH.out; omega) (fun e => by have := e.1; have := HH.out; omega)
    have y4 := d3.cell 0
    have r0 := b5.cell 0
    simp at r0 y4
    have hbeg := hst3.beg
    simp [go_sem] at hbeg
    have HBG : Hid (∀ m, CallsIn F m Try.prog 116 #[.pointer (some ⟨g, 0, none⟩)] W3.drew (fun e w' => e = .returned (.int .i64 (p.1.beg : Int)) ∧ w' = W3.drew)) := fun m => by
      rw [HF.out]; exact callsIn_wide.2 (begin_any g _ _ hst3.c0)
    have HY : Hid (∃ a' c' w', (Builtin.append_ #[24, 24] 24 #[.slice a3 pre.length c3, .slice (some ⟨W3.heap.size, 0, none⟩) 1 1]).run Try.prog (W3.alloc (.cells #[.int .i64 (p.1.beg : Int)] 3)).drew = .ok (.slice a' (pre.length + 1) c') w' ∧
        w'.frozen? ⟨N, 0, none⟩ = false ∧ w'.cell? ⟨N, 0, none⟩ = some (.slice a3 pre.length c3) ∧ ∃ own', Owns own1 own' W3 (w'.setCell ⟨N, 0, none⟩ (.slice a' (pre.length + 1) c')) ∧ StepsI N w2 (pre ++ [p]) own' (w'.setCell ⟨N, 0, none⟩ (.slice a' (pre.length + 1) c'))) := by
      have d4' : (W3.alloc (.cells #[.int .i64 (p.1.beg : Int)] 3)).drew.ownsRow 0 3 1 (.slice a3 pre.length c3) pre.length (pre.map fun p => i64 p.1.beg) :=
        ((Keeps.refl noB W3).alloc _).drew.ownsRow d4 (fun _ _ _ => id)
      obtain ⟨v', w', hr, ho', hg', hfr⟩ := run_append_fresh (P := Try.prog) (W3.alloc (.cells #[.int .i64 (p.1.beg : Int)] 3)).drew 24 24 3 i0 (.int .i64 0) 1 8 Try.underlying24 hi hz0 hz1 hz2 rfl (by omega)
        (.slice a3 pre.length c3) pre.length _ d4' ⟨W3.heap.size, 0, none⟩ 1 1 [.int .i64 (p.1.beg : Int)] rfl (cells_one W3 _ _) (fun u hu => by simp at hu; subst hu; rfl) (by unfold maxLen; omega) (by omega)
      have hNl : N < W3.heap.size := d3.lt
      have hNw : w'.heap[N]? = W3.heap[N]? := (hg'.block N (by simp [World.drew]; omega) (fun e => by have := (d5 N e.symm).2; omega)).trans (Below.heap_alloc _ _ _ hNl)
      have b4 : Blk w' N #[.slice a3 pre.length c3] 24 := hNw.trans d3
      obtain ⟨a', c', rfl⟩ := row_shape (ok := fun _ => True) ⟨ho', fun _ _ => trivial⟩
      refine ⟨a', c', w', hr, b4.free 0, by have := b4.cell 0; simpa using this, ?_⟩
      have hkA : Keeps own1 W3 w' := (((Keeps.refl _ W3).alloc _).drew).grown hg' (fun k e => .inl (d5 k e).1)
      have hkB : Keeps own1 W3 (w'.setCell ⟨N, 0, none⟩ (.slice a' (pre.length + 1) c')) := hkA.setCell (.inl hoN) _
      have hnew : ∀ k, (Value.slice a' (pre.length + 1) c').ownBlock = some k → (own1 k ∨ W3.heap.size ≤ k) ∧ w2.heap.size ≤ k := by
        intro k hk
        have hs3 := k3.keeps.size
        rcases hfr with e | e
        · have := d5 k (e.symm.trans hk); exact ⟨.inl this.1, this.2⟩
        · have := e k hk; simp [World.drew] at this; exact ⟨.inr (by omega), by omega⟩
      have hk : Owns own1 (fun k => own1 k ∨ (Value.slice a' (pre.length + 1) c').ownBlock = some k) W3 (w'.setCell ⟨N, 0, none⟩ (.slice a' (pre.length + 1) c')) := by
        refine ⟨fun k e => e.elim .inl (fun e => (hnew k e).1), fun k e => ?_, hkB⟩
        rcases e with e | e
        · exact Nat.lt_of_lt_of_le (k3.lt k e) hkB.size
        · simpa [World.setCell] using (ho'.lt k e).2
      refine ⟨_, hk, k3.trans hk, .inl hoN, a', c', ?_, ?_, ?_⟩
      · have e := b4.set 0 (.slice a' (pre.length + 1) c')
        rw [List.length_append]
        simpa using e
      · have e := ((Keeps.refl (oneB N) w').setCell (p := ⟨N, 0, none⟩) (.inl rfl) (.slice a' (pre.length + 1) c')).ownsRow ho' (fun k hk hl e => by have : k = N := e; have := (hnew k hk).2; omega)
        rw [List.length_append, List.map_append]
        exact e
      · intro k hk
        rw [List.length_append] at hk
        exact ⟨.inr hk, (hnew k hk).2⟩
    have HD3 : Hid ((W3.alloc (.cells #[.int .i64 (p.1.beg : Int)] 3)).cell? ⟨N, 0, none⟩ = some (.slice a3 pre.length c3)) := ((d3.alloc _).cell 0).trans rfl
    clear hs3 hst hst3 b5 h3 h4 h5 h6 hk13 q2 q3 k3 d3 d4 d5 hi hz0 hz1 hz2
    gi_wp2
    obtain ⟨a', c', w', hr, z4, y5, hend⟩ := HY.out
    have y6 : (W3.alloc (.cells #[.int .i64 (p.1.beg : Int)] 3)).cell? ⟨N, 0, none⟩ = some (.slice a3 pre.length c3) := HD3.out
    have HE := Lib.hid hend
    clear hend HY
    refine wpIn_region_any (by kernel_rfl) ?_
    change wpAnyIn _ _ _ _ _ _ _ _ _ (World.drew _)
    refine wpAnyIn_ready (rs := [0, 1]) (by kernel_rfl) (by simp) ?_
    refine AllReadyIn.cons rfl (fun K hK => ?_) ?_
    · go_simp
      refine hK _ _ ?_
      clear hK K
      refine wpAnyIn_ready (rs := [1]) (by kernel_rfl) (by simp) ?_
      refine AllReadyIn.cons rfl (fun K hK => ?_) ?_
      · go_simp
        refine hK _ _ ?_
        clear hK K
        refine wpAnyIn_ready (rs := [2]) (by kernel_rfl) (by simp) ?_
        refine AllReadyIn.cons rfl (fun K hK => ?_) ?_
        · go_simp
          refine hK _ _ ?_
          clear hK K
          refine wpAnyIn_ready (rs := [3]) (by kernel_rfl) (by simp) ?_
          refine AllReadyIn.cons rfl (fun K hK => ?_) ?_
          · go_simp
            gi_wp2_with ((refine CallsIn.mono (CallsIn.inRound l (HBG.out _)) ?_); (rintro e w' ⟨rfl, rfl⟩))
            refine wpAnyIn_ready (rs := [4]) (by kernel_rfl) (by simp) ?_
            refine AllReadyIn.cons rfl (fun K hK => ?_) ?_
            · go_simp
              refine hK _ _ ?_
              clear hK K
              refine wpAnyIn_ready (rs := [5]) (by kernel_rfl) (by simp) ?_
              refine AllReadyIn.cons rfl (fun K hK => ?_) ?_
              · refine stepIn_append_run rfl _ _ _ _ rfl _ _ rfl rfl _ _ hr ?_
                refine hK _ _ ?_
                clear hK K
                refine wpAnyIn_ready (rs := [6]) (by kernel_rfl) (by simp) ?_
                refine AllReadyIn.cons rfl (fun K hK => ?_) ?_
                · go_simp
                  refine hK _ _ ?_
                  clear hK K
                  refine wpAnyIn_done (by kernel_rfl) ?_ _
                  gi_wp2
                  exact HE.out
                exact AllReadyIn.nil
              exact AllReadyIn.nil
            exact AllReadyIn.nil
          exact AllReadyIn.nil
        exact AllReadyIn.nil
      exact AllReadyIn.nil
    refine AllReadyIn.cons rfl (fun K hK => ?_) ?_
    · go_simp
      refine hK _ _ ?_
      clear hK K
      refine wpAnyIn_ready (rs := [0, 2]) (by kernel_rfl) (by simp) ?_
      refine AllReadyIn.cons rfl (fun K hK => ?_) ?_
      · go_simp
        refine hK _ _ ?_
        clear hK K
        refine wpAnyIn_ready (rs := [2]) (by kernel_rfl) (by simp) ?_
        refine AllReadyIn.cons rfl (fun K hK => ?_) ?_
        · go_simp
          refine hK _ _ ?_
          clear hK K
          refine wpAnyIn_ready (rs := [3]) (by kernel_rfl) (by simp) ?_
          refine AllReadyIn.cons rfl (fun K hK => ?_) ?_
          · go_simp
            gi_wp2_with ((refine CallsIn.mono (CallsIn.inRound l (HBG.out _)) ?_); (rintro e w' ⟨rfl, rfl⟩))
            refine wpAnyIn_ready (rs := [4]) (by kernel_rfl) (by simp) ?_
            refine AllReadyIn.cons rfl (fun K hK => ?_) ?_
            · go_simp
              refine hK _ _ ?_
              clear hK K
              refine wpAnyIn_ready (rs := [5]) (by kernel_rfl) (by simp) ?_
              refine AllReadyIn.cons rfl (fun K hK => ?_) ?_
              · refine stepIn_append_run rfl _ _ _ _ rfl _ _ rfl rfl _ _ hr ?_
                refine hK _ _ ?_
                clear hK K
                refine wpAnyIn_ready (rs := [6]) (by kernel_rfl) (by simp) ?_
                refine AllReadyIn.cons rfl (fun K hK => ?_) ?_
                · go_simp
                  refine hK _ _ ?_
                  clear hK K
                  refine wpAnyIn_done (by kernel_rfl) ?_ _
                  gi_wp2
                  exact HE.out
                exact AllReadyIn.nil
              exact AllReadyIn.nil
            exact AllReadyIn.nil
          exact AllReadyIn.nil
        exact AllReadyIn.nil
      refine AllReadyIn.cons rfl (fun K hK => ?_) ?_
      · go_simp
        refine hK _ _ ?_
        clear hK K
        refine wpAnyIn_ready (rs := [0, 3]) (by kernel_rfl) (by simp) ?_
        refine AllReadyIn.cons rfl (fun K hK => ?_) ?_
        · go_simp
          refine hK _ _ ?_
          clear hK K
          refine wpAnyIn_ready (rs := [3]) (by kernel_rfl) (by simp) ?_
          refine AllReadyIn.cons rfl (fun K hK => ?_) ?_
          · go_simp
            gi_wp2_with ((refine CallsIn.mono (CallsIn.inRound l (HBG.out _)) ?_); (rintro e w' ⟨rfl, rfl⟩))
            refine wpAnyIn_ready (rs := [4]) (by kernel_rfl) (by simp) ?_
            refine AllReadyIn.cons rfl (fun K hK => ?_) ?_
            · go_simp
              refine hK _ _ ?_
              clear hK K
              refine wpAnyIn_ready (rs := [5]) (by kernel_rfl) (by simp) ?_
              refine AllReadyIn.cons rfl (fun K hK => ?_) ?_
              · refine stepIn_append_run rfl _ _ _ _ rfl _ _ rfl rfl _ _ hr ?_
                refine hK _ _ ?_
                clear hK K
                refine wpAnyIn_ready (rs := [6]) (by kernel_rfl) (by simp) ?_
                refine AllReadyIn.cons rfl (fun K hK => ?_) ?_
                · go_simp
                  refine hK _ _ ?_
                  clear hK K
                  refine wpAnyIn_done (by kernel_rfl) ?_ _
                  gi_wp2
                  exact HE.out
                exact AllReadyIn.nil
              exact AllReadyIn.nil
            exact AllReadyIn.nil
          exact AllReadyIn.nil
        refine AllReadyIn.cons rfl (fun K hK => ?_) ?_
        · go_simp
          gi_wp2_with ((refine CallsIn.mono (CallsIn.inRound l (HBG.out _)) ?_); (rintro e w' ⟨rfl, rfl⟩))
          refine wpAnyIn_ready (rs := [0, 4]) (by kernel_rfl) (by simp) ?_
          refine AllReadyIn.cons rfl (fun K hK => ?_) ?_
          · go_simp
            refine hK _ _ ?_
            clear hK K
            refine wpAnyIn_ready (rs := [4]) (by kernel_rfl) (by simp) ?_
            refine AllReadyIn.cons rfl (fun K hK => ?_) ?_
            · go_simp
              refine hK _ _ ?_
              clear hK K
              refine wpAnyIn_ready (rs := [5]) (by kernel_rfl) (by simp) ?_
              refine AllReadyIn.cons rfl (fun K hK => ?_) ?_
              · refine stepIn_append_run rfl _ _ _ _ rfl _ _ rfl rfl _ _ hr ?_
                refine hK _ _ ?_
                clear hK K
                refine wpAnyIn_ready (rs := [6]) (by kernel_rfl) (by simp) ?_
                refine AllReadyIn.cons rfl (fun K hK => ?_) ?_
                · go_simp
                  refine hK _ _ ?_
                  clear hK K
                  refine wpAnyIn_done (by kernel_rfl) ?_ _
                  gi_wp2
                  exact HE.out
                exact AllReadyIn.nil
              exact AllReadyIn.nil
            exact AllReadyIn.nil
          refine AllReadyIn.cons rfl (fun K hK => ?_) ?_
          · go_simp
            refine hK _ _ ?_
            clear hK K
            refine wpAnyIn_ready (rs := [0]) (by kernel_rfl) (by simp) ?_
            refine AllReadyIn.cons rfl (fun K hK => ?_) ?_
            · go_simp
              refine hK _ _ ?_
              clear hK K
              refine wpAnyIn_ready (rs := [5]) (by kernel_rfl) (by simp) ?_
              refine AllReadyIn.cons rfl (fun K hK => ?_) ?_
              · refine stepIn_append_run rfl _ _ _ _ rfl _ _ rfl rfl _ _ hr ?_
                refine hK _ _ ?_
                clear hK K
                refine wpAnyIn_ready (rs := [6]) (by kernel_rfl) (by simp) ?_
                refine AllReadyIn.cons rfl (fun K hK => ?_) ?_
                · go_simp
                  refine hK _ _ ?_
                  clear hK K
                  refine wpAnyIn_done (by kernel_rfl) ?_ _
                  gi_wp2
                  exact HE.out
                exact AllReadyIn.nil
              exact AllReadyIn.nil
            exact AllReadyIn.nil
          exact AllReadyIn.nil
        exact AllReadyIn.nil
      exact AllReadyIn.nil
    exact AllReadyIn.nil
  case hdone =>
    rintro D own' W' hb ⟨h3, hoN, a, c, h4, h5, h6⟩
    have y4 := h4.cell 0
    simp at y4
    obtain ⟨e1, e2, e3, e4⟩ := HG.out
    have exs : (x.preD 0).map (fun p => i64 p.1.beg) = x.pre.list.map (fun x => i64 x.beg) := by rw [← e4, List.map_map]; rfl
    have HE : Hid (∀ W2, Keeps (fun k => k ∈ [D]) W' W2 → StepsPost w (some x) (.returned (.tuple #[.slice a (x.preD 0).length c, .bool true])) W2) := by
      intro W2 q
      have hs1 := HQ.out.size
      have hNw := HH.out
      have hnew := hb.new
      have k2 : Keeps noB w W' := (HQ.out.trans q2).transNew h3.keeps (fun i hi e => by have : i = N := e; omega)
      refine ⟨_, true, (x.preD 0).map (fun p => i64 p.1.beg), rfl, ⟨?_, fun g hg => ?_⟩, k2.transNew q (fun i hi e => by simp at e; omega), rfl, exs⟩
      · rw [List.length_map]
        exact q.ownsRow h5 (fun g hg hl e => by simp at e; subst e; exact hb.free (h6 g hg).1)
      · have := (h6 g hg).2; show w.heap.size ≤ g; omega
    have HD := Lib.hid hb.none
    clear h3 h4 h5 h6 hb e1 e2 e3 e4 exs
    dsimp only
    gi_wp2
    refine leaves_marks [D] _ (by simp) (fun D' hD' => by simp at hD'; subst hD'; exact HD.out) (fun W2 q _ => ?_)
    exact ⟨_, resSteps W2 _ _ _ rfl rfl, HE.out _ q⟩
  case hstop => intro D c pre post own' W' _ _ h; exact h.elim

theorem steps_any (s : ByteArray) (hs : s.size ≤ 1048576) (w : World) : Calls Try.prog 6 #[.string s] w (StepsPost w (progP s)) := by
  cases hp : progP s with
  | none => exact steps_none s hs hp w
  | some x => exact steps_some s hs x hp w

end Go.Proofs.Ytjpmeecdndnknaa

/-
  Walks of the program: AllChoices.
-/
import Derived.Test.YtfnaikopogojbaaKx
import Derived.Test.YtfnaikopogojbaaIt
namespace Go.Proofs.Ytfnaikopogojbaa
set_option linter.unusedVariables false
set_option linter.unusedSimpArgs false
open Go.RowKit Go.Shelf

attribute [local go_sem] Oper.semAt_some

theorem resAll (W : World) (v : Value) (b : Bool) (tmps : Array Value) (h4 : tmps.getD 4 undef = v) (h5 : tmps.getD 5 undef = .bool b) : (results Try.f41 tmps).run Try.prog W = .ok (.tuple #[v, .bool b]) W := by
  have h4' : tmps[4]?.getD undef = v := by simpa using h4
  have h5' : tmps[5]?.getD undef = .bool b := by simpa using h5
  simp [results, Try.results41, go_sem, h4', h5']

/-- How AllChoices ends: a row of its own. -/
def AllPost (w : World) (res : Option (List (List UInt8))) (e : Ending) (w' : World) : Prop :=
  ∃ v l, e = .returned (.tuple #[v, .bool res.isSome]) ∧ Row w' (fromB w.heap.size) 9 1 v l.length (strsC l) ∧ Keeps noB w w' ∧ l.length ≤ 1000 ∧ l = res.getD [] ∧ ∀ c ∈ l, c.length ≤ 6

theorem rights_few (x : Nd) (n : Nat) (hn : n ≤ 6) : (x.rights (x.upTo n)).length ≤ 1000 ∧ ∀ c ∈ x.rights (x.upTo n), c.length ≤ 6 := by
  constructor
  · have h1 := List.length_filter_le (fun c => (x.with c).right) (x.upTo n)
    have h2 := levels_len x (n + 1) 0
    have h3 : 2 ^ (0 + (n + 1)) ≤ 2 ^ 7 := Nat.pow_le_pow_right (by omega) (by omega)
    have h4 : (x.upTo n).length = (x.levels 0 (n + 1)).length := rfl
    unfold Nd.rights
    omega
  · intro c hc
    have := (levels_mem x (n + 1) 0 c (List.mem_filter.1 hc).1).1
    omega

set_option maxRecDepth 100000 in
set_option maxHeartbeats 4000000 in
theorem all_none (s : ByteArray) (hs : s.size ≤ 1048576) (n : Int) (hp : progP s = none) (w : World) : Calls Try.prog 41 #[.string s, .int .i64 n] w (AllPost w none) := by
  refine (callsIn_wide (n := 9)).1 ?_
  obtain ⟨F, hF⟩ : ∃ F, F = Fence.wide := ⟨_, rfl⟩
  have hFf : ∀ f, F.fn f := by subst hF; exact fun _ => trivial
  have hdd : ∀ k : Nat, (F.depth.isSome = true → 1 ≤ k) := by subst hF; intro k h; simp [Fence.wide] at h
  have hro : F.round = none := by subst hF; rfl
  have hds : F.depth.isSome = false := by subst hF; rfl
  have HC : Hid (∀ m w, CallsIn F m Try.prog 63 #[.string s] w (ReadPost w none)) := fun m w => by
    have := read_any s hs w; rw [hp] at this; rw [hF]; exact callsIn_wide.2 this
  rw [← hF]
  clear hF hp
  refine callsIn_of_wp_marks Try.func41 rfl (hFf _) ?_ hro
  simp only [Try.ntmps41, List.size_toArray, List.length_cons, List.length_nil, Nat.reduceAdd, Nat.reduceSub, Array.replicate_succ, Array.replicate_zero, List.push_toArray, List.append_toArray, List.nil_append, List.cons_append]
  gi_wp2
  refine (HC.out _ _).mono ?_
  rintro e w1 ⟨rfl, q1⟩
  gi_wp2
  refine leaves_marks [] _ List.nodup_nil (fun _ h => by cases h) (fun W' q _ => ?_)
  refine ⟨_, resAll W' (.slice none 0 0) false _ rfl rfl, ?_⟩
  exact ⟨_, [], rfl, ⟨⟨rfl, .inl ⟨rfl, rfl⟩⟩, fun g hg => by simp [Value.ownBlock] at hg⟩, q1.trans (q.mono (fun _ e => by cases e)), Nat.zero_le _, rfl, fun _ h => by cases h⟩

set_option maxRecDepth 100000 in
set_option maxHeartbeats 4000000 in
theorem all_out (s : ByteArray) (hs : s.size ≤ 1048576) (n : Int) (x : Nd) (hp : progP s = some x) (hn : n < 0 ∨ 6 < n) (w : World) : Calls Try.prog 41 #[.string s, .int .i64 n] w (AllPost w none) := by
  refine (callsIn_wide (n := 9)).1 ?_
  obtain ⟨F, hF⟩ : ∃ F, F = Fence.wide := ⟨_, rfl⟩
  have hFf : ∀ f, F.fn f := by subst hF; exact fun _ => trivial
  have hdd : ∀ k : Nat, (F.depth.isSome = true → 1 ≤ k) := by subst hF; intro k h; simp [Fence.wide] at h
  have hro : F.round = none := by subst hF; rfl
  have hds : F.depth.isSome = false := by subst hF; rfl
  have HC : Hid (∀ m w, CallsIn F m Try.prog 63 #[.string s] w (ReadPost w (some x))) := fun m w => by
    have := read_any s hs w; rw [hp] at this; rw [hF]; exact callsIn_wide.2 this
  rw [← hF]
  clear hF hp
  refine callsIn_of_wp_marks Try.func41 rfl (hFf _) ?_ hro
  simp only [Try.ntmps41, List.size_toArray, List.length_cons, List.length_nil, Nat.reduceAdd, Nat.reduceSub, Array.replicate_succ, Array.replicate_zero, List.push_toArray, List.append_toArray, List.nil_append, List.cons_append]
  gi_wp2
  refine (HC.out _ _).mono ?_
  rintro e w1 ⟨g, rfl, _, q1⟩
  unfold ptr
  by_cases h0 : n < 0
  · gi_wp2
    refine leaves_marks [] _ List.nodup_nil (fun _ h => by cases h) (fun W' q _ => ?_)
    refine ⟨_, resAll W' (.slice none 0 0) false _ rfl rfl, ?_⟩
    exact ⟨_, [], rfl, ⟨⟨rfl, .inl ⟨rfl, rfl⟩⟩, fun g hg => by simp [Value.ownBlock] at hg⟩, q1.trans (q.mono (fun _ e => by cases e)), Nat.zero_le _, rfl, fun _ h => by cases h⟩
  · have h6 : 6 < n := by omega
    gi_wp2
    refine leaves_marks [] _ List.nodup_nil (fun _ h => by cases h) (fun W' q _ => ?_)
    refine ⟨_, resAll W' (.slice none 0 0) false _ rfl rfl, ?_⟩
    exact ⟨_, [], rfl, ⟨⟨rfl, .inl ⟨rfl, rfl⟩⟩, fun g hg => by simp [Value.ownBlock] at hg⟩, q1.trans (q.mono (fun _ e => by cases e)), Nat.zero_le _, rfl, fun _ h => by cases h⟩

/-- What the loop over the choices has gathered; N: the list's block. -/
def AllI (N : Nat) (w2 : World) (pre : List (List UInt8)) (own : Nat → Prop) (W' : World) : Prop :=
  Owns (oneB N) own w2 W' ∧ own N ∧ ∃ a c, Blk W' N #[.slice a pre.length c] 32 ∧ W'.ownsRow 0 9 1 (.slice a pre.length c) pre.length (strsC pre) ∧ ∀ g, (Value.slice a pre.length c).ownBlock = some g → own g ∧ w2.heap.size ≤ g

theorem AllI.stab {N : Nat} {w2 : World} (hN : N < w2.heap.size) : Stab w2.heap.size (AllI N w2) := by
  rintro pre own W W' ⟨h1, h2, a, c, h3, h4, h5⟩ q
  refine ⟨h1.ahead q (fun i e => e.1), h2, a, c, q.blk h3 (fun e => by have := e.1; omega), q.ownsRow h4 (fun g hg hl e => e.2 (h5 g hg).1), h5⟩

set_option maxRecDepth 100000 in
set_option maxHeartbeats 1000000 in
theorem all_next {N : Nat} {w2 W3 : World} {pre : List (List UInt8)} {own1 : Nat → Prop} {a : Option Addr} {c : Nat} {p : List UInt8} (hN2 : N < w2.heap.size) (k3 : Owns (oneB N) own1 w2 W3) (hoN : own1 N) (d3 : Blk W3 N #[.slice a pre.length c] 32)
    (d4 : W3.ownsRow 0 9 1 (.slice a pre.length c) pre.length (strsC pre)) (d5 : ∀ g, (Value.slice a pre.length c).ownBlock = some g → own1 g ∧ w2.heap.size ≤ g) (hpre : pre.length ≤ 100000) :
    ∃ a' c' w', (Builtin.append_ #[32, 32] 32 #[.slice a pre.length c, .slice (some ⟨W3.heap.size, 0, none⟩) 1 1]).run Try.prog (W3.alloc (.cells #[.string ⟨p.toArray⟩] 9)) = .ok (.slice a' (pre.length + 1) c') w' ∧
      w'.frozen? ⟨N, 0, none⟩ = false ∧ w'.cell? ⟨N, 0, none⟩ = some (.slice a pre.length c) ∧ ∃ own', Owns own1 own' W3 (w'.setCell ⟨N, 0, none⟩ (.slice a' (pre.length + 1) c')) ∧ AllI N w2 (pre ++ [p]) own' (w'.setCell ⟨N, 0, none⟩ (.slice a' (pre.length + 1) c')) := by
  obtain ⟨i0, hi, hz0, hz1, hz2⟩ := info_parts Try.zeroK9
  obtain ⟨v', w', hr, ho', hg', hfr⟩ := run_append_fresh (P := Try.prog) (W3.alloc (.cells #[.string ⟨p.toArray⟩] 9)) 32 32 9 i0 (.string ⟨#[]⟩) 1 16 Try.underlying32 hi hz0 hz1 hz2 rfl (by omega)
    (.slice a pre.length c) pre.length _ (((Keeps.refl noB W3).alloc _).ownsRow d4 (fun _ _ _ => id)) ⟨W3.heap.size, 0, none⟩ 1 1 [.string ⟨p.toArray⟩] rfl (cells_one W3 _ _) (fun u hu => by simp at hu; subst hu; rfl) (by unfold maxLen; omega) (by omega)
  have hNl : N < W3.heap.size := d3.lt
  have hNw : w'.heap[N]? = W3.heap[N]? := (hg'.block N (by simp; omega) (fun e => by have := (d5 N e.symm).2; omega)).trans (Below.heap_alloc _ _ _ hNl)
  have b4 : Blk w' N #[.slice a pre.length c] 32 := hNw.trans d3
  obtain ⟨a', c', rfl⟩ := row_shape (ok := fun _ => True) ⟨ho', fun _ _ => trivial⟩
  refine ⟨a', c', w', hr, b4.free 0, by have := b4.cell 0; simpa using this, ?_⟩
  have hkA : Keeps own1 W3 w' := ((Keeps.refl _ W3).alloc _).grown hg' (fun k e => .inl (d5 k e).1)
  have hkB : Keeps own1 W3 (w'.setCell ⟨N, 0, none⟩ (.slice a' (pre.length + 1) c')) := hkA.setCell (.inl hoN) _
  have hnew : ∀ k, (Value.slice a' (pre.length + 1) c').ownBlock = some k → (own1 k ∨ W3.heap.size ≤ k) ∧ w2.heap.size ≤ k := by
    intro k hk
    have hs3 := k3.keeps.size
    rcases hfr with e | e
    · have := d5 k (e.symm.trans hk); exact ⟨.inl this.1, this.2⟩
    · have := e k hk; simp at this; exact ⟨.inr (by omega), by omega⟩
  have hk : Owns own1 (fun k => own1 k ∨ (Value.slice a' (pre.length + 1) c').ownBlock = some k) W3 (w'.setCell ⟨N, 0, none⟩ (.slice a' (pre.length + 1) c')) := by
    refine ⟨fun k e => e.elim .inl (fun e => (hnew k e).1), fun k e => ?_, hkB⟩
    rcases e with e | e
    · exact Nat.lt_of_lt_of_le (k3.lt k e) hkB.size
    · simpa [World.setCell] using (ho'.lt k e).2
  refine ⟨_, hk, k3.trans hk, .inl hoN, a', c', ?_, ?_, ?_⟩
  · have e := b4.set 0 (.slice a' (pre.length + 1) c')
    rw [List.length_append]
    simpa using e
  · have e := ((Keeps.refl (oneB N) w').setCell (p := ⟨N, 0, none⟩) (.inl rfl) (.slice a' (pre.length + 1) c')).ownsRow ho' (fun k hk hl e => by have : k = N := e; have := (hnew k hk).2; omega)
    rw [List.length_append, strsC_snoc]
    exact e
  · intro k hk
    rw [List.length_append] at hk
    exact ⟨.inr hk, (hnew k hk).2⟩

set_option maxRecDepth 100000 in
set_option maxHeartbeats 4000000 in
theorem all_some (s : ByteArray) (hs : s.size ≤ 1048576) (n : Nat) (hn : n ≤ 6) (x : Nd) (hp : progP s = some x) (w : World) : Calls Try.prog 41 #[.string s, .int .i64 (n : Int)] w (AllPost w (some (x.rights (x.upTo n)))) := by
  refine (callsIn_wide (n := 9)).1 ?_
  obtain ⟨F, hF⟩ : ∃ F, F = Fence.wide := ⟨_, rfl⟩
  have hFf : ∀ f, F.fn f := by subst hF; exact fun _ => trivial
  have hdd : ∀ k : Nat, (F.depth.isSome = true → 1 ≤ k) := by subst hF; intro k h; simp [Fence.wide] at h
  have hro : F.round = none := by subst hF; rfl
  have hds : F.depth.isSome = false := by subst hF; rfl
  have HC : Hid (∀ m w, CallsIn F m Try.prog 63 #[.string s] w (ReadPost w (some x))) := fun m w => by
    have := read_any s hs w; rw [hp] at this; rw [hF]; exact callsIn_wide.2 this
  have HU : Hid (∀ m g w, CallsIn F m Try.prog 77 #[.pointer (some ⟨g, 0, none⟩), .int .i64 (n : Int)] w (fun e w' => e = .returned (.func (.func 97) #[] #[ptr (w.heap.size + 1), ptr w.heap.size]) ∧ w' = (w.alloc (.cells #[.pointer (some ⟨g, 0, none⟩)] 73)).alloc (.cells #[.int .i64 (n : Int)] 3))) := fun m g w => by
    rw [hF]; exact callsIn_wide.2 (upTo_any g n w)
  rw [← hF]
  have HF := Lib.hid hF
  have HP := Lib.hid hp
  clear hF hp
  refine callsIn_of_wp_marks Try.func41 rfl (hFf _) ?_ hro
  simp only [Try.ntmps41, List.size_toArray, List.length_cons, List.length_nil, Nat.reduceAdd, Nat.reduceSub, Array.replicate_succ, Array.replicate_zero, List.push_toArray, List.append_toArray, List.nil_append, List.cons_append]
  gi_wp2
  refine (HC.out _ _).mono ?_
  rintro e w1 ⟨g, rfl, hrep, q1⟩
  have HQ := Lib.hid q1
  have HREP := Lib.hid hrep
  have hM1 := q1.size
  have hn0 : ¬ (n : Int) < 0 := by omega
  have hn6 : ¬ 6 < (n : Int) := by omega
  clear q1 hrep
  unfold ptr
  gi_wp2
  refine (HU.out _ _ _).mono ?_
  rintro e W0 ⟨rfl, rfl⟩
  have q2 : Keeps noB w1 (((w1.alloc (.cells #[.slice none 0 0] 32)).alloc (.cells #[.pointer (some ⟨g, 0, none⟩)] 73)).alloc (.cells #[.int .i64 (n : Int)] 3)) := (((Keeps.refl _ _).alloc _).alloc _).alloc _
  have hsA : (w1.alloc (.cells #[.slice none 0 0] 32)).heap.size = w1.heap.size + 1 := by simp
  have hsB : ((w1.alloc (.cells #[.slice none 0 0] 32)).alloc (.cells #[.pointer (some ⟨g, 0, none⟩)] 73)).heap.size = w1.heap.size + 1 + 1 := by simp
  have bN : Blk (((w1.alloc (.cells #[.slice none 0 0] 32)).alloc (.cells #[.pointer (some ⟨g, 0, none⟩)] 73)).alloc (.cells #[.int .i64 (n : Int)] 3)) w1.heap.size #[.slice none 0 0] 32 := ((Blk.new w1 _ _).alloc _).alloc _
  have bR : Blk (((w1.alloc (.cells #[.slice none 0 0] 32)).alloc (.cells #[.pointer (some ⟨g, 0, none⟩)] 73)).alloc (.cells #[.int .i64 (n : Int)] 3)) (w1.heap.size + 1) #[.pointer (some ⟨g, 0, none⟩)] 73 := (blk_new hsA _ _).alloc _
  have bI : Blk (((w1.alloc (.cells #[.slice none 0 0] 32)).alloc (.cells #[.pointer (some ⟨g, 0, none⟩)] 73)).alloc (.cells #[.int .i64 (n : Int)] 3)) (w1.heap.size + 1 + 1) #[.int .i64 (n : Int)] 3 := blk_new hsB _ _
  have hs2 : (((w1.alloc (.cells #[.slice none 0 0] 32)).alloc (.cells #[.pointer (some ⟨g, 0, none⟩)] 73)).alloc (.cells #[.int .i64 (n : Int)] 3)).heap.size = w1.heap.size + 3 := by simp
  rw [hsA]
  generalize ((w1.alloc (.cells #[.slice none 0 0] 32)).alloc (.cells #[.pointer (some ⟨g, 0, none⟩)] 73)).alloc (.cells #[.int .i64 (n : Int)] 3) = w2 at q2 bN bR bI hs2 ⊢
  clear hsA hsB
  obtain ⟨N, hN⟩ : ∃ N, N = w1.heap.size := ⟨_, rfl⟩
  rw [← hN] at bN bR bI hs2 hM1 ⊢
  have HH := Lib.hid hN
  clear hN
  have HUP : Hid (∀ W, Keeps noB w2 W → UpAt x n (N + 1 + 1) (N + 1) g (fun k => (w.heap.size ≤ k ∧ k < N) ∨ k = N + 1 ∨ k = N + 1 + 1) W) := fun W q => by
    have hrepW : RepI W (fun k => w.heap.size ≤ k ∧ k < N) x (.iface 73 (ptr g)) :=
      (Hands.of_keeps (q2.trans q) (fun _ _ _ => id) (fun k hk hl => ⟨hk, by rw [HH.out]; exact hl⟩)).repI _ _ HREP.out
    have hsz : N < W.heap.size := by have := q.size; omega
    refine ⟨q.blk bI id, q.blk bR id, .inr (.inr rfl), .inr (.inl rfl), fun W' hs' hsame c hc => ?_⟩
    have hrep' := (Hands.of_same (w := W) (W := W') (ok := fun k => w.heap.size ≤ k ∧ k < N) (fun k hk _ => hsame k (.inl hk)) (fun k hk => by have := hk.2; omega)).repI _ _ hrepW
    refine (runWith_any x (root_any HP.out) (progP_ok HP.out).1 W' _ g ⟨c.toArray⟩ hrep' (fun k hk => by have := hk.2; omega) (room_start HP.out (by simp [ByteArray.size]; omega))).mono ?_
    rintro e w' ⟨b, own', ar', ve, vv, rfl, q', _⟩
    obtain ⟨yi, hy⟩ := endOf_asks (x.with c)
    refine ⟨b, (x.with c).exit, yi, ?_, q'⟩
    show Ending.returned (.tuple #[_, endOf (x.with c), .bool (x.with c).right]) = _
    rw [hy]
  have hfew := rights_few x n hn
  have HG := Lib.hid hfew
  have HQ2 := Lib.hid q2
  clear hfew q2 bR bI
  gi_wp2
  refine wp_range HF.out (gf := 97) (lb := #[ptr (N + 1 + 1), ptr (N + 1)]) (all := x.rights (x.upTo n)) (enc := encU) (prot := fun k => (w.heap.size ≤ k ∧ k < N) ∨ k = N + 1 ∨ k = N + 1 + 1) (own := oneB N)
    rfl (enters_of Try.func97 (by kernel_rfl) rfl) (fun W q => upTo_iter x n _ _ g _ W (HUP.out W q) hn (fun k hk => by have := q.size; omega)) (AllI N w2) (fun _ _ _ _ => False) ?hI ?hIx ?hown ?hprot ?hps ?h0 ?hround ?hdone ?hstop
  case hI => exact AllI.stab (by omega)
  case hIx => rintro c pre own W W' h q; exact h
  case hown => rintro k rfl; omega
  case hprot => intro k hk; exact ⟨fun e => by have : k = N := e; omega, by omega⟩
  case hps => rintro y args rfl; rfl
  case h0 => exact ⟨Owns.refl (by rintro k rfl; omega), rfl, none, 0, bN, ⟨rfl, .inl ⟨rfl, rfl⟩⟩, fun g hg => by simp [Value.ownBlock] at hg⟩
  case hround =>
    rintro l m pre p post args own1 W1 hall henc hai hlt hl hnl hll
    have henc' : args = #[.string ⟨p.toArray⟩] := henc
    subst henc'
    have hpre : pre.length ≤ 100000 := by
      have h1 := HG.out.1
      rw [hall] at h1
      simp at h1
      omega
    have HA := Lib.hid hai
    have HW := Lib.hid (And.intro hl (And.intro hnl hll))
    clear hall henc hai hl hnl hll
    obtain ⟨ps, hps⟩ : ∃ ps : ByteArray, ps = ⟨p.toArray⟩ := ⟨_, rfl⟩
    rw [← hps]
    have HPS := Lib.hid hps
    clear hps
    gi_wp2
    refine ⟨Keeps.refl _ _, fun W3 q3 hs3 => ?_⟩
    obtain ⟨hl, hnl, hll⟩ := HW.out
    obtain ⟨k3, hoN, a3, c3, d3, d4, d5⟩ := AllI.stab (N := N) (w2 := w2) (by omega) pre own1 W1 W3 HA.out (q3.mono (fun k e => by obtain rfl : k = l := e; exact ⟨hl, hnl⟩))
    obtain ⟨a', c', w', hr, z4, y5, hend⟩ := all_next (p := p) (by omega) k3 hoN d3 d4 d5 hpre
    have y4 := d3.cell 0
    simp at y4
    have y6 : (W3.alloc (.cells #[.string ps] 9)).cell? ⟨N, 0, none⟩ = some (.slice a3 pre.length c3) := ((d3.alloc _).cell 0).trans rfl
    rw [← HPS.out] at hr
    have HE := Lib.hid hend
    clear hend hl hnl hll q3 hs3 k3 hoN d3 d4 d5
    gi_wp2_with (gi_at_builtin; refine wpListIn_append_run _ rfl _ _ _ _ rfl _ _ rfl rfl _ _ hr ?_)
    exact HE.out
  case hdone =>
    rintro D own' W' hb ⟨h3, hoN, a, c, h4, h5, h6⟩
    have y4 := h4.cell 0
    simp at y4
    have HE : Hid (∀ W2, Keeps (fun k => k ∈ [D]) W' W2 → AllPost w (some (x.rights (x.upTo n))) (.returned (.tuple #[.slice a (x.rights (x.upTo n)).length c, .bool true])) W2) := by
      intro W2 q
      have hs1 := HQ.out.size
      have hNw := HH.out
      have hnew := hb.new
      have k2 : Keeps noB w W' := (HQ.out.trans HQ2.out).transNew h3.keeps (fun i hi e => by have : i = N := e; omega)
      refine ⟨_, x.rights (x.upTo n), rfl, ⟨?_, fun g hg => ?_⟩, k2.transNew q (fun i hi e => by simp at e; omega), HG.out.1, rfl, HG.out.2⟩
      · exact q.ownsRow h5 (fun g hg hl e => by simp at e; subst e; exact hb.free (h6 g hg).1)
      · have := (h6 g hg).2; show w.heap.size ≤ g; omega
    obtain ⟨L, hL⟩ : ∃ L, L = (x.rights (x.upTo n)).length := ⟨_, rfl⟩
    rw [← hL] at y4 HE
    have HD := Lib.hid hb.none
    clear h3 h4 h5 h6 hb hL
    dsimp only
    gi_wp2
    refine leaves_marks [D] _ (by simp) (fun D' hD' => by simp at hD'; subst hD'; exact HD.out) (fun W2 q _ => ?_)
    exact ⟨_, resAll W2 _ _ _ rfl rfl, HE.out _ q⟩
  case hstop => intro D c pre post own' W' _ _ h; exact h.elim

theorem all_any (s : ByteArray) (hs : s.size ≤ 1048576) (n : Int) (w : World) : Calls Try.prog 41 #[.string s, .int .i64 n] w (AllPost w (allP s n)) := by
  unfold allP
  cases hp : progP s with
  | none => exact all_none s hs n hp w
  | some x =>
    by_cases hn : 0 ≤ n ∧ n ≤ 6
    · simp only [if_pos hn]
      have e : n = (n.toNat : Int) := by omega
      have h := all_some s hs n.toNat (by omega) x hp w
      rw [← e] at h
      exact h
    · simp only [if_neg hn]
      exact all_out s hs n x hp (by omega) w

end Go.Proofs.Ytfnaikopogojbaa

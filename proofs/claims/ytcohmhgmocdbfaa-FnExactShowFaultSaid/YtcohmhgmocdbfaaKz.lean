/-
  The program's ShowFault.
-/
import Derived.Test.YtcohmhgmocdbfaaKx
import Derived.Test.YtcohmhgmocdbfaaKw
import Derived.Test.YtcohmhgmocdbfaaPs
namespace Go.Proofs.Ytcohmhgmocdbfaa
set_option linter.unusedVariables false
set_option linter.unusedSimpArgs false
open Go.RowKit

attribute [local go_sem] Oper.semAt_some

theorem resShow (W : World) (b1 b2 : Nat) (x : ByteArray) (v : Bool) (tmps : Array Value) (h1 : tmps.getD 2 undef = .pointer (some ⟨b1, 0, none⟩)) (h2 : tmps.getD 3 undef = .pointer (some ⟨b2, 0, none⟩)) (c1 : W.cell? ⟨b1, 0, none⟩ = some (.string x)) (c2 : W.cell? ⟨b2, 0, none⟩ = some (.bool v)) :
    (results Try.f25 tmps).run Try.prog W = .ok (.tuple #[.string x, .bool v]) W := by
  have h1' : tmps[2]?.getD undef = .pointer (some ⟨b1, 0, none⟩) := by simpa using h1
  have h2' : tmps[3]?.getD undef = .pointer (some ⟨b2, 0, none⟩) := by simpa using h2
  simp [results, Try.results25, go_sem, h1', h2', c1, c2]

/-- The two boxes of results. -/
def twoS (a : Nat) : Nat → Prop := fun k => k = a ∨ k = a + 1

def ShowPost (s : ByteArray) (w : World) (e : Ending) (w' : World) : Prop := e = .returned (.tuple #[.string (showT (showP s)), .bool (showP s).isSome]) ∧ Keeps noB w w'

set_option maxRecDepth 100000 in
set_option maxHeartbeats 4000000 in
theorem showP_none (s : ByteArray) (hs : s.size ≤ 1048576) (hp : progP s = none) (w : World) : Calls Try.prog 25 #[.string s] w (ShowPost s w) := by
  have hsh : showP s = none := show_none (by rw [all_none6 hp]; intro c hc; cases hc)
  unfold ShowPost
  rw [hsh]
  refine (callsIn_wide (n := 9)).1 ?_
  obtain ⟨F, hF⟩ : ∃ F, F = Fence.wide := ⟨_, rfl⟩
  have hFf : ∀ f, F.fn f := by subst hF; exact fun _ => trivial
  have hdd : ∀ k : Nat, (F.depth.isSome = true → 1 ≤ k) := by subst hF; intro k h; simp [Fence.wide] at h
  have hro : F.round = none := by subst hF; rfl
  have hds : F.depth.isSome = false := by subst hF; rfl
  have HC : Hid (∀ m w, CallsIn F m Try.prog 34 #[.string s] w (ReadPost w none)) := fun m w => by
    rw [hF]; have := read_any s hs w; rw [hp] at this; exact callsIn_wide.2 this
  rw [← hF]
  clear hF hsh
  refine callsIn_of_wp_marks Try.func25 rfl (hFf _) ?_ hro
  simp only [Try.ntmps25, List.size_toArray, List.length_cons, List.length_nil, Nat.reduceAdd, Nat.reduceSub, Array.replicate_succ, Array.replicate_zero, List.push_toArray, List.append_toArray, List.nil_append, List.cons_append]
  have HB1 := Lib.hid ((Blk.new w #[.string ⟨#[]⟩] 9).alloc (.cells #[.bool false] 4))
  have HB2 := Lib.hid (Blk.new (w.alloc (.cells #[.string ⟨#[]⟩] 9)) #[.bool false] 4)
  have HK0 := Lib.hid (((Keeps.refl noB w).alloc (.cells #[.string ⟨#[]⟩] 9)).alloc (.cells #[.bool false] 4))
  gi_wp2
  refine (HC.out _ _).mono ?_
  rintro e w1 ⟨rfl, q1⟩
  have b1 := (q1.blk HB1.out id).alloc (.cells #[.pointer none] 56)
  have b2 := (q1.blk HB2.out id).alloc (.cells #[.pointer none] 56)
  have k1 := (HK0.out.trans q1).alloc (.cells #[.pointer none] 56)
  rw [World.size_alloc] at b2
  have z0 := b1.free 0
  have z1 := b2.free 0
  have y0 : (w1.alloc (.cells #[.pointer none] 56)).cell? ⟨w.heap.size, 0, none⟩ = some (.string ⟨#[]⟩) := (b1.cell 0).trans rfl
  have y1 : (w1.alloc (.cells #[.pointer none] 56)).cell? ⟨w.heap.size + 1, 0, none⟩ = some (.bool false) := (b2.cell 0).trans rfl
  have HE : Hid (∀ W2, Keeps (fun k => k ∈ []) (((w1.alloc (.cells #[.pointer none] 56)).setCell ⟨w.heap.size, 0, none⟩ (.string ⟨#[]⟩)).setCell ⟨w.heap.size + 1, 0, none⟩ (.bool false)) W2 → W2.cell? ⟨w.heap.size, 0, none⟩ = some (.string ⟨#[]⟩) ∧ W2.cell? ⟨w.heap.size + 1, 0, none⟩ = some (.bool false) ∧ Keeps noB w W2) := fun W2 q => by
    have d1 := (b1.set 0 (.string ⟨#[]⟩)).setOther (a := ⟨w.heap.size + 1, 0, none⟩) (by show w.heap.size + 1 ≠ w.heap.size; omega) (.bool false)
    have d2 := (b2.setOther (a := ⟨w.heap.size, 0, none⟩) (by show w.heap.size ≠ w.heap.size + 1; omega) (.string ⟨#[]⟩)).set 0 (.bool false)
    exact ⟨((q.blk d1 (fun e => by cases e)).cell 0).trans rfl, ((q.blk d2 (fun e => by cases e)).cell 0).trans rfl, ((k1.setCell (p := ⟨w.heap.size, 0, none⟩) (.inr (Nat.le_refl _)) _).setCell (p := ⟨w.heap.size + 1, 0, none⟩) (.inr (by show w.heap.size ≤ w.heap.size + 1; omega)) _).trans (q.mono (fun _ e => by cases e))⟩
  clear b1 b2 k1 q1
  gi_wp2
  refine leaves_marks [] _ List.nodup_nil (fun _ h => by cases h) (fun W' q _ => ?_)
  obtain ⟨e1, e2, e3⟩ := HE.out W' q
  exact ⟨_, resShow W' _ _ _ _ _ rfl rfl e1 e2, rfl, e3⟩

def ShowI (s : ByteArray) (N : Nat) (w2 : World) (pre : List (List UInt8)) (own : Nat → Prop) (W' : World) : Prop :=
  own = twoS N ∧ Owns (twoS N) own w2 W' ∧ Blk W' N #[.string ⟨#[]⟩] 9 ∧ Blk W' (N + 1) #[.bool false] 4 ∧ ∀ c ∈ pre, (exitP s ⟨c.toArray⟩ == 4) = false
def ShowX (s : ByteArray) (N : Nat) (w2 : World) (cd : Code) (pre : List (List UInt8)) (own : Nat → Prop) (W' : World) : Prop :=
  cd = .ret ∧ own = twoS N ∧ Owns (twoS N) own w2 W' ∧ ∃ pre' c, pre = pre' ++ [c] ∧ (∀ c ∈ pre', (exitP s ⟨c.toArray⟩ == 4) = false) ∧ (exitP s ⟨c.toArray⟩ == 4) = true ∧ Blk W' N #[.string ⟨c.toArray⟩] 9 ∧ Blk W' (N + 1) #[.bool true] 4

set_option maxRecDepth 100000 in
set_option maxHeartbeats 4000000 in
theorem showP_some (s : ByteArray) (hs : s.size ≤ 1048576) (x : Nd) (hp : progP s = some x) (w : World) : Calls Try.prog 25 #[.string s] w (ShowPost s w) := by
  refine (callsIn_wide (n := 9)).1 ?_
  obtain ⟨F, hF⟩ : ∃ F, F = Fence.wide := ⟨_, rfl⟩
  have hFf : ∀ f, F.fn f := by subst hF; exact fun _ => trivial
  have hdd : ∀ k : Nat, (F.depth.isSome = true → 1 ≤ k) := by subst hF; intro k h; simp [Fence.wide] at h
  have hro : F.round = none := by subst hF; rfl
  have hds : F.depth.isSome = false := by subst hF; rfl
  have HC : Hid (∀ m w, CallsIn F m Try.prog 34 #[.string s] w (ReadPost w (some x))) := fun m w => by
    have := read_any s hs w; rw [hp] at this; rw [hF]; exact callsIn_wide.2 this
  have HU : Hid (∀ m g w, CallsIn F m Try.prog 43 #[.pointer (some ⟨g, 0, none⟩), .int .i64 6] w (fun e w' => e = .returned (.func (.func 60) #[] #[ptr (w.heap.size + 1), ptr w.heap.size]) ∧ w' = (w.alloc (.cells #[.pointer (some ⟨g, 0, none⟩)] 56)).alloc (.cells #[.int .i64 6] 3))) := fun m g w => by
    rw [hF]; exact callsIn_wide.2 (upTo_any g 6 w)
  rw [← hF]
  have HF := Lib.hid hF
  have HP := Lib.hid hp
  clear hF hp
  refine callsIn_of_wp_marks Try.func25 rfl (hFf _) ?_ hro
  simp only [Try.ntmps25, List.size_toArray, List.length_cons, List.length_nil, Nat.reduceAdd, Nat.reduceSub, Array.replicate_succ, Array.replicate_zero, List.push_toArray, List.append_toArray, List.nil_append, List.cons_append]
  have HB1 := Lib.hid ((Blk.new w #[.string ⟨#[]⟩] 9).alloc (.cells #[.bool false] 4))
  have HB2 := Lib.hid (Blk.new (w.alloc (.cells #[.string ⟨#[]⟩] 9)) #[.bool false] 4)
  have HK0 := Lib.hid (((Keeps.refl noB w).alloc (.cells #[.string ⟨#[]⟩] 9)).alloc (.cells #[.bool false] 4))
  gi_wp2
  refine (HC.out _ _).mono ?_
  rintro e w1 ⟨g, rfl, hrep, q1⟩
  have b1 := q1.blk HB1.out id
  have b2 := q1.blk HB2.out id
  have k1 := HK0.out.trans q1
  have hM1 := q1.size
  rw [World.size_alloc] at b2
  rw [World.size_alloc, World.size_alloc] at hM1 hrep
  have HREP := Lib.hid hrep
  clear q1 hrep
  unfold ptr
  gi_wp2
  refine (HU.out _ _ _).mono ?_
  rintro e W0 ⟨rfl, rfl⟩
  have q2 : Keeps noB w1 (((w1.alloc (.cells #[.pointer (some ⟨g, 0, none⟩)] 56)).alloc (.cells #[.pointer (some ⟨g, 0, none⟩)] 56)).alloc (.cells #[.int .i64 6] 3)) := (((Keeps.refl _ _).alloc _).alloc _).alloc _
  have hsA : (w1.alloc (.cells #[.pointer (some ⟨g, 0, none⟩)] 56)).heap.size = w1.heap.size + 1 := by simp
  have hsB : ((w1.alloc (.cells #[.pointer (some ⟨g, 0, none⟩)] 56)).alloc (.cells #[.pointer (some ⟨g, 0, none⟩)] 56)).heap.size = w1.heap.size + 1 + 1 := by simp
  have bR0 : Blk (((w1.alloc (.cells #[.pointer (some ⟨g, 0, none⟩)] 56)).alloc (.cells #[.pointer (some ⟨g, 0, none⟩)] 56)).alloc (.cells #[.int .i64 6] 3)) w1.heap.size #[.pointer (some ⟨g, 0, none⟩)] 56 := ((Blk.new w1 _ _).alloc _).alloc _
  have bR : Blk (((w1.alloc (.cells #[.pointer (some ⟨g, 0, none⟩)] 56)).alloc (.cells #[.pointer (some ⟨g, 0, none⟩)] 56)).alloc (.cells #[.int .i64 6] 3)) (w1.heap.size + 1) #[.pointer (some ⟨g, 0, none⟩)] 56 := (blk_new hsA _ _).alloc _
  have bI : Blk (((w1.alloc (.cells #[.pointer (some ⟨g, 0, none⟩)] 56)).alloc (.cells #[.pointer (some ⟨g, 0, none⟩)] 56)).alloc (.cells #[.int .i64 6] 3)) (w1.heap.size + 1 + 1) #[.int .i64 6] 3 := blk_new hsB _ _
  have hs2 : (((w1.alloc (.cells #[.pointer (some ⟨g, 0, none⟩)] 56)).alloc (.cells #[.pointer (some ⟨g, 0, none⟩)] 56)).alloc (.cells #[.int .i64 6] 3)).heap.size = w1.heap.size + 3 := by simp
  rw [hsA]
  generalize ((w1.alloc (.cells #[.pointer (some ⟨g, 0, none⟩)] 56)).alloc (.cells #[.pointer (some ⟨g, 0, none⟩)] 56)).alloc (.cells #[.int .i64 6] 3) = w2 at q2 bR0 bR bI hs2 ⊢
  clear hsA hsB
  obtain ⟨N, hN⟩ : ∃ N, N = w1.heap.size := ⟨_, rfl⟩
  obtain ⟨M, hM⟩ : ∃ M, M = w.heap.size := ⟨_, rfl⟩
  rw [← hN] at bR0 bR bI hs2 hM1 ⊢
  rw [← hM] at b1 b2 hM1 ⊢
  have HH := Lib.hid (And.intro hN hM)
  clear hN hM
  have hRUN : ∀ W', (∀ k, M + 2 ≤ k → k < N → W'.heap[k]? = w1.heap[k]?) → N ≤ W'.heap.size → ∀ c : List UInt8, c.length ≤ 6 → Calls Try.prog 44 #[.pointer (some ⟨g, 0, none⟩), .string ⟨c.toArray⟩] W' (fun e w' => ∃ b ex yi, e = .returned (.tuple #[.pointer (some ⟨b, 0, none⟩), .agg #[.int .i64 ex, .int .i64 yi, .string ⟨(x.with c).asks.toArray⟩], .bool (x.with c).right]) ∧ ex = (x.with c).exit ∧ Keeps noB W' w') := fun W' hsame hsz c hc => by
    have hrep' : RepI W' (fun k => M + 2 ≤ k ∧ k < N) x (.iface 56 (ptr g)) := by
      have hr1 : RepI w1 (fun k => M + 2 ≤ k ∧ k < N) x (.iface 56 (ptr g)) := (Hands.of_keeps (Keeps.refl noB w1) (fun _ _ _ => id) (fun k (hk : _ ≤ k) hl => ⟨by have := HH.out.2; omega, by rw [HH.out.1]; exact hl⟩)).repI _ _ HREP.out
      exact (Hands.of_same (w := w1) (W := W') (ok := fun k => M + 2 ≤ k ∧ k < N) (fun k hk _ => hsame k hk.1 hk.2) (fun k hk => by have := hk.2; rw [← HH.out.1]; exact this)).repI _ _ hr1
    refine (runWith_any x (root_any HP.out) (progP_ok HP.out).1 W' _ g ⟨c.toArray⟩ hrep' (fun k hk => by have := hk.2; omega) (room_start HP.out (by simp [ByteArray.size]; omega))).mono ?_
    rintro e w' ⟨b, own', ar', ve, vv, rfl, q', _⟩
    obtain ⟨yi, hy⟩ := endOf_asks (x.with c)
    refine ⟨b, (x.with c).exit, yi, ?_, rfl, q'⟩
    show Ending.returned (.tuple #[_, endOf (x.with c), .bool (x.with c).right]) = _
    rw [hy]
  have HUP : Hid (∀ W, Keeps noB w2 W → UpAt x 6 (N + 1 + 1) (N + 1) g (fun k => (M + 2 ≤ k ∧ k < N) ∨ k = N + 1 ∨ k = N + 1 + 1) W) := fun W q => by
    have hsz : N < W.heap.size := by have := q.size; omega
    refine ⟨q.blk bI id, q.blk bR id, .inr (.inr rfl), .inr (.inl rfl), fun W' hs' hsame c hc => ?_⟩
    refine (hRUN W' (fun k h1 h2 => (hsame k (.inl ⟨h1, h2⟩)).trans ((q2.trans q).block k (by rw [← HH.out.1]; exact h2) id)) (by omega) c hc).mono ?_
    rintro e w' ⟨b, ex, yi, h1, h2, h3⟩
    exact ⟨b, ex, yi, h1, h3⟩
  have HRUN := Lib.hid hRUN
  have hfew := rights_few x 6 (by omega)
  have HG := Lib.hid hfew
  have c1 := q2.blk b1 id
  have c2 := q2.blk b2 id
  have HQ2 := Lib.hid (And.intro q2 (And.intro bR0 (k1.trans q2)))
  have HALL : Hid ((allP s 6).getD [] = x.rights (x.upTo 6)) := all_six HP.out
  have HEX : Hid (∀ c ∈ x.rights (x.upTo 6), exitP s ⟨c.toArray⟩ = (x.with c).exit) := fun c hc => exit_with HP.out (List.mem_filter.1 hc).2 (hfew.2 c hc)
  clear hfew q2 bR bI bR0 k1 b1 b2 hRUN
  gi_wp2
  refine wp_range HF.out (gf := 60) (lb := #[ptr (N + 1 + 1), ptr (N + 1)]) (all := x.rights (x.upTo 6)) (enc := encU) (prot := fun k => (M + 2 ≤ k ∧ k < N) ∨ k = N + 1 ∨ k = N + 1 + 1) (own := twoS M)
    rfl (enters_of Try.func60 (by kernel_rfl) rfl) (fun W q => upTo_iter x 6 _ _ g _ W (HUP.out W q) (by omega) (fun k hk => by have := q.size; omega)) (ShowI s M w2) (ShowX s M w2) ?hI ?hIx ?hown ?hprot ?hps ?h0 ?hround ?hdone ?hstop
  case hI =>
    rintro pre own W W' ⟨rfl, h3, h4, h5, h6⟩ q
    exact ⟨rfl, h3.ahead q (fun i e => e.1), q.blk h4 (fun e => by have := e.1; omega), q.blk h5 (fun e => by have := e.1; omega), h6⟩
  case hIx =>
    rintro cd pre own W W' ⟨h0, rfl, h3, pre', c, h4, h5, h6, h7, h8⟩ q
    exact ⟨h0, rfl, h3.ahead q (fun i e => e.1), pre', c, h4, h5, h6, q.blk h7 (fun e => by have := e.1; omega), q.blk h8 (fun e => by have := e.1; omega)⟩
  case hown => rintro k (rfl | rfl) <;> omega
  case hprot => intro k hk; exact ⟨fun e => by rcases e with e | e <;> omega, by omega⟩
  case hps => rintro y args rfl; rfl
  case h0 => exact ⟨rfl, Owns.refl (by rintro k (rfl | rfl) <;> omega), c1, c2, fun c hc => by cases hc⟩
  case hround =>
    rintro l n pre p post args own1 W1 hall henc ⟨rfl, h3, h4, h5, h6⟩ hlt hl hnl hll
    have henc' : args = #[.string ⟨p.toArray⟩] := henc
    subst henc'
    have hpm : p ∈ x.rights (x.upTo 6) := by rw [hall]; simp
    have hpl := HG.out.2 p hpm
    have hex := HEX.out p hpm
    clear henc hall
    gi_wp2
    refine ⟨Keeps.refl _ _, fun W3 q3 hs3 => ?_⟩
    have hk13 : Keeps (fun k => w2.heap.size ≤ k ∧ ¬ twoS M k) W1 W3 := q3.mono (fun k e => by obtain rfl : k = l := e; exact ⟨hl, hnl⟩)
    have d4 := hk13.blk h4 (fun e => by have := e.1; omega)
    have d5 := hk13.blk h5 (fun e => by have := e.1; omega)
    have HK3 : Owns (twoS M) (twoS M) w2 W3 := h3.ahead hk13 (fun i e => e.1)
    have dR := HK3.keeps.blk HQ2.out.2.1 (fun e => by rcases e with e | e <;> omega)
    have r0 : W3.cell? ⟨N, 0, none⟩ = some (.pointer (some ⟨g, 0, none⟩)) := (dR.cell 0).trans rfl
    have hR3 : Hid (∀ n, CallsIn F n Try.prog 44 #[.pointer (some ⟨g, 0, none⟩), .string ⟨p.toArray⟩] W3 (fun e w' => ∃ b ex yi, e = .returned (.tuple #[.pointer (some ⟨b, 0, none⟩), .agg #[.int .i64 ex, .int .i64 yi, .string ⟨(x.with p).asks.toArray⟩], .bool (x.with p).right]) ∧ ex = (x.with p).exit ∧ Keeps noB W3 w')) := fun n => by
      rw [HF.out]
      refine callsIn_wide.2 (HRUN.out W3 (fun k h1 h2 => ?_) (by have := HK3.keeps.size; omega) p hpl)
      exact (HK3.keeps.block k (by omega) (fun e => by rcases e with e | e <;> omega)).trans (HQ2.out.1.block k (by rw [← HH.out.1]; exact h2) id)
    have HO := Lib.hid (And.intro HK3 (And.intro d4 (And.intro d5 h6)))
    have hzz : M < N := by omega
    clear HK3 d4 d5 h3 h4 h5 h6 hk13 q3 dR c1 c2
    gi_wp2
    refine CallsIn.mono (CallsIn.inRound l (hR3.out _)) ?_
    rintro e w4 ⟨b, ex, yi, rfl, hexx, q4⟩
    obtain ⟨HK3, d4, d5, h6⟩ := HO.out
    have q5 : Keeps noB W3 (w4.alloc (.cells #[.int .i64 ex, .int .i64 yi, .string ⟨(x.with p).asks.toArray⟩] 82)) := q4.alloc _
    have e4 := q5.blk d4 id
    have e5 := q5.blk d5 id
    have z0 := e4.free 0
    have z1 := e5.free 0
    have y0 : (w4.alloc (.cells #[.int .i64 ex, .int .i64 yi, .string ⟨(x.with p).asks.toArray⟩] 82)).cell? ⟨M, 0, none⟩ = some (.string ⟨#[]⟩) := (e4.cell 0).trans rfl
    have y1 : (w4.alloc (.cells #[.int .i64 ex, .int .i64 yi, .string ⟨(x.with p).asks.toArray⟩] 82)).cell? ⟨M + 1, 0, none⟩ = some (.bool false) := (e5.cell 0).trans rfl
    have r5 : (w4.alloc (.cells #[.int .i64 ex, .int .i64 yi, .string ⟨(x.with p).asks.toArray⟩] 82)).cell? ⟨w4.heap.size, 0, none⟩ = some (.int .i64 ex) := ((Blk.new w4 #[.int .i64 ex, .int .i64 yi, .string ⟨(x.with p).asks.toArray⟩] 82).cell 0).trans rfl
    rw [← hexx] at hex
    have HKO : Owns (twoS M) (twoS M) W3 (w4.alloc (.cells #[.int .i64 ex, .int .i64 yi, .string ⟨(x.with p).asks.toArray⟩] 82)) := ⟨fun k e => .inl e, fun k e => Nat.lt_of_lt_of_le (HK3.lt k e) q5.size, q5.mono (fun _ e => e.elim)⟩
    have HY1 : Hid ((ex == 4) = true → ∃ own', Owns (twoS M) own' W3 (((w4.alloc (.cells #[.int .i64 ex, .int .i64 yi, .string ⟨(x.with p).asks.toArray⟩] 82)).setCell ⟨M, 0, none⟩ (.string ⟨p.toArray⟩)).setCell ⟨M + 1, 0, none⟩ (.bool true)) ∧
        ShowX s M w2 .ret (pre ++ [p]) own' (((w4.alloc (.cells #[.int .i64 ex, .int .i64 yi, .string ⟨(x.with p).asks.toArray⟩] 82)).setCell ⟨M, 0, none⟩ (.string ⟨p.toArray⟩)).setCell ⟨M + 1, 0, none⟩ (.bool true))) := by
      intro hkk
      have k6 : Keeps (twoS M) W3 (((w4.alloc (.cells #[.int .i64 ex, .int .i64 yi, .string ⟨(x.with p).asks.toArray⟩] 82)).setCell ⟨M, 0, none⟩ (.string ⟨p.toArray⟩)).setCell ⟨M + 1, 0, none⟩ (.bool true)) := (HKO.keeps.setCell (p := ⟨M, 0, none⟩) (.inl (show twoS M M from .inl rfl)) _).setCell (p := ⟨M + 1, 0, none⟩) (.inl (show twoS M (M + 1) from .inr rfl)) _
      have hk : Owns (twoS M) (twoS M) W3 _ := ⟨fun k e => .inl e, fun k e => Nat.lt_of_lt_of_le (HK3.lt k e) k6.size, k6⟩
      refine ⟨_, hk, rfl, rfl, HK3.trans hk, pre, p, rfl, h6, by rw [hex]; exact hkk, ?_, ?_⟩
      · exact (e4.set 0 (.string ⟨p.toArray⟩)).setOther (a := ⟨M + 1, 0, none⟩) (by show M + 1 ≠ M; omega) (.bool true)
      · exact (e5.setOther (a := ⟨M, 0, none⟩) (by show M ≠ M + 1; omega) (.string ⟨p.toArray⟩)).set 0 (.bool true)
    have HY2 : Hid ((ex == 4) = false → ∃ own', Owns (twoS M) own' W3 (w4.alloc (.cells #[.int .i64 ex, .int .i64 yi, .string ⟨(x.with p).asks.toArray⟩] 82)) ∧ ShowI s M w2 (pre ++ [p]) own' (w4.alloc (.cells #[.int .i64 ex, .int .i64 yi, .string ⟨(x.with p).asks.toArray⟩] 82))) := by
      intro hkk
      refine ⟨_, HKO, rfl, HK3.trans HKO, e4, e5, fun q hq => ?_⟩
      rcases List.mem_append.1 hq with hq | hq
      · exact h6 q hq
      · simp at hq; subst hq; rw [hex]; exact hkk
    clear HK3 d4 d5 h6 q5 e4 e5 HKO q4 hex hexx hpm
    cases hkk : (ex == 4) with
    | true =>
      have HE := Lib.hid (HY1.out hkk)
      clear HY1 HY2
      gi_wp2
      exact HE.out
    | false =>
      have HE := Lib.hid (HY2.out hkk)
      clear HY1 HY2
      gi_wp2
      exact HE.out
  case hdone =>
    rintro D own' W' hb ⟨rfl, h3, h4, h5, h6⟩
    have hsh : showP s = none := show_none (by rw [HALL.out]; exact h6)
    have hnew := hb.new
    have z0 := h4.free 0
    have z1 := h5.free 0
    have y0 : W'.cell? ⟨M, 0, none⟩ = some (.string ⟨#[]⟩) := (h4.cell 0).trans rfl
    have y1 : W'.cell? ⟨M + 1, 0, none⟩ = some (.bool false) := (h5.cell 0).trans rfl
    have HE : Hid (∀ W2, Keeps (fun k => k ∈ [D]) ((W'.setCell ⟨M, 0, none⟩ (.string ⟨#[]⟩)).setCell ⟨M + 1, 0, none⟩ (.bool false)) W2 → W2.cell? ⟨M, 0, none⟩ = some (.string ⟨#[]⟩) ∧ W2.cell? ⟨M + 1, 0, none⟩ = some (.bool false) ∧ ShowPost s w (.returned (.tuple #[.string ⟨#[]⟩, .bool false])) W2) := fun W2 q => by
      have k2 : Keeps noB w W' := HQ2.out.2.2.transNew h3.keeps (fun i hi e => by have := HH.out.2; rcases e with e | e <;> omega)
      have d1 := (h4.set 0 (.string ⟨#[]⟩)).setOther (a := ⟨M + 1, 0, none⟩) (by show M + 1 ≠ M; omega) (.bool false)
      have d2 := (h5.setOther (a := ⟨M, 0, none⟩) (by show M ≠ M + 1; omega) (.string ⟨#[]⟩)).set 0 (.bool false)
      refine ⟨((q.blk d1 (fun e => by simp at e; omega)).cell 0).trans rfl, ((q.blk d2 (fun e => by simp at e; omega)).cell 0).trans rfl, by rw [hsh]; rfl, ?_⟩
      exact ((k2.setCell (p := ⟨M, 0, none⟩) (.inr (by show w.heap.size ≤ M; have := HH.out.2; omega)) _).setCell (p := ⟨M + 1, 0, none⟩) (.inr (by show w.heap.size ≤ M + 1; have := HH.out.2; omega)) _).transNew q (fun i hi e => by simp at e; have := HH.out.2; omega)
    have hD : ((W'.setCell ⟨M, 0, none⟩ (.string ⟨#[]⟩)).setCell ⟨M + 1, 0, none⟩ (.bool false)).heap[D]? = some (.deferred (some [])) := by
      rw [Below.heap_setCell _ _ _ _ (show D ≠ M + 1 by omega), Below.heap_setCell _ _ _ _ (show D ≠ M by omega)]
      exact hb.none
    have HD := Lib.hid hD
    clear h3 h4 h5 h6 hb hsh hD hnew
    dsimp only
    gi_wp2
    refine leaves_marks [D] _ (by simp) (fun D' hD' => by simp at hD'; subst hD'; exact HD.out) (fun W2 q _ => ?_)
    obtain ⟨e1, e2, e3⟩ := HE.out W2 q
    exact ⟨_, resShow W2 _ _ _ _ _ rfl rfl e1 e2, e3⟩
  case hstop =>
    rintro D cd pre post own' W' hb hall ⟨rfl, rfl, h3, pre', c, rfl, h5, h6, h7, h8⟩
    have hsh : showP s = some c := show_some (by rw [HALL.out]; exact hall) h5 h6
    have hnew := hb.new
    have HE : Hid (∀ W2, Keeps (fun k => k ∈ [D]) W' W2 → W2.cell? ⟨M, 0, none⟩ = some (.string ⟨c.toArray⟩) ∧ W2.cell? ⟨M + 1, 0, none⟩ = some (.bool true) ∧ ShowPost s w (.returned (.tuple #[.string ⟨c.toArray⟩, .bool true])) W2) := fun W2 q => by
      have k2 : Keeps noB w W' := HQ2.out.2.2.transNew h3.keeps (fun i hi e => by have := HH.out.2; rcases e with e | e <;> omega)
      refine ⟨((q.blk h7 (fun e => by simp at e; omega)).cell 0).trans rfl, ((q.blk h8 (fun e => by simp at e; omega)).cell 0).trans rfl, by rw [hsh]; rfl, ?_⟩
      exact k2.transNew q (fun i hi e => by simp at e; have := HH.out.2; omega)
    have HD := Lib.hid hb.none
    clear h3 h5 h6 h7 h8 hb hsh hnew hall
    dsimp only
    gi_wp2
    refine leaves_marks [D] _ (by simp) (fun D' hD' => by simp at hD'; subst hD'; exact HD.out) (fun W2 q _ => ?_)
    obtain ⟨e1, e2, e3⟩ := HE.out W2 q
    exact ⟨_, resShow W2 _ _ _ _ _ rfl rfl e1 e2, e3⟩

theorem showFault_any (s : ByteArray) (hs : s.size ≤ 1048576) (w : World) : Calls Try.prog 25 #[.string s] w (fun e w' => e = .returned (.tuple #[.string (showT (showP s)), .bool (showP s).isSome]) ∧ Keeps noB w w') := by
  cases hp : progP s with
  | none => exact showP_none s hs hp w
  | some x => exact showP_some s hs x hp w

end Go.Proofs.Ytcohmhgmocdbfaa

/-
  Walks of the program's reader: step; the induction that joins all four.
-/
import Derived.Test.YtaaphpcbiibpcaaIe
namespace Go.Proofs.Ytaaphpcbiibpcaa
set_option linter.unusedVariables false
set_option linter.unusedSimpArgs false
open Go.RowKit

theorem take_at (b : Nat) (s : ByteArray) (k d : Nat) (ar : ByteArray) (w : World) (h : Rd w b s k d ar) (hs : s.size ≤ 80) {c : UInt8} (hc : at? s k = some c) {cv : Int} (hcv : (c.toNat : Int) = cv) :
    Calls Try.prog 118 #[.pointer (some ⟨b, 0, none⟩)] w (Moved b s (k + 1) d ar w (.int .u8 cv)) := by
  have hk := at?_lt hc
  have := take_ok b s k d ar w h hk hs
  rw [at?_get hc hk, hcv] at this
  exact this

theorem u8_nonneg (c : UInt8) : 0 ≤ (c.toNat : Int) := by omega

set_option maxRecDepth 100000 in
set_option maxHeartbeats 1000000 in
theorem step_end (b : Nat) (s : ByteArray) (k d : Nat) (ar : ByteArray) (w : World) (h : Rd w b s k d ar) (hs : s.size ≤ 80) (hk : k ≤ s.size) (hc : at? s k = none) :
    Calls Try.prog 120 #[.pointer (some ⟨b, 0, none⟩)] w (Fell b w) := by
  have c1 := h.c1
  have hge : s.size ≤ k := by
    rcases Nat.lt_or_ge k s.size with hlt | hge
    · rw [at?_some hlt] at hc; cases hc
    · exact hge
  have H := Lib.hid (take_end b s k d ar w h hge hk hs)
  go_enter Try.func120, Try.ntmps120
  go_wp2_with fail
  refine H.out.mono ?_
  rintro e w1 ⟨⟨m, rfl⟩, q1⟩
  go_wp2_with fail
  exact post_panic rfl ⟨⟨_, rfl⟩, q1⟩

set_option maxRecDepth 100000 in
set_option maxHeartbeats 2000000 in
theorem step_use (b : Nat) (s : ByteArray) (k d : Nat) (ar : ByteArray) (w : World) (h : Rd w b s k d ar) (hs : s.size ≤ 80) (c : UInt8) (hc : at? s k = some c) (hsel : c = 43 ∨ c = 46 ∨ c = 45 ∨ c = 126) :
    Calls Try.prog 120 #[.pointer (some ⟨b, 0, none⟩)] w (StepPost b s d ar w (match varP s ar.data.toList (k + 1) with | none => none | some (v, k1) => some (.mk c k k1 [v] ar.data.toList .nil, k1))) := by
  have c1 := h.c1
  have hk := at?_lt hc
  cases hv : varP s ar.data.toList (k + 1) with
  | none =>
    simp only
    have H2 := Lib.hid (fun w r => variable_none b s (k + 1) d ar w r (by omega) hs hv)
    rcases hsel with rfl | rfl | rfl | rfl
    all_goals
      have H := Lib.hid (take_at b s k d ar w h hs hc rfl)
      clear hc hk hv
      go_enter Try.func120, Try.ntmps120
      go_wp2_with fail
      refine H.out.mono ?_
      rintro e w1 ⟨rfl, r1, q1⟩
      go_wp2_with fail
      refine (H2.out w1 r1).mono ?_
      rintro e w2 ⟨⟨m, rfl⟩, q2⟩
      go_wp2_with fail
      exact post_panic rfl ⟨⟨_, rfl⟩, q1.trans q2⟩
  | some p =>
    obtain ⟨v, k1⟩ := p
    simp only
    have H2 := Lib.hid (fun w r => variable_some b s (k + 1) d ar w r hs v k1 hv)
    rcases hsel with rfl | rfl | rfl | rfl
    all_goals
      have H := Lib.hid (take_at b s k d ar w h hs hc rfl)
      clear hc hk hv
      go_enter Try.func120, Try.ntmps120
      go_wp2_with fail
      refine H.out.mono ?_
      rintro e w1 ⟨rfl, r1, q1⟩
      go_wp2_with fail
      refine (H2.out w1 r1).mono ?_
      rintro e w2 ⟨rfl, r2, q2⟩
      have d1 := r2.c1
      go_wp2_with fail
      go_ret
      refine ⟨_, ⟨rfl, r2.alloc _, (q1.trans q2).alloc _⟩, ?_⟩
      simp only [RepI]
      exact ⟨w2.heap.size, Nat.le_trans q1.size q2.size, .inl ⟨by decide, v, rfl, rfl, Blk.new _ _ _⟩⟩

set_option maxRecDepth 100000 in
set_option maxHeartbeats 2000000 in
theorem step_leave (b : Nat) (s : ByteArray) (k d : Nat) (ar : ByteArray) (w : World) (h : Rd w b s k d ar) (hs : s.size ≤ 80) (c : UInt8) (hc : at? s k = some c) (hsel : c = 94 ∨ c = 33) :
    Calls Try.prog 120 #[.pointer (some ⟨b, 0, none⟩)] w (StepPost b s d ar w (some (.mk c k (k + 1) [] ar.data.toList .nil, k + 1))) := by
  have c1 := h.c1
  rcases hsel with rfl | rfl
  all_goals
    have H := Lib.hid (take_at b s k d ar w h hs hc rfl)
    clear hc
    go_enter Try.func120, Try.ntmps120
    go_wp2_with fail
    refine H.out.mono ?_
    rintro e w1 ⟨rfl, r1, q1⟩
    have d1 := r1.c1
    go_wp2_with fail
    go_ret
    refine ⟨_, ⟨rfl, r1.alloc _, q1.alloc _⟩, ?_⟩
    simp only [RepI]
    exact ⟨w1.heap.size, q1.size, .inr (.inr ⟨by decide, rfl, rfl, Blk.new _ _ _⟩)⟩

set_option maxRecDepth 100000 in
set_option maxHeartbeats 2000000 in
theorem move_none (b : Nat) (s : ByteArray) (k d : Nat) (ar : ByteArray) (w : World) (h : Rd w b s (k + 1) d ar) (hs : s.size ≤ 80) (hk : k + 1 ≤ s.size) (hv : moveP s ar.data.toList (k + 1) = none) :
    Calls Try.prog 135 #[.pointer (some ⟨b, 0, none⟩)] w (Fell b w) := by
  have c1 := h.c1'
  have hkz : (k : Int) ≤ 80 := by omega
  rcases moveP_none hv with h1 | ⟨v, k1, h1, h2⟩ | ⟨v, k1, k2, h1, h2⟩
  · have H := Lib.hid (variable_none b s _ d ar w h hk hs h1)
    clear h1 hv
    go_enter Try.func135, Try.ntmps135
    go_wp2_with fail
    refine H.out.mono ?_
    rintro e w1 ⟨⟨m, rfl⟩, q1⟩
    go_wp2_with fail
    exact post_panic rfl ⟨⟨_, rfl⟩, q1⟩
  · have H := Lib.hid (variable_some b s _ d ar w h hs v k1 h1)
    have hle := (varP_some h1)
    have H2 := Lib.hid (fun w r => variable_none b s k1 d ar w r (by omega) hs h2)
    clear h1 h2 hv hle
    go_enter Try.func135, Try.ntmps135
    go_wp2_with fail
    refine H.out.mono ?_
    rintro e w1 ⟨rfl, r1, q1⟩
    go_wp2_with fail
    refine (H2.out w1 r1).mono ?_
    rintro e w2 ⟨⟨m, rfl⟩, q2⟩
    go_wp2_with fail
    exact post_panic rfl ⟨⟨_, rfl⟩, q1.trans q2⟩
  · have H := Lib.hid (variable_some b s _ d ar w h hs v k1 h1)
    have H2 := Lib.hid (fun w r => variable_some b s k1 d ar w r hs v k2 h2)
    clear h1 h2 hv
    generalize (v.toNat : Int) = cv at *
    go_enter Try.func135, Try.ntmps135
    go_wp2_with fail
    refine H.out.mono ?_
    rintro e w1 ⟨rfl, r1, q1⟩
    go_wp2_with fail
    refine (H2.out w1 r1).mono ?_
    rintro e w2 ⟨rfl, r2, q2⟩
    go_wp2_with fail
    exact post_panic rfl ⟨⟨_, rfl⟩, q1.trans q2⟩

set_option maxRecDepth 100000 in
set_option maxHeartbeats 2000000 in
theorem step_move (b : Nat) (s : ByteArray) (k d : Nat) (ar : ByteArray) (w : World) (h : Rd w b s k d ar) (hs : s.size ≤ 80) (hc : at? s k = some 61) :
    Calls Try.prog 120 #[.pointer (some ⟨b, 0, none⟩)] w (StepPost b s d ar w (match moveP s ar.data.toList (k + 1) with | none => none | some (v, u, k2) => some (.mk 61 k k2 [v, u] ar.data.toList .nil, k2))) := by
  have c1 := h.c1
  have hk := at?_lt hc
  have H := Lib.hid (take_at b s k d ar w h hs hc rfl)
  cases hv : moveP s ar.data.toList (k + 1) with
  | none =>
    simp only
    have H2 := Lib.hid (fun w r => move_none b s k d ar w r hs hk hv)
    clear hc hk hv
    go_enter Try.func120, Try.ntmps120
    go_wp2_with fail
    refine H.out.mono ?_
    rintro e w1 ⟨rfl, r1, q1⟩
    go_wp2_with fail
    refine (H2.out w1 r1).mono ?_
    rintro e w2 ⟨⟨m, rfl⟩, q2⟩
    go_wp2_with fail
    exact post_panic rfl ⟨⟨_, rfl⟩, q1.trans q2⟩
  | some p =>
    obtain ⟨v, u, k2⟩ := p
    simp only
    have H2 := Lib.hid (fun w r => move_some b s k d ar w r hs v u k2 hv)
    clear hc hk hv
    go_enter Try.func120, Try.ntmps120
    go_wp2_with fail
    refine H.out.mono ?_
    rintro e w1 ⟨rfl, r1, q1⟩
    go_wp2_with fail
    refine (H2.out w1 r1).mono ?_
    rintro e w2 ⟨g, rfl, hg, hb, r2, q2⟩
    go_wp2_with fail
    go_ret
    refine ⟨_, ⟨rfl, r2, q1.trans q2⟩, ?_⟩
    simp only [RepI]
    exact ⟨g, Nat.le_trans q1.size hg, .inr (.inl ⟨rfl, v, u, rfl, rfl, hb⟩)⟩

set_option maxRecDepth 100000 in
set_option maxHeartbeats 2000000 in
theorem step_branch (n : Nat) (ih : BrackOk n) (b : Nat) (s : ByteArray) (k d : Nat) (ar : ByteArray) (w : World) (h : Rd w b s k d ar) (hs : s.size ≤ 80) (hc : at? s k = some 63) (har : ar.size ≤ k) (hd : d ≤ 4) (hn : 4 * (s.size - k) + 3 ≤ n + 1) :
    Calls Try.prog 120 #[.pointer (some ⟨b, 0, none⟩)] w (StepPost b s d ar w
      (match brackP s n ar.data.toList d (k + 1) with
        | none => none
        | some (x, k1) =>
          match brackP s n ar.data.toList d k1 with
          | none => none
          | some (y, k2) => some (.mk 63 k k2 [] ar.data.toList (.cons x (.cons y .nil)), k2))) := by
  have c1 := h.c1
  have hk := at?_lt hc
  have H := Lib.hid (take_at b s k d ar w h hs hc rfl)
  have H2 := Lib.hid (fun w r => ih b s (k + 1) d ar w r hs hk (by omega) hd (by omega))
  cases hv : brackP s n ar.data.toList d (k + 1) with
  | none =>
    simp only
    have HV := Lib.hid hv
    clear hc hk hv ih
    go_enter Try.func120, Try.ntmps120
    go_wp2_with fail
    refine H.out.mono ?_
    rintro e w1 ⟨rfl, r1, q1⟩
    go_wp2_with fail
    refine (H2.out w1 r1).mono ?_
    intro e w2 hp
    rw [HV.out] at hp
    obtain ⟨⟨m, rfl⟩, q2⟩ := hp
    go_wp2_with fail
    exact post_panic rfl ⟨⟨_, rfl⟩, q1.trans q2⟩
  | some p =>
    obtain ⟨x, k1⟩ := p
    simp only
    have hgo := (goes s n).brack _ _ _ _ _ hv
    have HV := Lib.hid hv
    have H3 := Lib.hid (fun w r => ih b s k1 d ar w r hs hgo.2 (by omega) hd (by omega))
    cases hv2 : brackP s n ar.data.toList d k1 with
    | none =>
      simp only
      have HV2 := Lib.hid hv2
      clear hc hk hv hv2 ih hgo
      go_enter Try.func120, Try.ntmps120
      go_wp2_with fail
      refine H.out.mono ?_
      rintro e w1 ⟨rfl, r1, q1⟩
      go_wp2_with fail
      refine (H2.out w1 r1).mono ?_
      intro e w2 hp
      rw [HV.out] at hp
      obtain ⟨vx, m, xs, ⟨rfl, r2, q2⟩, g1, g2⟩ := hp
      clear g1 g2
      go_wp2_with fail
      refine (H3.out w2 r2).mono ?_
      intro e w3 hp
      rw [HV2.out] at hp
      obtain ⟨⟨m3, rfl⟩, q3⟩ := hp
      go_wp2_with fail
      exact post_panic rfl ⟨⟨_, rfl⟩, (q1.trans q2).trans q3⟩
    | some p =>
      obtain ⟨y, k2⟩ := p
      simp only
      have HV2 := Lib.hid hv2
      have hb := h.lt
      clear hc hk hv hv2 ih hgo
      go_enter Try.func120, Try.ntmps120
      go_wp2_with fail
      refine H.out.mono ?_
      rintro e w1 ⟨rfl, r1, q1⟩
      go_wp2_with fail
      refine (H2.out w1 r1).mono ?_
      intro e w2 hp
      rw [HV.out] at hp
      obtain ⟨vx, m, xs, ⟨rfl, r2, q2⟩, g1, g2⟩ := hp
      obtain ⟨va, vc, rfl⟩ := row_slice g1
      have HG := Lib.hid (And.intro g1 g2)
      clear g1 g2
      go_wp2_with fail
      refine (H3.out w2 r2).mono ?_
      intro e w3 hp
      rw [HV2.out] at hp
      obtain ⟨vy, my, ys, ⟨rfl, r3, q3⟩, g3, g4⟩ := hp
      obtain ⟨ua, uc, rfl⟩ := row_slice g3
      have HG2 := Lib.hid (And.intro g3 g4)
      have d1 := r3.c1
      clear g3 g4
      go_wp2_with fail
      go_ret
      obtain ⟨g1, g2⟩ := HG.out
      obtain ⟨g3, g4⟩ := HG2.out
      have qa := q3.alloc (.cells #[.int .i64 (k : Int), .int .i64 (k2 : Int), .slice va m vc, .slice ua my uc] 162)
      have qb := (Keeps.refl (oneB b) w3).alloc (.cells #[.int .i64 (k : Int), .int .i64 (k2 : Int), .slice va m vc, .slice ua my uc] 162)
      have s1 := q1.size
      have s2 := q2.size
      have s3 := q3.size
      have hh := Hands.of_keeps (ok := fromB w1.heap.size) (ok' := fromB w.heap.size) qa (fun g hg _ e => by simp [oneB, fromB] at *; omega) (fun g hg _ => Nat.le_trans s1 hg)
      have hh2 := Hands.of_keeps (ok := fromB w2.heap.size) (ok' := fromB w.heap.size) qb (fun g hg _ e => by simp [oneB, fromB] at *; omega) (fun g hg _ => by simp [fromB] at *; omega)
      refine ⟨_, ⟨rfl, r3.alloc _, (q1.trans q2).trans qa⟩, ?_⟩
      simp only [RepI]
      exact ⟨_, _, m, xs, my, ys, ⟨w3.heap.size, by simp [fromB]; omega, rfl, rfl, rfl, Blk.new _ _ _⟩, ⟨hh.row _ _ _ _ _ g1, hh.repIL x xs g2⟩, hh2.row _ _ _ _ _ g3, hh2.repIL y ys g4⟩

set_option maxRecDepth 100000 in
set_option maxHeartbeats 2000000 in
theorem step_loop (n : Nat) (ih : BrackOk n) (b : Nat) (s : ByteArray) (k d : Nat) (ar : ByteArray) (w : World) (h : Rd w b s k d ar) (hs : s.size ≤ 80) (hc : at? s k = some 42) (har : ar.size ≤ k) (hd : d ≤ 4) (hn : 4 * (s.size - k) + 3 ≤ n + 1) :
    Calls Try.prog 120 #[.pointer (some ⟨b, 0, none⟩)] w (StepPost b s d ar w
      (match brackP s n ar.data.toList d (k + 1) with
        | none => none
        | some (x, k1) => some (.mk 42 k k1 [] ar.data.toList (.cons x .nil), k1))) := by
  have c1 := h.c1
  have hk := at?_lt hc
  have H := Lib.hid (take_at b s k d ar w h hs hc rfl)
  have H2 := Lib.hid (fun w r => ih b s (k + 1) d ar w r hs hk (by omega) hd (by omega))
  cases hv : brackP s n ar.data.toList d (k + 1) with
  | none =>
    simp only
    have HV := Lib.hid hv
    clear hc hk hv ih
    go_enter Try.func120, Try.ntmps120
    go_wp2_with fail
    refine H.out.mono ?_
    rintro e w1 ⟨rfl, r1, q1⟩
    go_wp2_with fail
    refine (H2.out w1 r1).mono ?_
    intro e w2 hp
    rw [HV.out] at hp
    obtain ⟨⟨m, rfl⟩, q2⟩ := hp
    go_wp2_with fail
    exact post_panic rfl ⟨⟨_, rfl⟩, q1.trans q2⟩
  | some p =>
    obtain ⟨x, k1⟩ := p
    simp only
    have HV := Lib.hid hv
    have hb := h.lt
    clear hc hk hv ih
    go_enter Try.func120, Try.ntmps120
    go_wp2_with fail
    refine H.out.mono ?_
    rintro e w1 ⟨rfl, r1, q1⟩
    go_wp2_with fail
    refine (H2.out w1 r1).mono ?_
    intro e w2 hp
    rw [HV.out] at hp
    obtain ⟨vx, m, xs, ⟨rfl, r2, q2⟩, g1, g2⟩ := hp
    obtain ⟨va, vc, rfl⟩ := row_slice g1
    have HG := Lib.hid (And.intro g1 g2)
    have d1 := r2.c1
    clear g1 g2
    go_wp2_with fail
    go_ret
    obtain ⟨g1, g2⟩ := HG.out
    have qb := (Keeps.refl (oneB b) w2).alloc (.cells #[.int .i64 (k : Int), .int .i64 (k1 : Int), .slice va m vc] 164)
    have s1 := q1.size
    have s2 := q2.size
    have hh := Hands.of_keeps (ok := fromB w1.heap.size) (ok' := fromB w.heap.size) qb (fun g hg _ e => by simp [oneB, fromB] at *; omega) (fun g hg _ => Nat.le_trans s1 hg)
    refine ⟨_, ⟨rfl, r2.alloc _, (q1.trans q2).alloc _⟩, ?_⟩
    simp only [RepI]
    exact ⟨_, m, xs, ⟨w2.heap.size, by simp [fromB]; omega, .inl ⟨rfl, rfl, rfl, Blk.new _ _ _⟩⟩, hh.row _ _ _ _ _ g1, hh.repIL x xs g2⟩

set_option maxRecDepth 100000 in
set_option maxHeartbeats 2000000 in
theorem step_scope (n : Nat) (ih : ScopeOk n) (b : Nat) (s : ByteArray) (k d : Nat) (ar : ByteArray) (w : World) (h : Rd w b s k d ar) (hs : s.size ≤ 80) (hc : at? s k = some 123) (har : ar.size ≤ k) (hd : d ≤ 4) (hn : 4 * (s.size - k) + 3 ≤ n + 1) :
    Calls Try.prog 120 #[.pointer (some ⟨b, 0, none⟩)] w (StepPost b s d ar w (scopeP s n ar.data.toList d k)) := by
  have c1 := h.c1
  have hk := at?_lt hc
  have H := Lib.hid (take_at b s k d ar w h hs hc rfl)
  have H2 := Lib.hid (fun w r => ih b s k d ar w r hs hk har hd (by omega))
  generalize scopeP s n ar.data.toList d k = res at H2 ⊢
  cases res with
  | none =>
    clear hc hk ih
    go_enter Try.func120, Try.ntmps120
    go_wp2_with fail
    refine H.out.mono ?_
    rintro e w1 ⟨rfl, r1, q1⟩
    go_wp2_with fail
    refine (H2.out w1 r1).mono ?_
    rintro e w2 ⟨⟨m, rfl⟩, q2⟩
    go_wp2_with fail
    exact post_panic rfl ⟨⟨_, rfl⟩, q1.trans q2⟩
  | some p =>
    obtain ⟨x, k1⟩ := p
    clear hc hk ih
    go_enter Try.func120, Try.ntmps120
    go_wp2_with fail
    refine H.out.mono ?_
    rintro e w1 ⟨rfl, r1, q1⟩
    go_wp2_with fail
    refine (H2.out w1 r1).mono ?_
    rintro e w2 ⟨g, ⟨rfl, r2, q2⟩, hx⟩
    have HX := Lib.hid hx
    clear hx
    go_wp2_with fail
    go_ret
    exact ⟨_, ⟨rfl, r2, q1.trans q2⟩, (Hands.of_keeps (Keeps.refl noB w2) (fun _ _ _ => id) (fun g hg _ => fromB_mono q1 hg)).repI x _ HX.out⟩

set_option maxRecDepth 100000 in
set_option maxHeartbeats 2000000 in
theorem step_bad (b : Nat) (s : ByteArray) (k d : Nat) (ar : ByteArray) (w : World) (h : Rd w b s k d ar) (hs : s.size ≤ 80) (c : UInt8) (hc : at? s k = some c)
    (h1 : ¬ (c = 43 ∨ c = 46 ∨ c = 45 ∨ c = 126)) (h2 : ¬ c = 61) (h3 : ¬ (c = 94 ∨ c = 33)) (h4 : ¬ c = 63) (h5 : ¬ c = 42) (h6 : ¬ c = 123) :
    Calls Try.prog 120 #[.pointer (some ⟨b, 0, none⟩)] w (Fell b w) := by
  have c1 := h.c1
  obtain ⟨cv, hcv⟩ : ∃ cv : Int, (c.toNat : Int) = cv := ⟨_, rfl⟩
  have H := Lib.hid (take_at b s k d ar w h hs hc hcv)
  have e : ∀ m : UInt8, ¬ c = m → (cv == (m.toNat : Int)) = false := fun m hm => by
    rw [beq_eq_false_iff_ne, ← hcv]; exact fun e => hm (UInt8.toNat_inj.1 (Int.ofNat.inj e))
  simp only [not_or] at h1 h3
  have e1 : (cv == 43) = false := e 43 h1.1
  have e2 : (cv == 46) = false := e 46 h1.2.1
  have e3 : (cv == 45) = false := e 45 h1.2.2.1
  have e4 : (cv == 126) = false := e 126 h1.2.2.2
  have e5 : (cv == 61) = false := e 61 h2
  have e6 : (cv == 94) = false := e 94 h3.1
  have e7 : (cv == 33) = false := e 33 h3.2
  have e8 : (cv == 63) = false := e 63 h4
  have e9 : (cv == 42) = false := e 42 h5
  have e10 : (cv == 123) = false := e 123 h6
  clear e h1 h2 h3 h4 h5 h6 hc hcv
  go_enter Try.func120, Try.ntmps120
  go_wp2_with fail
  refine H.out.mono ?_
  rintro e w1 ⟨rfl, r1, q1⟩
  go_wp2_with fail
  exact post_panic rfl ⟨⟨_, rfl⟩, q1⟩

theorem step_ok (n : Nat) (ihb : BrackOk n) (ihs : ScopeOk n) : StepOk (n + 1) := by
  intro b s k d ar w h hs hk har hd hn
  rw [stepP]
  cases hc : at? s k with
  | none => exact step_end b s k d ar w h hs hk hc
  | some c =>
    simp only
    split
    · rename_i h1; exact step_use b s k d ar w h hs c hc h1
    split
    · rename_i h1 h2; subst h2; exact step_move b s k d ar w h hs hc
    split
    · rename_i h1 h2 h3; exact step_leave b s k d ar w h hs c hc h3
    split
    · rename_i h1 h2 h3 h4; subst h4; exact step_branch n ihb b s k d ar w h hs hc har hd hn
    split
    · rename_i h1 h2 h3 h4 h5; subst h5; exact step_loop n ihb b s k d ar w h hs hc har hd hn
    split
    · rename_i h1 h2 h3 h4 h5 h6; subst h6; exact step_scope n ihs b s k d ar w h hs hc har hd hn
    · rename_i h1 h2 h3 h4 h5 h6; exact step_bad b s k d ar w h hs c hc h1 h2 h3 h4 h5 h6

/-- All four, at every number. -/
theorem all_ok (n : Nat) : StepOk n ∧ ScopeOk n ∧ BrackOk n ∧ StepsOk n := by
  induction n using Nat.strongRecOn with
  | _ n ih =>
    refine ⟨?_, ?_, ?_, steps_ok n (fun m hm => (ih m hm).1)⟩
    · cases n with
      | zero => intro b s k d ar w h hs hk har hd hn; omega
      | succ n => exact step_ok n (ih n (Nat.lt_succ_self n)).2.2.1 (ih n (Nat.lt_succ_self n)).2.1
    · cases n with
      | zero => intro b s k d ar w h hs hk har hd hn; omega
      | succ n => exact scope_ok n (ih n (Nat.lt_succ_self n)).2.2.2
    · cases n with
      | zero => intro b s k d ar w h hs hk har hd hn; omega
      | succ n => exact brack_ok n (ih n (Nat.lt_succ_self n)).2.2.2

end Go.Proofs.Ytaaphpcbiibpcaa

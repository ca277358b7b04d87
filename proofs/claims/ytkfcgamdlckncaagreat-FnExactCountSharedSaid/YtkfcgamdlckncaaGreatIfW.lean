/-
  Walks of the program's reader: step; the induction that joins all four.
  Walks of the program's face to its reader: readProgram and its deferred closure; ProgramValid.
-/
import Derived.Test.YtkfcgamdlckncaaGreatIcW
namespace Go.Proofs.YtkfcgamdlckncaaGreat
set_option linter.unusedVariables false
set_option linter.unusedSimpArgs false
open Go.RowKit

theorem take_at (b : Nat) (s : ByteArray) (k d : Nat) (ar : ByteArray) (w : World) (h : Rd w b s k d ar) (hs : s.size ≤ 80) {c : UInt8} (hc : at? s k = some c) {cv : Int} (hcv : (c.toNat : Int) = cv) :
    Calls Tryz.prog 87 #[.pointer (some ⟨b, 0, none⟩)] w (Moved b s (k + 1) d ar w (.int .u8 cv)) := by
  have hk := at?_lt hc
  have := take_ok b s k d ar w h hk hs
  rw [at?_get hc hk, hcv] at this
  exact this

theorem u8_nonneg (c : UInt8) : 0 ≤ (c.toNat : Int) := by omega

set_option maxRecDepth 100000 in
set_option maxHeartbeats 1000000 in
theorem step_end (b : Nat) (s : ByteArray) (k d : Nat) (ar : ByteArray) (w : World) (h : Rd w b s k d ar) (hs : s.size ≤ 80) (hk : k ≤ s.size) (hc : at? s k = none) :
    Calls Tryz.prog 89 #[.pointer (some ⟨b, 0, none⟩)] w (Fell b w) := by
  have c1 := h.c1
  have hge : s.size ≤ k := by
    rcases Nat.lt_or_ge k s.size with hlt | hge
    · rw [at?_some hlt] at hc; cases hc
    · exact hge
  have H := Lib.hid (take_end b s k d ar w h hge hk hs)
  go_enter Tryz.func89, Tryz.ntmps89
  go_wp2_with fail
  refine H.out.mono ?_
  rintro e w1 ⟨⟨m, rfl⟩, q1⟩
  go_wp2_with fail
  exact post_panic rfl ⟨⟨_, rfl⟩, q1⟩

set_option maxRecDepth 100000 in
set_option maxHeartbeats 2000000 in
theorem step_use (b : Nat) (s : ByteArray) (k d : Nat) (ar : ByteArray) (w : World) (h : Rd w b s k d ar) (hs : s.size ≤ 80) (c : UInt8) (hc : at? s k = some c) (hsel : c = 43 ∨ c = 46 ∨ c = 45 ∨ c = 126) :
    Calls Tryz.prog 89 #[.pointer (some ⟨b, 0, none⟩)] w (StepPost b s d ar w (match varP s ar.data.toList (k + 1) with | none => none | some (v, k1) => some (.mk c k k1 [v] ar.data.toList .nil, k1))) := by
  have c1 := h.c1
  have hk := at?_lt hc
  cases hv : varP s ar.data.toList (k + 1) with
  | none =>
    simp only
    have H2 := Lib.hid (fun w r => variable_none b s (k + 1) d ar w r (by omega) hs hv)
    rcases hsel with rfl | rfl | rfl | rfl
    all_goals
      have H := Lib.hid (take_at b s k d ar w h hs hc rfl)
      clear hc hk hv
      go_enter Tryz.func89, Tryz.ntmps89
      go_wp2_with fail
      refine H.out.mono ?_
      rintro e w1 ⟨rfl, r1, q1⟩
      go_wp2_with fail
      refine (H2.out w1 r1).mono ?_
      rintro e w2 ⟨⟨m, rfl⟩, q2⟩
      go_wp2_with fail
      exact post_panic rfl ⟨⟨_, rfl⟩, q1.trans q2⟩
  | some p =>
    obtain ⟨v, k1⟩ := p
    simp only
    have H2 := Lib.hid (fun w r => variable_some b s (k + 1) d ar w r hs v k1 hv)
    rcases hsel with rfl | rfl | rfl | rfl
    all_goals
      have H := Lib.hid (take_at b s k d ar w h hs hc rfl)
      clear hc hk hv
      go_enter Tryz.func89, Tryz.ntmps89
      go_wp2_with fail
      refine H.out.mono ?_
      rintro e w1 ⟨rfl, r1, q1⟩
      go_wp2_with fail
      refine (H2.out w1 r1).mono ?_
      rintro e w2 ⟨rfl, r2, q2⟩
      have d1 := r2.c1
      go_wp2_with fail
      go_ret
      refine ⟨_, ⟨rfl, r2.alloc _, (q1.trans q2).alloc _⟩, ?_⟩
      simp only [RepI]
      exact ⟨w2.heap.size, Nat.le_trans q1.size q2.size, .inl ⟨by decide, v, rfl, rfl, Blk.new _ _ _⟩⟩

set_option maxRecDepth 100000 in
set_option maxHeartbeats 2000000 in
theorem step_leave (b : Nat) (s : ByteArray) (k d : Nat) (ar : ByteArray) (w : World) (h : Rd w b s k d ar) (hs : s.size ≤ 80) (c : UInt8) (hc : at? s k = some c) (hsel : c = 94 ∨ c = 33) :
    Calls Tryz.prog 89 #[.pointer (some ⟨b, 0, none⟩)] w (StepPost b s d ar w (some (.mk c k (k + 1) [] ar.data.toList .nil, k + 1))) := by
  have c1 := h.c1
  rcases hsel with rfl | rfl
  all_goals
    have H := Lib.hid (take_at b s k d ar w h hs hc rfl)
    clear hc
    go_enter Tryz.func89, Tryz.ntmps89
    go_wp2_with fail
    refine H.out.mono ?_
    rintro e w1 ⟨rfl, r1, q1⟩
    have d1 := r1.c1
    go_wp2_with fail
    go_ret
    refine ⟨_, ⟨rfl, r1.alloc _, q1.alloc _⟩, ?_⟩
    simp only [RepI]
    exact ⟨w1.heap.size, q1.size, .inr (.inr ⟨by decide, rfl, rfl, Blk.new _ _ _⟩)⟩

set_option maxRecDepth 100000 in
set_option maxHeartbeats 2000000 in
theorem move_none (b : Nat) (s : ByteArray) (k d : Nat) (ar : ByteArray) (w : World) (h : Rd w b s (k + 1) d ar) (hs : s.size ≤ 80) (hk : k + 1 ≤ s.size) (hv : moveP s ar.data.toList (k + 1) = none) :
    Calls Tryz.prog 113 #[.pointer (some ⟨b, 0, none⟩)] w (Fell b w) := by
  have c1 := h.c1'
  have hkz : (k : Int) ≤ 80 := by omega
  rcases moveP_none hv with h1 | ⟨v, k1, h1, h2⟩ | ⟨v, k1, k2, h1, h2⟩
  · have H := Lib.hid (variable_none b s _ d ar w h hk hs h1)
    clear h1 hv
    go_enter Tryz.func113, Tryz.ntmps113
    go_wp2_with fail
    refine H.out.mono ?_
    rintro e w1 ⟨⟨m, rfl⟩, q1⟩
    go_wp2_with fail
    exact post_panic rfl ⟨⟨_, rfl⟩, q1⟩
  · have H := Lib.hid (variable_some b s _ d ar w h hs v k1 h1)
    have hle := (varP_some h1)
    have H2 := Lib.hid (fun w r => variable_none b s k1 d ar w r (by omega) hs h2)
    clear h1 h2 hv hle
    go_enter Tryz.func113, Tryz.ntmps113
    go_wp2_with fail
    refine H.out.mono ?_
    rintro e w1 ⟨rfl, r1, q1⟩
    go_wp2_with fail
    refine (H2.out w1 r1).mono ?_
    rintro e w2 ⟨⟨m, rfl⟩, q2⟩
    go_wp2_with fail
    exact post_panic rfl ⟨⟨_, rfl⟩, q1.trans q2⟩
  · have H := Lib.hid (variable_some b s _ d ar w h hs v k1 h1)
    have H2 := Lib.hid (fun w r => variable_some b s k1 d ar w r hs v k2 h2)
    clear h1 h2 hv
    generalize (v.toNat : Int) = cv at *
    go_enter Tryz.func113, Tryz.ntmps113
    go_wp2_with fail
    refine H.out.mono ?_
    rintro e w1 ⟨rfl, r1, q1⟩
    go_wp2_with fail
    refine (H2.out w1 r1).mono ?_
    rintro e w2 ⟨rfl, r2, q2⟩
    go_wp2_with fail
    exact post_panic rfl ⟨⟨_, rfl⟩, q1.trans q2⟩

set_option maxRecDepth 100000 in
set_option maxHeartbeats 2000000 in
theorem step_move (b : Nat) (s : ByteArray) (k d : Nat) (ar : ByteArray) (w : World) (h : Rd w b s k d ar) (hs : s.size ≤ 80) (hc : at? s k = some 61) :
    Calls Tryz.prog 89 #[.pointer (some ⟨b, 0, none⟩)] w (StepPost b s d ar w (match moveP s ar.data.toList (k + 1) with | none => none | some (v, u, k2) => some (.mk 61 k k2 [v, u] ar.data.toList .nil, k2))) := by
  have c1 := h.c1
  have hk := at?_lt hc
  have H := Lib.hid (take_at b s k d ar w h hs hc rfl)
  cases hv : moveP s ar.data.toList (k + 1) with
  | none =>
    simp only
    have H2 := Lib.hid (fun w r => move_none b s k d ar w r hs hk hv)
    clear hc hk hv
    go_enter Tryz.func89, Tryz.ntmps89
    go_wp2_with fail
    refine H.out.mono ?_
    rintro e w1 ⟨rfl, r1, q1⟩
    go_wp2_with fail
    refine (H2.out w1 r1).mono ?_
    rintro e w2 ⟨⟨m, rfl⟩, q2⟩
    go_wp2_with fail
    exact post_panic rfl ⟨⟨_, rfl⟩, q1.trans q2⟩
  | some p =>
    obtain ⟨v, u, k2⟩ := p
    simp only
    have H2 := Lib.hid (fun w r => move_some b s k d ar w r hs v u k2 hv)
    clear hc hk hv
    go_enter Tryz.func89, Tryz.ntmps89
    go_wp2_with fail
    refine H.out.mono ?_
    rintro e w1 ⟨rfl, r1, q1⟩
    go_wp2_with fail
    refine (H2.out w1 r1).mono ?_
    rintro e w2 ⟨g, rfl, hg, hb, r2, q2⟩
    go_wp2_with fail
    go_ret
    refine ⟨_, ⟨rfl, r2, q1.trans q2⟩, ?_⟩
    simp only [RepI]
    exact ⟨g, Nat.le_trans q1.size hg, .inr (.inl ⟨rfl, v, u, rfl, rfl, hb⟩)⟩

set_option maxRecDepth 100000 in
set_option maxHeartbeats 2000000 in
theorem step_branch (n : Nat) (ih : BrackOk n) (b : Nat) (s : ByteArray) (k d : Nat) (ar : ByteArray) (w : World) (h : Rd w b s k d ar) (hs : s.size ≤ 80) (hc : at? s k = some 63) (har : ar.size ≤ k) (hd : d ≤ 4) (hn : 4 * (s.size - k) + 3 ≤ n + 1) :
    Calls Tryz.prog 89 #[.pointer (some ⟨b, 0, none⟩)] w (StepPost b s d ar w
      (match brackP s n ar.data.toList d (k + 1) with
        | none => none
        | some (x, k1) =>
          match brackP s n ar.data.toList d k1 with
          | none => none
          | some (y, k2) => some (.mk 63 k k2 [] ar.data.toList (.cons x (.cons y .nil)), k2))) := by
  have c1 := h.c1
  have hk := at?_lt hc
  have H := Lib.hid (take_at b s k d ar w h hs hc rfl)
  have H2 := Lib.hid (fun w r => ih b s (k + 1) d ar w r hs hk (by omega) hd (by omega))
  cases hv : brackP s n ar.data.toList d (k + 1) with
  | none =>
    simp only
    have HV := Lib.hid hv
    clear hc hk hv ih
    go_enter Tryz.func89, Tryz.ntmps89
    go_wp2_with fail
    refine H.out.mono ?_
    rintro e w1 ⟨rfl, r1, q1⟩
    go_wp2_with fail
    refine (H2.out w1 r1).mono ?_
    intro e w2 hp
    rw [HV.out] at hp
    obtain ⟨⟨m, rfl⟩, q2⟩ := hp
    go_wp2_with fail
    exact post_panic rfl ⟨⟨_, rfl⟩, q1.trans q2⟩
  | some p =>
    obtain ⟨x, k1⟩ := p
    simp only
    have hgo := (goes s n).brack _ _ _ _ _ hv
    have HV := Lib.hid hv
    have H3 := Lib.hid (fun w r => ih b s k1 d ar w r hs hgo.2 (by omega) hd (by omega))
    cases hv2 : brackP s n ar.data.toList d k1 with
    | none =>
      simp only
      have HV2 := Lib.hid hv2
      clear hc hk hv hv2 ih hgo
      go_enter Tryz.func89, Tryz.ntmps89
      go_wp2_with fail
      refine H.out.mono ?_
      rintro e w1 ⟨rfl, r1, q1⟩
      go_wp2_with fail
      refine (H2.out w1 r1).mono ?_
      intro e w2 hp
      rw [HV.out] at hp
      obtain ⟨vx, m, xs, ⟨rfl, r2, q2⟩, g1, g2⟩ := hp
      clear g1 g2
      go_wp2_with fail
      refine (H3.out w2 r2).mono ?_
      intro e w3 hp
      rw [HV2.out] at hp
      obtain ⟨⟨m3, rfl⟩, q3⟩ := hp
      go_wp2_with fail
      exact post_panic rfl ⟨⟨_, rfl⟩, (q1.trans q2).trans q3⟩
    | some p =>
      obtain ⟨y, k2⟩ := p
      simp only
      have HV2 := Lib.hid hv2
      have hb := h.lt
      clear hc hk hv hv2 ih hgo
      go_enter Tryz.func89, Tryz.ntmps89
      go_wp2_with fail
      refine H.out.mono ?_
      rintro e w1 ⟨rfl, r1, q1⟩
      go_wp2_with fail
      refine (H2.out w1 r1).mono ?_
      intro e w2 hp
      rw [HV.out] at hp
      obtain ⟨vx, m, xs, ⟨rfl, r2, q2⟩, g1, g2⟩ := hp
      obtain ⟨va, vc, rfl⟩ := row_slice g1
      have HG := Lib.hid (And.intro g1 g2)
      clear g1 g2
      go_wp2_with fail
      refine (H3.out w2 r2).mono ?_
      intro e w3 hp
      rw [HV2.out] at hp
      obtain ⟨vy, my, ys, ⟨rfl, r3, q3⟩, g3, g4⟩ := hp
      obtain ⟨ua, uc, rfl⟩ := row_slice g3
      have HG2 := Lib.hid (And.intro g3 g4)
      have d1 := r3.c1
      clear g3 g4
      go_wp2_with fail
      go_ret
      obtain ⟨g1, g2⟩ := HG.out
      obtain ⟨g3, g4⟩ := HG2.out
      have qa := q3.alloc (.cells #[.int .i64 (k : Int), .int .i64 (k2 : Int), .slice va m vc, .slice ua my uc] 148)
      have qb := (Keeps.refl (oneB b) w3).alloc (.cells #[.int .i64 (k : Int), .int .i64 (k2 : Int), .slice va m vc, .slice ua my uc] 148)
      have s1 := q1.size
      have s2 := q2.size
      have s3 := q3.size
      have hh := Hands.of_keeps (ok := fromB w1.heap.size) (ok' := fromB w.heap.size) qa (fun g hg _ e => by simp [oneB, fromB] at *; omega) (fun g hg _ => Nat.le_trans s1 hg)
      have hh2 := Hands.of_keeps (ok := fromB w2.heap.size) (ok' := fromB w.heap.size) qb (fun g hg _ e => by simp [oneB, fromB] at *; omega) (fun g hg _ => by simp [fromB] at *; omega)
      refine ⟨_, ⟨rfl, r3.alloc _, (q1.trans q2).trans qa⟩, ?_⟩
      simp only [RepI]
      exact ⟨_, _, m, xs, my, ys, ⟨w3.heap.size, by simp [fromB]; omega, rfl, rfl, rfl, Blk.new _ _ _⟩, ⟨hh.row _ _ _ _ _ g1, hh.repIL x xs g2⟩, hh2.row _ _ _ _ _ g3, hh2.repIL y ys g4⟩

set_option maxRecDepth 100000 in
set_option maxHeartbeats 2000000 in
theorem step_loop (n : Nat) (ih : BrackOk n) (b : Nat) (s : ByteArray) (k d : Nat) (ar : ByteArray) (w : World) (h : Rd w b s k d ar) (hs : s.size ≤ 80) (hc : at? s k = some 42) (har : ar.size ≤ k) (hd : d ≤ 4) (hn : 4 * (s.size - k) + 3 ≤ n + 1) :
    Calls Tryz.prog 89 #[.pointer (some ⟨b, 0, none⟩)] w (StepPost b s d ar w
      (match brackP s n ar.data.toList d (k + 1) with
        | none => none
        | some (x, k1) => some (.mk 42 k k1 [] ar.data.toList (.cons x .nil), k1))) := by
  have c1 := h.c1
  have hk := at?_lt hc
  have H := Lib.hid (take_at b s k d ar w h hs hc rfl)
  have H2 := Lib.hid (fun w r => ih b s (k + 1) d ar w r hs hk (by omega) hd (by omega))
  cases hv : brackP s n ar.data.toList d (k + 1) with
  | none =>
    simp only
    have HV := Lib.hid hv
    clear hc hk hv ih
    go_enter Tryz.func89, Tryz.ntmps89
    go_wp2_with fail
    refine H.out.mono ?_
    rintro e w1 ⟨rfl, r1, q1⟩
    go_wp2_with fail
    refine (H2.out w1 r1).mono ?_
    intro e w2 hp
    rw [HV.out] at hp
    obtain ⟨⟨m, rfl⟩, q2⟩ := hp
    go_wp2_with fail
    exact post_panic rfl ⟨⟨_, rfl⟩, q1.trans q2⟩
  | some p =>
    obtain ⟨x, k1⟩ := p
    simp only
    have HV := Lib.hid hv
    have hb := h.lt
    clear hc hk hv ih
    go_enter Tryz.func89, Tryz.ntmps89
    go_wp2_with fail
    refine H.out.mono ?_
    rintro e w1 ⟨rfl, r1, q1⟩
    go_wp2_with fail
    refine (H2.out w1 r1).mono ?_
    intro e w2 hp
    rw [HV.out] at hp
    obtain ⟨vx, m, xs, ⟨rfl, r2, q2⟩, g1, g2⟩ := hp
    obtain ⟨va, vc, rfl⟩ := row_slice g1
    have HG := Lib.hid (And.intro g1 g2)
    have d1 := r2.c1
    clear g1 g2
    go_wp2_with fail
    go_ret
    obtain ⟨g1, g2⟩ := HG.out
    have qb := (Keeps.refl (oneB b) w2).alloc (.cells #[.int .i64 (k : Int), .int .i64 (k1 : Int), .slice va m vc] 165)
    have s1 := q1.size
    have s2 := q2.size
    have hh := Hands.of_keeps (ok := fromB w1.heap.size) (ok' := fromB w.heap.size) qb (fun g hg _ e => by simp [oneB, fromB] at *; omega) (fun g hg _ => Nat.le_trans s1 hg)
    refine ⟨_, ⟨rfl, r2.alloc _, (q1.trans q2).alloc _⟩, ?_⟩
    simp only [RepI]
    exact ⟨_, m, xs, ⟨w2.heap.size, by simp [fromB]; omega, .inl ⟨rfl, rfl, rfl, Blk.new _ _ _⟩⟩, hh.row _ _ _ _ _ g1, hh.repIL x xs g2⟩

set_option maxRecDepth 100000 in
set_option maxHeartbeats 2000000 in
theorem step_scope (n : Nat) (ih : ScopeOk n) (b : Nat) (s : ByteArray) (k d : Nat) (ar : ByteArray) (w : World) (h : Rd w b s k d ar) (hs : s.size ≤ 80) (hc : at? s k = some 123) (har : ar.size ≤ k) (hd : d ≤ 4) (hn : 4 * (s.size - k) + 3 ≤ n + 1) :
    Calls Tryz.prog 89 #[.pointer (some ⟨b, 0, none⟩)] w (StepPost b s d ar w (scopeP s n ar.data.toList d k)) := by
  have c1 := h.c1
  have hk := at?_lt hc
  have H := Lib.hid (take_at b s k d ar w h hs hc rfl)
  have H2 := Lib.hid (fun w r => ih b s k d ar w r hs hk har hd (by omega))
  generalize scopeP s n ar.data.toList d k = res at H2 ⊢
  cases res with
  | none =>
    clear hc hk ih
    go_enter Tryz.func89, Tryz.ntmps89
    go_wp2_with fail
    refine H.out.mono ?_
    rintro e w1 ⟨rfl, r1, q1⟩
    go_wp2_with fail
    refine (H2.out w1 r1).mono ?_
    rintro e w2 ⟨⟨m, rfl⟩, q2⟩
    go_wp2_with fail
    exact post_panic rfl ⟨⟨_, rfl⟩, q1.trans q2⟩
  | some p =>
    obtain ⟨x, k1⟩ := p
    clear hc hk ih
    go_enter Tryz.func89, Tryz.ntmps89
    go_wp2_with fail
    refine H.out.mono ?_
    rintro e w1 ⟨rfl, r1, q1⟩
    go_wp2_with fail
    refine (H2.out w1 r1).mono ?_
    rintro e w2 ⟨g, ⟨rfl, r2, q2⟩, hx⟩
    have HX := Lib.hid hx
    clear hx
    go_wp2_with fail
    go_ret
    exact ⟨_, ⟨rfl, r2, q1.trans q2⟩, (Hands.of_keeps (Keeps.refl noB w2) (fun _ _ _ => id) (fun g hg _ => fromB_mono q1 hg)).repI x _ HX.out⟩

set_option maxRecDepth 100000 in
set_option maxHeartbeats 2000000 in
theorem step_bad (b : Nat) (s : ByteArray) (k d : Nat) (ar : ByteArray) (w : World) (h : Rd w b s k d ar) (hs : s.size ≤ 80) (c : UInt8) (hc : at? s k = some c)
    (h1 : ¬ (c = 43 ∨ c = 46 ∨ c = 45 ∨ c = 126)) (h2 : ¬ c = 61) (h3 : ¬ (c = 94 ∨ c = 33)) (h4 : ¬ c = 63) (h5 : ¬ c = 42) (h6 : ¬ c = 123) :
    Calls Tryz.prog 89 #[.pointer (some ⟨b, 0, none⟩)] w (Fell b w) := by
  have c1 := h.c1
  obtain ⟨cv, hcv⟩ : ∃ cv : Int, (c.toNat : Int) = cv := ⟨_, rfl⟩
  have H := Lib.hid (take_at b s k d ar w h hs hc hcv)
  have e : ∀ m : UInt8, ¬ c = m → (cv == (m.toNat : Int)) = false := fun m hm => by
    rw [beq_eq_false_iff_ne, ← hcv]; exact fun e => hm (UInt8.toNat_inj.1 (Int.ofNat.inj e))
  simp only [not_or] at h1 h3
  have e1 : (cv == 43) = false := e 43 h1.1
  have e2 : (cv == 46) = false := e 46 h1.2.1
  have e3 : (cv == 45) = false := e 45 h1.2.2.1
  have e4 : (cv == 126) = false := e 126 h1.2.2.2
  have e5 : (cv == 61) = false := e 61 h2
  have e6 : (cv == 94) = false := e 94 h3.1
  have e7 : (cv == 33) = false := e 33 h3.2
  have e8 : (cv == 63) = false := e 63 h4
  have e9 : (cv == 42) = false := e 42 h5
  have e10 : (cv == 123) = false := e 123 h6
  clear e h1 h2 h3 h4 h5 h6 hc hcv
  go_enter Tryz.func89, Tryz.ntmps89
  go_wp2_with fail
  refine H.out.mono ?_
  rintro e w1 ⟨rfl, r1, q1⟩
  go_wp2_with fail
  exact post_panic rfl ⟨⟨_, rfl⟩, q1⟩

theorem step_ok (n : Nat) (ihb : BrackOk n) (ihs : ScopeOk n) : StepOk (n + 1) := by
  intro b s k d ar w h hs hk har hd hn
  rw [stepP]
  cases hc : at? s k with
  | none => exact step_end b s k d ar w h hs hk hc
  | some c =>
    simp only
    split
    · rename_i h1; exact step_use b s k d ar w h hs c hc h1
    split
    · rename_i h1 h2; subst h2; exact step_move b s k d ar w h hs hc
    split
    · rename_i h1 h2 h3; exact step_leave b s k d ar w h hs c hc h3
    split
    · rename_i h1 h2 h3 h4; subst h4; exact step_branch n ihb b s k d ar w h hs hc har hd hn
    split
    · rename_i h1 h2 h3 h4 h5; subst h5; exact step_loop n ihb b s k d ar w h hs hc har hd hn
    split
    · rename_i h1 h2 h3 h4 h5 h6; subst h6; exact step_scope n ihs b s k d ar w h hs hc har hd hn
    · rename_i h1 h2 h3 h4 h5 h6; exact step_bad b s k d ar w h hs c hc h1 h2 h3 h4 h5 h6

/-- All four, at every number. -/
theorem all_ok (n : Nat) : StepOk n ∧ ScopeOk n ∧ BrackOk n ∧ StepsOk n := by
  induction n using Nat.strongRecOn with
  | _ n ih =>
    refine ⟨?_, ?_, ?_, steps_ok n (fun m hm => (ih m hm).1)⟩
    · cases n with
      | zero => intro b s k d ar w h hs hk har hd hn; omega
      | succ n => exact step_ok n (ih n (Nat.lt_succ_self n)).2.2.1 (ih n (Nat.lt_succ_self n)).2.1
    · cases n with
      | zero => intro b s k d ar w h hs hk har hd hn; omega
      | succ n => exact scope_ok n (ih n (Nat.lt_succ_self n)).2.2.2
    · cases n with
      | zero => intro b s k d ar w h hs hk har hd hn; omega
      | succ n => exact brack_ok n (ih n (Nat.lt_succ_self n)).2.2.2

end Go.Proofs.YtkfcgamdlckncaaGreat

namespace Go.Proofs.YtkfcgamdlckncaaGreat
set_option linter.unusedVariables false
set_option linter.unusedSimpArgs false
open Go.RowKit

theorem catch_panicking (p q : Addr) (x y : Value) (u : TypeId) (pv : Value) (older : List PanicEntry) (w : World) (hc : w.cell? p = some x) (hz : w.frozen? p = false)
    (hc2 : w.cell? q = some y) (hz2 : w.frozen? q = false) (hne : p.block ≠ q.block) :
    CallsD Tryz.prog 41 #[.pointer (some p), .pointer (some q)] (.panicking ({ v := .iface u pv, recovered := false } :: older)) w fun e u' w' =>
      e = .returned (.tuple #[]) ∧ u' = .panicking ({ v := .iface u pv, recovered := true } :: older) ∧ w' = (w.setCell p (.pointer none)).setCell q (.bool false) := by
  have hc3 : (w.setCell p (.pointer none)).cell? q = some y := by
    rw [World.cell?_setCell_other _ _ _ _ (fun e => hne (congrArg Addr.block e))]; exact hc2
  refine callsD_of_wpS Tryz.func41 rfl fun c₀ cs hu => ?_
  apply wpS_seq
  apply wpS_region
  simp [wpOpsS, go_sem, recoverD, hu, Tryz.ntmps41, Exit.thenS]
  refine wpS_cond (t := true) (by simp [Act.eval, Array.replicate]) ?_
  simp only [if_true]
  apply wpS_region
  simp [wpOpsS, go_sem, hc, hz, hc3, hz2, bodyPostS, results, Tryz.results41]

theorem catch_idle (p q : Addr) (w : World) :
    CallsD Tryz.prog 41 #[.pointer (some p), .pointer (some q)] .returning w fun e u' w' => e = .returned (.tuple #[]) ∧ u' = .returning ∧ w' = w := by
  refine callsD_of_wpS Tryz.func41 rfl fun c₀ cs hu => ?_
  apply wpS_seq
  apply wpS_region
  simp [wpOpsS, go_sem, recoverD, hu, Tryz.ntmps41, Exit.thenS]
  refine wpS_cond (t := false) (by simp [Act.eval, Array.replicate]) ?_
  simp only [Bool.false_eq_true, if_false]
  refine wpS_of_wp (wp_skip ?_)
  cases c₀
  simp_all [bodyPostS, results, Tryz.results41]

def ReadPost (w : World) (res : Option Nd) (e : Ending) (w' : World) : Prop :=
  match res with
  | none => e = .returned (.tuple #[.pointer none, .bool false]) ∧ Keeps noB w w'
  | some x => ∃ g, e = .returned (.tuple #[ptr g, .bool true]) ∧ RepI w' (fromB w.heap.size) x (.iface 64 (ptr g)) ∧ Keeps noB w w'

set_option maxRecDepth 100000 in
set_option maxHeartbeats 2000000 in
theorem read_long (s : ByteArray) (hs : 80 < s.size) (hs' : s.size ≤ 1048576) (w : World) : Calls Tryz.prog 32 #[.string s] w (ReadPost w none) := by
  have hmf : ∀ (fn : Fn) (first cap : Array Value) (w : World), (Instr.makeFunc fn first cap).run Tryz.prog w = .ok (.func fn first cap) w := fun _ _ _ _ => rfl
  have hz : (80 : Int) < (s.size : Int) := by omega
  go_enter_defers Tryz.func32, Tryz.ntmps32
  go_wp2_with fail
  refine leaves_cons (f := 41) (args := #[.pointer (some ⟨w.heap.size, 0, none⟩), .pointer (some ⟨w.heap.size + 1, 0, none⟩)]) (by simp) (by simp [go_sem]) ?_
  refine (catch_idle ⟨w.heap.size, 0, none⟩ ⟨w.heap.size + 1, 0, none⟩ _).mono ?_
  rintro e u' w'' ⟨rfl, rfl, rfl⟩
  simp [Leaves, settle, results, Tryz.results32, go_sem]
  exact ⟨rfl, ((Keeps.refl _ w).alloc _).alloc _⟩

/-- The named results' two blocks, at the door. -/
def Named (N : Nat) (x y : Value) (w : World) : Prop := Blk w N #[x] 64 ∧ Blk w (N + 1) #[y] 4

theorem Named.keeps {N : Nat} {x y : Value} {w w' : World} (h : Named N x y w) {may : Nat → Prop} (q : Keeps may w w') (h1 : ¬ may N) (h2 : ¬ may (N + 1)) : Named N x y w' := ⟨q.blk h.1 h1, q.blk h.2 h2⟩

/-- The world in which the reader has been laid. -/
def world0 (s : ByteArray) (w : World) : World :=
  (((w.alloc (.cells #[.pointer none] 64)).alloc (.cells #[.bool false] 4)).alloc (.cells #[.string s, .int .i64 0, .int .i64 0, .string ⟨#[]⟩] 95))

theorem named0 (s : ByteArray) (w : World) : Named w.heap.size (.pointer none) (.bool false) (world0 s w) := by
  refine ⟨((Blk.new w _ _).alloc _).alloc _, (blk_new (by simp) _ _).alloc _⟩
theorem rd0 (s : ByteArray) (w : World) : Rd (world0 s w) (w.heap.size + 2) s 0 0 ⟨#[]⟩ := blk_new (by simp) _ _
theorem keeps0 (s : ByteArray) (w : World) : Keeps noB w (world0 s w) := (((Keeps.refl _ w).alloc _).alloc _).alloc _
theorem size0 (s : ByteArray) (w : World) : (world0 s w).heap.size = w.heap.size + 3 := by simp [world0]

theorem keepsNew {w w0 w1 : World} {b : Nat} (q0 : Keeps noB w w0) (hb : w.heap.size ≤ b) (q : Keeps (oneB b) w0 w1) : Keeps noB w w1 :=
  q0.transNew q (fun i hi e => by simp [oneB] at e; omega)

set_option maxRecDepth 100000 in
set_option maxHeartbeats 2000000 in
theorem read_brace (s : ByteArray) (hs : s.size ≤ 80) (hc : at? s 0 ≠ some 123) (w : World) : Calls Tryz.prog 32 #[.string s] w (ReadPost w none) := by
  have hmf : ∀ (fn : Fn) (first cap : Array Value) (w : World), (Instr.makeFunc fn first cap).run Tryz.prog w = .ok (.func fn first cap) w := fun _ _ _ _ => rfl
  have hz : (s.size : Int) ≤ 80 := by omega
  have H := Lib.hid (need_false (w.heap.size + 2) s 0 0 ⟨#[]⟩ 123 (world0 s w) (rd0 s w) (Nat.zero_le _) hs hc)
  have HN := Lib.hid (named0 s w)
  have HK := Lib.hid (keeps0 s w)
  clear hc
  go_enter_defers Tryz.func32, Tryz.ntmps32
  go_wp2_with fail
  refine H.out.mono ?_
  rintro e w1 ⟨⟨m, rfl⟩, q1⟩
  go_wp2_with fail
  refine leaves_cons (f := 41) (args := #[.pointer (some ⟨w.heap.size, 0, none⟩), .pointer (some ⟨w.heap.size + 1, 0, none⟩)]) (by simp) (by simp [go_sem]) ?_
  obtain ⟨n1, n2⟩ := HN.out.keeps q1 (by simp [oneB]) (by simp [oneB])
  refine (catch_panicking ⟨w.heap.size, 0, none⟩ ⟨w.heap.size + 1, 0, none⟩ _ _ 98 _ [] _ (n1.cell 0) (n1.free 0) (n2.cell 0) (n2.free 0) (by simp)).mono ?_
  rintro e u' w'' ⟨rfl, rfl, rfl⟩
  have m1 := (n1.set 0 (.pointer none)).setOther (a := ⟨w.heap.size + 1, 0, none⟩) (by simp) (.bool false)
  have m2 := (n2.setOther (a := ⟨w.heap.size, 0, none⟩) (by simp) (.pointer none)).set 0 (.bool false)
  have c1 := m1.cell 0
  have c2 := m2.cell 0
  simp [Leaves, settle, results, Tryz.results32, go_sem, c1, c2]
  exact ⟨rfl, ((keepsNew HK.out (by omega) q1).setCell (p := ⟨w.heap.size, 0, none⟩) (.inr (Nat.le_refl _)) _).setCell (p := ⟨w.heap.size + 1, 0, none⟩) (.inr (Nat.le_succ _)) _⟩

theorem Rd.toNat0 {w : World} {b : Nat} {s : ByteArray} {k d : Nat} {ar : ByteArray} (h : Rd w b s k d ar) : Blk w b #[.string s, .int .i64 k, .int .i64 d, .string ar] 95 := h

set_option maxRecDepth 100000 in
set_option maxHeartbeats 2000000 in
theorem read_scope_none (s : ByteArray) (hs : s.size ≤ 80) (hc : at? s 0 = some 123) (hp : scopeP s (8 * s.size + 8) [] 0 0 = none) (w : World) : Calls Tryz.prog 32 #[.string s] w (ReadPost w none) := by
  have hmf : ∀ (fn : Fn) (first cap : Array Value) (w : World), (Instr.makeFunc fn first cap).run Tryz.prog w = .ok (.func fn first cap) w := fun _ _ _ _ => rfl
  have hz : (s.size : Int) ≤ 80 := by omega
  have H := Lib.hid (need_true (w.heap.size + 2) s 0 0 ⟨#[]⟩ 123 (world0 s w) (rd0 s w) hs hc)
  have H2 := Lib.hid (fun w1 r => (all_ok (8 * s.size + 8)).2.1 (w.heap.size + 2) s 0 0 ⟨#[]⟩ w1 r hs (at?_lt hc) (Nat.zero_le _) (by omega) (by omega))
  have HN := Lib.hid (named0 s w)
  have HK := Lib.hid (keeps0 s w)
  have HP := Lib.hid hp
  clear hc hp
  go_enter_defers Tryz.func32, Tryz.ntmps32
  go_wp2_with fail
  refine H.out.mono ?_
  rintro e w1 ⟨rfl, r1, q1⟩
  go_wp2_with fail
  refine (H2.out w1 r1).mono ?_
  intro e w2 hpost
  have hpost : ScopePost (w.heap.size + 2) s 0 ⟨#[]⟩ w1 (scopeP s (8 * s.size + 8) [] 0 0) e w2 := hpost
  rw [HP.out] at hpost
  obtain ⟨⟨m, rfl⟩, q2⟩ := hpost
  go_wp2_with fail
  refine leaves_cons (f := 41) (args := #[.pointer (some ⟨w.heap.size, 0, none⟩), .pointer (some ⟨w.heap.size + 1, 0, none⟩)]) (by simp) (by simp [go_sem]) ?_
  have q := q1.trans q2
  obtain ⟨n1, n2⟩ := HN.out.keeps q (by simp [oneB]) (by simp [oneB])
  refine (catch_panicking ⟨w.heap.size, 0, none⟩ ⟨w.heap.size + 1, 0, none⟩ _ _ 98 _ [] _ (n1.cell 0) (n1.free 0) (n2.cell 0) (n2.free 0) (by simp)).mono ?_
  rintro e u' w'' ⟨rfl, rfl, rfl⟩
  have m1 := (n1.set 0 (.pointer none)).setOther (a := ⟨w.heap.size + 1, 0, none⟩) (by simp) (.bool false)
  have m2 := (n2.setOther (a := ⟨w.heap.size, 0, none⟩) (by simp) (.pointer none)).set 0 (.bool false)
  have c1 := m1.cell 0
  have c2 := m2.cell 0
  simp [Leaves, settle, results, Tryz.results32, go_sem, c1, c2]
  exact ⟨rfl, ((keepsNew HK.out (by omega) q).setCell (p := ⟨w.heap.size, 0, none⟩) (.inr (Nat.le_refl _)) _).setCell (p := ⟨w.heap.size + 1, 0, none⟩) (.inr (Nat.le_succ _)) _⟩

set_option maxRecDepth 100000 in
set_option maxHeartbeats 2000000 in
theorem read_short (s : ByteArray) (hs : s.size ≤ 80) (hc : at? s 0 = some 123) (x : Nd) (k : Nat) (hp : scopeP s (8 * s.size + 8) [] 0 0 = some (x, k)) (hk : k ≠ s.size) (w : World) : Calls Tryz.prog 32 #[.string s] w (ReadPost w none) := by
  have hmf : ∀ (fn : Fn) (first cap : Array Value) (w : World), (Instr.makeFunc fn first cap).run Tryz.prog w = .ok (.func fn first cap) w := fun _ _ _ _ => rfl
  have hz : (s.size : Int) ≤ 80 := by omega
  have hk2 := ((goes s _).scope _ _ _ _ _ hp).2
  have hkz : (k : Int) < (s.size : Int) := by omega
  have H := Lib.hid (need_true (w.heap.size + 2) s 0 0 ⟨#[]⟩ 123 (world0 s w) (rd0 s w) hs hc)
  have H2 := Lib.hid (fun w1 r => (all_ok (8 * s.size + 8)).2.1 (w.heap.size + 2) s 0 0 ⟨#[]⟩ w1 r hs (at?_lt hc) (Nat.zero_le _) (by omega) (by omega))
  have HN := Lib.hid (named0 s w)
  have HK := Lib.hid (keeps0 s w)
  have HP := Lib.hid hp
  clear hc hp hk hk2
  go_enter_defers Tryz.func32, Tryz.ntmps32
  go_wp2_with fail
  refine H.out.mono ?_
  rintro e w1 ⟨rfl, r1, q1⟩
  go_wp2_with fail
  refine (H2.out w1 r1).mono ?_
  intro e w2 hpost
  have hpost : ScopePost (w.heap.size + 2) s 0 ⟨#[]⟩ w1 (scopeP s (8 * s.size + 8) [] 0 0) e w2 := hpost
  rw [HP.out] at hpost
  obtain ⟨g, ⟨rfl, r2, q2⟩, hx⟩ := hpost
  clear hx
  obtain ⟨n1, n2⟩ := HN.out.keeps (q1.trans q2) (by simp [oneB]) (by simp [oneB])
  have cN := n1.cell 0
  have fN := n1.free 0
  have hptr : ptr g = .pointer (some ⟨g, 0, none⟩) := rfl
  have d1 := (r2.toNat0.setOther (a := ⟨w.heap.size, 0, none⟩) (by simp) (.pointer (some ⟨g, 0, none⟩))).cell 1
  go_wp2_with fail
  refine leaves_cons (f := 41) (args := #[.pointer (some ⟨w.heap.size, 0, none⟩), .pointer (some ⟨w.heap.size + 1, 0, none⟩)]) (by simp) (by simp [go_sem]) ?_
  have q := q1.trans q2
  have n1' := n1.set 0 (.pointer (some ⟨g, 0, none⟩))
  have n2' := n2.setOther (a := ⟨w.heap.size, 0, none⟩) (by simp) (.pointer (some ⟨g, 0, none⟩))
  refine (catch_panicking ⟨w.heap.size, 0, none⟩ ⟨w.heap.size + 1, 0, none⟩ _ _ 98 _ [] _ (n1'.cell 0) (n1'.free 0) (n2'.cell 0) (n2'.free 0) (by simp)).mono ?_
  rintro e u' w'' ⟨rfl, rfl, rfl⟩
  have m1 := (n1'.set 0 (.pointer none)).setOther (a := ⟨w.heap.size + 1, 0, none⟩) (by simp) (.bool false)
  have m2 := (n2'.setOther (a := ⟨w.heap.size, 0, none⟩) (by simp) (.pointer none)).set 0 (.bool false)
  have c1 := m1.cell 0
  have c2 := m2.cell 0
  simp [Leaves, settle, results, Tryz.results32, go_sem, c1, c2]
  exact ⟨rfl, (((keepsNew HK.out (by omega) q).setCell (p := ⟨w.heap.size, 0, none⟩) (.inr (Nat.le_refl _)) _).setCell (p := ⟨w.heap.size, 0, none⟩) (.inr (Nat.le_refl _)) _).setCell (p := ⟨w.heap.size + 1, 0, none⟩) (.inr (Nat.le_succ _)) _⟩

set_option maxRecDepth 100000 in
set_option maxHeartbeats 2000000 in
theorem read_good (s : ByteArray) (hs : s.size ≤ 80) (hc : at? s 0 = some 123) (x : Nd) (hp : scopeP s (8 * s.size + 8) [] 0 0 = some (x, s.size)) (w : World) : Calls Tryz.prog 32 #[.string s] w (ReadPost w (some x)) := by
  have hmf : ∀ (fn : Fn) (first cap : Array Value) (w : World), (Instr.makeFunc fn first cap).run Tryz.prog w = .ok (.func fn first cap) w := fun _ _ _ _ => rfl
  have hz : (s.size : Int) ≤ 80 := by omega
  have H := Lib.hid (need_true (w.heap.size + 2) s 0 0 ⟨#[]⟩ 123 (world0 s w) (rd0 s w) hs hc)
  have H2 := Lib.hid (fun w1 r => (all_ok (8 * s.size + 8)).2.1 (w.heap.size + 2) s 0 0 ⟨#[]⟩ w1 r hs (at?_lt hc) (Nat.zero_le _) (by omega) (by omega))
  have HN := Lib.hid (named0 s w)
  have HK := Lib.hid (keeps0 s w)
  have HP := Lib.hid hp
  clear hc hp
  go_enter_defers Tryz.func32, Tryz.ntmps32
  go_wp2_with fail
  refine H.out.mono ?_
  rintro e w1 ⟨rfl, r1, q1⟩
  go_wp2_with fail
  refine (H2.out w1 r1).mono ?_
  intro e w2 hpost
  have hpost : ScopePost (w.heap.size + 2) s 0 ⟨#[]⟩ w1 (scopeP s (8 * s.size + 8) [] 0 0) e w2 := hpost
  rw [HP.out] at hpost
  obtain ⟨g, ⟨rfl, r2, q2⟩, hx⟩ := hpost
  have HX := Lib.hid hx
  clear hx
  obtain ⟨n1, n2⟩ := HN.out.keeps (q1.trans q2) (by simp [oneB]) (by simp [oneB])
  have n1' := n1.set 0 (.pointer (some ⟨g, 0, none⟩))
  have n2' := n2.setOther (a := ⟨w.heap.size, 0, none⟩) (by simp) (.pointer (some ⟨g, 0, none⟩))
  have cN := n1.cell 0
  have fN := n1.free 0
  have fM := n2.free 0
  have cN' := n1'.cell 0
  have cM' := n2'.cell 0
  have hptr : ptr g = .pointer (some ⟨g, 0, none⟩) := rfl
  have d1 := (r2.toNat0.setOther (a := ⟨w.heap.size, 0, none⟩) (by simp) (.pointer (some ⟨g, 0, none⟩))).cell 1
  have n1'' := n1'.set 0 (.pointer (some ⟨g, 0, none⟩))
  have n2'' := n2'.setOther (a := ⟨w.heap.size, 0, none⟩) (by simp) (.pointer (some ⟨g, 0, none⟩))
  have cM'' := n2''.cell 0
  go_wp2_with fail
  refine leaves_cons (f := 41) (args := #[.pointer (some ⟨w.heap.size, 0, none⟩), .pointer (some ⟨w.heap.size + 1, 0, none⟩)]) (by simp) (by simp [go_sem]) ?_
  refine (catch_idle ⟨w.heap.size, 0, none⟩ ⟨w.heap.size + 1, 0, none⟩ _).mono ?_
  rintro e u' w'' ⟨rfl, rfl, rfl⟩
  have m1 := n1''.setOther (a := ⟨w.heap.size + 1, 0, none⟩) (by simp) (.bool true)
  have m2 := n2''.set 0 (.bool true)
  have e1 := m1.cell 0
  have e2 := m2.cell 0
  clear cN fN fM cN' cM' d1 cM''
  simp [Leaves, settle, results, Tryz.results32, go_sem, e1, e2]
  have s1 := q1.size
  have s2 := q2.size
  rw [size0] at s1
  have qa : Keeps (fun i => i = w.heap.size ∨ i = w.heap.size + 1) w2 (((w2.setCell ⟨w.heap.size, 0, none⟩ (.pointer (some ⟨g, 0, none⟩))).setCell ⟨w.heap.size, 0, none⟩ (.pointer (some ⟨g, 0, none⟩))).setCell ⟨w.heap.size + 1, 0, none⟩ (.bool true)) :=
    (((Keeps.refl _ w2).setCell (.inl (.inl rfl)) _).setCell (.inl (.inl rfl)) _).setCell (.inl (.inr rfl)) _
  refine ⟨g, rfl, ?_, (keepsNew HK.out (by omega) (q1.trans q2)).transNew qa (fun i hi e => by omega)⟩
  exact (Hands.of_keeps (ok := fromB w1.heap.size) (ok' := fromB w.heap.size) qa (fun i hi _ e => by simp [fromB] at hi; omega) (fun i hi _ => by simp [fromB] at hi ⊢; omega)).repI x _ HX.out

/-- readProgram, whatever the text. -/
theorem read_any (s : ByteArray) (hs : s.size ≤ 1048576) (w : World) : Calls Tryz.prog 32 #[.string s] w (ReadPost w (progP s)) := by
  unfold progP
  split
  · exact read_long s (by omega) hs w
  split
  · rename_i h1 hc
    cases hp : scopeP s (8 * s.size + 8) [] 0 0 with
    | none => exact read_scope_none s (by omega) hc hp w
    | some p =>
      obtain ⟨x, k⟩ := p
      simp only
      split
      · rename_i hk; subst hk; exact read_good s (by omega) hc x hp w
      · rename_i hk; exact read_short s (by omega) hc x k hp hk w
  · rename_i h1 hc
    exact read_brace s (by omega) hc w

end Go.Proofs.YtkfcgamdlckncaaGreat

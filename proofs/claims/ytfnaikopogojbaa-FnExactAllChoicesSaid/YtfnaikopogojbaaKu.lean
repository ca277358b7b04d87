/-
  Walks of the program's run: names; VisitsOf.
-/
import Derived.Test.YtfnaikopogojbaaKrW
import Derived.Test.YtfnaikopogojbaaSgW
import Derived.Test.YtfnaikopogojbaaTa
namespace Go.Proofs.Ytfnaikopogojbaa
set_option linter.unusedVariables false
set_option linter.unusedSimpArgs false
open Go.RowKit

theorem Try.zero5 : (Try.prog.info? 5).map (fun i => (i.zero, i.size, i.bytes)) = some (some (.int .u8 0), 1, 1) := by kernel_rfl

/-- A byte's value. -/
def byteV (c : UInt8) : Value := .int .u8 (c.toNat : Int)

/-- What the loop of names holds: a row of bytes of its own. -/
def NamesAt (w : World) (f : UInt8 → Nat) (v3 v7 : Value) (wr : World) : Prop :=
  ∃ (i : Nat), i ≤ 6 ∧ v7 = .int .i64 (i : Int) ∧ wr.ownsRow 0 5 1 v3 ((abc.take i).filter (fun v => f v != 0)).length (((abc.take i).filter (fun v => f v != 0)).map byteV) ∧
    (∀ g, v3.ownBlock = some g → w.heap.size ≤ g) ∧ Keeps noB w wr

theorem names_next {f : UInt8 → Nat} {i : Nat} (h : i < 6) : (abc.take (i + 1)).filter (fun v => f v != 0) = (abc.take i).filter (fun v => f v != 0) ++ (if f (UInt8.ofNat (97 + i)) = 0 then [] else [UInt8.ofNat (97 + i)]) := by
  have hc : abc[i]? = some (UInt8.ofNat (97 + i)) := by
    have : i = 0 ∨ i = 1 ∨ i = 2 ∨ i = 3 ∨ i = 4 ∨ i = 5 := by omega
    rcases this with rfl | rfl | rfl | rfl | rfl | rfl <;> rfl
  rw [List.take_add_one, hc, List.filter_append]
  congr 1
  generalize UInt8.ofNat (97 + i) = c
  by_cases h0 : f c = 0
  · simp [h0]
  · simp [h0]

theorem names_len (f : UInt8 → Nat) (i : Nat) : ((abc.take i).filter (fun v => f v != 0)).length ≤ 6 := by
  refine Nat.le_trans (List.length_filter_le _ _) ?_
  rw [List.length_take]
  exact Nat.min_le_right _ _

/-- The six cells of the values that are held. -/
def Six6 (w : World) (b o : Nat) (f : UInt8 → Nat) : Prop := ∀ i, i < 6 → w.cell? ⟨b, o + i, none⟩ = some (i64 (f (UInt8.ofNat (97 + i))))

/-- A row of bytes as a text. -/
theorem conv_row (W : World) (v : Value) (l : List UInt8) (h : W.ownsRow 0 5 1 v l.length (l.map byteV)) : (convert 22 9 v).run Try.prog W = .ok (str l) W := by
  have h2 := h.2
  rcases h2 with ⟨rfl, h0⟩ | ⟨g, cap, cur, rfl, _⟩
  · have hl : l = [] := List.length_eq_zero_iff.1 h0
    subst hl
    rw [run_convert_bytes_string W 22 9 5 none 0 0 Try.underlying22 Try.underlying5 Try.underlying9]
    rfl
  · refine run_convert_bytes_back W 22 9 5 ⟨g, 0, none⟩ cap l Try.underlying22 Try.underlying5 Try.underlying9 (fun j hj => ?_)
    exact h.cells rfl j _ (by rw [List.getElem?_map, List.getElem?_eq_getElem hj]; rfl)

set_option maxRecDepth 100000 in
set_option maxHeartbeats 4000000 in
theorem names_any (b o : Nat) (f : UInt8 → Nat) (w : World) (hb : b < w.heap.size) (h : Six6 w b o f) : Calls Try.prog 74 #[.pointer (some ⟨b, o, none⟩)] w (fun e w' => e = .returned (str (namesOf f)) ∧ Keeps noB w w') := by
  obtain ⟨i0, hi, hz0, hz1, hz2⟩ := info_parts Try.zero5
  have HP : Hid (NamesAt w f (.slice none 0 0) (.int .i64 0) w) := ⟨0, by omega, rfl, ⟨rfl, .inl ⟨rfl, rfl⟩⟩, fun g e => by simp [Value.ownBlock] at e, Keeps.refl _ _⟩
  have HS := Lib.hid h
  have HI := Lib.hid (And.intro hi (And.intro hz0 (And.intro hz1 hz2)))
  clear h hi hz0 hz1 hz2
  go_enter Try.func74, Try.ntmps74
  go_wp2_with fail
  go_loopw [3, 7] (fun v3 v7 wr => NamesAt w f v3 v7 wr) (fun _ v7 _ => 6 - (intOf v7).toNat)
  case atStart => exact HP.out
  case round =>
    clear HP
    obtain ⟨i, hi6, rfl, hrow, hfr, q⟩ := hrel
    by_cases h6 : i < 6
    · have hc := (q.cell (p := ⟨b, o + i, none⟩) hb id).trans (HS.out i h6)
      have hnx := names_next (f := f) h6
      have hlen := names_len f i
      have hcn : ((UInt8.ofNat (97 + i)).toNat : Int) = 97 + (i : Int) := by
        have : i = 0 ∨ i = 1 ∨ i = 2 ∨ i = 3 ∨ i = 4 ∨ i = 5 := by omega
        rcases this with rfl | rfl | rfl | rfl | rfl | rfl <;> rfl
      generalize UInt8.ofNat (97 + i) = c at hc hnx hcn
      unfold i64 at hc
      generalize (abc.take i).filter (fun v => f v != 0) = pre at hrow hnx hlen
      have hi0 : (0 : Int) ≤ (i : Int) := by omega
      have hi1 : (i : Int) < 6 := by omega
      have HQ := Lib.hid (And.intro hrow (And.intro hfr q))
      obtain ⟨a, cc, rfl⟩ := row_shape (ok := fun _ => True) ⟨hrow, fun _ _ => trivial⟩
      by_cases h0 : f c = 0
      · rw [h0] at hc
        rw [if_pos h0, List.append_nil] at hnx
        have hc' : wr.cell? ⟨b, o + i, none⟩ = some (.int .i64 0) := hc
        have HN := Lib.hid hnx
        clear hrow hfr q hnx hc h0 hcn
        go_wp2_with fail
        go_quiet (fail)
        go_wp2_with fail
        go_roundw
        case rel =>
          obtain ⟨q1, q2, q3⟩ := HQ.out
          refine ⟨i + 1, by omega, by go_num, ?_, q2, q3.drewN _⟩
          rw [HN.out]
          exact q1
        case measure => simp [intOf]; omega
      · rw [if_neg h0] at hnx
        have hp : ((f c : Int) != 0) = true := by rw [bne_iff_ne]; omega
        have hp2 : ¬ (f c : Int) = 0 := by omega
        generalize (f c : Int) = fc at *
        have HN := Lib.hid hnx
        have HC := Lib.hid hcn
        have hw1 : IntKind.u8.wrap (i : Int) = (i : Int) := by rw [IntKind.wrap]; simp [IntKind.signed, IntKind.bits]; omega
        have hw2 : IntKind.u8.wrap (97 + (i : Int)) = 97 + (i : Int) := by rw [IntKind.wrap]; simp [IntKind.signed, IntKind.bits]; omega
        clear hrow hfr q hnx h0 hcn
        go_wp2_with fail
        go_quiet (fail)
        obtain ⟨hi, hz0, hz1, hz2⟩ := HI.out
        go_wp2_with (at_builtin; refine wpList_append_fresh _ rfl _ _ 22 rfl 5 i0 _ 1 1 Try.underlying22 hi hz0 hz1 hz2 rfl (by decide) (.slice a pre.length cc) pre.length (pre.map byteV) rfl ?own ⟨wr.heap.size, 0, none⟩ 1 1 [.int .u8 (97 + (i : Int))] rfl ?c1 ?c2 ?c3 ?c4 ?c5 ?_)
        case own => exact (((Keeps.refl noB wr).drewN nq).ownsRow HQ.out.1 (fun _ _ _ => id)).alloc _
        case c1 => rfl
        case c2 => exact cells_one (wr.drewN nq) (.int .u8 (97 + (i : Int))) 5
        case c3 => intro u hu; simp at hu; subst hu; rfl
        case c4 => unfold maxLen; omega
        case c5 => omega
        intro v' w3 hown' hgrow hfresh
        have hnew : NamesAt w f v' (.int .i64 ((i + 1 : Nat) : Int)) w3 := by
          obtain ⟨q1, q2, q3⟩ := HQ.out
          have qs := q3.size
          have qa : Keeps (fun g => (Value.slice a pre.length cc).ownBlock = some g) wr w3 := (((Keeps.refl _ wr).drewN _).alloc _).grown hgrow (fun g hg => .inl hg)
          refine ⟨i + 1, by omega, rfl, ?_, fun g hg => ?_, q3.transNew qa (fun j hj e => by have := q2 j e; omega)⟩
          · rw [HN.out, List.length_append, List.map_append]
            have e1 : [c].map byteV = [.int .u8 (97 + (i : Int))] := by show [byteV c] = _; unfold byteV; rw [HC.out]
            rw [e1]
            exact hown'
          · rcases hfresh with h | h
            · exact q2 g (h ▸ hg)
            · have h5 := h g hg
              have e2 : (wr.drewN nq).heap.size = wr.heap.size := rfl
              simp at h5
              omega
        obtain ⟨a', c', rfl⟩ := row_slice (ok := fun _ => True) ⟨hown', fun _ _ => trivial⟩
        have HE := Lib.hid hnew
        clear hown' hgrow hfresh hnew
        go_wp2_with fail
        go_roundw
        case rel => exact HE.out
        case measure => simp [intOf]; omega
    · have hi66 : i = 6 := by omega
      subst hi66
      have hcv := conv_row wr _ _ hrow
      have hfin : (abc.take 6).filter (fun v => f v != 0) = namesOf f := rfl
      rw [hfin] at hcv
      have HQ := Lib.hid q
      obtain ⟨a, cc, rfl⟩ := row_shape (ok := fun _ => True) ⟨hrow, fun _ _ => trivial⟩
      unfold str at hcv
      clear hrow hfr q hfin
      go_wp2_with fail
      go_ret
      exact ⟨rfl, HQ.out⟩

/-! ### VisitsOf. -/
theorem Try.zeroV47 : (Try.prog.info? 47).map (fun i => (i.zero, i.size, i.bytes)) = some (some (.agg #[.int .i64 0, .string ⟨#[]⟩]), 2, 24) := by kernel_rfl

/-- What VisitsOf tells of. -/
def visitsP (s ch : ByteArray) : Option (List (Nat × (UInt8 → Nat))) := match runP s ch with | none => none | some o => if o.right then some o.st.vis else none

/-- How VisitsOf ends: a row of its own. -/
def VisitsPost (w : World) (res : Option (List (Nat × (UInt8 → Nat)))) (e : Ending) (w' : World) : Prop :=
  ∃ v l, e = .returned (.tuple #[v, .bool res.isSome]) ∧ Row w' (fromB w.heap.size) 47 2 v l.length (vsCells l) ∧ Keeps noB w w' ∧ l.length ≤ 8000 ∧ l = res.getD []

theorem resVis (W : World) (v b : Value) (tmps : Array Value) (h4 : tmps.getD 4 undef = v) (h5 : tmps.getD 5 undef = b) : (results Try.f35 tmps).run Try.prog W = .ok (.tuple #[v, b]) W := by
  have h4' : tmps[4]?.getD undef = v := by simpa using h4
  have h5' : tmps[5]?.getD undef = b := by simpa using h5
  simp [results, Try.results35, go_sem, h4', h5']

theorem runP_few {s ch : ByteArray} {o : Out} (h : runP s ch = some o) : o.st.vis.length ≤ 8000 := by
  unfold runP at h
  cases hp : progP s with
  | none => rw [hp] at h; cases h
  | some x =>
    rw [hp] at h
    simp only at h
    split at h
    · cases h
    · rename_i hc
      injection h with h
      obtain ⟨_, h2, _, _, _, h6⟩ := progP_ok hp
      have hr := room_start (ch := ch) hp (by omega)
      have ha := Nd.adds h6 x 0 (St.start ch.data.toList) h2
      rw [h] at ha
      have h1 := (hr.behind ha).vis
      omega

/-- One moment's cells. -/
theorem vis_cells {l : List (Nat × (UInt8 → Nat))} : ∀ {i : Nat} {p : Nat × (UInt8 → Nat)}, l[i]? = some p → ∀ j u, (i64 p.1 :: six6 p.2)[j]? = some u → (visCells l)[i * 7 + j]? = some u := by
  induction l with
  | nil => intro i p h; simp at h
  | cons q r ih =>
    intro i p h j u hu
    have hj : j < 7 := by have := (List.getElem?_eq_some_iff.1 hu).1; simpa [six6] using this
    have e0 : visCells (q :: r) = (i64 q.1 :: six6 q.2) ++ visCells r := rfl
    have hl : (i64 q.1 :: six6 q.2).length = 7 := rfl
    rw [e0]
    cases i with
    | zero =>
      simp at h
      subst h
      rw [Nat.zero_mul, Nat.zero_add, List.getElem?_append_left (by rw [hl]; exact hj)]
      exact hu
    | succ i =>
      rw [List.getElem?_append_right (by rw [hl]; omega), hl, show (i + 1) * 7 + j - 7 = i * 7 + j by omega]
      exact ih (by simpa using h) j u hu

theorem row_capV {w : World} {ok : Nat → Prop} {e : TypeId} {size : Nat} {g n c : Nat} {xs : List Value} (h : Row w ok e size (.slice (some ⟨g, 0, none⟩) n c) n xs) : n ≤ c := by
  rcases h.1.2 with ⟨e1, _⟩ | ⟨g', c', cur, e1, _, hh, hnc, _⟩
  · cases e1
  · simp only [Value.slice.injEq, Option.some.injEq, Addr.mk.injEq, and_true, true_and] at e1
    obtain ⟨rfl, rfl⟩ := e1
    exact hnc

/-- What the loop of VisitsOf holds. -/
def VisLoop (w1 : World) (l : List (Nat × (UInt8 → Nat))) (v9 v32 : Value) (wr : World) : Prop :=
  ∃ (i : Nat), i ≤ l.length ∧ v32 = .int .i64 (i : Int) ∧ wr.ownsRow 0 47 2 v9 i (vsCells (l.take i)) ∧ (∀ g, v9.ownBlock = some g → w1.heap.size ≤ g) ∧ Keeps noB w1 wr

set_option maxRecDepth 100000 in
set_option maxHeartbeats 4000000 in
theorem visits_no (s ch : ByteArray) (w : World) (h : Calls Try.prog 73 #[.string s, .string ch] w (fun e w' => ∃ p zs ex fa, e = .returned (.tuple #[.pointer p, .agg #[.int .i64 ex, .int .i64 fa, .string zs], .bool false]) ∧ Keeps noB w w')) :
    Calls Try.prog 35 #[.string s, .string ch] w (VisitsPost w none) := by
  have HC := Lib.hid h
  clear h
  go_enter Try.func35, Try.ntmps35
  go_wp2_with (go_at_call 73; refine HC.out.mono ?_; rintro e w1 ⟨p, zs, ex, fa, rfl, q⟩; have HQ := Lib.hid q; clear q)
  refine bodyPost_ret (resVis _ _ _ _ rfl rfl) rfl ?_
  exact ⟨_, [], rfl, ⟨⟨rfl, .inl ⟨rfl, rfl⟩⟩, fun g e => by simp [Value.ownBlock] at e⟩, HQ.out.alloc _, Nat.zero_le _, rfl⟩

set_option maxRecDepth 100000 in
set_option maxHeartbeats 4000000 in
theorem visits_yes (s ch : ByteArray) (w : World) (l : List (Nat × (UInt8 → Nat))) (hl : l.length ≤ 8000)
    (h : Calls Try.prog 73 #[.string s, .string ch] w (fun e w' => ∃ b vv zs ex fa, e = .returned (.tuple #[.pointer (some ⟨b, 0, none⟩), .agg #[.int .i64 ex, .int .i64 fa, .string zs], .bool true]) ∧ b < w'.heap.size ∧ w'.cell? ⟨b, 10, none⟩ = some vv ∧ w'.ownsRow 0 107 7 vv l.length (visCells l) ∧ Keeps noB w w')) :
    Calls Try.prog 35 #[.string s, .string ch] w (VisitsPost w (some l)) := by
  obtain ⟨i0, hi, hz0, hz1, hz2⟩ := info_parts Try.zeroV47
  have HI := Lib.hid (And.intro hi (And.intro hz0 (And.intro hz1 hz2)))
  have HC := Lib.hid h
  clear h
  obtain ⟨n, hn⟩ : ∃ n, n = l.length := ⟨_, rfl⟩
  rw [← hn] at HC hl
  have HNN := Lib.hid hn
  clear hn
  go_enter Try.func35, Try.ntmps35
  go_wp2_with (go_at_call 73; refine HC.out.mono ?_; rintro e w1 ⟨b, vv, zs, ex, fa, rfl, hb, y10, hrow, q⟩; obtain ⟨va, vc, rfl⟩ := row_shape (ok := fun _ => True) ⟨hrow, fun _ _ => trivial⟩; have HQ := Lib.hid (And.intro hrow q); clear hrow q; refine Hid.out ?_)
  refine Lib.hid ?_
  have hb1 : ¬ b = w1.heap.size := by omega
  have hb2 : b ≤ w1.heap.size := by omega
  go_wp2_with (at_make; refine wpList_make_own _ rfl _ _ 42 rfl 0 47 i0 _ 2 Try.underlying42 hi hz0 hz1 _ _ _ n rfl rfl rfl (by rw [hz2]; omega) (by unfold maxLen; omega) ?_ ?_)
  case refine_1 => exact Nat.zero_le _
  intro w2 hown2 hg2
  have q2 : Keeps noB w1 w2 := ((Keeps.refl _ w1).alloc _).grown hg2 (fun k e => by cases e)
  have y10' := (q2.cell (p := ⟨b, 10, none⟩) hb id).trans y10
  have HP : Hid (VisLoop w1 l (.slice (some ⟨w1.heap.size + 1, 0, none⟩) 0 n) (.int .i64 0) w2) :=
    ⟨0, Nat.zero_le _, rfl, hown2, fun g e => by simp [Value.ownBlock] at e; omega, q2⟩
  clear hown2 hg2 q2 y10
  go_wp2_with fail
  go_loopw [9, 32] (fun v9 v32 wr => VisLoop w1 l v9 v32 wr) (fun _ v32 _ => n - (intOf v32).toNat)
  case atStart => exact HP.out
  case round =>
    clear HP y10'
    obtain ⟨i, hil, rfl, hrow, hfr, q⟩ := hrel
    obtain ⟨ra, rc, rfl⟩ := row_shape (ok := fun _ => True) ⟨hrow, fun _ _ => trivial⟩
    by_cases hlt : i < n
    · have hi1 : (i : Int) < (n : Int) := by omega
      have hi0 : (0 : Int) ≤ (i : Int) := by omega
      have hil2 : i < l.length := by have := HNN.out; omega
      obtain ⟨p, hp⟩ : ∃ p, l[i]? = some p := ⟨_, List.getElem?_eq_getElem hil2⟩
      obtain ⟨gm, cm, hv, _, hgm, hcell⟩ := row_get (ok := fun _ => True) ⟨HQ.out.1, fun _ _ => trivial⟩ (by omega)
      obtain ⟨rfl, rfl⟩ : va = some ⟨gm, 0, none⟩ ∧ vc = cm := by simpa using hv
      have hcm := row_capV (ok := fun _ => True) ⟨HQ.out.1, fun _ _ => trivial⟩
      have hcw : ∀ j u, (i64 p.1 :: six6 p.2)[j]? = some u → wr.cell? ⟨gm, i * 7 + j, none⟩ = some u := fun j u hu =>
        (q.cell (p := ⟨gm, i * 7 + j, none⟩) hgm id).trans (hcell _ _ (vis_cells hp j u hu))
      have s0 : wr.cell? ⟨gm, i * 7, none⟩ = some (.int .i64 (p.1 : Int)) := hcw 0 _ rfl
      have s1 : wr.cell? ⟨gm, i * 7 + 1, none⟩ = some (.int .i64 (p.2 97 : Int)) := hcw 1 _ rfl
      have s2 : wr.cell? ⟨gm, i * 7 + 2, none⟩ = some (.int .i64 (p.2 98 : Int)) := hcw 2 _ rfl
      have s3 : wr.cell? ⟨gm, i * 7 + 3, none⟩ = some (.int .i64 (p.2 99 : Int)) := hcw 3 _ rfl
      have s4 : wr.cell? ⟨gm, i * 7 + 4, none⟩ = some (.int .i64 (p.2 100 : Int)) := hcw 4 _ rfl
      have s5 : wr.cell? ⟨gm, i * 7 + 5, none⟩ = some (.int .i64 (p.2 101 : Int)) := hcw 5 _ rfl
      have s6 : wr.cell? ⟨gm, i * 7 + 6, none⟩ = some (.int .i64 (p.2 102 : Int)) := hcw 6 _ rfl
      have bN := Blk.new wr #[.int .i64 (p.1 : Int), .int .i64 (p.2 97 : Int), .int .i64 (p.2 98 : Int), .int .i64 (p.2 99 : Int), .int .i64 (p.2 100 : Int), .int .i64 (p.2 101 : Int), .int .i64 (p.2 102 : Int)] 107
      have HNM : Hid (Calls Try.prog 74 #[.pointer (some ⟨wr.heap.size, 1, none⟩)] (wr.alloc (.cells #[.int .i64 (p.1 : Int), .int .i64 (p.2 97 : Int), .int .i64 (p.2 98 : Int), .int .i64 (p.2 99 : Int), .int .i64 (p.2 100 : Int), .int .i64 (p.2 101 : Int), .int .i64 (p.2 102 : Int)] 107)).drew (fun e w' => e = .returned (str (namesOf p.2)) ∧ Keeps noB (wr.alloc (.cells #[.int .i64 (p.1 : Int), .int .i64 (p.2 97 : Int), .int .i64 (p.2 98 : Int), .int .i64 (p.2 99 : Int), .int .i64 (p.2 100 : Int), .int .i64 (p.2 101 : Int), .int .i64 (p.2 102 : Int)] 107)).drew w')) :=
        names_any wr.heap.size 1 p.2 _ bN.lt (fun j hj => by
          have : j = 0 ∨ j = 1 ∨ j = 2 ∨ j = 3 ∨ j = 4 ∨ j = 5 := by omega
          rcases this with rfl | rfl | rfl | rfl | rfl | rfl
          · exact bN.cell 1
          · exact bN.cell 2
          · exact bN.cell 3
          · exact bN.cell 4
          · exact bN.cell 5
          · exact bN.cell 6)
      have HBN : Hid (∀ w3, Keeps noB (wr.alloc (.cells #[.int .i64 (p.1 : Int), .int .i64 (p.2 97 : Int), .int .i64 (p.2 98 : Int), .int .i64 (p.2 99 : Int), .int .i64 (p.2 100 : Int), .int .i64 (p.2 101 : Int), .int .i64 (p.2 102 : Int)] 107)).drew w3 →
          w3.cell? ⟨wr.heap.size, 0, none⟩ = some (.int .i64 (p.1 : Int)) ∧ wr.heap.size < w3.heap.size ∧ ¬ wr.heap.size = w3.heap.size ∧ w3.ownsRow 0 47 2 (.slice ra i rc) i (vsCells (l.take i)) ∧ Keeps noB wr w3) := fun w3 q3 => by
        have qa : Keeps noB wr w3 := (((Keeps.refl noB wr).alloc _).drew).trans q3
        have hlt3 := (q3.blk (show Blk (wr.alloc _).drew wr.heap.size _ _ from bN) id).lt
        exact ⟨(q3.blk (show Blk (wr.alloc _).drew wr.heap.size _ _ from bN) id).cell 0, hlt3, by omega, qa.ownsRow hrow (fun _ _ _ => id), qa⟩
      have HG : Hid (∀ w3 w4 (a' : Option Addr) (c' : Nat), Keeps noB wr w3 → w4.ownsRow 0 47 2 (.slice a' (i + 1) c') (i + 1) (vsCells (l.take i) ++ [.int .i64 (p.1 : Int), .string ⟨(namesOf p.2).toArray⟩]) →
          (w3.alloc (.cells #[.int .i64 (p.1 : Int), .string ⟨(namesOf p.2).toArray⟩] 47)).grownBy w4 (Value.slice ra i rc).ownBlock → Fresh (w3.alloc (.cells #[.int .i64 (p.1 : Int), .string ⟨(namesOf p.2).toArray⟩] 47)) (.slice ra i rc) (.slice a' (i + 1) c') →
          VisLoop w1 l (.slice a' (i + 1) c') (.int .i64 ((i + 1 : Nat) : Int)) w4) := by
        intro w3 w4 a' c' q3 ho hg hf
        have qa : Keeps (fun g => (Value.slice ra i rc).ownBlock = some g) wr w4 := ((q3.mono (fun _ e => e.elim)).alloc _).grown hg (fun g hg => .inl hg)
        refine ⟨i + 1, hil2, rfl, ?_, fun g hg' => ?_, q.transNew qa (fun j hj e => by have := hfr j e; omega)⟩
        · rw [List.take_add_one, hp, Option.toList, vsCells_snoc]
          exact ho
        · rcases hf with h | h
          · exact hfr g (h ▸ hg')
          · have h5 := h g hg'
            have h6 := q3.size
            have h7 := q.size
            simp at h5
            omega
      generalize namesOf p.2 = nm at HNM HG
      obtain ⟨hi, hz0, hz1, hz2⟩ := HI.out
      obtain ⟨kv, hkv⟩ : ∃ kv : Int, (p.1 : Int) = kv := ⟨_, rfl⟩
      rw [hkv] at s0 HNM HBN HG
      clear hrow hfr q hcw hcell hp hv bN hkv
      unfold str at HNM
      go_wp2_with fail
      go_region_law (first
        | (go_simp; go_at_call 74; refine HNM.out.mono ?_; rintro e w3 ⟨rfl, q3⟩
           have ⟨y0, hb3, hb4, hrow3, qr3⟩ := HBN.out _ q3
           have HR := Lib.hid (And.intro hrow3 qr3)
           clear q3 hrow3 qr3)
        | (refine step_append_fresh rfl (.tmp 36) (.tmp 42) 42 rfl 47 i0 (.agg #[.int .i64 0, .string ⟨#[]⟩]) 2 24 Try.underlying42 hi hz0 hz1 hz2 rfl (by decide) (.slice ra i rc) i (vsCells (l.take i)) (by simp [Act.eval, Act.put]) (HR.out.1.alloc _) ⟨w3.heap.size, 0, none⟩ 1 1 [.int .i64 kv, .string ⟨nm.toArray⟩] (by simp [Act.eval, Act.put]) rfl (cells_all w3 #[.int .i64 kv, .string ⟨nm.toArray⟩] 47) (by intro u hu; simp at hu; rcases hu with rfl | rfl <;> rfl) (by unfold maxLen; omega) (by omega) ?_
           intro v' w4 ho hg hf
           obtain ⟨a', c', rfl⟩ := row_shape (ok := fun _ => True) ⟨ho, fun _ _ => trivial⟩
           have HE := Lib.hid (HG.out _ _ _ _ HR.out.2 ho hg hf)
           clear ho hg hf))
      all_goals
        go_wp2_with fail
        go_roundw
        case rel => exact HE.out
        case measure => simp [intOf]; omega
    · have hie : i = l.length := by have := HNN.out; omega
      have HE : Hid (Row wr (fromB w.heap.size) 47 2 (.slice ra i rc) l.length (vsCells l) ∧ Keeps noB w wr) := by
        subst hie
        rw [List.take_length] at hrow
        exact ⟨⟨hrow, fun g hg => Nat.le_trans HQ.out.2.size (hfr g hg)⟩, HQ.out.2.trans q⟩
      clear hrow hfr q hie
      go_wp2_with fail
      refine bodyPost_ret (resVis _ _ _ _ rfl rfl) rfl ?_
      exact ⟨_, l, rfl, HE.out.1, HE.out.2, by have := HNN.out; omega, rfl⟩

theorem visits_any (s ch : ByteArray) (hs : s.size ≤ 1048576) (hC : ch.size ≤ 1048576) (w : World) : Calls Try.prog 35 #[.string s, .string ch] w (VisitsPost w (visitsP s ch)) := by
  have h := runOf_any s ch hs hC w
  unfold visitsP
  cases hr : runP s ch with
  | none =>
    rw [hr] at h
    exact visits_no s ch w (h.mono (fun e w' hq => ⟨none, ⟨#[]⟩, 0, 0, hq.1, hq.2⟩))
  | some o =>
    rw [hr] at h
    have hf := runP_few hr
    simp only
    cases ho : o.right with
    | false =>
      rw [if_neg (by simp)]
      refine visits_no s ch w (h.mono (fun e w' hq => ?_))
      obtain ⟨b, own', ar', ve, vv, he, q, _⟩ := hq
      obtain ⟨zs, hz⟩ := endOf_both o
      rw [hz, ho] at he
      exact ⟨_, zs, _, _, he, q⟩
    | true =>
      rw [if_pos rfl]
      refine visits_yes s ch w o.st.vis hf (h.mono (fun e w' hq => ?_))
      obtain ⟨b, own', ar', ve, vv, he, q, hr, _⟩ := hq
      obtain ⟨zs, hz⟩ := endOf_both o
      rw [hz, ho] at he
      exact ⟨b, vv, zs, _, _, he, hr.blk.lt, hr.blk.cell 10, hr.vis, q⟩

end Go.Proofs.Ytfnaikopogojbaa

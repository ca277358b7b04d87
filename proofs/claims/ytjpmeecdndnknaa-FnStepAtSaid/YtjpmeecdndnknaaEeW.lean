/-
  Walks of the model: CountSteps, IsStraight.
  Walks of the model: l1At.
-/
import Derived.Test.YtjpmeecdndnknaaEbW
namespace Go.Proofs.Ytjpmeecdndnknaa
set_option linter.unusedVariables false
set_option linter.unusedSimpArgs false
open Go.RowKit

theorem next_lt {a i g : Nat} (h : a < i + (g + 1)) : a < i + 1 + g := by omega

def kinds : ByteArray := ⟨#[43, 45, 46, 126, 61, 94, 33, 63, 42, 123]⟩

def countK (c : UInt8) : List Nd → Nat
  | [] => 0
  | x :: r => countK c r + if x.kind = c then 1 else 0

theorem countK_app (c : UInt8) : ∀ x y : List Nd, countK c (x ++ y) = countK c x + countK c y
  | [], y => by simp [countK]
  | z :: r, y => by simp only [List.cons_append, countK, countK_app c r y]; omega

theorem countK_le (c : UInt8) : ∀ x : List Nd, countK c x ≤ x.length
  | [] => Nat.le_refl _
  | z :: r => by have := countK_le c r; simp only [countK, List.length_cons]; split <;> omega

theorem findI_nmem {a : ByteArray} {c : UInt8} (h : c ∉ a.data.toList) : findI a c = -1 := by
  have : a.data.toList.findIdx? (· == c) = none := by
    rw [List.findIdx?_eq_none_iff]
    intro x hx
    rw [beq_eq_false_iff_ne]
    rintro rfl
    exact h hx
  simp [findI, this]

def CountPostS (w : World) (n : Int) (e : Ending) (w' : World) : Prop := e = .returned (.int .i64 n) ∧ Keeps noB w w'

set_option maxRecDepth 100000 in
set_option maxHeartbeats 4000000 in
theorem scount_none (s kind : ByteArray) (hs : s.size ≤ 1048576) (hp : progP s = none) (w : World) : Calls Try.prog 18 #[.string s, .string kind] w (CountPostS w (-1)) := by
  have H := Lib.hid (sread_any s hs w)
  rw [hp] at H
  clear hp
  go_enter Try.func18, Try.ntmps18
  go_wp2_with fail
  refine H.out.mono ?_
  rintro e w1 ⟨⟨x0, x1, x2, x3, x4, x5, x6, x7, rfl⟩, q1⟩
  have hnv : nodeV x0 x1 x2 x3 x4 x5 x6 x7 = .agg #[.int .u8 x0, .int .i64 x1, .int .i64 x2, .string x3, .slice x4 x5 x6, .string x7] := rfl
  go_wp2_with fail
  go_ret
  exact ⟨rfl, q1.alloc _⟩

set_option maxRecDepth 100000 in
set_option maxHeartbeats 4000000 in
theorem scount_size (s kind : ByteArray) (hs : s.size ≤ 1048576) (x : Nd) (hp : progP s = some x) (hk : kind.size ≠ 1) (w : World) : Calls Try.prog 18 #[.string s, .string kind] w (CountPostS w (-1)) := by
  have H := Lib.hid (sread_any s hs w)
  rw [hp] at H
  have hk1 : ((kind.size : Int) != 1) = true := by rw [bne_iff_ne]; omega
  have hk2 : ((kind.size : Int) == 1) = false := by rw [beq_eq_false_iff_ne]; omega
  clear hp hk
  go_enter Try.func18, Try.ntmps18
  go_wp2_with fail
  refine H.out.mono ?_
  rintro e w1 ⟨x0, x1, x2, x3, x4, x5, x6, x7, rfl, hx, q1⟩
  have hnv : nodeV x0 x1 x2 x3 x4 x5 x6 x7 = .agg #[.int .u8 x0, .int .i64 x1, .int .i64 x2, .string x3, .slice x4 x5 x6, .string x7] := rfl
  clear hx
  go_wp2_with fail
  go_ret
  exact ⟨rfl, q1.alloc _⟩

set_option maxRecDepth 100000 in
set_option maxHeartbeats 4000000 in
theorem scount_kind (s kind : ByteArray) (hs : s.size ≤ 1048576) (x : Nd) (hp : progP s = some x) (hk : kind.size = 1) (c : UInt8) (hc : at? kind 0 = some c) (hm : c ∉ kinds.data.toList) (w : World) : Calls Try.prog 18 #[.string s, .string kind] w (CountPostS w (-1)) := by
  have H := Lib.hid (sread_any s hs w)
  rw [hp] at H
  have hk1 : ((kind.size : Int) != 1) = false := by simp [hk]
  have hk2 : ((kind.size : Int) == 1) = true := by simp [hk]
  have hlt : 0 < kind.size := by omega
  have hget := at?_get hc hlt
  have hfi : findI kinds c < 0 := by rw [findI_nmem hm]; decide
  have HFd := Lib.hid (fun w => find_any kinds c w (by decide))
  clear hp hk hc hm
  go_enter Try.func18, Try.ntmps18
  go_wp2_with fail
  refine H.out.mono ?_
  rintro e w1 ⟨x0, x1, x2, x3, x4, x5, x6, x7, rfl, hx, q1⟩
  have hnv : nodeV x0 x1 x2 x3 x4 x5 x6 x7 = .agg #[.int .u8 x0, .int .i64 x1, .int .i64 x2, .string x3, .slice x4 x5 x6, .string x7] := rfl
  clear hx
  go_wp2_with fail
  refine (HFd.out _).mono ?_
  rintro e w2 ⟨rfl, rfl⟩
  go_wp2_with fail
  go_ret
  exact ⟨rfl, q1.alloc _⟩

/-- What CountSteps has counted. -/
def CountAt (w w1 : World) (c : UInt8) (all : List Nd) (cs : List Value) (g : Nat) (v vi : Value) (wr : World) : Prop :=
  ∃ (i : Nat) (pre : List Nd) (y : Nds), v = .int .i64 (countK c pre) ∧ vi = .int .i64 i ∧ i = pre.length ∧ all.length < i + g ∧ pre ++ y.list = all ∧ RepSL w1 (fun _ => True) y (cs.drop (i * 6)) ∧
    Keeps noB w wr ∧ Keeps noB w1 wr

set_option maxRecDepth 100000 in
set_option maxHeartbeats 4000000 in
theorem scount_good (s kind : ByteArray) (hs : s.size ≤ 1048576) (x : Nd) (hp : progP s = some x) (hk : kind.size = 1) (c : UInt8) (hc : at? kind 0 = some c) (hm : c ∈ kinds.data.toList) (w : World) : Calls Try.prog 18 #[.string s, .string kind] w (CountPostS w (countK c x.pre.list)) := by
  have H := Lib.hid (sread_any s hs w)
  have hfew := progP_few hp
  rw [hp] at H
  have hk1 : ((kind.size : Int) != 1) = false := by simp [hk]
  have hk2 : ((kind.size : Int) == 1) = true := by simp [hk]
  have hlt : 0 < kind.size := by omega
  have hget := at?_get hc hlt
  have hfi : ¬ findI kinds c < 0 := by have := findI_mem hm; omega
  have HFd := Lib.hid (fun w => find_any kinds c w (by decide))
  clear hp hk hc hm
  go_enter Try.func18, Try.ntmps18
  go_wp2_with fail
  refine H.out.mono ?_
  rintro e w1 ⟨x0, x1, x2, x3, x4, x5, x6, x7, rfl, hx, q1⟩
  have hnv : nodeV x0 x1 x2 x3 x4 x5 x6 x7 = .agg #[.int .u8 x0, .int .i64 x1, .int .i64 x2, .string x3, .slice x4 x5 x6, .string x7] := rfl
  have HX := Lib.hid hx
  clear hx
  go_wp2_with fail
  refine (HFd.out _).mono ?_
  rintro e w2 ⟨rfl, rfl⟩
  have HE := Lib.hid (each_all x.pre.len x _ (w1.alloc (.cells #[.int .u8 x0, .int .i64 x1, .int .i64 x2, .string x3, .slice x4 x5 x6, .string x7] 56)) (fun g => g < w1.heap.size) rfl (by omega)
    ((Hands.of_keeps (ok := fromB w.heap.size) ((Keeps.refl noB w1).alloc _) (fun g _ _ e => e) (fun g hg hl => hl)).repS x _ HX.out) (fun g hg => by simp; omega))
  go_wp2_with fail
  refine HE.out.mono ?_
  rintro e w2 ⟨v, rfl, hout⟩
  obtain ⟨hp0, cs, hown, hrep, hfrom, q2⟩ := hout
  obtain ⟨g, n, hv, _, hg, hcell⟩ := row_at (ok := fun _ => True) ⟨hown, fun _ _ => trivial⟩ hp0
  subst hv
  have HP : Hid (CountAt w w2 c x.pre.list cs (x.pre.len + 1) (.int .i64 0) (.int .i64 0) w2) :=
    ⟨0, [], x.pre, rfl, rfl, rfl, by rw [Nds.list_len]; omega, rfl, (Hands.of_keeps (ok' := fun _ => True) (Keeps.refl noB w2) (fun g _ _ e => e) (fun g hg _ => trivial)).repSL _ _ (by simpa using hrep), (q1.alloc _).trans q2, Keeps.refl _ _⟩
  have hpl : x.pre.len ≤ 80 := by omega
  have HR := Lib.hid hcell
  clear hown hrep hfrom q1 q2 hcell hfi hk1 hk2 hfew
  go_upto_region 6 with fail
  go_loopg [7, 31] (x.pre.len + 1) (fun g v vi wr => CountAt w w2 c x.pre.list cs g v vi wr)
  case atStart => exact HP.out
  case round =>
    clear HP
    obtain ⟨i, pre, y, rfl, rfl, hi, hgk, hpre, hy, hq, hq2⟩ := hrel
    cases gk with
    | zero => rw [← hpre] at hgk; simp at hgk; omega
    | succ gk =>
    have hil := congrArg List.length hpre
    rw [List.length_append, Nds.list_len, Nds.list_len, ← hi] at hil
    cases y with
    | nil =>
      simp only [Nds.len] at hil
      have hd : ¬ i < x.pre.len := by omega
      have HO := Lib.hid (And.intro hpre hq)
      clear hpre hq hq2 hy
      go_wp2_with fail
      go_ret
      obtain ⟨h1, h4⟩ := HO.out
      simp only [Nds.list, List.append_nil] at h1
      rw [h1]
      exact ⟨rfl, h4⟩
    | cons z y3 =>
      simp only [Nds.len] at hil
      have hd : i < x.pre.len := by omega
      have hcw : ∀ j u, cs[j]? = some u → wr.cell? ⟨g, j, none⟩ = some u := fun j u hu => (hq2.cell (p := ⟨g, j, none⟩) hg id).trans (HR.out j u hu)
      obtain ⟨⟨na, nn, nm, hn⟩, hy3⟩ := node_at hcw hy
      have s0 : wr.cell? ⟨g, i * 6, none⟩ = some (.int .u8 _) := hn.s0
      have s1 : wr.cell? ⟨g, i * 6 + 1, none⟩ = some (.int .i64 _) := hn.s1
      have s2 : wr.cell? ⟨g, i * 6 + 2, none⟩ = some (.int .i64 _) := hn.s2
      have s3 : wr.cell? ⟨g, i * 6 + 3, none⟩ = some (.string _) := hn.s3
      have s4 := hn.s4
      have s5 : wr.cell? ⟨g, i * 6 + 5, none⟩ = some (.string _) := hn.s5
      have hcl := countK_le c pre
      have hnew : ∀ (o : Obj) n, CountAt w w2 c x.pre.list cs gk (.int .i64 ((countK c pre : Int) + if z.kind = c then 1 else 0)) (.int .i64 ((i + 1 : Nat) : Int)) ((wr.alloc o).drewN n) := by
        intro o n
        refine ⟨i + 1, pre ++ [z], y3, ?_, rfl, by rw [List.length_append, ← hi]; rfl, next_lt hgk, by rw [← hpre]; simp [Nds.list], hy3, (hq.alloc o).drewN n, (hq2.alloc o).drewN n⟩
        rw [countK_app]
        simp only [countK]
        split <;> simp
      have HN := Lib.hid hnew
      have hcb : countK c pre ≤ 80 := by omega
      clear hpre hq hq2 hy hcw hn hy3 hil hi hnew hcl
      by_cases hz : z.kind = c
      · rw [if_pos hz] at HN
        generalize z.kind = zk at *
        subst hz
        go_wp2_with fail
        go_quiet (fail)
        go_wp2_with fail
        go_roundg gk
        case measure => omega
        case rel => exact HN.out _ _
      · rw [if_neg hz, Int.add_zero] at HN
        have hne : ((z.kind.toNat : Int) == (c.toNat : Int)) = false := by
          rw [beq_eq_false_iff_ne]
          exact fun e => hz (UInt8.toNat_inj.1 (Int.ofNat.inj e))
        clear hz
        go_wp2_with fail
        go_quiet (fail)
        go_wp2_with fail
        go_roundg gk
        case measure => omega
        case rel => exact HN.out _ _

end Go.Proofs.Ytjpmeecdndnknaa

namespace Go.Proofs.Ytjpmeecdndnknaa
set_option linter.unusedVariables false
set_option linter.unusedSimpArgs false
open Go.RowKit

theorem res51 (W : World) (N : Nat) (c k e : Int) (vs : ByteArray) (a : Option Addr) (n m : Nat) (ar : ByteArray) (bv : Bool) (tmps : Array Value) (ht : tmps.getD 4 undef = .pointer (some ⟨N, 0, none⟩)) (hv : tmps.getD 5 undef = .bool bv)
    (hb : Blk W N (six c k e vs (.slice a n m) ar) 56) : (results Try.f40 tmps).run Try.prog W = .ok (.tuple #[nodeV c k e vs a n m ar, .bool bv]) W := by
  have q0 := hb.cell 0
  have q1 := hb.cell 1
  have q2 := hb.cell 2
  have q3 := hb.cell 3
  have q4 := hb.cell 4
  have q5 := hb.cell 5
  simp [six] at q0 q1 q2 q3 q4 q5
  have ht' : tmps[4]?.getD undef = .pointer (some ⟨N, 0, none⟩) := by simpa using ht
  have hv' : tmps[5]?.getD undef = .bool bv := by simpa using hv
  simp [results, Try.results40, go_sem, ht', hv', q0, q1, q2, q3, q4, q5, nodeV]

/-- l1At: the node's value and whether there is one. -/
def AtPostS (w : World) (res : Option Nd) (e : Ending) (w' : World) : Prop :=
  (match res with
   | none => ∃ c k0 e0 vs a n m ar, e = .returned (.tuple #[nodeV c k0 e0 vs a n m ar, .bool false])
   | some z => ∃ a n m, e = .returned (.tuple #[nodeV z.kind.toNat z.beg z.fin ⟨z.vars.toArray⟩ a n m ⟨z.scope.toArray⟩, .bool true])) ∧ Keeps noB w w'

def atP (s : ByteArray) (at_ : Int) : Option Nd := match progP s with | none => none | some x => x.pre.list.find? (fun z => (z.beg : Int) == at_)

/-- What l1At has looked at. -/
def AtAt (w w1 : World) (at_ : Int) (all : List Nd) (cs : List Value) (g : Nat) (vi : Value) (wr : World) : Prop :=
  ∃ (i : Nat) (pre : List Nd) (y : Nds), vi = .int .i64 i ∧ i = pre.length ∧ all.length < i + g ∧ pre ++ y.list = all ∧ all.find? (fun z => (z.beg : Int) == at_) = y.list.find? (fun z => (z.beg : Int) == at_) ∧ RepSL w1 (fun _ => True) y (cs.drop (i * 6)) ∧
    Keeps noB w wr ∧ Keeps noB w1 wr

set_option maxRecDepth 100000 in
set_option maxHeartbeats 4000000 in
theorem sat_any (s : ByteArray) (hs : s.size ≤ 1048576) (at_ : Int) (w : World) : Calls Try.prog 40 #[.string s, .int .i64 at_] w (AtPostS w (atP s at_)) := by
  have H := Lib.hid (sread_any s hs (w.alloc (.cells (six 0 0 0 ⟨#[]⟩ (.slice none 0 0) ⟨#[]⟩) 56)))
  have HF := Lib.hid (fun x => progP_few (s := s) (x := x))
  unfold atP
  generalize progP s = res at *
  have HZ := Lib.hid (zero6 w)
  cases res with
  | none =>
    go_enter Try.func40, Try.ntmps40
    go_wp2_with fail
    refine H.out.mono ?_
    rintro e w1 ⟨⟨x0, x1, x2, x3, x4, x5, x6, x7, rfl⟩, q1⟩
    have hnv : nodeV x0 x1 x2 x3 x4 x5 x6 x7 = .agg #[.int .u8 x0, .int .i64 x1, .int .i64 x2, .string x3, .slice x4 x5 x6, .string x7] := rfl
    have n1 := q1.blk HZ.out id
    have hn1 := n1.lt
    have hn2 : ¬ w.heap.size = w1.heap.size := by omega
    have r0 := n1.cell 0
    have r1 := n1.cell 1
    have r2 := n1.cell 2
    have r3 := n1.cell 3
    have r4 := n1.cell 4
    have r5 := n1.cell 5
    simp [six] at r0 r1 r2 r3 r4 r5
    have z := fun i => Blk.free n1 i
    go_wp2_with fail
    refine bodyPost_ret (res51 _ w.heap.size 0 0 0 ⟨#[]⟩ none 0 0 ⟨#[]⟩ false _ rfl rfl ((blk_ret n1).alloc _)) rfl ?_
    exact ⟨⟨_, _, _, _, _, _, _, _, rfl⟩, (keeps_ret (((Keeps.refl _ w).alloc _).trans q1)).alloc _⟩
  | some x =>
    go_enter Try.func40, Try.ntmps40
    go_wp2_with fail
    refine H.out.mono ?_
    rintro e w1 ⟨x0, x1, x2, x3, x4, x5, x6, x7, rfl, hx, q1⟩
    have hnv : nodeV x0 x1 x2 x3 x4 x5 x6 x7 = .agg #[.int .u8 x0, .int .i64 x1, .int .i64 x2, .string x3, .slice x4 x5 x6, .string x7] := rfl
    have HX := Lib.hid hx
    clear hx
    have HE := Lib.hid (each_all x.pre.len x _ (w1.alloc (.cells #[.int .u8 x0, .int .i64 x1, .int .i64 x2, .string x3, .slice x4 x5 x6, .string x7] 56)) (fun g => g < w1.heap.size) rfl (by have := HF.out x rfl; omega)
      ((Hands.of_keeps (ok := fromB (w.alloc (.cells (six 0 0 0 ⟨#[]⟩ (.slice none 0 0) ⟨#[]⟩) 56)).heap.size) ((Keeps.refl noB w1).alloc _) (fun g _ _ e => e) (fun g hg hl => hl)).repS x _ HX.out) (fun g hg => by simp; omega))
    go_wp2_with fail
    refine HE.out.mono ?_
    rintro e w2 ⟨v, rfl, hout⟩
    obtain ⟨hp0, cs, hown, hrep, hfrom, q2⟩ := hout
    obtain ⟨g, n, hv, _, hg, hcell⟩ := row_at (ok := fun _ => True) ⟨hown, fun _ _ => trivial⟩ hp0
    subst hv
    have HP : Hid (AtAt w w2 at_ x.pre.list cs (x.pre.len + 1) (.int .i64 0) w2) :=
      ⟨0, [], x.pre, rfl, rfl, by rw [Nds.list_len]; omega, rfl, rfl, (Hands.of_keeps (ok' := fun _ => True) (Keeps.refl noB w2) (fun g _ _ e => e) (fun g hg _ => trivial)).repSL _ _ (by simpa using hrep), (((Keeps.refl _ w).alloc _).trans q1 |>.alloc _).trans q2, Keeps.refl _ _⟩
    have hxl := (HF.out x rfl)
    have hpl : x.pre.len ≤ 80 := by omega
    have HR := Lib.hid hcell
    have HN2 := Lib.hid (q2.blk ((q1.blk HZ.out id).alloc _) id)
    clear hown hrep hfrom q1 q2 hcell hxl
    go_upto_region 5 with fail
    go_loopg [21] (x.pre.len + 1) (fun g vi wr => AtAt w w2 at_ x.pre.list cs g vi wr)
    case atStart => exact HP.out
    case round =>
      clear HP
      obtain ⟨i, pre, y, rfl, hi, hgk, hpre, hfind, hy, hq, hq2⟩ := hrel
      cases gk with
      | zero => rw [← hpre] at hgk; simp at hgk; omega
      | succ gk =>
      have hil := congrArg List.length hpre
      rw [List.length_append, Nds.list_len, Nds.list_len, ← hi] at hil
      have n1 := hq2.blk HN2.out id
      have hn1 := n1.lt
      have hn2 : ¬ w.heap.size = wr.heap.size := by omega
      have r0 := n1.cell 0
      have r1 := n1.cell 1
      have r2 := n1.cell 2
      have r3 := n1.cell 3
      have r4 := n1.cell 4
      have r5 := n1.cell 5
      simp [six] at r0 r1 r2 r3 r4 r5
      have zz := fun i => Blk.free n1 i
      have HO := Lib.hid (And.intro hq (And.intro hfind n1))
      cases y with
      | nil =>
        simp only [Nds.len] at hil
        have hd : ¬ i < x.pre.len := by omega
        clear hpre hq hq2 hy hfind n1 hi hgk hil
        go_wp2_with fail
        obtain ⟨h1, h2, h3⟩ := HO.out
        refine bodyPost_ret (res51 _ w.heap.size 0 0 0 ⟨#[]⟩ none 0 0 ⟨#[]⟩ false _ rfl rfl (blk_ret h3)) rfl ?_
        rw [h2]
        exact ⟨⟨_, _, _, _, _, _, _, _, rfl⟩, keeps_ret h1⟩
      | cons z y3 =>
        simp only [Nds.len] at hil
        have hd : i < x.pre.len := by omega
        have hcw : ∀ j u, cs[j]? = some u → wr.cell? ⟨g, j, none⟩ = some u := fun j u hu => (hq2.cell (p := ⟨g, j, none⟩) hg id).trans (HR.out j u hu)
        obtain ⟨⟨na, nn, nm, hn⟩, hy3⟩ := node_at hcw hy
        have s0 : wr.cell? ⟨g, i * 6, none⟩ = some (.int .u8 _) := hn.s0
        have s1 : wr.cell? ⟨g, i * 6 + 1, none⟩ = some (.int .i64 _) := hn.s1
        have s2 : wr.cell? ⟨g, i * 6 + 2, none⟩ = some (.int .i64 _) := hn.s2
        have s3 : wr.cell? ⟨g, i * 6 + 3, none⟩ = some (.string _) := hn.s3
        have s4 := hn.s4
        have s5 : wr.cell? ⟨g, i * 6 + 5, none⟩ = some (.string _) := hn.s5
        by_cases hz : (z.beg : Int) = at_
        · have hfz : x.pre.list.find? (fun z => (z.beg : Int) == at_) = some z := by rw [hfind]; simp [Nds.list, hz]
          have HZF := Lib.hid hfz
          have hzb : ((z.beg : Int) == at_) = true := by simpa using hz
          clear hpre hq hq2 hy hfind n1 hi hgk hil hcw hn hy3 hfz hz
          go_wp2_with fail
          obtain ⟨h1, h2, h3⟩ := HO.out
          refine bodyPost_ret (res51 _ w.heap.size z.kind.toNat z.beg z.fin ⟨z.vars.toArray⟩ na nn nm ⟨z.scope.toArray⟩ true _ rfl rfl ((blk_ret h3).alloc _)) rfl ?_
          rw [HZF.out]
          exact ⟨⟨_, _, _, rfl⟩, (keeps_ret h1).alloc _⟩
        · have hzb : ((z.beg : Int) == at_) = false := by rw [beq_eq_false_iff_ne]; exact hz
          have HN : Hid (∀ o, AtAt w w2 at_ x.pre.list cs gk (.int .i64 ((i + 1 : Nat) : Int)) (wr.alloc o)) := by
            intro o
            refine ⟨i + 1, pre ++ [z], y3, rfl, by rw [List.length_append, ← hi]; rfl, next_lt hgk, by rw [← hpre]; simp [Nds.list], ?_, hy3, hq.alloc o, hq2.alloc o⟩
            rw [hfind]
            simp [Nds.list, hz]
          clear hpre hq hq2 hy hfind n1 hi hgk hil hcw hn hy3 hz
          go_wp2_with fail
          go_roundg gk
          case measure => omega
          case rel => exact HN.out _

end Go.Proofs.Ytjpmeecdndnknaa

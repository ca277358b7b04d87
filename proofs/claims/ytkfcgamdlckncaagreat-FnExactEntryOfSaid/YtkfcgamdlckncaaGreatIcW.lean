/-
  Walks of the program's reader: move, declared.
  Walks of the program's reader: bracket, stepsUpTo, scope, step: one induction.
  Walks of the program's reader: scope, step; the induction that joins all four.
-/
import Derived.Test.YtkfcgamdlckncaaGreatIaW
import Derived.Test.YtkfcgamdlckncaaGreatMemW
import Derived.Deep.LoopGhost
import Derived.Outline
import Derived.Test.YtkfcgamdlckncaaGreatPureW
namespace Go.Proofs.YtkfcgamdlckncaaGreat
set_option linter.unusedVariables false
set_option linter.unusedSimpArgs false
open Go.RowKit

theorem Rd.c1' {w : World} {b : Nat} {s : ByteArray} {k d : Nat} {ar : ByteArray} (h : Rd w b s (k + 1) d ar) : w.cell? ⟨b, 1, none⟩ = some (.int .i64 ((k : Int) + 1)) := Blk.cell h 1

/-- The reader has gone on to k; the answer is a pointer to a new block that holds cs. -/
def MadeAt (b : Nat) (s : ByteArray) (k d : Nat) (ar : ByteArray) (w : World) (cs : Array Value) (t : TypeId) (e : Ending) (w' : World) : Prop :=
  ∃ g, e = .returned (ptr g) ∧ w.heap.size ≤ g ∧ Blk w' g cs t ∧ Rd w' b s k d ar ∧ Keeps (oneB b) w w'

theorem Rd.lt {w : World} {b : Nat} {s : ByteArray} {k d : Nat} {ar : ByteArray} (h : Rd w b s k d ar) : b < w.heap.size := Blk.lt h
theorem Rd.alloc {w : World} {b : Nat} {s : ByteArray} {k d : Nat} {ar : ByteArray} (h : Rd w b s k d ar) (o : Obj) : Rd (w.alloc o) b s k d ar := Blk.alloc h o

set_option maxHeartbeats 400000 in
theorem move_some (b : Nat) (s : ByteArray) (k d : Nat) (ar : ByteArray) (w : World) (h : Rd w b s (k + 1) d ar) (hs : s.size ≤ 80) (v u : UInt8) (k2 : Nat) (hv : moveP s ar.data.toList (k + 1) = some (v, u, k2)) :
    Calls Tryz.prog 113 #[.pointer (some ⟨b, 0, none⟩)] w (MadeAt b s k2 d ar w #[i64 k, i64 k2, u8 61, u8 v, u8 u] 143) := by
  obtain ⟨k1, h1, h2, hne⟩ := moveP_some hv
  have c1 := h.c1'
  have hk : (k : Int) ≤ 80 := by have := (varP_some h1).2.1; omega
  have hb0 : ((v.toNat : Int) == (u.toNat : Int)) = false := by
    rw [beq_eq_false_iff_ne]; exact fun e => hne (UInt8.toNat_inj.1 (Int.ofNat.inj e))
  go_enter Tryz.func113, Tryz.ntmps113
  go_wp2_with fail
  refine (variable_some b s _ d ar _ h hs v k1 h1).mono ?_
  rintro e w1 ⟨rfl, r1, q1⟩
  go_wp2_with fail
  refine (variable_some b s _ d ar _ r1 hs u k2 h2).mono ?_
  rintro e w2 ⟨rfl, r2, q2⟩
  have c2 := r2.c1
  go_wp2_with fail
  go_ret
  refine ⟨w2.heap.size, rfl, Nat.le_trans q1.size q2.size, ?_, r2.alloc _, (q1.trans q2).alloc _⟩
  exact Blk.new _ _ _

theorem Rd.set3 {w : World} {b : Nat} {s : ByteArray} {k d : Nat} {ar : ByteArray} (h : Rd w b s k d ar) (ar' : ByteArray) : Rd (w.setCell ⟨b, 3, none⟩ (.string ar')) b s k d ar' := Blk.set h 3 _

/-- What the loop of 'declared' holds at the head of a round. -/
def DeclAt (b : Nat) (s : ByteArray) (d : Nat) (ar : ByteArray) (w : World) (res : Option (List UInt8 × Nat)) (n : Nat) (wr : World) : Prop :=
  ∃ k ar2 out, declP s n ar.data.toList out k = res ∧ s.size - k < n ∧ k ≤ s.size ∧ ar2.size = ar.size + out.length ∧ ar2.size ≤ k ∧ ar2.data.toList = ar.data.toList ++ out ∧ Rd wr b s k d ar2 ∧ Keeps (oneB b) w wr

def DeclPost (b : Nat) (s : ByteArray) (d : Nat) (ar : ByteArray) (w : World) (res : Option (List UInt8 × Nat)) (e : Ending) (w' : World) : Prop :=
  match res with
  | none => Fell b w e w'
  | some (vs, k2) => ∃ ar2, Moved b s k2 d ar2 w (str vs) e w' ∧ ar2.data.toList = ar.data.toList ++ vs

/-- What becomes of one byte. -/
theorem declP_cases (s : ByteArray) (n : Nat) (ar out : List UInt8) (k : Nat) :
    (at? s k = none ∧ declP s (n + 1) ar out k = none) ∨
    (at? s k = some 58 ∧ out ≠ [] ∧ declP s (n + 1) ar out k = some (out, k + 1)) ∨
    (∃ c, at? s k = some c ∧ (out = [] ∨ at? s k ≠ some 58) ∧ 97 ≤ c ∧ c ≤ 102 ∧ c ∉ ar ++ out ∧ declP s (n + 1) ar out k = declP s n ar (out ++ [c]) (k + 1)) ∨
    (∃ c, at? s k = some c ∧ (out = [] ∨ at? s k ≠ some 58) ∧ (c < 97 ∨ (97 ≤ c ∧ 102 < c) ∨ (97 ≤ c ∧ c ≤ 102 ∧ c ∈ ar ++ out)) ∧ declP s (n + 1) ar out k = none) := by
  cases hc : at? s k with
  | none => exact .inl ⟨rfl, by rw [declP, hc]⟩
  | some c =>
    by_cases h1 : c = 58 ∧ out ≠ []
    · obtain ⟨rfl, h2⟩ := h1
      exact .inr (.inl ⟨rfl, h2, by rw [declP, hc]; simp [h2]⟩)
    · have hno : out = [] ∨ some c ≠ some 58 := by
        by_cases ho : out = []
        · exact .inl ho
        · exact .inr (fun e => h1 ⟨Option.some.inj e, ho⟩)
      by_cases h2 : 97 ≤ c ∧ c ≤ 102 ∧ c ∉ ar ++ out
      · exact .inr (.inr (.inl ⟨c, rfl, hno, h2.1, h2.2.1, h2.2.2, by rw [declP, hc]; simp only [h1, h2, if_true, if_false]; simp⟩))
      · refine .inr (.inr (.inr ⟨c, rfl, hno, ?_, by rw [declP, hc]; simp only [h1, h2, if_false]⟩))
        by_cases a : 97 ≤ c
        · by_cases b : c ≤ 102
          · exact .inr (.inr ⟨a, b, Classical.byContradiction fun h => h2 ⟨a, b, h⟩⟩)
          · exact .inr (.inl ⟨a, UInt8.not_le.1 b⟩)
        · exact .inl (UInt8.not_le.1 a)

theorem str_of {o : ByteArray} {l : List UInt8} (h : o.data.toList = l) : Value.string o = str l := by
  subst h; rfl

theorem extract_drop {a c : ByteArray} {out : List UInt8} (h1 : c.size = a.size + out.length) (h2 : c.data.toList = a.data.toList ++ out) : (c.extract a.size c.size).data.toList = out := by
  have ha : a.data.toList.length = a.size := by simp
  have hc : c.data.toList.length = c.size := by simp
  simp only [ByteArray.data_extract, Array.toList_extract, List.extract_eq_take_drop, h2]
  rw [← ha, List.drop_left, List.take_of_length_le]
  rw [ha]; omega

theorem encode_ascii {c : UInt8} (h : c.toNat < 128) : Utf8.encode (c.toNat : Int) = ⟨#[c]⟩ := by
  unfold Utf8.encode
  have hv : Utf8.valid (c.toNat : Int) = true := by simp [Utf8.valid]; omega
  simp [hv, h]

/-- The head's test: where it asks 'skips', that answers no. -/
theorem decl_head {ar ar2 : ByteArray} {out : List UInt8} (hsz : ar2.size = ar.size + out.length) : (out = [] → ((ar2.size : Int) == (ar.size : Int)) = true) ∧ (out ≠ [] → ((ar2.size : Int) == (ar.size : Int)) = false) := by
  constructor
  · rintro rfl; simp at hsz; simp [hsz]
  · intro ho
    cases out with
    | nil => exact absurd rfl ho
    | cons x r => simp at hsz; rw [beq_eq_false_iff_ne]; omega

set_option maxRecDepth 100000 in
set_option maxHeartbeats 2000000 in
theorem declared_any (b : Nat) (s : ByteArray) (k d : Nat) (ar : ByteArray) (w : World) (h : Rd w b s k d ar) (hs : s.size ≤ 80) (hk : k ≤ s.size) (har : ar.size ≤ k) (n : Nat) (hn : s.size - k < n) :
    Calls Tryz.prog 63 #[.pointer (some ⟨b, 0, none⟩)] w (DeclPost b s d ar w (declP s n ar.data.toList [] k)) := by
  have c3 := h.c3
  generalize hres : declP s n ar.data.toList [] k = res
  have HP : Hid (DeclAt b s d ar w res n w) := ⟨k, ar, [], hres, hn, hk, rfl, har, by simp, h, Keeps.refl _ _⟩
  have harz : (ar.size : Int) ≤ 80 := by omega
  clear hres
  go_enter Tryz.func63, Tryz.ntmps63
  go_wp2_with fail
  go_loopg [4] n (fun g _v wr => DeclAt b s d ar w res g wr)
  case atStart => exact HP.out
  case round =>
    clear HP c3 h
    obtain ⟨k', ar2, out, hp, hg, hk', hsz, hark, hcat, r, q⟩ := hrel
    have c3 := r.c3
    have harz2 : (ar2.size : Int) ≤ 80 := by omega
    obtain ⟨hh1, hh2⟩ := decl_head (ar := ar) (ar2 := ar2) hsz
    cases gk with
    | zero => omega
    | succ gk =>
    rcases declP_cases s gk ar.data.toList out k' with ⟨hc, hd⟩ | ⟨hc, ho, hd⟩ | ⟨c, hc, ho, h1, h2, h3, hd⟩ | ⟨c, hc, ho, hbad, hd⟩
    · -- the text's end
      rw [hd] at hp
      subst hp
      have hge : s.size ≤ k' := by
        rcases Nat.lt_or_ge k' s.size with hlt | hge
        · rw [at?_some hlt] at hc; cases hc
        · exact hge
      have hno : at? s k' ≠ some 58 := by rw [hc]; simp
      clear hcat hd hc
      by_cases ho : out = []
      · have hne := hh1 ho
        clear hh1 hh2 hsz ho
        go_wp2_with fail
        refine (take_end b s k' d ar2 _ r hge hk' hs).mono ?_
        rintro e w1 ⟨⟨m, rfl⟩, q1⟩
        go_wp2_with fail
        exact post_panic rfl ⟨⟨_, rfl⟩, q.trans q1⟩
      · have hne := hh2 ho
        clear hh1 hh2 hsz ho
        go_wp2_with fail
        refine (skips_false b s k' d ar2 58 _ r hk' hs hno).mono ?_
        rintro e w0 ⟨rfl, q0⟩
        have r0 := r.noB q0
        go_wp2_with fail
        refine (take_end b s k' d ar2 _ r0 hge hk' hs).mono ?_
        rintro e w1 ⟨⟨m, rfl⟩, q1⟩
        go_wp2_with fail
        exact post_panic rfl ⟨⟨_, rfl⟩, (q.trans q0.toOne).trans q1⟩
    · -- the colon
      rw [hd] at hp
      subst hp
      have hne := hh2 ho
      have HA : Hid (ar2.size = ar.size + out.length ∧ ar2.data.toList = ar.data.toList ++ out) := ⟨hsz, hcat⟩
      have hle : (ar.size : Int) ≤ (ar2.size : Int) := by omega
      clear hsz hcat hd ho hh1 hh2
      go_wp2_with fail
      refine (skips_true b s k' d ar2 58 _ r hs hc).mono ?_
      rintro e w1 ⟨rfl, r1, q1⟩
      have c31 := r1.c3
      go_wp2_with fail
      go_ret
      exact ⟨ar2, ⟨congrArg Ending.returned (str_of (extract_drop HA.out.1 HA.out.2)), r1, q.trans q1⟩, HA.out.2⟩
    · -- one more
      rw [hd] at hp
      have hlt := at?_lt hc
      have hget := at?_get hc hlt
      have HA : Hid (declP s gk ar.data.toList (out ++ [c]) (k' + 1) = res ∧ s.size - (k' + 1) < gk ∧ k' + 1 ≤ s.size ∧ ar2.size = ar.size + out.length ∧ ar2.size ≤ k' ∧ ar2.data.toList = ar.data.toList ++ out ∧ Utf8.encode (c.toNat : Int) = ⟨#[c]⟩) :=
        ⟨hp, by omega, by omega, hsz, hark, hcat, encode_ascii (by have := UInt8.le_iff_toNat_le.1 h2; simp at this; omega)⟩
      have hmem : ¬ c ∈ ar2.data.toList := by rw [hcat]; exact h3
      have b1 : 97 ≤ (c.toNat : Int) := by have := UInt8.le_iff_toNat_le.1 h1; simp at this; omega
      have b2 : (c.toNat : Int) ≤ 102 := by have := UInt8.le_iff_toNat_le.1 h2; simp at this; omega
      have hno : out = [] ∨ at? s k' ≠ some 58 := ho
      have he4 : (Utf8.encode (c.toNat : Int)).size ≤ 4 := by rw [HA.out.2.2.2.2.2.2]; show (1 : Nat) ≤ 4; omega
      have HX := Lib.hid (fun w => index_out ar2 c w hmem)
      have hlt0 : k' < s.size := hlt
      have hfin : ∀ w1, Rd w1 b s (k' + 1) d ar2 → Keeps (oneB b) w w1 → DeclAt b s d ar w res gk (w1.setCell ⟨b, 3, none⟩ (.string (ar2 ++ Utf8.encode (c.toNat : Int)))) := by
        intro w1 r1 q1
        obtain ⟨g1, g2, g3, g4, g5, g6, g7⟩ := HA.out
        refine ⟨k' + 1, ar2 ++ Utf8.encode (c.toNat : Int), out ++ [c], g1, g2, g3, ?_, ?_, ?_, r1.set3 _, q1.one⟩
        · rw [g7, ByteArray.size_append, g4, List.length_append]; show _ + 1 = _; simp; omega
        · rw [g7, ByteArray.size_append]; show _ + 1 ≤ _; omega
        · rw [g7, ByteArray.data_append, Array.toList_append, g6, List.append_assoc]
      have HF := Lib.hid hfin
      clear hp hd hcat hc ho h1 h2 h3 hmem hfin HA
      by_cases ho : out = []
      · have hne := hh1 ho
        clear hh1 hh2 hsz ho hno
        have HT := Lib.hid (fun w => take_ok b s k' d ar2 w)
        go_wp2_with fail
        refine (take_ok b s k' d ar2 _ r hlt hs).mono ?_
        rintro e w1 ⟨rfl, r1, q1⟩
        have c31 := r1.c3
        have f31 := Blk.free r1 3
        have HF1 := Lib.hid (HF.out w1 r1 (q.trans q1))
        have HX1 := Lib.hid (HX.out w1)
        rw [hget]
        clear hget HF HX hlt
        generalize (c.toNat : Int) = cv at *
        go_wp2_with fail
        refine (HX1.out).mono ?_
        rintro e w2 ⟨m, rfl, hm, rfl⟩
        go_wp2_with fail
        go_roundg gk
        case measure => omega
        case rel => exact HF1.out
      · have hne := hh2 ho
        have hno' := hno.resolve_left ho
        clear hh1 hh2 hsz ho hno
        go_wp2_with fail
        refine (skips_false b s k' d ar2 58 _ r hk' hs hno').mono ?_
        rintro e w0 ⟨rfl, q0⟩
        have r0 := r.noB q0
        go_wp2_with fail
        refine (take_ok b s k' d ar2 _ r0 hlt hs).mono ?_
        rintro e w1 ⟨rfl, r1, q1⟩
        have c31 := r1.c3
        have f31 := Blk.free r1 3
        have HF1 := Lib.hid (HF.out w1 r1 ((q.trans q0.toOne).trans q1))
        have HX1 := Lib.hid (HX.out w1)
        rw [hget]
        clear hget HF HX hlt
        generalize (c.toNat : Int) = cv at *
        go_wp2_with fail
        refine (HX1.out).mono ?_
        rintro e w2 ⟨m, rfl, hm, rfl⟩
        go_wp2_with fail
        go_roundg gk
        case measure => omega
        case rel => exact HF1.out
    · -- a byte that is none to be declared
      rw [hd] at hp
      subst hp
      have hlt := at?_lt hc
      have hget := at?_get hc hlt
      have hno : out = [] ∨ at? s k' ≠ some 58 := ho
      have hbad' : (c.toNat : Int) < 97 ∨ (97 ≤ (c.toNat : Int) ∧ 102 < (c.toNat : Int)) ∨ ((97 ≤ (c.toNat : Int) ∧ (c.toNat : Int) ≤ 102) ∧ c ∈ ar2.data.toList) := by
        rcases hbad with h | ⟨h, h'⟩ | ⟨h, h', h''⟩
        · have := UInt8.lt_iff_toNat_lt.1 h; simp at this; exact .inl (by omega)
        · have h1 := UInt8.le_iff_toNat_le.1 h; have h2 := UInt8.lt_iff_toNat_lt.1 h'; simp at h1 h2; exact .inr (.inl ⟨by omega, by omega⟩)
        · have h1 := UInt8.le_iff_toNat_le.1 h; have h2 := UInt8.le_iff_toNat_le.1 h'; simp at h1 h2; exact .inr (.inr ⟨⟨by omega, by omega⟩, by rw [hcat]; exact h''⟩)
      clear hd hcat hc ho hbad
      by_cases ho : out = []
      · have hne := hh1 ho
        clear hh1 hh2 hsz ho hno
        have hlt0 : k' < s.size := hlt
        rcases hbad' with h1 | ⟨h1, h2⟩ | ⟨⟨h1, h2⟩, hm⟩
        · go_wp2_with fail
          refine (take_ok b s k' d ar2 _ r hlt hs).mono ?_
          rintro e w1 ⟨rfl, r1, q1⟩
          have c11 := r1.c1'
          rw [hget]
          clear hget hlt
          generalize (c.toNat : Int) = cv at *
          go_wp2_with fail
          exact post_panic rfl ⟨⟨_, rfl⟩, q.trans q1⟩
        · go_wp2_with fail
          refine (take_ok b s k' d ar2 _ r hlt hs).mono ?_
          rintro e w1 ⟨rfl, r1, q1⟩
          have c11 := r1.c1'
          rw [hget]
          clear hget hlt
          generalize (c.toNat : Int) = cv at *
          go_wp2_with fail
          exact post_panic rfl ⟨⟨_, rfl⟩, q.trans q1⟩
        · have HX := Lib.hid (fun w => index_in ar2 c w hm)
          clear hm
          go_wp2_with fail
          refine (take_ok b s k' d ar2 _ r hlt hs).mono ?_
          rintro e w1 ⟨rfl, r1, q1⟩
          have c11 := r1.c1'
          have c31 := r1.c3
          have HX1 := Lib.hid (HX.out w1)
          rw [hget]
          clear hget hlt HX
          generalize (c.toNat : Int) = cv at *
          go_wp2_with fail
          refine (HX1.out).mono ?_
          rintro e w2 ⟨m, rfl, hm, rfl⟩
          go_wp2_with fail
          exact post_panic rfl ⟨⟨_, rfl⟩, q.trans q1⟩
      · have hne := hh2 ho
        have hno' := hno.resolve_left ho
        clear hh1 hh2 hsz ho hno
        have hlt0 : k' < s.size := hlt
        rcases hbad' with h1 | ⟨h1, h2⟩ | ⟨⟨h1, h2⟩, hm⟩
        · go_wp2_with fail
          refine (skips_false b s k' d ar2 58 _ r hk' hs hno').mono ?_
          rintro e w0 ⟨rfl, q0⟩
          have r0 := r.noB q0
          go_wp2_with fail
          refine (take_ok b s k' d ar2 _ r0 hlt hs).mono ?_
          rintro e w1 ⟨rfl, r1, q1⟩
          have c11 := r1.c1'
          rw [hget]
          clear hget hlt
          generalize (c.toNat : Int) = cv at *
          go_wp2_with fail
          exact post_panic rfl ⟨⟨_, rfl⟩, (q.trans q0.toOne).trans q1⟩
        · go_wp2_with fail
          refine (skips_false b s k' d ar2 58 _ r hk' hs hno').mono ?_
          rintro e w0 ⟨rfl, q0⟩
          have r0 := r.noB q0
          go_wp2_with fail
          refine (take_ok b s k' d ar2 _ r0 hlt hs).mono ?_
          rintro e w1 ⟨rfl, r1, q1⟩
          have c11 := r1.c1'
          rw [hget]
          clear hget hlt
          generalize (c.toNat : Int) = cv at *
          go_wp2_with fail
          exact post_panic rfl ⟨⟨_, rfl⟩, (q.trans q0.toOne).trans q1⟩
        · have HX := Lib.hid (fun w => index_in ar2 c w hm)
          clear hm
          go_wp2_with fail
          refine (skips_false b s k' d ar2 58 _ r hk' hs hno').mono ?_
          rintro e w0 ⟨rfl, q0⟩
          have r0 := r.noB q0
          go_wp2_with fail
          refine (take_ok b s k' d ar2 _ r0 hlt hs).mono ?_
          rintro e w1 ⟨rfl, r1, q1⟩
          have c11 := r1.c1'
          have c31 := r1.c3
          have HX1 := Lib.hid (HX.out w1)
          rw [hget]
          clear hget hlt HX
          generalize (c.toNat : Int) = cv at *
          go_wp2_with fail
          refine (HX1.out).mono ?_
          rintro e w2 ⟨m, rfl, hm, rfl⟩
          go_wp2_with fail
          exact post_panic rfl ⟨⟨_, rfl⟩, (q.trans q0.toOne).trans q1⟩

end Go.Proofs.YtkfcgamdlckncaaGreat

namespace Go.Proofs.YtkfcgamdlckncaaGreat
set_option linter.unusedVariables false
set_option linter.unusedSimpArgs false
open Go.RowKit

theorem Tryz.info104 : (Tryz.prog.info? 104).map (fun i => (i.zero, i.size, i.bytes)) = some (some .nilIface, 1, 16) := by kernel_rfl

def StepPost (b : Nat) (s : ByteArray) (d : Nat) (ar : ByteArray) (w : World) (res : Option (Nd × Nat)) (e : Ending) (w' : World) : Prop :=
  match res with
  | none => Fell b w e w'
  | some (x, k) => ∃ v, Moved b s k d ar w v e w' ∧ RepI w' (fromB w.heap.size) x v

def ScopePost (b : Nat) (s : ByteArray) (d : Nat) (ar : ByteArray) (w : World) (res : Option (Nd × Nat)) (e : Ending) (w' : World) : Prop :=
  match res with
  | none => Fell b w e w'
  | some (x, k) => ∃ g, Moved b s k d ar w (ptr g) e w' ∧ RepI w' (fromB w.heap.size) x (.iface 64 (ptr g))

def ListPost (b : Nat) (s : ByteArray) (d : Nat) (ar : ByteArray) (w : World) (res : Option (Nds × Nat)) (e : Ending) (w' : World) : Prop :=
  match res with
  | none => Fell b w e w'
  | some (x, k) => ∃ v n xs, Moved b s k d ar w v e w' ∧ Row w' (fromB w.heap.size) 104 1 v n xs ∧ RepIL w' (fromB w.heap.size) x xs

def StepOk (n : Nat) : Prop := ∀ (b : Nat) (s : ByteArray) (k d : Nat) (ar : ByteArray) (w : World), Rd w b s k d ar → s.size ≤ 80 → k ≤ s.size → ar.size ≤ k → d ≤ 4 → 4 * (s.size - k) + 3 ≤ n →
  Calls Tryz.prog 89 #[.pointer (some ⟨b, 0, none⟩)] w (StepPost b s d ar w (stepP s n ar.data.toList d k))
def ScopeOk (n : Nat) : Prop := ∀ (b : Nat) (s : ByteArray) (k d : Nat) (ar : ByteArray) (w : World), Rd w b s (k + 1) d ar → s.size ≤ 80 → k + 1 ≤ s.size → ar.size ≤ k → d ≤ 4 → 4 * (s.size - k) + 2 ≤ n →
  Calls Tryz.prog 43 #[.pointer (some ⟨b, 0, none⟩)] w (ScopePost b s d ar w (scopeP s n ar.data.toList d k))
def BrackOk (n : Nat) : Prop := ∀ (b : Nat) (s : ByteArray) (k d : Nat) (ar : ByteArray) (w : World), Rd w b s k d ar → s.size ≤ 80 → k ≤ s.size → ar.size ≤ k → d ≤ 4 → 4 * (s.size - k) + 2 ≤ n →
  Calls Tryz.prog 114 #[.pointer (some ⟨b, 0, none⟩)] w (ListPost b s d ar w (brackP s n ar.data.toList d k))
def StepsOk (n : Nat) : Prop := ∀ (b : Nat) (s : ByteArray) (k d : Nat) (ar : ByteArray) (c : UInt8) (w : World), Rd w b s k d ar → s.size ≤ 80 → k ≤ s.size → ar.size ≤ k → d ≤ 4 → 4 * (s.size - k) + 4 ≤ n →
  Calls Tryz.prog 64 #[.pointer (some ⟨b, 0, none⟩), .int .u8 (c.toNat : Int)] w (ListPost b s d ar w (stepsP s n ar.data.toList d c k))

theorem fromB_mono {w w' : World} {may : Nat → Prop} (q : Keeps may w w') {g : Nat} (h : fromB w'.heap.size g) : fromB w.heap.size g := Nat.le_trans q.size h

set_option maxHeartbeats 1000000 in
theorem brack_ok (n : Nat) (ih : StepsOk n) : BrackOk (n + 1) := by
  intro b s k d ar w h hs hk har hd hn
  rw [brackP]
  cases hi : isP s 91 k with
  | none =>
    have hc := isP_none hi
    have H := Lib.hid (need_false b s k d ar 91 w h hk hs hc)
    simp only
    clear hi hc ih
    go_enter Tryz.func114, Tryz.ntmps114
    go_wp2_with fail
    refine H.out.mono ?_
    rintro e w' ⟨⟨m, rfl⟩, q1⟩
    go_wp2_with fail
    exact post_panic rfl ⟨⟨_, rfl⟩, q1⟩
  | some k1 =>
    obtain ⟨hc, hk1, hlt⟩ := isP_some hi
    have H := Lib.hid (need_true b s k d ar 91 w h hs hc)
    simp only
    subst hk1
    clear hi hc
    generalize hres : stepsP s n ar.data.toList d 93 (k + 1) = res
    have H2 := Lib.hid (fun w r => ih b s (k + 1) d ar 93 w r hs (by omega) (by omega) hd (by omega))
    have HR := Lib.hid hres
    clear hres ih
    go_enter Tryz.func114, Tryz.ntmps114
    go_wp2_with fail
    refine H.out.mono ?_
    rintro e w1 ⟨rfl, r1, q1⟩
    go_wp2_with fail
    refine (H2.out w1 r1).mono ?_
    intro e w2 hp
    rw [HR.out] at hp
    cases res with
    | none =>
      obtain ⟨⟨m, rfl⟩, q2⟩ := hp
      go_wp2_with fail
      exact post_panic rfl ⟨⟨_, rfl⟩, q1.trans q2⟩
    | some p =>
      obtain ⟨x, k2⟩ := p
      obtain ⟨v, m, xs, ⟨rfl, r2, q2⟩, g1, g2⟩ := hp
      go_wp2_with fail
      go_ret
      have hh : Hands w2 w2 (fromB w1.heap.size) (fromB w.heap.size) := Hands.of_keeps (Keeps.refl noB _) (fun _ _ _ => id) (fun g hg _ => fromB_mono q1 hg)
      exact ⟨v, m, xs, ⟨rfl, r2, q1.trans q2⟩, hh.row _ _ _ _ _ g1, hh.repIL x xs g2⟩

/-- What the loop of 'stepsUpTo' holds at the head of a round: 'w' is the world in which the call began. -/
def ListAt (b : Nat) (s : ByteArray) (d : Nat) (ar : ByteArray) (c : UInt8) (w : World) (res : Option (Nds × Nat)) (n : Nat) (v : Value) (wr : World) : Prop :=
  ∃ k pre xs, joinP pre (stepsP s n ar.data.toList d c k) = res ∧ 4 * (s.size - k) + 4 ≤ n ∧ k ≤ s.size ∧ ar.size ≤ k ∧ xs.length ≤ k ∧
    wr.ownsRow 0 104 1 v xs.length xs ∧ (∀ g, v.ownBlock = some g → w.heap.size ≤ g) ∧ RepIL wr (fun g => w.heap.size ≤ g ∧ v.ownBlock ≠ some g) pre xs ∧ Rd wr b s k d ar ∧ Keeps (oneB b) w wr

theorem repIL_snoc {w : World} {ok : Nat → Prop} {x : Nd} {v : Value} (hv : RepI w ok x v) : ∀ (pre : Nds) (xs : List Value), RepIL w ok pre xs → RepIL w ok (pre.app (.cons x .nil)) (xs ++ [v])
  | .nil, xs, h => by
    simp only [RepIL] at h; subst h
    simp only [Nds.app, RepIL, List.nil_append]
    exact ⟨v, [], rfl, hv, rfl⟩
  | .cons y r, xs, h => by
    simp only [RepIL] at h
    obtain ⟨u, ur, rfl, h1, h2⟩ := h
    simp only [Nds.app, RepIL, List.cons_append]
    exact ⟨u, _, rfl, h1, repIL_snoc hv r ur h2⟩

/-- One round's step and append, outside the walk. -/
theorem listAt_next {b : Nat} {s : ByteArray} {d : Nat} {ar : ByteArray} {c : UInt8} {w : World} {res : Option (Nds × Nat)} {n : Nat} {v v' u : Value} {wr w1 w3 : World} {k k1 : Nat} {pre : Nds} {xs : List Value} {x : Nd}
    (hj : joinP (pre.app (.cons x .nil)) (stepsP s n ar.data.toList d c k1) = res) (hn : 4 * (s.size - k1) + 4 ≤ n) (hk : k < k1) (hk1 : k1 ≤ s.size) (har : ar.size ≤ k) (hlen : xs.length ≤ k)
    (hfrom : ∀ g, v.ownBlock = some g → w.heap.size ≤ g) (hown : wr.ownsRow 0 104 1 v xs.length xs) (hrep : RepIL wr (fun g => w.heap.size ≤ g ∧ v.ownBlock ≠ some g) pre xs) (hb : b < w.heap.size)
    (q : Keeps (oneB b) w wr) (q1 : Keeps (oneB b) wr w1) (hu : RepI w1 (fromB wr.heap.size) x u) (r1 : Rd w1 b s k1 d ar)
    (hown' : w3.ownsRow 0 104 1 v' (xs.length + 1) (xs ++ [u])) (hg : (w1.alloc (.cells #[u] 104)).grownBy w3 v.ownBlock) (hf : Fresh (w1.alloc (.cells #[u] 104)) v v') :
    ListAt b s d ar c w res n v' w3 := by
  have hvlt : ∀ g, v.ownBlock = some g → g < wr.heap.size := fun g hg => (hown.lt g hg).2
  have qa : Keeps (fun g => v.ownBlock = some g) w1 w3 := ((Keeps.refl _ w1).alloc _).grown hg (fun g hg => .inl hg)
  have hszw : w1.heap.size ≤ w3.heap.size := qa.size
  refine ⟨k1, pre.app (.cons x .nil), xs ++ [u], hj, hn, hk1, by omega, by simp; omega, by simpa using hown', ?_, ?_, ?_, ?_⟩
  · intro g hg'
    rcases hf with h | h
    · exact hfrom g (h ▸ hg')
    · have := h g hg'; have := q.size; have := q1.size; simp at *; omega
  · refine repIL_snoc ?_ pre _ ?_
    · refine (Hands.of_keeps (ok := fromB wr.heap.size) qa ?_ ?_).repI x u hu
      · intro g hg1 _ hg2; have := hvlt g hg2; exact absurd hg1 (by simp [fromB]; omega)
      · intro g hg1 hg3
        refine ⟨Nat.le_trans q.size hg1, fun hg2 => ?_⟩
        rcases hf with h | h
        · have := hvlt g (h ▸ hg2); exact absurd hg1 (by simp [fromB]; omega)
        · have := h g hg2; simp at this; omega
    · have hh : Hands wr w1 (fun g => w.heap.size ≤ g ∧ v.ownBlock ≠ some g) (fun g => w.heap.size ≤ g ∧ v.ownBlock ≠ some g ∧ g < w1.heap.size) :=
        Hands.of_keeps q1 (fun g hg _ e => by simp [oneB] at e; omega) (fun g hg hl => ⟨hg.1, hg.2, Nat.lt_of_lt_of_le hl q1.size⟩)
      refine (Hands.of_keeps qa ?_ ?_).repIL pre xs (hh.repIL pre xs hrep)
      · intro g hg1 _ hg2; exact hg1.2.1 hg2
      · intro g hg1 hg3
        refine ⟨hg1.1, fun hg2 => ?_⟩
        rcases hf with h | h
        · exact hg1.2.1 (h ▸ hg2)
        · have := h g hg2; have := hg1.2.2; simp at *; omega
  · refine r1.keeps qa (fun e => ?_)
    have := hfrom b e; omega
  · refine (q.trans q1).transNew qa (fun i hi e => ?_)
    have := hfrom i e; omega

theorem repI_iface : (∀ (x : Nd) (w : World) (ok : Nat → Prop) (v : Value), RepI w ok x v → ∃ t g, v = .iface t (ptr g))
  | .mk c k e vs _ .nil, w, ok, v, h => by
    simp only [RepI] at h
    obtain ⟨g, _, h1⟩ := h
    rcases h1 with ⟨_, t, _, rfl, _⟩ | ⟨_, t, u, _, rfl, _⟩ | ⟨_, _, rfl, _⟩ <;> exact ⟨_, _, rfl⟩
  | .mk c k e vs _ (.cons x .nil), w, ok, v, h => by
    simp only [RepI] at h
    obtain ⟨vx, n, xs, ⟨g, _, h1⟩, _⟩ := h
    rcases h1 with ⟨_, _, rfl, _⟩ | ⟨_, rfl, _⟩ <;> exact ⟨_, _, rfl⟩
  | .mk c k e vs _ (.cons x (.cons y .nil)), w, ok, v, h => by
    simp only [RepI] at h
    obtain ⟨vx, vy, n, xs, m, ys, ⟨g, _, _, _, rfl, _⟩, _⟩ := h
    exact ⟨_, _, rfl⟩
  | .mk _ _ _ _ _ (.cons _ (.cons _ (.cons _ _))), _, _, _, h => by simp only [RepI] at h

set_option maxRecDepth 100000 in
set_option maxHeartbeats 1000000 in
theorem steps_ok (n : Nat) (ih : ∀ m, m < n → StepOk m) : StepsOk n := by
  intro b s k d ar c w h hs hk har hd hn
  generalize hres : stepsP s n ar.data.toList d c k = res
  have hb := h.lt
  obtain ⟨i0, hi, hz0, hz1, hz2⟩ := info_parts Tryz.info104
  have HP : Hid (ListAt b s d ar c w res n (.slice none 0 0) w) :=
    ⟨k, .nil, [], by rw [hres]; cases res with | none => rfl | some p => rfl, hn, hk, har, Nat.zero_le _, World.ownsRow_nil _ _ _ _, fun g hg => by simp [Value.ownBlock] at hg, rfl, h, Keeps.refl _ _⟩
  have HI := Lib.hid (And.intro hi (And.intro hz0 (And.intro hz1 hz2)))
  have IH := Lib.hid ih
  clear hres h hi hz0 hz1 hz2 ih hk har hn
  go_enter Tryz.func64, Tryz.ntmps64
  go_wp2_with fail
  go_loopg [5] n (fun g v wr => g ≤ n ∧ ListAt b s d ar c w res g v wr)
  case atStart => exact ⟨Nat.le_refl _, HP.out⟩
  case round =>
    clear HP
    obtain ⟨v, rfl⟩ : ∃ v, v = u5 := ⟨_, rfl⟩
    obtain ⟨hgn, k', pre, xs, hj, hg, hk', hark, hlen, hown, hfrom, hrep, r, q⟩ := hrel
    cases gk with
    | zero => omega
    | succ gk =>
    rcases joinP_step s gk ar.data.toList d c k' pre with ⟨hc, hd1⟩ | ⟨hc, hx, hd1⟩ | ⟨x, k1, hc, hx, hd1⟩
    · -- the closing byte
      rw [hd1] at hj
      subst hj
      have HA : Hid (RepIL wr (fun g => w.heap.size ≤ g ∧ v.ownBlock ≠ some g) pre xs ∧ (∀ g, v.ownBlock = some g → w.heap.size ≤ g) ∧ wr.ownsRow 0 104 1 v xs.length xs) := ⟨hrep, hfrom, hown⟩
      have H := Lib.hid (skips_true b s k' d ar c wr r hs hc)
      clear hrep hfrom hown hd1 hc HI IH hlen hark
      go_wp2_with fail
      refine H.out.mono ?_
      rintro e w1 ⟨rfl, r1, q1⟩
      go_wp2_with fail
      go_ret
      obtain ⟨a1, a2, a3⟩ := HA.out
      have hvlt : ∀ g, v.ownBlock = some g → g < wr.heap.size := fun g hg => (a3.lt g hg).2
      have hh : Hands wr w1 (fun g => w.heap.size ≤ g ∧ v.ownBlock ≠ some g) (fromB w.heap.size) :=
        Hands.of_keeps q1 (fun g hg _ e => by simp [oneB] at e; omega) (fun g hg hl => hg.1)
      exact ⟨v, xs.length, xs, ⟨rfl, r1, q.trans q1⟩, ⟨q1.ownsRow a3 (fun g hg _ e => by have := a2 g hg; simp [oneB] at e; omega), a2⟩, hh.repIL pre xs a1⟩
    · -- a step that falls
      rw [hd1] at hj
      subst hj
      have H := Lib.hid (skips_false b s k' d ar c wr r hk' hs hc)
      have H2 := Lib.hid (fun w r => IH.out gk (by omega) b s k' d ar w r hs hk' hark hd (by omega))
      have HX := Lib.hid hx
      clear hrep hfrom hown hd1 hc HI IH hlen hark hx
      go_wp2_with fail
      refine H.out.mono ?_
      rintro e w1 ⟨rfl, q1⟩
      have r1 := r.noB q1
      go_wp2_with fail
      refine (H2.out w1 r1).mono ?_
      intro e w2 hp
      rw [HX.out] at hp
      obtain ⟨⟨m, rfl⟩, q2⟩ := hp
      go_wp2_with fail
      exact post_panic rfl ⟨⟨_, rfl⟩, (q.trans q1.toOne).trans q2⟩
    · -- a step
      rw [hd1] at hj
      have hgo := (goes s gk).step _ _ _ _ _ hx
      have H := Lib.hid (skips_false b s k' d ar c wr r hk' hs hc)
      have H2 := Lib.hid (fun w r => IH.out gk (by omega) b s k' d ar w r hs hk' hark hd (by omega))
      have HX := Lib.hid hx
      have HN := Lib.hid (fun v' u w1 w3 => @listAt_next b s d ar c w res gk v v' u wr w1 w3 k' k1 pre xs x hj (by omega) hgo.1 hgo.2 hark hlen hfrom hown hrep hb q)
      have HO := Lib.hid (And.intro hown hfrom)
      have HL := Lib.hid hlen
      clear hrep hfrom hd1 hc IH hark hx hj hgo hown hlen
      go_wp2_with fail
      refine H.out.mono ?_
      rintro e w1 ⟨rfl, q1⟩
      have r1 := r.noB q1
      go_wp2_with fail
      refine (H2.out w1 r1).mono ?_
      intro e w2 hp
      rw [HX.out] at hp
      obtain ⟨u, ⟨rfl, r2, q2⟩, hu⟩ := hp
      obtain ⟨ty, gu, rfl⟩ := repI_iface x w2 _ u hu
      have HU := Lib.hid hu
      clear hu
      obtain ⟨hi, hz0, hz1, hz2⟩ := HI.out
      go_wp2_with (at_builtin; refine wpList_append_fresh _ rfl _ _ 128 rfl 104 i0 .nilIface 1 16 Tryz.underlying128 hi hz0 hz1 hz2 rfl (by decide) v xs.length xs rfl ?own ⟨w2.heap.size, 0, none⟩ 1 1 [.iface ty (ptr gu)] rfl ?c1 ?c2 ?c3 ?c4 ?c5 ?_)
      case own =>
        obtain ⟨o1, o2⟩ := HO.out
        exact (q2.ownsRow (q1.ownsRow o1 (fun _ _ _ => id)) (fun g hg _ e => by have := o2 g hg; simp [oneB] at e; omega)).alloc _
      case c1 => rfl
      case c2 =>
        intro j u hu'
        cases j with
        | zero => simp at hu'; subst hu'; exact (Blk.new w2 _ _).cell 0
        | succ j => simp at hu'
      case c3 => intro u hu'; simp at hu'; subst hu'; rfl
      case c4 => have := HL.out; unfold maxLen; omega
      case c5 => have := HL.out; omega
      intro v' w3 hown' hgrow hfresh
      have HE := Lib.hid (HN.out v' (.iface ty (ptr gu)) w2 w3 (q1.toOne.trans q2) ((Hands.of_keeps (Keeps.refl noB w2) (fun _ _ _ => id) (fun g hg _ => fromB_mono q1 hg)).repI x _ HU.out) r2 hown' hgrow hfresh)
      clear hown' hgrow hfresh
      go_wp2_with fail
      go_roundg gk
      case measure => omega
      case rel => exact ⟨by omega, HE.out⟩

end Go.Proofs.YtkfcgamdlckncaaGreat

namespace Go.Proofs.YtkfcgamdlckncaaGreat
set_option linter.unusedVariables false
set_option linter.unusedSimpArgs false
open Go.RowKit

theorem Rd.set2 {w : World} {b : Nat} {s : ByteArray} {k d : Nat} {ar : ByteArray} (h : Rd w b s k d ar) : Rd (w.setCell ⟨b, 2, none⟩ (.int .i64 ((d : Int) + 1))) b s k (d + 1) ar := Blk.set h 2 _
theorem Rd.set2' {w : World} {b : Nat} {s : ByteArray} {k d : Nat} {ar : ByteArray} (h : Rd w b s k (d + 1) ar) : Rd (w.setCell ⟨b, 2, none⟩ (.int .i64 (d : Int))) b s k d ar := Blk.set h 2 _
theorem Rd.c2' {w : World} {b : Nat} {s : ByteArray} {k d : Nat} {ar : ByteArray} (h : Rd w b s k (d + 1) ar) : w.cell? ⟨b, 2, none⟩ = some (.int .i64 ((d : Int) + 1)) := Blk.cell h 2

theorem row_slice {w : World} {ok : Nat → Prop} {e : TypeId} {size : Nat} {v : Value} {n : Nat} {xs : List Value} (h : Row w ok e size v n xs) : ∃ a c, v = .slice a n c := by
  rcases h.1.2 with ⟨rfl, rfl⟩ | ⟨g, cap, cur, rfl, _⟩
  · exact ⟨_, _, rfl⟩
  · exact ⟨_, _, rfl⟩

theorem blk_new {w : World} {n : Nat} (hn : w.heap.size = n) (cs : Array Value) (t : TypeId) : Blk (w.alloc (.cells cs t)) n cs t := by subst hn; exact Blk.new _ _ _

theorem fell_of {b : Nat} {w w' : World} {ch : List PanicEntry} {a : Act} {P : Program} {fn : Func} {R : Ending → World → Prop} (hd : a.defers = []) (hR : R (.panicked ch) w') : bodyPost P fn R (.panic ch) a w' := ⟨hd, hR⟩

set_option maxRecDepth 100000 in
set_option maxHeartbeats 1000000 in
theorem scope_ok (n : Nat) (ih : StepsOk n) : ScopeOk (n + 1) := by
  intro b s k d ar w h hs hk har hd hn
  rw [scopeP]
  have c1 := h.c1'
  have c2 := h.c2
  have c3 := h.c3
  have f2 := Blk.free h 2
  have hkz : (k : Int) ≤ 80 := by omega
  by_cases h4 : 4 ≤ d
  · rw [if_pos h4]
    obtain rfl : d = 4 := by omega
    clear ih
    go_enter Tryz.func43, Tryz.ntmps43
    go_wp2_with fail
    exact post_panic rfl ⟨⟨_, rfl⟩, Keeps.refl _ _⟩
  · rw [if_neg h4]
    have hdz : (d : Int) < 4 := by omega
    have h1 := declared_any b s (k + 1) (d + 1) ar (w.setCell ⟨b, 2, none⟩ (.int .i64 ((d : Int) + 1))) h.set2 hs hk (by omega) (s.size + 1) (by omega)
    have q0 : Keeps (oneB b) w (w.setCell ⟨b, 2, none⟩ (.int .i64 ((d : Int) + 1))) := (Keeps.refl _ _).one
    have IH := Lib.hid ih
    clear ih
    cases hv : declP s (s.size + 1) ar.data.toList [] (k + 1) with
    | none =>
      rw [hv] at h1
      simp only
      have H1 := Lib.hid h1
      clear h1 hv
      go_enter Tryz.func43, Tryz.ntmps43
      go_wp2_with fail
      refine H1.out.mono ?_
      rintro e w1 ⟨⟨m, rfl⟩, q1⟩
      go_wp2_with fail
      exact post_panic rfl ⟨⟨_, rfl⟩, q0.trans q1⟩
    | some p =>
      obtain ⟨vs, k1⟩ := p
      rw [hv] at h1
      simp only
      have H1 := Lib.hid h1
      have hl := declP_len _ _ _ _ _ _ _ hv
      obtain ⟨sv, hsv⟩ : ∃ sv, str vs = .string sv := ⟨_, rfl⟩
      have HSV := Lib.hid hsv
      have HI := Lib.hid (fun (ar2 : ByteArray) (h2 : ar2.data.toList = ar.data.toList ++ vs) w r =>
        IH.out b s k1 (d + 1) ar2 125 w r hs hl.1 (by have : ar2.data.toList.length = ar.data.toList.length + vs.length := by rw [h2, List.length_append]
                                                      simp at this hl; omega) (by omega) (by simp at hl; omega))
      clear h1 hv hl IH hsv
      cases hres : stepsP s n (ar.data.toList ++ vs) (d + 1) 125 k1 with
      | none =>
        simp only
        have HR := Lib.hid hres
        clear hres
        go_enter Tryz.func43, Tryz.ntmps43
        go_wp2_with fail
        refine H1.out.mono ?_
        rintro e w1 ⟨ar2, ⟨rfl, r1, q1⟩, hcat⟩
        have H2 := Lib.hid (HI.out ar2 hcat w1 r1)
        have HC := Lib.hid hcat
        clear hcat HI H1
        rw [HSV.out]
        go_wp2_with fail
        refine H2.out.mono ?_
        intro e w2 hp
        rw [HC.out, HR.out] at hp
        obtain ⟨⟨m, rfl⟩, q2⟩ := hp
        go_wp2_with fail
        exact post_panic rfl ⟨⟨_, rfl⟩, (q0.trans q1).trans q2⟩
      | some p =>
        obtain ⟨x, k2⟩ := p
        simp only
        have HR := Lib.hid hres
        clear hres
        go_enter Tryz.func43, Tryz.ntmps43
        go_wp2_with fail
        refine H1.out.mono ?_
        rintro e w1 ⟨ar2, ⟨rfl, r1, q1⟩, hcat⟩
        have H2 := Lib.hid (HI.out ar2 hcat w1 r1)
        have HC := Lib.hid hcat
        clear hcat HI H1
        rw [HSV.out]
        go_wp2_with fail
        refine H2.out.mono ?_
        intro e w2 hp
        rw [HC.out, HR.out] at hp
        obtain ⟨vx, m, xs, ⟨rfl, r2, q2⟩, g1, g2⟩ := hp
        obtain ⟨va, vc, rfl⟩ := row_slice g1
        have HG := Lib.hid (And.intro g1 g2)
        have d1 := r2.c1
        have d2 := r2.c2'
        have e2 := Blk.free r2 2
        have e3 := Blk.free r2 3
        have d3 := r2.c3
        clear g1 g2
        go_wp2_with fail
        go_ret
        obtain ⟨g1, g2⟩ := HG.out
        have qs : Keeps (oneB b) w2 ((w2.setCell ⟨b, 2, none⟩ (.int .i64 (d : Int))).setCell ⟨b, 3, none⟩ (.string ar)) := ((Keeps.refl _ w2).one).one
        have qa := qs.alloc (.cells #[.int .i64 (k : Int), .int .i64 (k2 : Int), .string sv, .slice va m vc] 133)
        have hbw := h.lt
        have hw1 : w.heap.size ≤ w1.heap.size := (q0.trans q1).size
        have hw2 : w1.heap.size ≤ w2.heap.size := q2.size
        have hh := Hands.of_keeps (ok := fromB w1.heap.size) (ok' := fromB w.heap.size) qa (fun g hg _ e => by simp [oneB, fromB] at *; omega) (fun g hg _ => Nat.le_trans hw1 hg)
        refine ⟨w2.heap.size, ⟨rfl, (r2.set2'.set3 ar).alloc _, (((q0.trans q1).trans q2).trans qa)⟩, ?_⟩
        simp only [RepI]
        refine ⟨_, m, xs, ⟨w2.heap.size, Nat.le_trans hw1 hw2, .inr ⟨rfl, rfl, ?_⟩⟩, hh.row _ _ _ _ _ g1, hh.repIL x xs g2⟩
        rw [HSV.out]
        exact blk_new (by simp) _ _

end Go.Proofs.YtkfcgamdlckncaaGreat

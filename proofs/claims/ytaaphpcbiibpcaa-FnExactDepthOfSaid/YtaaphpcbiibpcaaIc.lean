/-
  Walks of the program's reader: move, declared.
-/
import Derived.Test.YtaaphpcbiibpcaaIb
import Derived.Test.YtaaphpcbiibpcaaRep
import Derived.Deep.LoopGhost
import Derived.Outline
namespace Go.Proofs.Ytaaphpcbiibpcaa
set_option linter.unusedVariables false
set_option linter.unusedSimpArgs false
open Go.RowKit

theorem Rd.c1' {w : World} {b : Nat} {s : ByteArray} {k d : Nat} {ar : ByteArray} (h : Rd w b s (k + 1) d ar) : w.cell? ⟨b, 1, none⟩ = some (.int .i64 ((k : Int) + 1)) := Blk.cell h 1

/-- The reader has gone on to k; the answer is a pointer to a new block that holds cs. -/
def MadeAt (b : Nat) (s : ByteArray) (k d : Nat) (ar : ByteArray) (w : World) (cs : Array Value) (t : TypeId) (e : Ending) (w' : World) : Prop :=
  ∃ g, e = .returned (ptr g) ∧ w.heap.size ≤ g ∧ Blk w' g cs t ∧ Rd w' b s k d ar ∧ Keeps (oneB b) w w'

theorem Rd.lt {w : World} {b : Nat} {s : ByteArray} {k d : Nat} {ar : ByteArray} (h : Rd w b s k d ar) : b < w.heap.size := Blk.lt h
theorem Rd.alloc {w : World} {b : Nat} {s : ByteArray} {k d : Nat} {ar : ByteArray} (h : Rd w b s k d ar) (o : Obj) : Rd (w.alloc o) b s k d ar := Blk.alloc h o

set_option maxHeartbeats 400000 in
theorem move_some (b : Nat) (s : ByteArray) (k d : Nat) (ar : ByteArray) (w : World) (h : Rd w b s (k + 1) d ar) (hs : s.size ≤ 80) (v u : UInt8) (k2 : Nat) (hv : moveP s ar.data.toList (k + 1) = some (v, u, k2)) :
    Calls Try.prog 135 #[.pointer (some ⟨b, 0, none⟩)] w (MadeAt b s k2 d ar w #[i64 k, i64 k2, u8 61, u8 v, u8 u] 185) := by
  obtain ⟨k1, h1, h2, hne⟩ := moveP_some hv
  have c1 := h.c1'
  have hk : (k : Int) ≤ 80 := by have := (varP_some h1).2.1; omega
  have hb0 : ((v.toNat : Int) == (u.toNat : Int)) = false := by
    rw [beq_eq_false_iff_ne]; exact fun e => hne (UInt8.toNat_inj.1 (Int.ofNat.inj e))
  go_enter Try.func135, Try.ntmps135
  go_wp2_with fail
  refine (variable_some b s _ d ar _ h hs v k1 h1).mono ?_
  rintro e w1 ⟨rfl, r1, q1⟩
  go_wp2_with fail
  refine (variable_some b s _ d ar _ r1 hs u k2 h2).mono ?_
  rintro e w2 ⟨rfl, r2, q2⟩
  have c2 := r2.c1
  go_wp2_with fail
  go_ret
  refine ⟨w2.heap.size, rfl, Nat.le_trans q1.size q2.size, ?_, r2.alloc _, (q1.trans q2).alloc _⟩
  exact Blk.new _ _ _

theorem Rd.set3 {w : World} {b : Nat} {s : ByteArray} {k d : Nat} {ar : ByteArray} (h : Rd w b s k d ar) (ar' : ByteArray) : Rd (w.setCell ⟨b, 3, none⟩ (.string ar')) b s k d ar' := Blk.set h 3 _

/-- What the loop of 'declared' holds at the head of a round. -/
def DeclAt (b : Nat) (s : ByteArray) (d : Nat) (ar : ByteArray) (w : World) (res : Option (List UInt8 × Nat)) (n : Nat) (wr : World) : Prop :=
  ∃ k ar2 out, declP s n ar.data.toList out k = res ∧ s.size - k < n ∧ k ≤ s.size ∧ ar2.size = ar.size + out.length ∧ ar2.size ≤ k ∧ ar2.data.toList = ar.data.toList ++ out ∧ Rd wr b s k d ar2 ∧ Keeps (oneB b) w wr

def DeclPost (b : Nat) (s : ByteArray) (d : Nat) (ar : ByteArray) (w : World) (res : Option (List UInt8 × Nat)) (e : Ending) (w' : World) : Prop :=
  match res with
  | none => Fell b w e w'
  | some (vs, k2) => ∃ ar2, Moved b s k2 d ar2 w (str vs) e w' ∧ ar2.data.toList = ar.data.toList ++ vs

/-- What becomes of one byte. -/
theorem declP_cases (s : ByteArray) (n : Nat) (ar out : List UInt8) (k : Nat) :
    (at? s k = none ∧ declP s (n + 1) ar out k = none) ∨
    (at? s k = some 58 ∧ out ≠ [] ∧ declP s (n + 1) ar out k = some (out, k + 1)) ∨
    (∃ c, at? s k = some c ∧ (out = [] ∨ at? s k ≠ some 58) ∧ 97 ≤ c ∧ c ≤ 102 ∧ c ∉ ar ++ out ∧ declP s (n + 1) ar out k = declP s n ar (out ++ [c]) (k + 1)) ∨
    (∃ c, at? s k = some c ∧ (out = [] ∨ at? s k ≠ some 58) ∧ (c < 97 ∨ (97 ≤ c ∧ 102 < c) ∨ (97 ≤ c ∧ c ≤ 102 ∧ c ∈ ar ++ out)) ∧ declP s (n + 1) ar out k = none) := by
  cases hc : at? s k with
  | none => exact .inl ⟨rfl, by rw [declP, hc]⟩
  | some c =>
    by_cases h1 : c = 58 ∧ out ≠ []
    · obtain ⟨rfl, h2⟩ := h1
      exact .inr (.inl ⟨rfl, h2, by rw [declP, hc]; simp [h2]⟩)
    · have hno : out = [] ∨ some c ≠ some 58 := by
        by_cases ho : out = []
        · exact .inl ho
        · exact .inr (fun e => h1 ⟨Option.some.inj e, ho⟩)
      by_cases h2 : 97 ≤ c ∧ c ≤ 102 ∧ c ∉ ar ++ out
      · exact .inr (.inr (.inl ⟨c, rfl, hno, h2.1, h2.2.1, h2.2.2, by rw [declP, hc]; simp only [h1, h2, if_true, if_false]; simp⟩))
      · refine .inr (.inr (.inr ⟨c, rfl, hno, ?_, by rw [declP, hc]; simp only [h1, h2, if_false]⟩))
        by_cases a : 97 ≤ c
        · by_cases b : c ≤ 102
          · exact .inr (.inr ⟨a, b, Classical.byContradiction fun h => h2 ⟨a, b, h⟩⟩)
          · exact .inr (.inl ⟨a, UInt8.not_le.1 b⟩)
        · exact .inl (UInt8.not_le.1 a)

theorem str_of {o : ByteArray} {l : List UInt8} (h : o.data.toList = l) : Value.string o = str l := by
  subst h; rfl

theorem extract_drop {a c : ByteArray} {out : List UInt8} (h1 : c.size = a.size + out.length) (h2 : c.data.toList = a.data.toList ++ out) : (c.extract a.size c.size).data.toList = out := by
  have ha : a.data.toList.length = a.size := by simp
  have hc : c.data.toList.length = c.size := by simp
  simp only [ByteArray.data_extract, Array.toList_extract, List.extract_eq_take_drop, h2]
  rw [← ha, List.drop_left, List.take_of_length_le]
  rw [ha]; omega

theorem encode_ascii {c : UInt8} (h : c.toNat < 128) : Utf8.encode (c.toNat : Int) = ⟨#[c]⟩ := by
  unfold Utf8.encode
  have hv : Utf8.valid (c.toNat : Int) = true := by simp [Utf8.valid]; omega
  simp [hv, h]

/-- The head's test: where it asks 'skips', that answers no. -/
theorem decl_head {ar ar2 : ByteArray} {out : List UInt8} (hsz : ar2.size = ar.size + out.length) : (out = [] → ((ar2.size : Int) == (ar.size : Int)) = true) ∧ (out ≠ [] → ((ar2.size : Int) == (ar.size : Int)) = false) := by
  constructor
  · rintro rfl; simp at hsz; simp [hsz]
  · intro ho
    cases out with
    | nil => exact absurd rfl ho
    | cons x r => simp at hsz; rw [beq_eq_false_iff_ne]; omega

set_option maxRecDepth 100000 in
set_option maxHeartbeats 2000000 in
theorem declared_any (b : Nat) (s : ByteArray) (k d : Nat) (ar : ByteArray) (w : World) (h : Rd w b s k d ar) (hs : s.size ≤ 80) (hk : k ≤ s.size) (har : ar.size ≤ k) (n : Nat) (hn : s.size - k < n) :
    Calls Try.prog 103 #[.pointer (some ⟨b, 0, none⟩)] w (DeclPost b s d ar w (declP s n ar.data.toList [] k)) := by
  have c3 := h.c3
  generalize hres : declP s n ar.data.toList [] k = res
  have HP : Hid (DeclAt b s d ar w res n w) := ⟨k, ar, [], hres, hn, hk, rfl, har, by simp, h, Keeps.refl _ _⟩
  have harz : (ar.size : Int) ≤ 80 := by omega
  clear hres
  go_enter Try.func103, Try.ntmps103
  go_wp2_with fail
  go_loopg [4] n (fun g _v wr => DeclAt b s d ar w res g wr)
  case atStart => exact HP.out
  case round =>
    clear HP c3 h
    obtain ⟨k', ar2, out, hp, hg, hk', hsz, hark, hcat, r, q⟩ := hrel
    have c3 := r.c3
    have harz2 : (ar2.size : Int) ≤ 80 := by omega
    obtain ⟨hh1, hh2⟩ := decl_head (ar := ar) (ar2 := ar2) hsz
    cases gk with
    | zero => omega
    | succ gk =>
    rcases declP_cases s gk ar.data.toList out k' with ⟨hc, hd⟩ | ⟨hc, ho, hd⟩ | ⟨c, hc, ho, h1, h2, h3, hd⟩ | ⟨c, hc, ho, hbad, hd⟩
    · -- the text's end
      rw [hd] at hp
      subst hp
      have hge : s.size ≤ k' := by
        rcases Nat.lt_or_ge k' s.size with hlt | hge
        · rw [at?_some hlt] at hc; cases hc
        · exact hge
      have hno : at? s k' ≠ some 58 := by rw [hc]; simp
      clear hcat hd hc
      by_cases ho : out = []
      · have hne := hh1 ho
        clear hh1 hh2 hsz ho
        go_wp2_with fail
        refine (take_end b s k' d ar2 _ r hge hk' hs).mono ?_
        rintro e w1 ⟨⟨m, rfl⟩, q1⟩
        go_wp2_with fail
        exact post_panic rfl ⟨⟨_, rfl⟩, q.trans q1⟩
      · have hne := hh2 ho
        clear hh1 hh2 hsz ho
        go_wp2_with fail
        refine (skips_false b s k' d ar2 58 _ r hk' hs hno).mono ?_
        rintro e w0 ⟨rfl, q0⟩
        have r0 := r.noB q0
        go_wp2_with fail
        refine (take_end b s k' d ar2 _ r0 hge hk' hs).mono ?_
        rintro e w1 ⟨⟨m, rfl⟩, q1⟩
        go_wp2_with fail
        exact post_panic rfl ⟨⟨_, rfl⟩, (q.trans q0.toOne).trans q1⟩
    · -- the colon
      rw [hd] at hp
      subst hp
      have hne := hh2 ho
      have HA : Hid (ar2.size = ar.size + out.length ∧ ar2.data.toList = ar.data.toList ++ out) := ⟨hsz, hcat⟩
      have hle : (ar.size : Int) ≤ (ar2.size : Int) := by omega
      clear hsz hcat hd ho hh1 hh2
      go_wp2_with fail
      refine (skips_true b s k' d ar2 58 _ r hs hc).mono ?_
      rintro e w1 ⟨rfl, r1, q1⟩
      have c31 := r1.c3
      go_wp2_with fail
      go_ret
      exact ⟨ar2, ⟨congrArg Ending.returned (str_of (extract_drop HA.out.1 HA.out.2)), r1, q.trans q1⟩, HA.out.2⟩
    · -- one more
      rw [hd] at hp
      have hlt := at?_lt hc
      have hget := at?_get hc hlt
      have HA : Hid (declP s gk ar.data.toList (out ++ [c]) (k' + 1) = res ∧ s.size - (k' + 1) < gk ∧ k' + 1 ≤ s.size ∧ ar2.size = ar.size + out.length ∧ ar2.size ≤ k' ∧ ar2.data.toList = ar.data.toList ++ out ∧ Utf8.encode (c.toNat : Int) = ⟨#[c]⟩) :=
        ⟨hp, by omega, by omega, hsz, hark, hcat, encode_ascii (by have := UInt8.le_iff_toNat_le.1 h2; simp at this; omega)⟩
      have hmem : ¬ c ∈ ar2.data.toList := by rw [hcat]; exact h3
      have b1 : 97 ≤ (c.toNat : Int) := by have := UInt8.le_iff_toNat_le.1 h1; simp at this; omega
      have b2 : (c.toNat : Int) ≤ 102 := by have := UInt8.le_iff_toNat_le.1 h2; simp at this; omega
      have hno : out = [] ∨ at? s k' ≠ some 58 := ho
      have he4 : (Utf8.encode (c.toNat : Int)).size ≤ 4 := by rw [HA.out.2.2.2.2.2.2]; show (1 : Nat) ≤ 4; omega
      have HX := Lib.hid (fun w => index_out ar2 c w hmem)
      have hlt0 : k' < s.size := hlt
      have hfin : ∀ w1, Rd w1 b s (k' + 1) d ar2 → Keeps (oneB b) w w1 → DeclAt b s d ar w res gk (w1.setCell ⟨b, 3, none⟩ (.string (ar2 ++ Utf8.encode (c.toNat : Int)))) := by
        intro w1 r1 q1
        obtain ⟨g1, g2, g3, g4, g5, g6, g7⟩ := HA.out
        refine ⟨k' + 1, ar2 ++ Utf8.encode (c.toNat : Int), out ++ [c], g1, g2, g3, ?_, ?_, ?_, r1.set3 _, q1.one⟩
        · rw [g7, ByteArray.size_append, g4, List.length_append]; show _ + 1 = _; simp; omega
        · rw [g7, ByteArray.size_append]; show _ + 1 ≤ _; omega
        · rw [g7, ByteArray.data_append, Array.toList_append, g6, List.append_assoc]
      have HF := Lib.hid hfin
      clear hp hd hcat hc ho h1 h2 h3 hmem hfin HA
      by_cases ho : out = []
      · have hne := hh1 ho
        clear hh1 hh2 hsz ho hno
        have HT := Lib.hid (fun w => take_ok b s k' d ar2 w)
        go_wp2_with fail
        refine (take_ok b s k' d ar2 _ r hlt hs).mono ?_
        rintro e w1 ⟨rfl, r1, q1⟩
        have c31 := r1.c3
        have f31 := Blk.free r1 3
        have HF1 := Lib.hid (HF.out w1 r1 (q.trans q1))
        have HX1 := Lib.hid (HX.out w1)
        rw [hget]
        clear hget HF HX hlt
        generalize (c.toNat : Int) = cv at *
        go_wp2_with fail
        refine (HX1.out).mono ?_
        rintro e w2 ⟨m, rfl, hm, rfl⟩
        go_wp2_with fail
        go_roundg gk
        case measure => omega
        case rel => exact HF1.out
      · have hne := hh2 ho
        have hno' := hno.resolve_left ho
        clear hh1 hh2 hsz ho hno
        go_wp2_with fail
        refine (skips_false b s k' d ar2 58 _ r hk' hs hno').mono ?_
        rintro e w0 ⟨rfl, q0⟩
        have r0 := r.noB q0
        go_wp2_with fail
        refine (take_ok b s k' d ar2 _ r0 hlt hs).mono ?_
        rintro e w1 ⟨rfl, r1, q1⟩
        have c31 := r1.c3
        have f31 := Blk.free r1 3
        have HF1 := Lib.hid (HF.out w1 r1 ((q.trans q0.toOne).trans q1))
        have HX1 := Lib.hid (HX.out w1)
        rw [hget]
        clear hget HF HX hlt
        generalize (c.toNat : Int) = cv at *
        go_wp2_with fail
        refine (HX1.out).mono ?_
        rintro e w2 ⟨m, rfl, hm, rfl⟩
        go_wp2_with fail
        go_roundg gk
        case measure => omega
        case rel => exact HF1.out
    · -- a byte that is none to be declared
      rw [hd] at hp
      subst hp
      have hlt := at?_lt hc
      have hget := at?_get hc hlt
      have hno : out = [] ∨ at? s k' ≠ some 58 := ho
      have hbad' : (c.toNat : Int) < 97 ∨ (97 ≤ (c.toNat : Int) ∧ 102 < (c.toNat : Int)) ∨ ((97 ≤ (c.toNat : Int) ∧ (c.toNat : Int) ≤ 102) ∧ c ∈ ar2.data.toList) := by
        rcases hbad with h | ⟨h, h'⟩ | ⟨h, h', h''⟩
        · have := UInt8.lt_iff_toNat_lt.1 h; simp at this; exact .inl (by omega)
        · have h1 := UInt8.le_iff_toNat_le.1 h; have h2 := UInt8.lt_iff_toNat_lt.1 h'; simp at h1 h2; exact .inr (.inl ⟨by omega, by omega⟩)
        · have h1 := UInt8.le_iff_toNat_le.1 h; have h2 := UInt8.le_iff_toNat_le.1 h'; simp at h1 h2; exact .inr (.inr ⟨⟨by omega, by omega⟩, by rw [hcat]; exact h''⟩)
      clear hd hcat hc ho hbad
      by_cases ho : out = []
      · have hne := hh1 ho
        clear hh1 hh2 hsz ho hno
        have hlt0 : k' < s.size := hlt
        rcases hbad' with h1 | ⟨h1, h2⟩ | ⟨⟨h1, h2⟩, hm⟩
        · go_wp2_with fail
          refine (take_ok b s k' d ar2 _ r hlt hs).mono ?_
          rintro e w1 ⟨rfl, r1, q1⟩
          have c11 := r1.c1'
          rw [hget]
          clear hget hlt
          generalize (c.toNat : Int) = cv at *
          go_wp2_with fail
          exact post_panic rfl ⟨⟨_, rfl⟩, q.trans q1⟩
        · go_wp2_with fail
          refine (take_ok b s k' d ar2 _ r hlt hs).mono ?_
          rintro e w1 ⟨rfl, r1, q1⟩
          have c11 := r1.c1'
          rw [hget]
          clear hget hlt
          generalize (c.toNat : Int) = cv at *
          go_wp2_with fail
          exact post_panic rfl ⟨⟨_, rfl⟩, q.trans q1⟩
        · have HX := Lib.hid (fun w => index_in ar2 c w hm)
          clear hm
          go_wp2_with fail
          refine (take_ok b s k' d ar2 _ r hlt hs).mono ?_
          rintro e w1 ⟨rfl, r1, q1⟩
          have c11 := r1.c1'
          have c31 := r1.c3
          have HX1 := Lib.hid (HX.out w1)
          rw [hget]
          clear hget hlt HX
          generalize (c.toNat : Int) = cv at *
          go_wp2_with fail
          refine (HX1.out).mono ?_
          rintro e w2 ⟨m, rfl, hm, rfl⟩
          go_wp2_with fail
          exact post_panic rfl ⟨⟨_, rfl⟩, q.trans q1⟩
      · have hne := hh2 ho
        have hno' := hno.resolve_left ho
        clear hh1 hh2 hsz ho hno
        have hlt0 : k' < s.size := hlt
        rcases hbad' with h1 | ⟨h1, h2⟩ | ⟨⟨h1, h2⟩, hm⟩
        · go_wp2_with fail
          refine (skips_false b s k' d ar2 58 _ r hk' hs hno').mono ?_
          rintro e w0 ⟨rfl, q0⟩
          have r0 := r.noB q0
          go_wp2_with fail
          refine (take_ok b s k' d ar2 _ r0 hlt hs).mono ?_
          rintro e w1 ⟨rfl, r1, q1⟩
          have c11 := r1.c1'
          rw [hget]
          clear hget hlt
          generalize (c.toNat : Int) = cv at *
          go_wp2_with fail
          exact post_panic rfl ⟨⟨_, rfl⟩, (q.trans q0.toOne).trans q1⟩
        · go_wp2_with fail
          refine (skips_false b s k' d ar2 58 _ r hk' hs hno').mono ?_
          rintro e w0 ⟨rfl, q0⟩
          have r0 := r.noB q0
          go_wp2_with fail
          refine (take_ok b s k' d ar2 _ r0 hlt hs).mono ?_
          rintro e w1 ⟨rfl, r1, q1⟩
          have c11 := r1.c1'
          rw [hget]
          clear hget hlt
          generalize (c.toNat : Int) = cv at *
          go_wp2_with fail
          exact post_panic rfl ⟨⟨_, rfl⟩, (q.trans q0.toOne).trans q1⟩
        · have HX := Lib.hid (fun w => index_in ar2 c w hm)
          clear hm
          go_wp2_with fail
          refine (skips_false b s k' d ar2 58 _ r hk' hs hno').mono ?_
          rintro e w0 ⟨rfl, q0⟩
          have r0 := r.noB q0
          go_wp2_with fail
          refine (take_ok b s k' d ar2 _ r0 hlt hs).mono ?_
          rintro e w1 ⟨rfl, r1, q1⟩
          have c11 := r1.c1'
          have c31 := r1.c3
          have HX1 := Lib.hid (HX.out w1)
          rw [hget]
          clear hget hlt HX
          generalize (c.toNat : Int) = cv at *
          go_wp2_with fail
          refine (HX1.out).mono ?_
          rintro e w2 ⟨m, rfl, hm, rfl⟩
          go_wp2_with fail
          exact post_panic rfl ⟨⟨_, rfl⟩, (q.trans q0.toOne).trans q1⟩

end Go.Proofs.Ytaaphpcbiibpcaa

/-
  Walks of the model's reader: vars.
-/
import Derived.Test.YtkfcgamdlckncaaGreatScW
import Derived.Test.YtkfcgamdlckncaaGreatIcW
namespace Go.Proofs.YtkfcgamdlckncaaGreat
set_option linter.unusedVariables false
set_option linter.unusedSimpArgs false
open Go.RowKit

def inR (n : Int) (a b : Int) : Bool := decide (a ≤ n) && decide (n ≤ b)

set_option maxHeartbeats 1000000 in
theorem in_any (n a b : Int) (w : World) : Calls Tryz.prog 81 #[.int .i64 n, .int .i64 a, .int .i64 b] w fun e w' => e = .returned (.bool (inR n a b)) ∧ w' = w := by
  by_cases h1 : a ≤ n
  · by_cases h2 : n ≤ b
    · have h : inR n a b = true := by simp [inR, h1, h2]
      have H := Lib.hid h
      clear h
      go_enter Tryz.func81, Tryz.ntmps81
      go_wp2_with fail
      go_ret
      exact ⟨by rw [H.out]; rfl, rfl⟩
    · have h : inR n a b = false := by simp [inR, h2]
      have H := Lib.hid h
      clear h
      go_enter Tryz.func81, Tryz.ntmps81
      go_wp2_with fail
      go_ret
      exact ⟨by rw [H.out]; rfl, rfl⟩
  · have h : inR n a b = false := by simp [inR, h1]
    have H := Lib.hid h
    clear h
    go_enter Tryz.func81, Tryz.ntmps81
    go_wp2_with fail
    go_ret
    exact ⟨by rw [H.out]; rfl, rfl⟩

/-- What the loop of 'vars' holds: 'bad0', 'k0': as the call began. -/
def VarsAt (b : Nat) (s : ByteArray) (d : Nat) (ar : ByteArray) (bad0 : Bool) (w : World) (res : Option (List UInt8 × Nat)) (m : Nat) (vo : Value) (wr : World) : Prop :=
  ∃ k out bad, vo = .string out ∧ k ≤ s.size ∧ out.size ≤ k ∧ s.size - k < m ∧ (bad = false → declP s m ar.data.toList out.data.toList k = res) ∧ (bad = true → bad0 = true ∨ res = none) ∧ (bad0 = true → bad = true) ∧ Sd wr b s k bad d ∧ Keeps (oneB b) w wr

def VarsPost (b : Nat) (s : ByteArray) (d : Nat) (bad0 : Bool) (w : World) (res : Option (List UInt8 × Nat)) (e : Ending) (w' : World) : Prop :=
  ∃ k out bad, MovedS b s k bad d w (.string out) e w' ∧ k ≤ s.size ∧ out.size ≤ k ∧
    (bad = false → (at? s k = some 58 ∧ res = some (out.data.toList, k + 1)) ∨ (at? s k ≠ some 58 ∧ res = none)) ∧ (bad = true → bad0 = true ∨ res = none) ∧ (bad0 = true → bad = true)

set_option maxRecDepth 100000 in
theorem conv_one (W : World) (g : Nat) (c : UInt8) (h : Blk W g #[.int .u8 (c.toNat : Int)] 5) :
    (convert 80 9 (.slice (some ⟨g, 0, none⟩) 1 1)).run Tryz.prog W = .ok (.string ⟨#[c]⟩) W := by
  have hl : (loadCells ⟨g, 0, none⟩ 1).run Tryz.prog W = .ok ([(c.toNat : Int)].map (Value.int .u8)).toArray W := by
    have := h.cell 0
    simp at this
    simp [loadCells, loadCellsFrom, this, go_sem]
  rw [run_convert_bytes_string W 80 9 5 (some ⟨g, 0, none⟩) 1 1 Tryz.underlying80 Tryz.underlying5 Tryz.underlying9, run_bytesToString W ⟨g, 0, none⟩ 1 1 [(c.toNat : Int)] hl]
  simp [ByteArray.push, ByteArray.empty, ByteArray.emptyWithCapacity]
  rfl

theorem conv_new (W : World) (n : Nat) (c : UInt8) (h : W.heap.size = n) :
    (convert 80 9 (.slice (some ⟨n, 0, none⟩) 1 1)).run Tryz.prog (W.alloc (.cells #[.int .u8 (c.toNat : Int)] 5)) = .ok (.string ⟨#[c]⟩) (W.alloc (.cells #[.int .u8 (c.toNat : Int)] 5)) :=
  conv_one _ n c (blk_new h _ _)

theorem encode_one (c : UInt8) : (ByteArray.mk #[c]).size = 1 := rfl

set_option maxRecDepth 100000 in
set_option maxHeartbeats 2000000 in
theorem vars_any (b : Nat) (s : ByteArray) (k d : Nat) (ar : ByteArray) (bad0 : Bool) (w : World) (h : Sd w b s k bad0 d) (hs : s.size ≤ 80) (hk : k ≤ s.size) (har : ar.size ≤ 80) (n : Nat) (hn : s.size - k < n) :
    Calls Tryz.prog 59 #[.pointer (some ⟨b, 0, none⟩), .string ar] w (VarsPost b s d bad0 w (declP s n ar.data.toList [] k)) := by
  generalize hres : declP s n ar.data.toList [] k = res
  have HP : Hid (VarsAt b s d ar bad0 w res n (.string ⟨#[]⟩) w) := ⟨k, ⟨#[]⟩, bad0, rfl, hk, Nat.zero_le _, hn, fun _ => hres, fun e => .inl e, id, h, Keeps.refl _ _⟩
  clear hres h hk hn
  go_enter Tryz.func59, Tryz.ntmps59
  go_wp2_with fail
  go_loopg [5, 6] n (fun g vo _c wr => VarsAt b s d ar bad0 w res g vo wr)
  case atStart => exact HP.out
  case round =>
    clear HP
    obtain ⟨k', out, bad, rfl, hk', hout, hg, hon, hoff, hb0, r, q⟩ := hrel
    have HB0 := Lib.hid hb0
    clear hb0
    have c0 := r.c0
    have c1 := r.c1
    have c2 := r.c2
    have f1 := Blk.free r 1
    have f2 := Blk.free r 2
    have hoz : (out.size : Int) ≤ 80 := by omega
    have hb1 : b < wr.heap.size := r.lt
    have hb2 : ¬ b = wr.heap.size := by omega
    cases gk with
    | zero => omega
    | succ gk =>
    by_cases hlt : k' < s.size
    · have hd : decide (k' < s.size) = true := by simpa using hlt
      obtain ⟨c, hget⟩ : ∃ c, s[k'] = c := ⟨_, rfl⟩
      have hat : at? s k' = some c := by rw [at?_some hlt, hget]
      have hcw : wrap64 (c.toNat : Int) = (c.toNat : Int) := by have := c.toNat_lt; unfold wrap64; omega
      by_cases hin : inR (wrap64 (c.toNat : Int)) 97 102 = true
      · -- a letter
        have h97 : 97 ≤ c ∧ c ≤ 102 := by
          rw [hcw] at hin
          simp only [inR, Bool.and_eq_true, decide_eq_true_eq] at hin
          rw [UInt8.le_iff_toNat_le, UInt8.le_iff_toNat_le]
          simp
          omega
        have hne58 : at? s k' ≠ some 58 := by
          rw [hat]
          intro e
          have e := Option.some.inj e
          subst e
          exact absurd h97.1 (by decide)
        have hnext : ∀ (bad' : Bool) (n : Nat), (bad' = false → declP s gk ar.data.toList (out.data.toList ++ [c]) (k' + 1) = res) → (bad' = true → bad0 = true ∨ res = none) → (bad0 = true → bad' = true) → Sd wr b s k' bad d →
            VarsAt b s d ar bad0 w res gk (.string (out ++ ⟨#[c]⟩)) ((((wr.drewN n).setCell ⟨b, 2, none⟩ (.bool bad')).setCell ⟨b, 1, none⟩ (.int .i64 ((k' : Int) + 1))).alloc (.cells #[.int .u8 (c.toNat : Int)] 5)) := by
          intro bad' n g1 g2 g3 r
          refine ⟨k' + 1, _, bad', rfl, hlt, ?_, by omega, ?_, g2, g3, (((r.drewN n).set2 bad').set1).alloc _, (((q.drewN n).one).one).alloc _⟩
          · rw [ByteArray.size_append]; show _ + 1 ≤ _; omega
          · rw [ByteArray.data_append, Array.toList_append]; exact g1
        have HN := Lib.hid hnext
        have hconv := fun W => conv_new W wr.heap.size c
        clear hnext
        cases bad with
        | true =>
          have HX := Lib.hid (fun n => HN.out true n (fun e => by cases e) (fun _ => hoff rfl) (fun _ => rfl) r)
          clear hon hoff hcw hat hne58 h97 HN
          go_wp2_with fail
          go_quiet ((go_at_call 81; exact Calls.quiet_of_same (in_any _ _ _ _)))
          go_wp2_with fail
          go_quiet (fail)
          go_wp2_with fail
          go_roundg gk
          case measure => omega
          case rel => exact HX.out _
        | false =>
          have hfs : (ar ++ out).size ≤ 1048576 := by rw [ByteArray.size_append]; omega
          have hcat : (ar ++ out).data.toList = ar.data.toList ++ out.data.toList := by rw [ByteArray.data_append, Array.toList_append]
          have H := Lib.hid (fun w => find_any (ar ++ out) c w hfs)
          by_cases hm : c ∈ ar.data.toList ++ out.data.toList
          · have hfi : 0 ≤ findI (ar ++ out) c := findI_mem (by rw [hcat]; exact hm)
            have HX := Lib.hid (fun n => HN.out true n (fun e => by cases e) (fun _ => .inr (by
              rw [← hon rfl]
              rcases declP_cases s gk ar.data.toList out.data.toList k' with ⟨h1, _⟩ | ⟨h1, _⟩ | ⟨c', h1, _, _, _, h2, _⟩ | ⟨c', _, _, _, h2⟩
              · rw [hat] at h1; cases h1
              · exact absurd h1 hne58
              · rw [hat] at h1; exact absurd (Option.some.inj h1 ▸ hm) h2
              · exact h2)) (fun _ => rfl) r)
            clear hon hoff hcw hat hne58 h97 HN hm hcat hfs
            go_wp2_with fail
            go_quiet ((go_at_call 81; exact Calls.quiet_of_same (in_any _ _ _ _)))
            go_wp2_with fail
            go_quiet (fail)
            go_wp2_with fail
            refine (H.out _).mono ?_
            rintro e w1 ⟨rfl, rfl⟩
            go_wp2_with fail
            go_roundg gk
            case measure => omega
            case rel => exact HX.out _
          · have hfi : findI (ar ++ out) c < 0 := by rw [findI_not (by rw [hcat]; exact hm)]; omega
            have hdec : decide (0 ≤ findI (ar ++ out) c) = false := by rw [decide_eq_false_iff_not]; omega
            have HX := Lib.hid (fun n => HN.out false n (fun _ => (by
              rw [← hon rfl]
              rcases declP_cases s gk ar.data.toList out.data.toList k' with ⟨h1, _⟩ | ⟨h1, _⟩ | ⟨c', h1, _, _, _, _, h2⟩ | ⟨c', h1, _, h2, _⟩
              · rw [hat] at h1; cases h1
              · exact absurd h1 hne58
              · rw [hat] at h1
                have h1 := Option.some.inj h1
                subst h1
                exact h2.symm
              · rw [hat] at h1
                have h1 := Option.some.inj h1
                subst h1
                rcases h2 with h2 | ⟨_, h2⟩ | ⟨_, _, h2⟩
                · exact absurd h97.1 (UInt8.not_le.2 h2)
                · exact absurd h97.2 (UInt8.not_le.2 h2)
                · exact absurd h2 hm)) (fun e => by cases e) (fun e => HB0.out e) r)
            clear hon hoff hcw hat hne58 h97 HN hm hcat hfs
            go_wp2_with fail
            go_quiet ((go_at_call 81; exact Calls.quiet_of_same (in_any _ _ _ _)))
            go_wp2_with fail
            go_quiet (fail)
            go_wp2_with fail
            refine (H.out _).mono ?_
            rintro e w1 ⟨rfl, rfl⟩
            go_wp2_with fail
            go_roundg gk
            case measure => omega
            case rel => exact HX.out _
      · -- no letter
        have hin' : inR (wrap64 (c.toNat : Int)) 97 102 = false := by simpa using hin
        have hbad : c < 97 ∨ 102 < c := by
          rw [hcw] at hin'
          simp only [inR, Bool.and_eq_false_iff, decide_eq_false_iff_not] at hin'
          rw [UInt8.lt_iff_toNat_lt, UInt8.lt_iff_toNat_lt]
          simp
          omega
        have hres2 : bad = false → out.data.toList ≠ [] → (at? s k' = some 58 ∧ res = some (out.data.toList, k' + 1)) ∨ (at? s k' ≠ some 58 ∧ res = none) := by
          intro e ho
          rw [← hon e]
          rcases declP_cases s gk ar.data.toList out.data.toList k' with ⟨h1, _⟩ | ⟨h1, _, h2⟩ | ⟨c', h1, _, h3, h4, _⟩ | ⟨c', h1, h0, _, h2⟩
          · rw [hat] at h1; cases h1
          · exact .inl ⟨h1, h2⟩
          · rw [hat] at h1
            have h1 := Option.some.inj h1
            subst h1
            rcases hbad with h5 | h5
            · exact absurd h3 (UInt8.not_le.2 h5)
            · exact absurd h4 (UInt8.not_le.2 h5)
          · exact .inr ⟨h0.resolve_left ho, h2⟩
        have hres3 : bad = false → out.data.toList = [] → res = none := by
          intro e ho
          rw [← hon e]
          rcases declP_cases s gk ar.data.toList out.data.toList k' with ⟨h1, _⟩ | ⟨h1, h2, _⟩ | ⟨c', h1, _, h3, h4, _⟩ | ⟨c', h1, h0, _, h2⟩
          · rw [hat] at h1; cases h1
          · exact absurd ho h2
          · rw [hat] at h1
            have h1 := Option.some.inj h1
            subst h1
            rcases hbad with h5 | h5
            · exact absurd h3 (UInt8.not_le.2 h5)
            · exact absurd h4 (UInt8.not_le.2 h5)
          · exact h2
        clear hin hcw hbad hat
        cases bad with
        | true =>
          have HO := Lib.hid (hoff rfl)
          clear hon hoff hres2 hres3
          go_wp2_with fail
          go_quiet ((go_at_call 81; exact Calls.quiet_of_same (in_any _ _ _ _)))
          go_wp2_with fail
          go_ret
          exact ⟨k', out, true, ⟨rfl, (r.drewN _).set2 true, (q.drewN _).one⟩, hk', hout, (fun e => by cases e), fun _ => HO.out, fun _ => rfl⟩
        | false =>
          by_cases ho : out.data.toList = []
          · have HO := Lib.hid (hres3 rfl ho)
            have hoe : out.toList.isEmpty = true := by rw [Go.ByteArray.toList_eq, ho]; rfl
            clear hon hoff hres2 hres3 ho
            go_wp2_with fail
            go_quiet ((go_at_call 81; exact Calls.quiet_of_same (in_any _ _ _ _)))
            go_wp2_with fail
            go_ret
            exact ⟨k', out, true, ⟨rfl, (r.drewN _).set2 true, (q.drewN _).one⟩, hk', hout, (fun e => by cases e), fun _ => .inr HO.out, fun _ => rfl⟩
          · have HO := Lib.hid (hres2 rfl ho)
            have hoe : out.toList.isEmpty = false := by rw [Go.ByteArray.toList_eq]; simpa using ho
            clear hon hoff hres2 hres3 ho
            go_wp2_with fail
            go_quiet ((go_at_call 81; exact Calls.quiet_of_same (in_any _ _ _ _)))
            go_wp2_with fail
            go_ret
            exact ⟨k', out, false, ⟨rfl, (r.drewN _).set2 false, (q.drewN _).one⟩, hk', hout, (fun _ => HO.out), (fun e => by cases e), fun e => HB0.out e⟩
    · -- the text's end
      have hd : decide (k' < s.size) = false := by simpa using hlt
      have hat : at? s k' = none := at?_none (by omega)
      have hr0 : bad = false → res = none := by
        intro e
        rw [← hon e, declP, hat]
      have hres2 : bad = false → out.data.toList ≠ [] → (at? s k' = some 58 ∧ res = some (out.data.toList, k' + 1)) ∨ (at? s k' ≠ some 58 ∧ res = none) :=
        fun e _ => .inr ⟨by rw [hat]; simp, hr0 e⟩
      have hres3 : bad = false → out.data.toList = [] → res = none := fun e _ => hr0 e
      clear hr0 hat
      cases bad with
      | true =>
        have HO := Lib.hid (hoff rfl)
        clear hon hoff hres2 hres3
        go_wp2_with fail
        go_quiet (fail)
        go_wp2_with fail
        go_ret
        exact ⟨k', out, true, ⟨rfl, (r.drewN _).set2 true, (q.drewN _).one⟩, hk', hout, (fun e => by cases e), fun _ => HO.out, fun _ => rfl⟩
      | false =>
        by_cases ho : out.data.toList = []
        · have HO := Lib.hid (hres3 rfl ho)
          have hoe : out.toList.isEmpty = true := by rw [Go.ByteArray.toList_eq, ho]; rfl
          clear hon hoff hres2 hres3 ho
          go_wp2_with fail
          go_quiet (fail)
          go_wp2_with fail
          go_ret
          exact ⟨k', out, true, ⟨rfl, (r.drewN _).set2 true, (q.drewN _).one⟩, hk', hout, (fun e => by cases e), fun _ => .inr HO.out, fun _ => rfl⟩
        · have HO := Lib.hid (hres2 rfl ho)
          have hoe : out.toList.isEmpty = false := by rw [Go.ByteArray.toList_eq]; simpa using ho
          clear hon hoff hres2 hres3 ho
          go_wp2_with fail
          go_quiet (fail)
          go_wp2_with fail
          go_ret
          exact ⟨k', out, false, ⟨rfl, (r.drewN _).set2 false, (q.drewN _).one⟩, hk', hout, (fun _ => HO.out), (fun e => by cases e), fun e => HB0.out e⟩

end Go.Proofs.YtkfcgamdlckncaaGreat

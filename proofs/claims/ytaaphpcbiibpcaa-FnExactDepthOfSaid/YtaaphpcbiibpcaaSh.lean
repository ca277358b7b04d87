/-
  Walks of the model's reader: step, loops.
-/
import Derived.Test.YtaaphpcbiibpcaaSg
namespace Go.Proofs.Ytaaphpcbiibpcaa
set_option linter.unusedVariables false
set_option linter.unusedSimpArgs false
open Go.RowKit

/-- A step of the model's with bodies, as its result's block holds it. -/
theorem rep_of {N g : Nat} {w wx w' : World} {bs : Bds} {a : Option Addr} {n m : Nat} {c : UInt8} {k e : Nat} {vs : List UInt8} {sv ar : ByteArray} (h : BS N g w bs (.slice a n m) n wx) (hv : str vs = .string sv) (q : Keeps (oneB N) wx w') (hN : w.heap.size ≤ N) :
    RepS w' (fromB w.heap.size) (.mk c k e vs ar.data.toList bs) (six (c.toNat : Int) k e sv (.slice a n m) ar).toList := by
  obtain ⟨xs, h1, h2⟩ := h
  have hh : Hands wx w' (okB N g w (.slice a n m)) (fromB w.heap.size) := Hands.of_keeps q (fun i hi _ e => hi.2.2.1 e) (fun i hi _ => hi.1)
  simp only [RepS]
  refine ⟨.slice a n m, n, xs, ?_, ⟨q.ownsRow h1.own (fun i hi _ e => (h1.at' i hi).2.2 e), fun i hi => (h1.at' i hi).1⟩, hh.repSB bs xs h2⟩
  rw [hv]
  rfl

theorem cutG_of {b N g : Nat} {w : World} {s : ByteArray} {k1 k2 d : Nat} {c k0 : Int} {vs : ByteArray} {ar : ByteArray} {bs : Bds} {n : Nat} {va : Option Addr} {vc : Nat} {w2 w3 w4 : World} {ba : Option Addr} {bn bm : Nat} {cs : List Value} {x : Nds} {bad1 : Bool} {d1 : Nat} {a4 : Option Addr} {m4 : Nat} {xs : List Value}
    (n2 : NS b N g w s k1 bad1 d1 c k0 0 vs (.slice va n vc) ar w2) (hB : BS N g w bs (.slice va n vc) n w2)
    (q3 : Keeps (oneB b) w2.drew w3) (n3 : NS b N g w s k2 false d c k0 0 vs (.slice va n vc) ar w3) (hB3 : BW N g w (.slice va n vc) n xs w3)
    (hr : Row w3 (fromB w2.drew.heap.size) 61 6 (.slice ba bn bm) bn cs) (hx : RepSL w3 (fromB w2.drew.heap.size) x cs)
    (h4 : w4.ownsRow 0 64 1 (.slice a4 (n + 1) m4) (n + 1) (xs ++ [.slice ba bn bm])) (hg4 : (w3.alloc (.cells #[.slice ba bn bm] 64)).grownBy w4 (Value.slice va n vc).ownBlock) (hf4 : Fresh (w3.alloc (.cells #[.slice ba bn bm] 64)) (.slice va n vc) (.slice a4 (n + 1) m4)) :
    NS b N g w s k2 false d c k0 0 vs (.slice a4 (n + 1) m4) ar (w4.setCell ⟨g, 4, none⟩ (.slice a4 (n + 1) m4)) ∧ BS N g w (bs.snoc x) (.slice a4 (n + 1) m4) (n + 1) (w4.setCell ⟨g, 4, none⟩ (.slice a4 (n + 1) m4)) := by
  have n4 := n3.grow hB3 hg4
  have hb := n3.hb
  have hsz : w.heap.size ≤ w2.heap.size := n2.keeps.size
  have hB4 := BS.grow (b := b) (w2 := w2) hB hb hsz n2.nod.lt n2.res.lt ((Keeps.refl (oneB b) w2).drewN 1 |>.trans q3) hr hx hB3 (fun ys hy => ownsRow_unique hy.own hB3.own) h4 hg4 hf4
  exact ⟨n4.bodies _, hB4.keep (b := b) ((Keeps.refl (may3 b g N) w4).atG) hb⟩

theorem cutB_of {b N g : Nat} {w : World} {s : ByteArray} {k2 d : Nat} {c k0 : Int} {vs : ByteArray} {ar : ByteArray} {n : Nat} {va : Option Addr} {vc : Nat} {w3 w4 : World} {ba : Option Addr} {bn bm : Nat} {a4 : Option Addr} {m4 : Nat} {xs : List Value}
    (n3 : NS b N g w s k2 true d c k0 0 vs (.slice va n vc) ar w3) (hB3 : BW N g w (.slice va n vc) n xs w3)
    (h4 : w4.ownsRow 0 64 1 (.slice a4 (n + 1) m4) (n + 1) (xs ++ [.slice ba bn bm])) (hg4 : (w3.alloc (.cells #[.slice ba bn bm] 64)).grownBy w4 (Value.slice va n vc).ownBlock) (hf4 : Fresh (w3.alloc (.cells #[.slice ba bn bm] 64)) (.slice va n vc) (.slice a4 (n + 1) m4)) :
    NS b N g w s k2 true d c k0 0 vs (.slice a4 (n + 1) m4) ar (w4.setCell ⟨g, 4, none⟩ (.slice a4 (n + 1) m4)) ∧ BW N g w (.slice a4 (n + 1) m4) (n + 1) (xs ++ [.slice ba bn bm]) (w4.setCell ⟨g, 4, none⟩ (.slice a4 (n + 1) m4)) := by
  have n4 := n3.grow hB3 hg4
  have hb := n3.hb
  have hB4 := hB3.grow h4 hf4 n3.keeps.size n3.nod.lt n3.res.lt
  exact ⟨n4.bodies _, hB4.keep (b := b) ((Keeps.refl (may3 b g N) w4).atG) hb⟩

set_option maxRecDepth 100000 in
set_option maxHeartbeats 8000000 in
theorem sstep_loop (n : Nat) (ih : SBodyOk n) (b : Nat) (s : ByteArray) (k d : Nat) (ar : ByteArray) (w : World) (h : Sd w b s k false d) (hs : s.size ≤ 80) (hc : at? s k = some 42) (har : ar.size ≤ k) (hd : d ≤ 4) (hn : 4 * (s.size - k) + 3 ≤ n + 2)
    (hc1 : at? s (k + 1) = some 91) (x : Nds) (k2 : Nat) (hx : stepsP s n ar.data.toList d 93 (k + 2) = some (x, k2)) :
    Calls Try.prog 72 #[.pointer (some ⟨b, 0, none⟩), .string ar] w (GoodStep b s d w (.mk 42 k k2 [] ar.data.toList (.cons x .nil)) k2) := by
  obtain ⟨i0, hi, hz0, hz1, hz2⟩ := info_parts Try.info64
  have HI := Lib.hid (And.intro hi (And.intro hz0 (And.intro hz1 hz2)))
  have hlt1 := at?_lt hc1
  have HC1 := Lib.hid hc1
  have IH := Lib.hid (fun w1 r => ih b s (k + 2) d ar 93 w1 r hs (by omega) (by omega) hd (by omega))
  have HX := Lib.hid hx
  clear hi hz0 hz1 hz2 ih hn hx hc1
  have c0 := h.c0
  have c1 := h.c1
  have f1 := Blk.free h 1
  have hb := h.lt
  have hb2 : ¬ b = w.heap.size := by omega
  have hb3 : ¬ b = w.heap.size + 1 := by omega
  have hb4 : ¬ b = w.heap.size + 1 + 1 := by omega
  have hb5 : ¬ b = w.heap.size + 2 := by omega
  have hl0 : b ≤ w.heap.size := by omega
  have hl1 : b ≤ w.heap.size + 1 := by omega
  have hl2 : b ≤ w.heap.size + 2 := by omega
  have hl3 : b < w.heap.size + 1 := by omega
  have hl4 : b < w.heap.size + 2 := by omega
  have hl5 : b < w.heap.size + 1 + 1 := by omega
  have hl6 : b < w.heap.size + 3 := by omega
  have hl7 : b < w.heap.size + 1 + 1 + 1 := by omega
  have hlt := at?_lt hc
  have hget := at?_get hc hlt
  have hkz : (k : Int) < 80 := by omega
  go_enter Try.func72, Try.ntmps72
  go_upto_region 1 with fail
  go_cut [5] (fun v5 wc => Cut1 b w s k d 42 ar v5 wc)
  case first =>
    go_region
    all_goals (go_wp2_with fail; go_meet)
    · exact cut1_a b s k d 42 ar w h
    · exact cut1_b b s k d 42 ar w h
  case rest =>
    clear hl0 hl1 hl2 hl3 hl4 hl5 hl6 hl7 hb2 hb3 hb4 hb5 c0 c1 f1 hget hc
    obtain ⟨g, vb, rfl, hns, hown, hfr⟩ := hcut
    obtain ⟨va, vc, rfl⟩ := row_slice (ok := fun _ => True) ⟨hown, fun _ _ => trivial⟩
    have HF := Lib.hid (And.intro hown hfr)
    clear hown hfr
    have e1 : ¬ b = g := by have := hns.hg; omega
    have e2 : ¬ g = b := by omega
    have e3 : ¬ w.heap.size = g := hns.hne
    have e4 : ¬ g = w.heap.size := by omega
    have e5 : ¬ b = w.heap.size := by omega
    have e6 : ¬ w.heap.size = b := by omega
    have n1 := hns.tick
    have d1 := hns.rd.c1
    have x1 := Blk.free hns.rd 1
    have g0 := n1.nod.cell 0
    simp [six] at g0
    go_wp2_with fail
    refine (is_yes b s (k + 1) false d 91 _ n1.rd hs HC1.out).mono ?_
    rintro e w2 ⟨rfl, r, q⟩
    have n2 := n1.moved r q
    have hb0 : BS w.heap.size g w .nil (.slice va 0 vc) 0 wc := ⟨[], ⟨HF.out.1, HF.out.2⟩, rfl⟩
    have hB := hb0.keep (b := b) (((Keeps.refl (may3 b g w.heap.size) wc).atB).trans q.ofOne) hb
    have HBS := Lib.hid hB
    obtain ⟨xs, hBW, _⟩ := hB
    have HBW := Lib.hid hBW
    have HB := Lib.hid (IH.out w2.drew n2.rd)
    rw [HX.out] at HB
    clear hb0 hBW
    have x4 := n2.nod.cell 4
    simp [six] at x4
    have f4 := Blk.free n2.nod 4
    go_wp2_with fail
    obtain ⟨hi, hz0, hz1, hz2⟩ := HI.out
    go_region_law (first
      | (refine step_append_fresh rfl (.tmp 101) (.tmp 105) 59 rfl 64 i0 (.slice none 0 0) 1 24 Try.underlying59 hi hz0 hz1 hz2 rfl (by decide) (.slice va 0 vc) 0 xs (by simp [Act.eval, Act.put]) (HB3.out.own.alloc _) ⟨w3.heap.size, 0, none⟩ 1 1 [.slice ba bn bm] (by simp [Act.eval, Act.put]) rfl (cells_one _ _ _) (slice_oneCell _ _ _) (by unfold maxLen; omega) (by omega) ?_
         intro v4 w4 h4 hg4 hf4
         obtain ⟨a4, m4, rfl⟩ := row_slice (ok := fun _ => True) ⟨h4, fun _ _ => trivial⟩
         have n4 := HN3.out.grow HB3.out hg4
         have y4 : w4.cell? ⟨g, 4, none⟩ = some (.slice va 0 vc) := n4.nod.cell 4
         have z4 := Blk.free n4.nod 4
         have HF4 := Lib.hid (And.intro h4 (And.intro hg4 hf4))
         clear h4 hg4 hf4 n4)
      | (go_simp
         refine (HB.out).mono ?_
         rintro e w3 ⟨ba, bn, bm, cs, ⟨rfl, r3, q3⟩, hr, hx⟩
         have HN3 := Lib.hid ((n2.drewN 1).moved r3 q3)
         have HB3 := Lib.hid (HBW.out.keep (b := b) (((Keeps.refl (may3 b g w.heap.size) w2).drewN 1).trans q3.ofOne) hb)
         have hgl : g < w3.heap.size := HN3.out.nod.lt
         have x4' : w3.cell? ⟨g, 4, none⟩ = some (.slice va 0 vc) := HN3.out.nod.cell 4))
    all_goals
      obtain ⟨h4, hg4, hf4⟩ := HF4.out
      obtain ⟨n5, hS⟩ := cutG_of n2 HBS.out q3 HN3.out HB3.out hr hx h4 hg4 hf4
      have HS := Lib.hid hS
      have pz := n5.rd.c1
      have pw := (HN3.out.grow HB3.out hg4).rd.c1
      clear h4 hg4 hf4 hS hr hx
      have m1 := n5.fin (k2 : Int)
      have m2 := Blk.free n5.nod 2
      have m3 := n5.nod.cell 2
      have y0 := m1.nod.cell 0
      have y1 := m1.nod.cell 1
      have y2 := m1.nod.cell 2
      have y3 := m1.nod.cell 3
      have y4 := m1.nod.cell 4
      have y5 := m1.nod.cell 5
      have r0 := m1.res.cell 0
      have r1 := m1.res.cell 1
      have r2 := m1.res.cell 2
      have r3 := m1.res.cell 3
      have r4 := m1.res.cell 4
      have r5 := m1.res.cell 5
      have z := fun i => Blk.free m1.res i
      have p1 := n5.rd.c1
      simp [six] at m3 y0 y1 y2 y3 y4 y5 r0 r1 r2 r3 r4 r5
      go_wp2_with fail
      obtain ⟨d1, d2, d3, d4⟩ := m1.done
      refine bodyPost_ret (v := nodeV 42 k k2 ⟨#[]⟩ a4 1 m4 ar) (res57 _ _ _ _ _ _ _ _ _ _ _ rfl d1) rfl ?_
      refine ⟨_, _, _, _, _, _, _, _, ⟨rfl, d2, d3⟩, ?_⟩
      exact rep_of (vs := []) (c := 42) (HS.out.keep (b := b) ((Keeps.refl (may3 b g w.heap.size) _).atG) hb) rfl d4 (Nat.le_refl _)

end Go.Proofs.Ytaaphpcbiibpcaa

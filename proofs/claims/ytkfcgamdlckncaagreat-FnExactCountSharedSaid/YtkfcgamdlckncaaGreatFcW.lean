/-
  The program's cleanupAt.
  The program's tail.text.
  The model's l9At.
  The model's faces of tails: TailsOf, CountShared, EntryOf.
  The program's faces of tails: CountShared, TailsOf, EntryOf.
-/
import Derived.Test.YtkfcgamdlckncaaGreatDb
import Derived.Test.YtkfcgamdlckncaaGreatWqV
import Derived.Test.YtkfcgamdlckncaaGreatDg
import Derived.Test.YtkfcgamdlckncaaGreatDe
import Derived.Test.YtkfcgamdlckncaaGreatFjW
import Derived.Test.YtkfcgamdlckncaaGreatFdW
import Derived.LaidEqlPtr
namespace Go.Proofs.YtkfcgamdlckncaaGreat
set_option linter.unusedVariables false
set_option linter.unusedSimpArgs false
open Go.RowKit Go.Shelf

attribute [local go_sem] Oper.semAt_some

/-! ### cleanupAt -/
def cleanAt (x : Nd) (at_ : Int) : Option (List UInt8) := ((exitsL x).find? (fun q => (q.1 : Int) == at_)).map Prod.snd
def noneAt (at_ : Int) (l : List Pt) : Prop := ∀ q ∈ l, ((q.1 : Int) == at_) = false
theorem cleanAt_none {x : Nd} {at_ : Int} (h : noneAt at_ (exitsL x)) : cleanAt x at_ = none := by
  unfold cleanAt
  rw [List.find?_eq_none.2 (fun q hq => by rw [h q hq]; decide)]; rfl
theorem cleanAt_some {x : Nd} {at_ : Int} {pre post : List Pt} {q : Pt} (hall : exitsL x = pre ++ q :: post) (h : noneAt at_ pre) (hq : ((q.1 : Int) == at_) = true) : cleanAt x at_ = some q.2 := by
  unfold cleanAt
  rw [hall, List.find?_append, List.find?_eq_none.2 (fun q hq => by rw [h q hq]; decide), List.find?_cons_of_pos (by simpa using hq)]; rfl
theorem cleanupP_eq {s : ByteArray} {x : Nd} (hp : progP s = some x) (at_ : Int) : cleanupP s at_ = cleanAt x at_ := by unfold cleanupP cleanAt; rw [hp]
theorem cleanAt_fit {s : ByteArray} {x : Nd} (hp : progP s = some x) {at_ : Int} {c : List UInt8} (h : cleanAt x at_ = some c) : c.length ≤ 160 ∧ Pairs c := by
  unfold cleanAt at h
  cases hf : (exitsL x).find? (fun q => (q.1 : Int) == at_) with
  | none => rw [hf] at h; cases h
  | some q =>
    rw [hf] at h
    have e := Option.some.inj h
    have := exits_fit hp (List.mem_of_find?_eq_some hf)
    rw [← e]; exact ⟨this.2.1, this.2.2⟩

theorem resCleanAt (W : World) (A B : Nat) (x : ByteArray) (b : Bool) (tmps : Array Value) (h4 : tmps.getD 4 undef = .pointer (some ⟨A, 0, none⟩)) (h5 : tmps.getD 5 undef = .pointer (some ⟨B, 0, none⟩)) (ha : W.cell? ⟨A, 0, none⟩ = some (.string x)) (hb : W.cell? ⟨B, 0, none⟩ = some (.bool b)) :
    (results Tryz.f24 tmps).run Tryz.prog W = .ok (.tuple #[.string x, .bool b]) W := by
  have h4' : tmps[4]?.getD undef = .pointer (some ⟨A, 0, none⟩) := by simpa using h4
  have h5' : tmps[5]?.getD undef = .pointer (some ⟨B, 0, none⟩) := by simpa using h5
  simp [results, Tryz.results24, go_sem, h4', h5', ha, hb]

/-- The three boxes of cleanupAt behind its begin. -/
theorem three_clean (w : World) (at_ : Int) : Blk (((w.alloc (.cells #[.int .i64 at_] 3)).alloc (.cells #[.string ⟨#[]⟩] 9)).alloc (.cells #[.bool false] 4)) w.heap.size #[.int .i64 at_] 3 ∧
    Blk (((w.alloc (.cells #[.int .i64 at_] 3)).alloc (.cells #[.string ⟨#[]⟩] 9)).alloc (.cells #[.bool false] 4)) (w.heap.size + 1) #[.string ⟨#[]⟩] 9 ∧
    Blk (((w.alloc (.cells #[.int .i64 at_] 3)).alloc (.cells #[.string ⟨#[]⟩] 9)).alloc (.cells #[.bool false] 4)) (w.heap.size + 2) #[.bool false] 4 ∧
    (((w.alloc (.cells #[.int .i64 at_] 3)).alloc (.cells #[.string ⟨#[]⟩] 9)).alloc (.cells #[.bool false] 4)).heap.size = w.heap.size + 3 ∧
    Keeps noB w (((w.alloc (.cells #[.int .i64 at_] 3)).alloc (.cells #[.string ⟨#[]⟩] 9)).alloc (.cells #[.bool false] 4)) := by
  have b0 := ((Blk.new w #[.int .i64 at_] 3).alloc (.cells #[.string ⟨#[]⟩] 9)).alloc (.cells #[.bool false] 4)
  have b1 := (Blk.new (w.alloc (.cells #[.int .i64 at_] 3)) #[.string ⟨#[]⟩] 9).alloc (.cells #[.bool false] 4)
  have b2 := Blk.new ((w.alloc (.cells #[.int .i64 at_] 3)).alloc (.cells #[.string ⟨#[]⟩] 9)) #[.bool false] 4
  rw [World.size_alloc] at b1
  rw [World.size_alloc, World.size_alloc] at b2
  exact ⟨b0, b1, b2, by simp, (((Keeps.refl _ _).alloc _).alloc _).alloc _⟩

/-- Two stores into the two boxes of results. -/
def put2c (W : World) (A B : Nat) (x : ByteArray) (b : Bool) : World := (W.setCell ⟨A, 0, none⟩ (.string x)).setCell ⟨B, 0, none⟩ (.bool b)
theorem put2c_ok {W : World} {A B : Nat} {x0 : ByteArray} {b0 : Bool} (hA : Blk W A #[.string x0] 9) (hB : Blk W B #[.bool b0] 4) (hn : A ≠ B) (x : ByteArray) (b : Bool) :
    Blk (put2c W A B x b) A #[.string x] 9 ∧ Blk (put2c W A B x b) B #[.bool b] 4 ∧ Keeps (twoB A B) W (put2c W A B x b) := by
  unfold put2c
  have c1 : Blk (W.setCell ⟨A, 0, none⟩ (.string x)) A #[.string x] 9 := by simpa using hA.set 0 (.string x)
  have c2 := hB.setOther (a := ⟨A, 0, none⟩) hn (.string x)
  have d1 := c1.setOther (a := ⟨B, 0, none⟩) hn.symm (.bool b)
  have d2 : Blk ((W.setCell ⟨A, 0, none⟩ (.string x)).setCell ⟨B, 0, none⟩ (.bool b)) B #[.bool b] 4 := by simpa using c2.set 0 (.bool b)
  exact ⟨d1, d2, ((Keeps.refl _ _).setCell (p := ⟨A, 0, none⟩) (.inl (show twoB A B A from .inl rfl)) _).setCell (p := ⟨B, 0, none⟩) (.inl (show twoB A B B from .inr rfl)) _⟩

set_option maxRecDepth 100000 in
set_option maxHeartbeats 4000000 in
theorem cleanupAt_any {s : ByteArray} {x : Nd} {b0 R Q C mm : Nat} {wx w : World} (hok : ExitsOk s x b0 R Q wx) (qx : Keeps noB wx w) (hbC : Blk w C (cleanC R Q mm) 74) (at_ : Int) :
    Calls Tryz.prog 24 #[.pointer (some ⟨C, 0, none⟩), .int .i64 at_] w (fun e w' => e = .returned (.tuple #[.string ⟨((cleanAt x at_).getD []).toArray⟩, .bool (cleanAt x at_).isSome]) ∧ Keeps noB w w') := by
  refine (callsIn_wide (n := 9)).1 ?_
  obtain ⟨F, hF⟩ : ∃ F, F = Fence.wide := ⟨_, rfl⟩
  have hFf : ∀ f, F.fn f := by subst hF; exact fun _ => trivial
  have hdd : ∀ k : Nat, (F.depth.isSome = true → 1 ≤ k) := by subst hF; intro k h; simp [Fence.wide] at h
  have hro : F.round = none := by subst hF; rfl
  have hds : F.depth.isSome = false := by subst hF; rfl
  have HOK := Lib.hid hok
  have HQX := Lib.hid qx
  rw [← hF]
  have HF := Lib.hid hF
  clear hF
  refine callsIn_of_wp_marks Tryz.func24 rfl (hFf _) ?_ hro
  simp only [Tryz.ntmps24, List.size_toArray, List.length_cons, List.length_nil, Nat.reduceAdd, Nat.reduceSub, Array.replicate_succ, Array.replicate_zero, List.push_toArray, List.append_toArray, List.nil_append, List.cons_append]
  obtain ⟨c0, c1, c2, t3, t4⟩ := three_clean w at_
  obtain ⟨M, hM⟩ : ∃ M, M = w.heap.size := ⟨_, rfl⟩
  have hlC := hbC.lt
  have hxs := qx.size
  have rC : (((w.alloc (.cells #[.int .i64 at_] 3)).alloc (.cells #[.string ⟨#[]⟩] 9)).alloc (.cells #[.bool false] 4)).cell? ⟨C, 0, none⟩ = some (.func (.func 44) #[] #[.pointer (some ⟨R, 0, none⟩), .pointer (some ⟨Q, 0, none⟩)]) := ((t4.blk hbC id).cell 0).trans rfl
  clear hok qx hbC
  gi_wp2
  generalize ((w.alloc (.cells #[.int .i64 at_] 3)).alloc (.cells #[.string ⟨#[]⟩] 9)).alloc (.cells #[.bool false] 4) = w2 at *
  rw [← hM] at c0 c1 c2 t3 hlC hxs ⊢
  have HK1 := Lib.hid (And.intro t4 hM)
  clear t4 hM rC
  refine wp_range HF.out (gf := 44) (lb := #[ptr R, ptr Q]) (all := exitsL x) (enc := encX) (prot := between b0 wx) (own := twoB (M + 1) (M + 2))
    rfl (enters_of Tryz.func44 (by kernel_rfl) rfl)
    (fun W q => HOK.out.iterM (may := noB) (fun _ _ e => e) W ((HQX.out.trans HK1.out.1).trans q))
    (fun pre own W' => own = twoB (M + 1) (M + 2) ∧ Owns (twoB (M + 1) (M + 2)) own w2 W' ∧ Blk W' (M + 1) #[.string ⟨#[]⟩] 9 ∧ Blk W' (M + 2) #[.bool false] 4 ∧ noneAt at_ pre) (fun c pre own W' => c = .ret ∧ Owns (twoB (M + 1) (M + 2)) own w2 W' ∧ ∃ pr q, pre = pr ++ [q] ∧ noneAt at_ pr ∧ ((q.1 : Int) == at_) = true ∧ Blk W' (M + 1) #[.string ⟨q.2.toArray⟩] 9 ∧ Blk W' (M + 2) #[.bool true] 4) ?hI ?hIx ?hown ?hprot ?hps ?h0 ?hround ?hdone ?hstop
  case hI =>
    rintro pre own W W' ⟨rfl, h3, h4, h5, h6⟩ q
    exact ⟨rfl, h3.ahead q (fun i e => e.1), q.blk h4 (fun e => by have := e.1; omega), q.blk h5 (fun e => by have := e.1; omega), h6⟩
  case hIx =>
    rintro c pre own W W' ⟨h0, h3, pr, qq, e1, e2, e3, h4, h5⟩ q
    exact ⟨h0, h3.ahead q (fun i e => e.1), pr, qq, e1, e2, e3, q.blk h4 (fun e => by have := e.1; omega), q.blk h5 (fun e => by have := e.1; omega)⟩
  case hown => rintro k (rfl | rfl) <;> omega
  case hprot => intro k hk; exact ⟨fun e => by have := hk.2; rcases e with e | e <;> omega, by have := hk.2; omega⟩
  case hps => rintro y args rfl; rfl
  case h0 => exact ⟨rfl, Owns.refl (by rintro k (rfl | rfl) <;> omega), c1, c2, fun p hp => by cases hp⟩
  case hround =>
    rintro l n pre p post args own1 W1 hall henc ⟨rfl, ho1, hb1, hb2, hpre⟩ hlt hl hnl hll
    unfold encX at henc
    subst henc
    clear hall
    gi_wp2
    refine ⟨Keeps.refl _ _, fun W3 q3 hs3 => ?_⟩
    clear hs3
    have hk13 : Keeps (fun k => w2.heap.size ≤ k ∧ ¬ twoB (M + 1) (M + 2) k) W1 W3 := q3.mono (fun k e => by obtain rfl : k = l := e; exact ⟨hl, hnl⟩)
    have ho3 := ho1.ahead hk13 (fun i e => e.1)
    have d0 : Blk W3 M #[.int .i64 at_] 3 := ho3.keeps.blk c0 (fun e => by rcases e with e | e <;> omega)
    have d1 := hk13.blk hb1 (fun e => by have := e.1; omega)
    have d2 := hk13.blk hb2 (fun e => by have := e.1; omega)
    have y0 := d0.cell 0
    have y1 := d1.cell 0
    have z1 := d1.free 0
    have y2 := d2.cell 0
    have z2 := d2.free 0
    simp at y0 y1 y2
    cases hkk : ((p.1 : Int) == at_) with
    | true =>
      obtain ⟨f1, f2, f3⟩ := put2c_ok d1 d2 (by omega) ⟨p.2.toArray⟩ true
      have HE : Hid (Owns (twoB (M + 1) (M + 2)) (twoB (M + 1) (M + 2)) W3 (put2c W3 (M + 1) (M + 2) ⟨p.2.toArray⟩ true) ∧ Owns (twoB (M + 1) (M + 2)) (twoB (M + 1) (M + 2)) w2 (put2c W3 (M + 1) (M + 2) ⟨p.2.toArray⟩ true) ∧ Blk (put2c W3 (M + 1) (M + 2) ⟨p.2.toArray⟩ true) (M + 1) #[.string ⟨p.2.toArray⟩] 9 ∧ Blk (put2c W3 (M + 1) (M + 2) ⟨p.2.toArray⟩ true) (M + 2) #[.bool true] 4) := by
        have hk : Owns (twoB (M + 1) (M + 2)) (twoB (M + 1) (M + 2)) W3 (put2c W3 (M + 1) (M + 2) ⟨p.2.toArray⟩ true) := ⟨fun k e => .inl e, fun k e => Nat.lt_of_lt_of_le (ho3.lt k e) f3.size, f3⟩
        exact ⟨hk, ho3.trans hk, f1, f2⟩
      have HPRE := Lib.hid hpre
      clear f1 f2 f3 d0 d1 d2 ho3 hk13 ho1 hb1 hb2
      gi_wp2
      exact ⟨_, HE.out.1, rfl, HE.out.2.1, pre, p, rfl, HPRE.out, hkk, HE.out.2.2.1, HE.out.2.2.2⟩
    | false =>
      have HE : Hid (Owns (twoB (M + 1) (M + 2)) (twoB (M + 1) (M + 2)) W3 W3 ∧ (Owns (twoB (M + 1) (M + 2)) (twoB (M + 1) (M + 2)) w2 W3 ∧ Blk W3 (M + 1) #[.string ⟨#[]⟩] 9 ∧ Blk W3 (M + 2) #[.bool false] 4 ∧ noneAt at_ (pre ++ [p]))) := by
        refine ⟨Owns.refl ho3.lt, ho3, d1, d2, fun q hq => ?_⟩
        rcases List.mem_append.1 hq with hq | hq
        · exact hpre q hq
        · simp at hq; subst hq; exact hkk
      clear d0 d1 d2 ho3 hk13 ho1 hb1 hb2
      gi_wp2
      exact ⟨_, HE.out.1, rfl, HE.out.2⟩
  case hdone =>
    rintro D own' W' hb ⟨rfl, ho, hb1, hb2, hno⟩
    have hn := hb.new
    have hDl : D < W'.heap.size := (Array.getElem?_eq_some_iff.1 hb.none).1
    obtain ⟨f1, f2, f3⟩ := put2c_ok hb1 hb2 (by omega) ⟨#[]⟩ false
    have HNIL := Lib.hid (cleanAt_none hno)
    have HD : Hid ((put2c W' (M + 1) (M + 2) ⟨#[]⟩ false).heap[D]? = some (.deferred (some []))) := (f3.block D hDl (fun e => by rcases e with e | e <;> omega)).trans hb.none
    have HE : Hid (∀ W2, Keeps (fun k => k ∈ [D]) (put2c W' (M + 1) (M + 2) ⟨#[]⟩ false) W2 → W2.cell? ⟨M + 1, 0, none⟩ = some (.string ⟨#[]⟩) ∧ W2.cell? ⟨M + 2, 0, none⟩ = some (.bool false) ∧ Keeps noB w W2) := fun W2 q => by
      have e1 := HK1.out.2
      exact ⟨((q.blk f1 (fun e => by simp at e; omega)).cell 0).trans rfl, ((q.blk f2 (fun e => by simp at e; omega)).cell 0).trans rfl, ((HK1.out.1.transNew ho.keeps (fun i hi e => by rcases e with e | e <;> omega)).transNew f3 (fun i hi e => by rcases e with e | e <;> omega)).transNew q (fun i hi e => by simp at e; omega)⟩
    have y1 := hb1.cell 0
    have z1 := hb1.free 0
    have y2 := hb2.cell 0
    have z2 := hb2.free 0
    simp at y1 y2
    clear f1 f2 f3 hb1 hb2 ho hb hno
    dsimp only
    gi_wp2
    refine leaves_marks [D] _ (by simp) (fun D' hD' => by simp at hD'; subst hD'; exact HD.out) (fun W2 q _ => ?_)
    obtain ⟨e1, e2, e3⟩ := HE.out W2 q
    refine ⟨_, resCleanAt W2 _ _ _ _ _ rfl rfl e1 e2, ?_, e3⟩
    rw [HNIL.out]; rfl
  case hstop =>
    rintro D c pre post own' W' hb hall ⟨rfl, ho, pr, qq, rfl, hpr, hqq, hb1, hb2⟩
    have HS : Hid (cleanAt x at_ = some qq.2) := cleanAt_some (by rw [hall, List.append_assoc]; rfl) hpr hqq
    have hn := hb.new
    have HE : Hid (∀ W2, Keeps (fun k => k ∈ [D]) W' W2 → W2.cell? ⟨M + 1, 0, none⟩ = some (.string ⟨qq.2.toArray⟩) ∧ W2.cell? ⟨M + 2, 0, none⟩ = some (.bool true) ∧ Keeps noB w W2) := fun W2 q => by
      have e1 := HK1.out.2
      exact ⟨((q.blk hb1 (fun e => by simp at e; omega)).cell 0).trans rfl, ((q.blk hb2 (fun e => by simp at e; omega)).cell 0).trans rfl, (HK1.out.1.transNew ho.keeps (fun i hi e => by rcases e with e | e <;> omega)).transNew q (fun i hi e => by simp at e; omega)⟩
    have HD := Lib.hid hb.none
    clear hb1 hb2 ho hb hall
    dsimp only
    gi_wp2
    refine leaves_marks [D] _ (by simp) (fun D' hD' => by simp at hD'; subst hD'; exact HD.out) (fun W2 q _ => ?_)
    obtain ⟨e1, e2, e3⟩ := HE.out W2 q
    refine ⟨_, resCleanAt W2 _ _ _ _ _ rfl rfl e1 e2, ?_, e3⟩
    rw [HS.out]; rfl

end Go.Proofs.YtkfcgamdlckncaaGreat

namespace Go.Proofs.YtkfcgamdlckncaaGreat
set_option linter.unusedVariables false
set_option linter.unusedSimpArgs false
open Go.RowKit Go.Maps Go.WideMaps

attribute [local go_sem] Oper.semAt_some

/-! ### meeting -/
/-! ### text -/
theorem execOp_convert {P : Program} {a : Act} {o : Oper} {W : World} {t1 t2 : TypeId} {x : Operand} (ho : o.op = .convert t1 t2 x) (vx : Value) (hx : a.eval x = vx) (v : Value) (hr : (convert t1 t2 vx).run P W = .ok v W) : (execOp a.eval o).run P W = .ok (.value v) W := by
  unfold execOp
  simp only [ho, hx, Sem.run_bind, Sem.run_pure, hr, Result.andThen_ok]

theorem conv_two {W : World} {g : Nat} {a v : UInt8} (h0 : W.cell? ⟨g, 0, none⟩ = some (.int .u8 (a.toNat : Int))) (h1 : W.cell? ⟨g, 1, none⟩ = some (.int .u8 (v.toNat : Int))) :
    (convert 80 9 (.slice (some ⟨g, 0, none⟩) 2 2)).run Tryz.prog W = .ok (.string ⟨#[a, v]⟩) W := by
  have h := fun hh => run_convert_bytes_back (P := Tryz.prog) W 80 9 5 ⟨g, 0, none⟩ 2 [a, v] Tryz.underlying80 Tryz.underlying5 Tryz.underlying9 hh
  refine h (fun j hj => ?_)
  match j, hj with
  | 0, _ => exact h0
  | 1, _ => exact h1
  | j + 2, hj => simp at hj; omega

def TextOk (n : Nat) : Prop := ∀ (t : List UInt8) (w : World) (lo m N : Nat) (A : TailM), t.length = n → n ≤ 1000 → Pairs t → TailsAt w lo m N A → (t = [] ∨ (A t).isSome) →
  Calls Tryz.prog 19 #[tailV A t] w (fun e w' => e = .returned (.string ⟨t.toArray⟩) ∧ Keeps noB w w')

theorem resText (W : World) (v : Value) (tmps : Array Value) (h2 : tmps.getD 2 undef = v) : (results Tryz.f19 tmps).run Tryz.prog W = .ok v W := by
  have h2' : tmps[2]?.getD undef = v := by simpa using h2
  simp [results, Tryz.results19, go_sem, h2']

set_option maxRecDepth 100000 in
set_option maxHeartbeats 4000000 in
theorem text_ok (n : Nat) (ih : ∀ k, k < n → TextOk k) : TextOk n := by
  intro t w lo m N A htn hn hpr hT hs
  match t, htn, hpr, hs with
  | [], htn, hpr, hs =>
    have e : tailV A [] = .pointer none := by unfold tailV; rw [hT.nil]; rfl
    rw [e]
    clear ih hT
    go_enter Tryz.func19, Tryz.ntmps19
    go_wp2
    go_ret
    exact ⟨rfl, Keeps.refl _ _⟩
  | [a], htn, hpr, hs => exact absurd hpr (by unfold Pairs; simp)
  | a :: v :: r, htn, hpr, hs =>
    have hrp : Pairs r := by unfold Pairs at hpr ⊢; simp only [List.length_cons] at hpr; omega
    have hrl : r.length + 2 = n := by simpa using htn
    rcases hs with hs | hs
    · cases hs
    · cases hA : A (a :: v :: r) with
      | none => rw [hA] at hs; cases hs
      | some g =>
        obtain ⟨c', v', r', hcv, _, _, hb, hsr⟩ := hT.node _ _ hA
        obtain ⟨rfl, rfl, rfl⟩ : a = c' ∧ v = v' ∧ r = r' := by simpa using hcv
        have HI : Hid (∀ W, Keeps noB w W → Calls Tryz.prog 19 #[tailV A r] W (fun e w' => e = .returned (.string ⟨r.toArray⟩) ∧ Keeps noB w w')) := fun W q =>
          (ih r.length (by omega) r W lo m N A rfl (by omega) hrp (hT.quiet q) hsr).mono (fun e w' h => ⟨h.1, q.trans h.2⟩)
        have e : tailV A (a :: v :: r) = .pointer (some ⟨g, 0, none⟩) := by unfold tailV; rw [hA]; rfl
        rw [e]
        have HB := Lib.hid hb
        unfold tailV at HB HI
        generalize (A r).map (fun g => (⟨g, 0, none⟩ : Addr)) = pr at *
        clear ih hT hs hcv hb hsr hpr hrp htn e hA
        refine (callsIn_wide (n := 9)).1 ?_
        obtain ⟨F, hF⟩ : ∃ F, F = Fence.wide := ⟨_, rfl⟩
        have hFf : ∀ f, F.fn f := by subst hF; exact fun _ => trivial
        have hdd : ∀ k : Nat, (F.depth.isSome = true → 1 ≤ k) := by subst hF; intro k h; simp [Fence.wide] at h
        have hro : F.round = none := by subst hF; rfl
        have hds : F.depth.isSome = false := by subst hF; rfl
        rw [← hF]
        have HF := Lib.hid hF
        clear hF
        have HIC : Hid (∀ n' W, Keeps noB w W → CallsIn F n' Tryz.prog 19 #[.pointer pr] W (fun e w' => e = .returned (.string ⟨r.toArray⟩) ∧ Keeps noB w w')) := fun n' W q => by rw [HF.out]; exact callsIn_wide.2 (HI.out W q)
        have HL : Hid (∀ W, Keeps noB w W → W.cell? ⟨g, 0, none⟩ = some (.int .u8 (a.toNat : Int)) ∧ W.cell? ⟨g, 1, none⟩ = some (.int .u8 (v.toNat : Int)) ∧ W.cell? ⟨g, 2, none⟩ = some (.pointer pr)) := fun W q =>
          ⟨((q.blk HB.out id).cell 0).trans rfl, ((q.blk HB.out id).cell 1).trans rfl, ((q.blk HB.out id).cell 2).trans rfl⟩
        refine callsIn_of_wp_marks Tryz.func19 rfl (hFf _) ?_ hro
        simp only [Tryz.ntmps19, List.size_toArray, List.length_cons, List.length_nil, Nat.reduceAdd, Nat.reduceSub, Array.replicate_succ, Array.replicate_zero, List.push_toArray, List.append_toArray, List.nil_append, List.cons_append]
        gi_wp2
        refine wpIn_region_seqP (fun W => Keeps noB w W) [(0, true), (1, true), (2, true), (3, true), (4, true), (5, true), (6, true), (7, true), (8, true), (9, false), (10, true), (11, true)] hro hFf (by kernel_rfl) (by kernel_rfl) (by kernel_rfl) rfl (by kernel_rfl) ((Keeps.refl _ _).drew) ?_
        refine seqH_take (.pointer (some ⟨g, 0, none⟩)) rfl rfl (fun W4 q4 => by obtain ⟨f0, f1, f2⟩ := HL.out W4 q4; go_simp) (fun K hK => ?_)
        go_simp
        refine hK _ ?_
        clear hK K
        refine seqH_take (.pointer (some ⟨g, 0, none⟩)) rfl rfl (fun W4 q4 => by obtain ⟨f0, f1, f2⟩ := HL.out W4 q4; go_simp) (fun K hK => ?_)
        go_simp
        refine hK _ ?_
        clear hK K
        refine seqH_take (.pointer (some ⟨g, 0, none⟩)) rfl rfl (fun W4 q4 => by obtain ⟨f0, f1, f2⟩ := HL.out W4 q4; go_simp) (fun K hK => ?_)
        go_simp
        refine hK _ ?_
        clear hK K
        refine seqH_take (.slice (some ⟨g, 0, none⟩) 2 2) rfl rfl (fun W4 q4 => by obtain ⟨f0, f1, f2⟩ := HL.out W4 q4; go_simp) (fun K hK => ?_)
        go_simp
        refine hK _ ?_
        clear hK K
        refine seqH_take (.string ⟨#[a, v]⟩) rfl rfl (fun W4 q4 => by obtain ⟨f0, f1, f2⟩ := HL.out W4 q4; exact execOp_convert rfl _ rfl _ (conv_two f0 f1)) (fun K hK => ?_)
        go_simp
        refine hK _ ?_
        clear hK K
        refine seqH_take (.pointer (some ⟨g, 0, none⟩)) rfl rfl (fun W4 q4 => by obtain ⟨f0, f1, f2⟩ := HL.out W4 q4; go_simp) (fun K hK => ?_)
        go_simp
        refine hK _ ?_
        clear hK K
        refine seqH_take (.pointer (some ⟨g, 0, none⟩)) rfl rfl (fun W4 q4 => by obtain ⟨f0, f1, f2⟩ := HL.out W4 q4; go_simp) (fun K hK => ?_)
        go_simp
        refine hK _ ?_
        clear hK K
        refine seqH_take (.pointer (some ⟨g, 2, none⟩)) rfl rfl (fun W4 q4 => by obtain ⟨f0, f1, f2⟩ := HL.out W4 q4; go_simp) (fun K hK => ?_)
        go_simp
        refine hK _ ?_
        clear hK K
        refine seqH_take (.pointer pr) rfl rfl (fun W4 q4 => by obtain ⟨f0, f1, f2⟩ := HL.out W4 q4; go_simp) (fun K hK => ?_)
        go_simp
        refine hK _ ?_
        clear hK K
        refine seqH_loud rfl (fun K hK => ?_)
        gi_wp2
        refine CallsIn.mono (HIC.out _ _ ((Keeps.refl _ _).drew)) ?_
        rintro e W4 ⟨rfl, q4⟩
        have Q4 := Lib.hid q4
        clear q4
        gi_wp2
        refine hK _ _ Q4.out ?_
        clear hK K
        obtain ⟨RB, hRB⟩ : ∃ RB : ByteArray, ⟨r.toArray⟩ = RB := ⟨_, rfl⟩
        have hRs : RB.size = r.length := by rw [← hRB]; simp [ByteArray.size]
        have hRl : RB.size ≤ 1000 := by omega
        have HRB : Hid ((⟨#[a, v]⟩ : ByteArray) ++ RB = ⟨(a :: v :: r).toArray⟩) := Lib.hid (by
          rw [← hRB]; apply ByteArray.ext; rw [ByteArray.data_append]; simp)
        rw [hRB]
        have h2 : (⟨#[a, v]⟩ : ByteArray).size = 2 := rfl
        obtain ⟨AV, hAV⟩ : ∃ AV : ByteArray, ⟨#[a, v]⟩ = AV := ⟨_, rfl⟩
        rw [hAV] at HRB h2 ⊢
        clear hRB hRs hAV hrl
        have hsum : ¬ 9223372036854775807 < AV.size + RB.size := by omega
        refine seqH_take (.string (AV ++ RB)) rfl rfl (fun W4 q4 => by go_simp; omega) (fun K hK => ?_)
        go_simp
        refine hK _ ?_
        clear hK K
        refine seqH_take (.string (AV ++ RB)) rfl rfl (fun W4 q4 => by go_simp) (fun K hK => ?_)
        go_simp
        refine hK _ ?_
        clear hK K
        simp only [wpSeqH, noPanic]
        gi_wp2
        refine leaves_marks [] _ List.nodup_nil (fun _ h => by cases h) (fun W' q _ => ?_)
        exact ⟨_, resText W' (.string (AV ++ RB)) _ rfl, by rw [HRB.out], Q4.out.trans (q.mono (fun _ e => by cases e))⟩

theorem text_all (n : Nat) : TextOk n := Nat.strongRecOn n (fun n ih => text_ok n ih)

end Go.Proofs.YtkfcgamdlckncaaGreat

namespace Go.Proofs.YtkfcgamdlckncaaGreat
set_option linter.unusedVariables false
set_option linter.unusedSimpArgs false
open Go.RowKit

/-! ### l9At, CleanupOf -/
def findC (l : List Pt) (at_ : Int) : Option (List UInt8) := (l.find? (fun q => (q.1 : Int) == at_)).map Prod.snd
theorem cleanupP_find (s : ByteArray) (at_ : Int) : cleanupP s at_ = findC ((exitsP s).getD []) at_ := by
  unfold cleanupP findC exitsP
  cases progP s <;> rfl

theorem resL9At (W : World) (v b : Value) (tmps : Array Value) (h4 : tmps.getD 4 undef = v) (h5 : tmps.getD 5 undef = b) : (results Tryz.f22 tmps).run Tryz.prog W = .ok (.tuple #[v, b]) W := by
  have h4' : tmps[4]?.getD undef = v := by simpa using h4
  have h5' : tmps[5]?.getD undef = b := by simpa using h5
  simp [results, Tryz.results22, go_sem, h4', h5']

/-- What the loop of l9At holds. -/
def L9At (w2 : World) (l : List Pt) (at_ : Int) (vi : Value) (wr : World) : Prop :=
  ∃ (done todo : List Pt), l = done ++ todo ∧ vi = .int .i64 done.length ∧ wr = w2 ∧ ∀ q ∈ done, ((q.1 : Int) == at_) = false

theorem findC_none {l : List Pt} {at_ : Int} (h : ∀ q ∈ l, ((q.1 : Int) == at_) = false) : findC l at_ = none := by
  unfold findC
  rw [List.find?_eq_none.2 (fun q hq => by rw [h q hq]; decide)]; rfl
theorem findC_some {l : List Pt} {at_ : Int} {pre post : List Pt} {q : Pt} (hall : l = pre ++ q :: post) (h : ∀ q ∈ pre, ((q.1 : Int) == at_) = false) (hq : ((q.1 : Int) == at_) = true) : findC l at_ = some q.2 := by
  unfold findC
  rw [hall, List.find?_append, List.find?_eq_none.2 (fun q hq => by rw [h q hq]; decide), List.find?_cons_of_pos (by simpa using hq)]; rfl

def CleanEnds (w : World) (r : Option (List UInt8)) (e : Ending) (w' : World) : Prop := e = .returned (.tuple #[.string ⟨(r.getD []).toArray⟩, .bool r.isSome]) ∧ Keeps noB w w'

theorem exitsP_few (s : ByteArray) : ((exitsP s).getD []).length ≤ 80 := by
  unfold exitsP
  cases hp : progP s with
  | none => exact Nat.zero_le _
  | some x => exact exits_few hp

set_option maxRecDepth 100000 in
set_option maxHeartbeats 4000000 in
theorem l9At_any (s : ByteArray) (hs : s.size ≤ 1048576) (at_ : Int) (w : World) : Calls Tryz.prog 22 #[.string s, .int .i64 at_] w (CleanEnds w (cleanupP s at_)) := by
  rw [cleanupP_find]
  have H := Lib.hid (sexits_any s hs w)
  have hfew := exitsP_few s
  generalize exitsP s = res at *
  obtain ⟨l, hl⟩ : ∃ l, res.getD [] = l := ⟨_, rfl⟩
  unfold ExitsPostS at H
  rw [hl] at hfew H ⊢
  obtain ⟨n, hn⟩ : ∃ n, n = l.length := ⟨_, rfl⟩
  rw [← hn] at H hfew
  have HN := Lib.hid hn
  have hn80 : n ≤ 80 := hfew
  rcases Nat.eq_zero_or_pos n with h0 | hpos
  · have HNO : Hid (findC l at_ = none) := Lib.hid (by
      have : l = [] := List.length_eq_zero_iff.1 (by omega)
      rw [this]; rfl)
    subst h0
    clear hn hl hfew
    go_enter Tryz.func22, Tryz.ntmps22
    go_wp2_with fail
    refine H.out.mono ?_
    rintro e w2 ⟨v1, v2, rfl, hr1, hr2, q2⟩
    obtain ⟨a1, k1, rfl⟩ := row_shape hr1
    obtain ⟨a2, k2, rfl⟩ := row_shape hr2
    have HQ := Lib.hid q2
    clear hr1 hr2 q2
    generalize res.isSome = bv at *
    go_upto_region 3 with fail
    go_loopw [19] (fun vi wr => vi = .int .i64 0 ∧ wr = w2) (fun _ _ => 0)
    case atStart => exact ⟨rfl, rfl⟩
    case round =>
      obtain ⟨rfl, rfl⟩ := hrel
      go_wp2_with fail
      refine bodyPost_ret (resL9At _ (.string ⟨#[]⟩) (.bool false) _ rfl rfl) rfl ?_
      rw [HNO.out]
      exact ⟨rfl, HQ.out⟩
  · obtain ⟨RES, hRES⟩ : ∃ RES, findC l at_ = RES := ⟨_, rfl⟩
    rw [hRES]
    have HRES := Lib.hid hRES
    clear hn hl hfew hRES
    go_enter Tryz.func22, Tryz.ntmps22
    go_wp2_with fail
    refine H.out.mono ?_
    rintro e w2 ⟨v1, v2, rfl, hr1, hr2, q2⟩
    obtain ⟨g1, k1, rfl, hb1, hg1, hcell1⟩ := row_get hr1 hpos
    obtain ⟨g2, k2, rfl, hb2, hg2, hcell2⟩ := row_get hr2 hpos
    have HW : Hid (Keeps noB w w2 ∧ n = l.length ∧ (∀ j u, (begC l)[j]? = some u → w2.cell? ⟨g1, j, none⟩ = some u) ∧ (∀ j u, (clnC l)[j]? = some u → w2.cell? ⟨g2, j, none⟩ = some u)) := ⟨q2, HN.out, hcell1, hcell2⟩
    clear hr1 hr2 q2 hcell1 hcell2 hg1 hg2 hb1 hb2
    generalize res.isSome = bv at *
    go_upto_region 3 with fail
    go_loopw [19] (fun vi wr => L9At w2 l at_ vi wr) (fun vi _ => n - (intOf vi).toNat)
    case atStart => exact ⟨[], l, rfl, rfl, rfl, fun p hp => by cases hp⟩
    case round =>
      obtain ⟨done, todo, hpt, rfl, rfl, hno0⟩ := hrel
      have hno := Lib.hid hno0
      clear hno0
      have hpl := congrArg List.length hpt
      rw [List.length_append, ← HW.out.2.1] at hpl
      cases todo with
      | nil =>
        have hd : ¬ done.length < n := by simp at hpl; omega
        rw [List.append_nil] at hpt
        have HR : Hid (RES = none) := Lib.hid (by rw [← HRES.out]; exact findC_none (by rw [hpt]; exact hno.out))
        clear hpt hpl hno
        go_wp2_with fail
        refine bodyPost_ret (resL9At _ (.string ⟨#[]⟩) (.bool false) _ rfl rfl) rfl ?_
        rw [HR.out]
        exact ⟨rfl, HW.out.1⟩
      | cons p todo =>
        have hd : done.length < n := by simp at hpl; omega
        have s1 := HW.out.2.2.1 done.length (.int .i64 (p.1 : Int)) (by rw [hpt]; simp [begC, i64])
        have s2 := HW.out.2.2.2 done.length (.string ⟨p.2.toArray⟩) (by rw [hpt]; simp [clnC])
        have HNX : Hid ((((p.1 : Int) == at_)) = false → L9At wr l at_ (.int .i64 ((done.length : Int) + 1)) wr) := fun h => by
          refine ⟨done ++ [p], todo, by rw [hpt]; simp, by simp, rfl, fun q hq => ?_⟩
          rcases List.mem_append.1 hq with hq | hq
          · exact hno.out q hq
          · simp at hq; subst hq; exact h
        have HH : Hid (((p.1 : Int) == at_) = true → RES = some p.2) := fun h1 => by rw [← HRES.out]; exact findC_some hpt hno.out h1
        clear hpt hpl hno
        cases hkk : ((p.1 : Int) == at_) with
        | true =>
          have HR := Lib.hid (HH.out hkk)
          clear HNX HH
          go_wp2_with fail
          refine bodyPost_ret (resL9At _ (.string ⟨p.2.toArray⟩) (.bool true) _ rfl rfl) rfl ?_
          rw [HR.out]
          exact ⟨rfl, HW.out.1⟩
        | false =>
          have HN := Lib.hid (HNX.out hkk)
          clear HNX HH
          go_wp2_with fail
          go_roundw
          case rel => exact HN.out
          case measure => simp [intOf]; omega

end Go.Proofs.YtkfcgamdlckncaaGreat

namespace Go.Proofs.YtkfcgamdlckncaaGreat
set_option linter.unusedVariables false
set_option linter.unusedSimpArgs false
open Go.RowKit

def tailsP (s : ByteArray) : Option (List (List UInt8)) := (exitsP s).map (fun l => tailsL (l.map Prod.snd))
def sharedP (s : ByteArray) : Int := match tailsP s with | none => -1 | some l => (l.length : Int)
def entryP (s : ByteArray) (at_ : Int) : Int := match cleanupP s at_ with | none => -1 | some c => idxT ((tailsP s).getD []) c

def TailsPostL (w : World) (res : Option (List (List UInt8))) (e : Ending) (w' : World) : Prop :=
  ∃ v l, e = .returned (.tuple #[v, .bool res.isSome]) ∧ Row w' (fromB w.heap.size) 9 1 v l.length (strsC l) ∧ Keeps noB w w' ∧ l.length ≤ 6400 ∧ l = res.getD []

theorem exitsP_clean (s : ByteArray) : ∀ c ∈ ((exitsP s).getD []).map Prod.snd, c.length ≤ 160 ∧ c.length % 2 = 0 := by
  intro c hc
  obtain ⟨q, hq, rfl⟩ := List.mem_map.1 hc
  unfold exitsP at hq
  cases hp : progP s with
  | none => rw [hp] at hq; cases hq
  | some x =>
    rw [hp] at hq
    have := exits_fit hp (q := q) hq
    exact ⟨this.2.1, this.2.2⟩

theorem clnC_strs (l : List Pt) : clnC l = strsC (l.map Prod.snd) := by unfold clnC strsC; rw [List.map_map]; rfl

theorem tailsP_get (s : ByteArray) : (tailsP s).getD [] = tailsL (((exitsP s).getD []).map Prod.snd) := by
  unfold tailsP
  cases exitsP s <;> rfl

theorem tailsP_len (s : ByteArray) : ((tailsP s).getD []).length ≤ 6400 := by
  rw [tailsP_get]
  exact tailsL_len (fun c hc => (exitsP_clean s c hc).1) (by rw [List.length_map]; exact exitsP_few s)

theorem resSTails (W : World) (v b : Value) (tmps : Array Value) (h2 : tmps.getD 2 undef = v) (h3 : tmps.getD 3 undef = b) : (results Tryz.f6 tmps).run Tryz.prog W = .ok (.tuple #[v, b]) W := by
  have h2' : tmps[2]?.getD undef = v := by simpa using h2
  have h3' : tmps[3]?.getD undef = b := by simpa using h3
  simp [results, Tryz.results6, go_sem, h2', h3']

set_option maxRecDepth 100000 in
set_option maxHeartbeats 4000000 in
theorem stailsOf_any (s : ByteArray) (hs : s.size ≤ 1048576) (w : World) : Calls Tryz.prog 6 #[.string s] w (TailsPostL w (tailsP s)) := by
  have H := Lib.hid (sexits_any s hs w)
  have HC := Lib.hid (And.intro (exitsP_clean s) (exitsP_few s))
  have HG := Lib.hid (And.intro (tailsP_get s) (tailsP_len s))
  have hSome : (tailsP s).isSome = (exitsP s).isSome := by unfold tailsP; rw [Option.isSome_map]
  obtain ⟨bv, hbv⟩ : ∃ bv, (exitsP s).isSome = bv := ⟨_, rfl⟩
  rw [hbv] at hSome
  have HB := Lib.hid hSome
  unfold ExitsPostS at H
  rw [hbv] at H
  generalize (exitsP s).getD [] = l at *
  clear hbv hSome
  go_enter Tryz.func6, Tryz.ntmps6
  go_wp2_with fail
  refine H.out.mono ?_
  rintro e w1 ⟨v1, v2, rfl, hr1, hr2, q1⟩
  obtain ⟨a1, k1, rfl⟩ := row_shape hr1
  obtain ⟨a2, k2, rfl⟩ := row_shape hr2
  have hrr := hr2.1
  rw [clnC_strs, show l.length = (l.map Prod.snd).length from (List.length_map _).symm] at hrr
  have HT := Lib.hid (stails_any (l.map Prod.snd) HC.out.1 (by rw [List.length_map]; exact HC.out.2) w1 a2 k2 hrr)
  rw [List.length_map] at HT
  have HQ := Lib.hid q1
  obtain ⟨n, hn⟩ : ∃ n, l.length = n := ⟨_, rfl⟩
  rw [hn] at HT ⊢
  clear hr1 hr2 q1 hrr hn
  go_wp2_with fail
  refine HT.out.mono ?_
  rintro e w2 ⟨v, rfl, hrow, q2⟩
  obtain ⟨a3, k3, rfl⟩ := row_shape hrow
  have HE := Lib.hid (And.intro hrow q2)
  obtain ⟨m, hm⟩ : ∃ m, (tailsL (l.map Prod.snd)).length = m := ⟨_, rfl⟩
  have HM := Lib.hid hm
  rw [hm]
  clear hrow q2 hm
  go_wp2_with fail
  refine bodyPost_ret (resSTails _ (.slice a3 m k3) (.bool bv) _ rfl rfl) rfl ?_
  refine ⟨.slice a3 m k3, (tailsP s).getD [], by rw [HB.out], ?_, HQ.out.trans HE.out.2, HG.out.2, rfl⟩
  rw [HG.out.1, HM.out]
  have h := HE.out.1
  rw [HM.out] at h
  exact ⟨h.1, fun g hg => Nat.le_trans HQ.out.size (h.2 g hg)⟩

theorem resSShared (W : World) (v : Value) (tmps : Array Value) (h2 : tmps.getD 2 undef = v) : (results Tryz.f11 tmps).run Tryz.prog W = .ok v W := by
  have h2' : tmps[2]?.getD undef = v := by simpa using h2
  simp [results, Tryz.results11, go_sem, h2']

set_option maxRecDepth 100000 in
set_option maxHeartbeats 4000000 in
theorem sshared_any (s : ByteArray) (hs : s.size ≤ 1048576) (w : World) : Calls Tryz.prog 11 #[.string s] w (fun e w' => e = .returned (.int .i64 (sharedP s)) ∧ Keeps noB w w') := by
  have H := Lib.hid (stailsOf_any s hs w)
  unfold sharedP
  cases ht : tailsP s with
  | none =>
    rw [ht] at H
    clear ht
    go_enter Tryz.func11, Tryz.ntmps11
    go_wp2_with fail
    refine H.out.mono ?_
    rintro e w1 ⟨v, l, rfl, hr, q, hl, hle⟩
    have HQ := Lib.hid q
    clear hr q hl hle
    simp only [Option.isSome_none]
    go_wp2_with fail
    refine bodyPost_ret (resSShared _ (.int .i64 (-1)) _ rfl) rfl ?_
    exact ⟨rfl, HQ.out⟩
  | some L =>
    rw [ht] at H
    clear ht
    go_enter Tryz.func11, Tryz.ntmps11
    go_wp2_with fail
    refine H.out.mono ?_
    rintro e w1 ⟨v, l, rfl, hr, q, hl, hle⟩
    obtain ⟨a1, k1, rfl⟩ := row_shape hr
    have hll : l.length = L.length := by rw [hle]; rfl
    have HQ := Lib.hid (And.intro q hll)
    obtain ⟨n, hn⟩ : ∃ n, l.length = n := ⟨_, rfl⟩
    rw [hn] at HQ ⊢
    clear hr q hl hle hn hll
    simp only [Option.isSome_some]
    go_wp2_with fail
    refine bodyPost_ret (resSShared _ (.int .i64 (n : Int)) _ rfl) rfl ?_
    exact ⟨by rw [HQ.out.2], HQ.out.1⟩

theorem resSEntry (W : World) (v : Value) (tmps : Array Value) (h4 : tmps.getD 4 undef = v) : (results Tryz.f13 tmps).run Tryz.prog W = .ok v W := by
  have h4' : tmps[4]?.getD undef = v := by simpa using h4
  simp [results, Tryz.results13, go_sem, h4']

set_option maxRecDepth 100000 in
set_option maxHeartbeats 4000000 in
theorem sentry_any (s : ByteArray) (hs : s.size ≤ 1048576) (at_ : Int) (w : World) : Calls Tryz.prog 13 #[.string s, .int .i64 at_] w (fun e w' => e = .returned (.int .i64 (entryP s at_)) ∧ Keeps noB w w') := by
  have HA := Lib.hid (l9At_any s hs at_ w)
  have H := Lib.hid (fun w => stailsOf_any s hs w)
  unfold CleanEnds at HA
  unfold entryP
  cases hc : cleanupP s at_ with
  | none =>
    rw [hc] at HA
    clear hc
    simp only [Option.getD_none, Option.isSome_none] at HA ⊢
    generalize tailsP s = res at *
    generalize hbv : res.isSome = bv
    go_enter Tryz.func13, Tryz.ntmps13
    go_wp2_with fail
    refine HA.out.mono ?_
    rintro e w1 ⟨rfl, q1⟩
    have HQ1 := Lib.hid q1
    clear q1
    go_wp2_with fail
    refine (H.out _).mono ?_
    rintro e w2 ⟨v, l, rfl, hr, q, hl, hle⟩
    obtain ⟨a1, k1, rfl⟩ := row_shape hr
    have HQ := Lib.hid (HQ1.out.trans q)
    rw [hbv]
    generalize l.length = n
    clear hr q hl hle hbv
    go_wp2_with fail
    refine bodyPost_ret (resSEntry _ (.int .i64 (-1)) _ rfl) rfl ?_
    exact ⟨rfl, HQ.out⟩
  | some c =>
    rw [hc] at HA
    clear hc
    simp only [Option.getD_some, Option.isSome_some] at HA ⊢
    generalize tailsP s = res at *
    generalize hbv : res.isSome = bv
    obtain ⟨CB, hCB⟩ : ∃ CB : ByteArray, ⟨c.toArray⟩ = CB := ⟨_, rfl⟩
    rw [hCB] at HA
    have HCB := Lib.hid hCB
    clear hCB
    go_enter Tryz.func13, Tryz.ntmps13
    go_wp2_with fail
    refine HA.out.mono ?_
    rintro e w1 ⟨rfl, q1⟩
    have HQ1 := Lib.hid q1
    clear q1
    go_wp2_with fail
    refine (H.out _).mono ?_
    rintro e w2 ⟨v, l, rfl, hr, q, hl, hle⟩
    obtain ⟨a1, k1, rfl⟩ := row_shape hr
    have HQ := Lib.hid (HQ1.out.trans q)
    have HI := Lib.hid (sindex_any l c w2 a1 k1 hr.1 (by omega))
    unfold str at HI
    rw [HCB.out] at HI
    have HL := Lib.hid hle
    rw [hbv]
    generalize l.length = n at HI ⊢
    clear hr q hl hle hbv
    go_wp2_with fail
    refine HI.out.mono ?_
    rintro e w3 ⟨rfl, rfl⟩
    go_wp2_with fail
    refine bodyPost_ret (resSEntry _ (.int .i64 (idxT l c)) _ rfl) rfl ?_
    exact ⟨by rw [HL.out], HQ.out⟩

end Go.Proofs.YtkfcgamdlckncaaGreat

namespace Go.Proofs.YtkfcgamdlckncaaGreat
set_option linter.unusedVariables false
set_option linter.unusedSimpArgs false
open Go.RowKit Go.Shelf Go.Maps

attribute [local go_sem] Oper.semAt_some

theorem tailsP_some {s : ByteArray} {x : Nd} (h : progP s = some x) : tailsP s = some (tailsL ((exitsL x).map Prod.snd)) := by
  unfold tailsP exitsP; rw [h]; rfl
theorem tailsP_none {s : ByteArray} (h : progP s = none) : tailsP s = none := by
  unfold tailsP exitsP; rw [h]; rfl

/-! ### CountShared -/
set_option maxHeartbeats 1000000 in
theorem sharedM_any {s : ByteArray} {x : Nd} {b0 R Q C mm : Nat} {wx w : World} (hok : ExitsOk s x b0 R Q wx) (qx : Keeps noB wx w) (hbC : Blk w C (cleanC R Q mm) 74) (hm1 : wx.heap.size ≤ mm) (hmC : mm < C) (hmap : w.ownsMap Tryz.prog 9 heldR mm 0 (.map [])) :
    Calls Tryz.prog 21 #[.pointer (some ⟨C, 0, none⟩)] w (fun e w' => e = .returned (.int .i64 ((tailsL ((exitsL x).map Prod.snd)).length : Int)) ∧ Keeps (oneB mm) w w') := by
  have H := Lib.hid (inOrder_any hok qx hbC hm1 hmC hmap)
  clear hok qx hbC hm1 hmC hmap
  go_enter Tryz.func21, Tryz.ntmps21
  go_wp2_with fail
  refine H.out.mono ?_
  rintro e w1 ⟨v, N, A, rfl, _, _, _, hrow, _, q⟩
  obtain ⟨a, k, rfl⟩ := row_shape (ok := fun _ => True) ⟨hrow, fun _ _ => trivial⟩
  obtain ⟨n, hn⟩ : ∃ n, (tailsL ((exitsL x).map Prod.snd)).length = n := ⟨_, rfl⟩
  have HQ := Lib.hid (And.intro q hn)
  rw [hn]
  clear hrow q hn
  go_wp2_with fail
  go_ret
  exact ⟨by rw [HQ.out.2]; rfl, HQ.out.1⟩

set_option maxRecDepth 100000 in
set_option maxHeartbeats 4000000 in
theorem shared_any (s : ByteArray) (hs : s.size ≤ 1048576) (w : World) : Calls Tryz.prog 12 #[.string s] w (fun e w' => e = .returned (.int .i64 (sharedP s)) ∧ Keeps noB w w') := by
  have HC := Lib.hid (fun w => cleaning_any s hs w)
  cases hp : progP s with
  | none =>
    have e : sharedP s = -1 := by unfold sharedP; rw [tailsP_none hp]
    rw [e]
    rw [hp] at HC
    clear hp e
    go_enter Tryz.func12, Tryz.ntmps12
    go_wp2_with fail
    refine (HC.out _).mono ?_
    rintro e w1 ⟨rfl, q1⟩
    go_wp2_with fail
    go_ret
    exact ⟨rfl, q1⟩
  | some x =>
    have e : sharedP s = ((tailsL ((exitsL x).map Prod.snd)).length : Int) := by unfold sharedP; rw [tailsP_some hp]
    rw [e]
    rw [hp] at HC
    clear hp e
    obtain ⟨AX, hAX⟩ : ∃ AX, (tailsL ((exitsL x).map Prod.snd)).length = AX := ⟨_, rfl⟩
    rw [hAX]
    have HAX := Lib.hid hAX
    clear hAX
    go_enter Tryz.func12, Tryz.ntmps12
    go_wp2_with fail
    refine (HC.out _).mono ?_
    rintro e w1 ⟨R, Q, C, mm, wx, rfl, hok, q1a, q1b, hm1, hmC, hbC, hmap⟩
    have HA := Lib.hid (sharedM_any hok q1b hbC hm1 hmC hmap)
    rw [HAX.out] at HA
    have HQ := Lib.hid (And.intro (q1a.trans q1b) (And.intro q1a hm1))
    clear hok q1a q1b hm1 hmC hbC hmap
    go_wp2_with fail
    refine HA.out.mono ?_
    rintro e w2 ⟨rfl, q2⟩
    go_wp2_with fail
    go_ret
    refine ⟨rfl, HQ.out.1.transNew q2 (fun i hi e => ?_)⟩
    have h1 : i = mm := e
    have h2 := HQ.out.2.1.size
    have h3 := HQ.out.2.2
    omega

/-! ### TailsOf -/
theorem resTailsOf (W : World) (v : Value) (b : Bool) (tmps : Array Value) (h2 : tmps.getD 2 undef = v) (h3 : tmps.getD 3 undef = .bool b) : (results Tryz.f7 tmps).run Tryz.prog W = .ok (.tuple #[v, .bool b]) W := by
  have h2' : tmps[2]?.getD undef = v := by simpa using h2
  have h3' : tmps[3]?.getD undef = .bool b := by simpa using h3
  simp [results, Tryz.results7, go_sem, h2', h3']

/-- What the loop over the tails holds. -/
def TxAt (w3 : World) (tl : List (List UInt8)) (v6 vi : Value) (wr : World) : Prop :=
  ∃ i, i ≤ tl.length ∧ vi = .int .i64 i ∧ wr.ownsRow 0 9 1 v6 (tl.take i).length (strsC (tl.take i)) ∧ (∀ g, v6.ownBlock = some g → w3.heap.size ≤ g) ∧ Keeps noB w3 wr

set_option maxRecDepth 100000 in
set_option maxHeartbeats 4000000 in
theorem tails_any (s : ByteArray) (hs : s.size ≤ 1048576) (w : World) : Calls Tryz.prog 7 #[.string s] w (TailsPostL w (tailsP s)) := by
  refine (callsIn_wide (n := 9)).1 ?_
  obtain ⟨F, hF⟩ : ∃ F, F = Fence.wide := ⟨_, rfl⟩
  have hFf : ∀ f, F.fn f := by subst hF; exact fun _ => trivial
  have hdd : ∀ k : Nat, (F.depth.isSome = true → 1 ≤ k) := by subst hF; intro k h; simp [Fence.wide] at h
  have hro : F.round = none := by subst hF; rfl
  have hds : F.depth.isSome = false := by subst hF; rfl
  have HC : Hid (∀ m w, CallsIn F m Tryz.prog 17 #[.string s] w (CleanPost s w (progP s))) := Lib.hid (fun m w => by
    rw [hF]; exact callsIn_wide.2 (cleaning_any s hs w))
  have HLE := Lib.hid (tailsP_len s)
  rw [← hF]
  have HF := Lib.hid hF
  clear hF
  cases hp : progP s with
  | none =>
    rw [hp] at HC
    have HTN := Lib.hid (tailsP_none hp)
    clear hp
    refine callsIn_of_wp_marks Tryz.func7 rfl (hFf _) ?_ hro
    simp only [Tryz.ntmps7, List.size_toArray, List.length_cons, List.length_nil, Nat.reduceAdd, Nat.reduceSub, Array.replicate_succ, Array.replicate_zero, List.push_toArray, List.append_toArray, List.nil_append, List.cons_append]
    gi_wp2
    refine (HC.out _ _).mono ?_
    rintro e w1 ⟨rfl, q1⟩
    have HQ := Lib.hid q1
    clear q1
    gi_wp2
    refine leaves_marks [] _ List.nodup_nil (fun _ h => by cases h) (fun W' q _ => ?_)
    refine ⟨_, resTailsOf W' (.slice none 0 0) false _ rfl rfl, ?_⟩
    rw [HTN.out]
    exact ⟨_, [], rfl, ⟨⟨rfl, .inl ⟨rfl, rfl⟩⟩, fun g hg => by simp [Value.ownBlock] at hg⟩, HQ.out.trans (q.mono (fun _ e => by cases e)), Nat.zero_le _, rfl⟩
  | some x =>
    rw [hp] at HC
    have HTN := Lib.hid (tailsP_some hp)
    clear hp
    refine callsIn_of_wp_marks Tryz.func7 rfl (hFf _) ?_ hro
    simp only [Tryz.ntmps7, List.size_toArray, List.length_cons, List.length_nil, Nat.reduceAdd, Nat.reduceSub, Array.replicate_succ, Array.replicate_zero, List.push_toArray, List.append_toArray, List.nil_append, List.cons_append]
    gi_wp2
    refine (HC.out _ _).mono ?_
    rintro e w1 ⟨R, Q, C, mm, wx, rfl, hok, q1a, q1b, hm1, hmC, hbC, hmap⟩
    have HPX := Lib.hid hok.prog
    have HA : Hid (∀ m, CallsIn F m Tryz.prog 18 #[.pointer (some ⟨C, 0, none⟩)] w1 (OrderPost ((exitsL x).map Prod.snd) mm w1)) := Lib.hid (fun m => by rw [HF.out]; exact callsIn_wide.2 (inOrder_any hok q1b hbC hm1 hmC hmap))
    have HQ := Lib.hid (And.intro (q1a.trans q1b) (And.intro q1a hm1))
    clear hok q1a q1b hm1 hmC hbC hmap
    gi_wp2
    refine (HA.out _).mono ?_
    rintro e w2 ⟨v, N, A, rfl, hT, hN, hA, hrow, hlow, q2⟩
    obtain ⟨va, vk, rfl⟩ := row_shape (ok := fun _ => True) ⟨hrow, fun _ _ => trivial⟩
    obtain ⟨TL, hTLe⟩ : ∃ TL, TL = tailsL ((exitsL x).map Prod.snd) := ⟨_, rfl⟩
    rw [← hTLe] at hrow
    have HM : Hid (∀ t, t ∈ TL → t.length ≤ 160 ∧ Pairs t ∧ ∃ g, A t = some g) := Lib.hid (fun t ht => by
      have h1 : IsTail ((exitsL x).map Prod.snd) t := mem_tailsL.1 (by rw [← hTLe]; exact ht)
      have h2 := (hA t).2 h1
      obtain ⟨c, hc, k, hk, rfl⟩ := h1
      obtain ⟨q, hq, rfl⟩ := List.mem_map.1 hc
      have h3 := exits_fit HPX.out (q := q) hq
      refine ⟨by rw [List.length_drop]; omega, ?_, ?_⟩
      · have h4 := h3.2.2
        unfold Pairs at h4 ⊢
        rw [List.length_drop]
        omega
      · cases hA2 : A (q.2.drop (2 * k)) with
        | none => rw [hA2] at h2; cases h2
        | some g => exact ⟨g, rfl⟩)
    have hTN : TL.length ≤ 6400 := by
      have := HLE.out
      rw [HTN.out, ← hTLe] at this
      exact this
    obtain ⟨n, hn⟩ : ∃ n, n = TL.length := ⟨_, rfl⟩
    rw [← hTLe, ← hn]
    rw [← hn] at hrow hTN
    have HCE : Hid (∀ wr, Keeps noB w2 wr → ∀ i t, TL[i]? = some t → ∃ g, va = some ⟨g, 0, none⟩ ∧ wr.cell? ⟨g, i, none⟩ = some (tailV A t)) := Lib.hid (fun wr q i t ht => cells_of_row (q.ownsRow hrow (fun _ _ _ => id)) (by rw [List.getElem?_map, ht]; rfl))
    have HQ2 := Lib.hid (And.intro q2 (And.intro hn (And.intro hTLe hT)))
    have H0 : Hid (TxAt w2 TL (.slice none 0 0) (.int .i64 0) w2) := Lib.hid ⟨0, Nat.zero_le _, rfl, ⟨rfl, .inl ⟨rfl, rfl⟩⟩, fun g hg => by simp [Value.ownBlock] at hg, Keeps.refl _ _⟩
    clear hrow q2 hn hTLe hT hN hA hlow
    gi_wp2
    gi_loopw [6, 19] (fun v6 vi wr => TxAt w2 TL v6 vi wr) (fun _ vi _ => n + 1 - (intOf vi).toNat)
    case atStart => exact H0.out
    case round =>
      clear H0
      obtain ⟨i, hi, rfl, hrow6, hfr6, q6⟩ := hrel
      have hti : (TL.take i).length = i := by rw [List.length_take]; omega
      rw [hti] at hrow6
      obtain ⟨a6, c6, rfl⟩ := row_shape (ok := fun _ => True) ⟨hrow6, fun _ _ => trivial⟩
      rw [← HQ2.out.2.1] at hi
      by_cases hin : i < n
      · obtain ⟨t, ht⟩ : ∃ t, TL[i]? = some t := ⟨_, List.getElem?_eq_getElem (by rw [← HQ2.out.2.1]; exact hin)⟩
        obtain ⟨g, rfl, hcell⟩ := HCE.out wr q6 i t ht
        obtain ⟨htl, htp, gt, hgt⟩ := HM.out t (List.mem_of_getElem? ht)
        have hTw : TailsAt wr 0 mm N A := HQ2.out.2.2.2.quiet q6
        have htx := text_all t.length t wr 0 mm N A rfl (by omega) htp hTw (.inr (by rw [hgt]; rfl))
        have htv : tailV A t = .pointer (some ⟨gt, 0, none⟩) := by unfold tailV; rw [hgt]; rfl
        rw [htv] at htx hcell
        have HXT : Hid (∀ m, CallsIn F m Tryz.prog 19 #[.pointer (some ⟨gt, 0, none⟩)] wr (fun e w' => e = .returned (.string ⟨t.toArray⟩) ∧ Keeps noB wr w')) := Lib.hid (fun m => by rw [HF.out]; exact callsIn_wide.2 htx)
        have HNX : Hid (∀ w5, Keeps noB wr w5 → ∃ a' c' w', (Builtin.append_ #[22, 22] 22 #[.slice a6 i c6, .slice (some ⟨w5.heap.size, 0, none⟩) 1 1]).run Tryz.prog (w5.alloc (.cells #[.string ⟨t.toArray⟩] 9)) = .ok (.slice a' (i + 1) c') w' ∧ TxAt w2 TL (.slice a' (i + 1) c') (.int .i64 ((i : Int) + 1)) w') := Lib.hid (fun w5 q5 => by
          have q7 : Keeps noB wr (w5.alloc (.cells #[.string ⟨t.toArray⟩] 9)) := q5.alloc _
          have hr0 : (w5.alloc (.cells #[.string ⟨t.toArray⟩] 9)).ownsRow 0 9 1 (.slice a6 i c6) (TL.take i).length (strsC (TL.take i)) := by rw [hti]; exact q7.ownsRow hrow6 (fun _ _ _ => id)
          obtain ⟨v', w', hr, hrow', hlow', qk, hd⟩ := app_T (B := w2.heap.size) (news := [t]) (m := 1) (c := 1) (ad := ⟨w5.heap.size, 0, none⟩) hr0 hfr6 (Nat.le_trans q6.size q7.size) rfl (fun j u hj => by
            cases j with
            | zero =>
              have : u = str t := by simpa [strsC] using hj.symm
              rw [this]
              exact ((Blk.new w5 #[.string ⟨t.toArray⟩] 9).cell 0).trans rfl
            | succ j => simp [strsC] at hj) (by rw [hti]; simp only [List.length_cons, List.length_nil]; omega)
          have e1 : TL.take i ++ [t] = TL.take (i + 1) := by rw [List.take_add_one, ht]; rfl
          rw [e1] at hrow'
          have e2 : (TL.take (i + 1)).length = i + 1 := by rw [← e1, List.length_append, hti]; rfl
          obtain ⟨a', c', rfl⟩ := row_shape (ok := fun _ => True) ⟨hrow', fun _ _ => trivial⟩
          rw [e2] at hr hrow' hlow'
          refine ⟨a', c', w', hr, i + 1, by rw [← HQ2.out.2.1]; exact hin, rfl, (by rw [e2]; exact hrow'), hlow', (q6.trans q7).transNew qk (fun j hj e => by have := hfr6 j e; omega)⟩)
        have hi0 : (0 : Int) ≤ (i : Int) := by omega
        have hi1 : (i : Int) < (n : Int) := by omega
        obtain ⟨TB, hTB⟩ : ∃ TB : ByteArray, TB = ⟨t.toArray⟩ := ⟨_, rfl⟩
        rw [← hTB] at HXT HNX
        clear hrow6 hfr6 q6 ht hgt htl htp hTw htx htv hti hTB
        gi_wp2
        refine (HXT.out _).mono ?_
        rintro e w5 ⟨rfl, q5⟩
        obtain ⟨a', c', w', hr, hnx⟩ := HNX.out w5 q5
        have HE := Lib.hid hnx
        clear hnx q5
        gi_wp2_with (gi_at_builtin; refine wpListIn_append_run _ rfl _ _ _ _ rfl _ _ rfl rfl _ _ hr ?_)
        refine ⟨HE.out, ?_⟩
        simp [intOf]
        omega
      · have hie : i = n := by omega
        subst hie
        have HEND : Hid (∀ W2, Keeps (fun k => k ∈ ([] : List Nat)) wr W2 → TailsPostL w (tailsP s) (.returned (.tuple #[.slice a6 i c6, .bool true])) W2) := Lib.hid (fun W2 q => by
          have q3 : Keeps noB wr W2 := q.mono (fun _ e => by cases e)
          have hi2 := HQ2.out.2.1
          have e1 : TL.take i = TL := by rw [List.take_of_length_le (by omega)]
          rw [e1] at hrow6
          have h2s := HQ2.out.1.size
          have h1s := HQ.out.1.size
          rw [HTN.out, ← HQ2.out.2.2.1]
          refine ⟨_, TL, rfl, ⟨?_, fun g hg => ?_⟩, ?_, by omega, rfl⟩
          · rw [← hi2]; exact q3.ownsRow hrow6 (fun _ _ _ => id)
          · have := hfr6 g hg; show w.heap.size ≤ g; omega
          · refine (HQ.out.1.transNew (HQ2.out.1) (fun i hi e => ?_)).trans (q6.trans q3)
            have h1 : i = mm := e
            have h2 := HQ.out.2.1.size
            have h3 := HQ.out.2.2
            omega)
        clear hrow6 hfr6 q6 hti hTN hi
        gi_wp2
        refine leaves_marks [] _ List.nodup_nil (fun _ h => by cases h) (fun W2 q _ => ?_)
        exact ⟨_, resTailsOf W2 (.slice a6 i c6) true _ rfl rfl, HEND.out W2 q⟩

/-! ### EntryOf -/
theorem tailV_ne {w : World} {lo m N : Nat} {A : TailM} (hT : TailsAt w lo m N A) {t u : List UInt8} (ht : t = [] ∨ (A t).isSome) (hu : u = [] ∨ (A u).isSome) (hne : t ≠ u) :
    (A t).map (fun g => (⟨g, 0, none⟩ : Addr)) ≠ (A u).map (fun g => (⟨g, 0, none⟩ : Addr)) := by
  intro e
  cases h1 : A t with
  | none =>
    cases h2 : A u with
    | none =>
      rw [h1] at ht; rw [h2] at hu
      simp at ht hu
      exact hne (by rw [ht, hu])
    | some g => rw [h1, h2] at e; cases e
  | some g =>
    cases h2 : A u with
    | none => rw [h1, h2] at e; cases e
    | some g' =>
      rw [h1, h2] at e
      simp at e
      subst e
      exact hne (hT.inj t u g h1 h2)

theorem Tryz.infoT83 : (Tryz.prog.info? 83).map (fun i => i.size) = some 3 := by kernel_rfl
theorem undT : Tryz.prog.underlying 40 = some (.pointer 83) := by kernel_rfl

/-- Two tails compared. -/
theorem eql_tails {w : World} {lo m N : Nat} {A : TailM} (hT : TailsAt w lo m N A) (t u : List UInt8) (ht : t = [] ∨ (A t).isSome) (hu : u = [] ∨ (A u).isSome) :
    (binOp .eql 40 (tailV A t) (tailV A u)).run Tryz.prog w = .ok (.bool (decide (t = u))) w := by
  obtain ⟨j, hj, hjs⟩ : ∃ j, Tryz.prog.info? 83 = some j ∧ j.size ≠ 0 := by
    have h := Tryz.infoT83
    cases e : Tryz.prog.info? 83 with
    | none => rw [e] at h; cases h
    | some j => rw [e] at h; simp at h; exact ⟨j, rfl, by omega⟩
  have key : ∀ d : Nat, (Op.equalIn (d + 1) 40 (tailV A t) (tailV A u)).run Tryz.prog w = .ok (decide (t = u)) w := fun d => by
    unfold tailV
    cases h1 : A t with
    | none =>
      rw [h1] at ht
      have ht : t = [] := by simpa using ht
      subst ht
      cases h2 : A u with
      | none =>
        rw [h2] at hu
        have hu : u = [] := by simpa using hu
        subst hu
        simp [Op.equalIn, run_underlying undT]
      | some g =>
        have : ¬ ([] : List UInt8) = u := fun e => by rw [← e, hT.nil] at h2; cases h2
        simp [Op.equalIn, run_underlying undT, this]
    | some g =>
      cases h2 : A u with
      | none =>
        rw [h2] at hu
        have hu : u = [] := by simpa using hu
        subst hu
        have : ¬ t = [] := fun e => by rw [e, hT.nil] at h1; cases h1
        simp [Op.equalIn, run_underlying undT, this]
      | some g' =>
        by_cases htu : t = u
        · subst htu
          rw [h1] at h2
          obtain rfl := Option.some.inj h2
          simp [Op.equalIn, run_underlying undT, sizeOf, typeInfo, hj, run_sameAddr_same]
        · have hgg : (⟨g, 0, none⟩ : Addr) ≠ ⟨g', 0, none⟩ := fun e => htu (hT.inj t u g h1 (by have hg : g = g' := congrArg Addr.block e; rw [hg]; exact h2))
          obtain ⟨_, _, _, _, _, _, hb1, _⟩ := hT.node t g h1
          obtain ⟨_, _, _, _, _, _, hb2, _⟩ := hT.node u g' h2
          simp [Op.equalIn, run_underlying undT, sizeOf, typeInfo, hj, hjs, run_sameAddr_other w hgg hb1 hb2, htu]
  unfold tailV at key ⊢
  simp only [binOp]
  simp [Op.equal, Op.maxDepth, key 9999]

/-- What the loop of Index holds. -/
def PxAt (w : World) (l : List (List UInt8)) (t : List UInt8) (vi : Value) (wr : World) : Prop :=
  ∃ (done todo : List (List UInt8)), l = done ++ todo ∧ vi = .int .i64 done.length ∧ wr = w ∧ ∀ u ∈ done, (t == u) = false

theorem resPIndex (W : World) (v : Value) (tmps : Array Value) (h4 : tmps.getD 4 undef = v) : (results Tryz.f25 tmps).run Tryz.prog W = .ok v W := by
  have h4' : tmps[4]?.getD undef = v := by simpa using h4
  simp [results, Tryz.results25, go_sem, h4']

set_option maxRecDepth 100000 in
set_option maxHeartbeats 2000000 in
theorem pindex_any {lo m N : Nat} {A : TailM} (l : List (List UInt8)) (t : List UInt8) (w : World) (hT : TailsAt w lo m N A) (ht : t = [] ∨ (A t).isSome) (hA : ∀ u ∈ l, (A u).isSome) (a : Option Addr) (c : Nat) (hrow : w.ownsRow 0 40 1 (.slice a l.length c) l.length (l.map (tailV A))) (hl : l.length ≤ 100000) :
    Calls Tryz.prog 25 #[.slice a l.length c, tailV A t] w (fun e w' => e = .returned (.int .i64 (idxT l t)) ∧ w' = w) := by
  have HC : Hid (∀ j u, l[j]? = some u → ∃ g, a = some ⟨g, 0, none⟩ ∧ w.cell? ⟨g, j, none⟩ = some (tailV A u)) := Lib.hid (fun j u hj => cells_of_row hrow (by rw [List.getElem?_map, hj]; rfl))
  have HEQ : Hid (∀ u ∈ l, (binOp .eql 40 (tailV A t) (tailV A u)).run Tryz.prog w = .ok (.bool (t == u)) w) := Lib.hid (fun u hu => by
    rw [eql_tails hT t u ht (.inr (hA u hu))]
    by_cases e : t = u
    · subst e; simp
    · simp [e])
  obtain ⟨n, hn⟩ : ∃ n, n = l.length := ⟨_, rfl⟩
  rw [← hn] at hrow hl ⊢
  obtain ⟨RES, hRES⟩ : ∃ RES, idxT l t = RES := ⟨_, rfl⟩
  rw [hRES]
  have HR := Lib.hid (And.intro hRES hn)
  have H0 : Hid (PxAt w l t (.int .i64 0) w) := Lib.hid ⟨[], l, rfl, rfl, rfl, fun u hu => by cases hu⟩
  unfold tailV at HEQ HC ⊢
  obtain ⟨pr, hpr⟩ : ∃ pr, (A t).map (fun g => (⟨g, 0, none⟩ : Addr)) = pr := ⟨_, rfl⟩
  rw [hpr] at HEQ ⊢
  clear hrow hRES hn hT ht hA hpr
  go_enter Tryz.func25, Tryz.ntmps25
  go_wp2
  go_loopw [8] (fun vi wr => PxAt w l t vi wr) (fun vi _ => n + 1 - (intOf vi).toNat)
  case atStart => exact H0.out
  case round =>
    clear H0
    obtain ⟨done, todo, hpt, rfl, rfl, hno0⟩ := hrel
    have hpl := congrArg List.length hpt
    rw [List.length_append, ← HR.out.2] at hpl
    cases todo with
    | nil =>
      have hd : ¬ (done.length : Int) < (n : Int) := by simp at hpl; omega
      have HE : Hid (RES = -1) := Lib.hid (by
        rw [← HR.out.1, hpt, List.append_nil]; exact idxT_miss hno0)
      clear hpt hpl hno0
      go_wp2
      refine bodyPost_ret (resPIndex _ (.int .i64 (-1)) _ rfl) rfl ?_
      exact ⟨by rw [HE.out], rfl⟩
    | cons u todo =>
      have hd : (done.length : Int) < (n : Int) := by simp at hpl; omega
      have hd0 : (0 : Int) ≤ (done.length : Int) := by omega
      have hdn : done.length < n := by omega
      obtain ⟨g, rfl, hcell⟩ := HC.out done.length u (by rw [hpt]; simp)
      have heq := HEQ.out u (by rw [hpt]; simp)
      have HNX : Hid ((t == u) = false → PxAt wr l t (.int .i64 ((done.length : Int) + 1)) wr) := fun h => by
        refine ⟨done ++ [u], todo, by rw [hpt]; simp, by simp, rfl, fun q hq => ?_⟩
        rcases List.mem_append.1 hq with hq | hq
        · exact hno0 q hq
        · simp at hq; subst hq; exact h
      have HH : Hid ((t == u) = true → RES = done.length) := fun h1 => by
        rw [← HR.out.1]
        have : t = u := by simpa using h1
        subst this
        exact idxT_hit hpt hno0
      obtain ⟨pu, hpu⟩ : ∃ pu, (A u).map (fun g => (⟨g, 0, none⟩ : Addr)) = pu := ⟨_, rfl⟩
      rw [hpu] at hcell heq
      clear hpt hpl hno0 hpu
      cases hkk : (t == u) with
      | true =>
        have HE := Lib.hid (HH.out hkk)
        rw [hkk] at heq
        clear HNX HH hkk
        go_wp2
        refine bodyPost_ret (resPIndex _ (.int .i64 (done.length : Int)) _ rfl) rfl ?_
        exact ⟨by rw [HE.out], rfl⟩
      | false =>
        have HN := Lib.hid (HNX.out hkk)
        rw [hkk] at heq
        clear HNX HH hkk
        go_wp2
        go_roundw
        case rel => exact HN.out
        case measure => simp [intOf]; omega

theorem entryP_eq {s : ByteArray} {x : Nd} (hp : progP s = some x) (at_ : Int) : entryP s at_ = idxT (tailsL ((exitsL x).map Prod.snd)) ((cleanAt x at_).getD []) := by
  unfold entryP
  rw [cleanupP_eq hp, tailsP_some hp]
  cases hc : cleanAt x at_ with
  | none =>
    simp only [Option.getD_none, Option.getD_some]
    unfold idxT
    rw [if_neg]
    intro h
    have h1 := tail_even (fun c hc => by
      obtain ⟨q, hq, rfl⟩ := List.mem_map.1 hc
      exact (exits_fit hp (q := q) hq).2.2) (mem_tailsL.1 h)
    exact h1.2.1 rfl
  | some c => rfl

theorem cleanAt_mem {x : Nd} {at_ : Int} {c : List UInt8} (h : cleanAt x at_ = some c) : c ∈ (exitsL x).map Prod.snd := by
  unfold cleanAt at h
  cases hf : (exitsL x).find? (fun q => (q.1 : Int) == at_) with
  | none => rw [hf] at h; cases h
  | some q =>
    rw [hf] at h
    have e := Option.some.inj h
    exact List.mem_map.2 ⟨q, List.mem_of_find?_eq_some hf, e⟩

theorem cleanAt_get {s : ByteArray} {x : Nd} (hp : progP s = some x) (at_ : Int) {A : TailM} (hA : HasT ((exitsL x).map Prod.snd) A) : ((cleanAt x at_).getD []).length ≤ 160 ∧ Pairs ((cleanAt x at_).getD []) ∧ ((cleanAt x at_).getD [] = [] ∨ (A ((cleanAt x at_).getD [])).isSome) := by
  cases hc : cleanAt x at_ with
  | none => exact ⟨Nat.zero_le _, rfl, .inl rfl⟩
  | some c =>
    have hf := cleanAt_fit hp hc
    refine ⟨hf.1, hf.2, ?_⟩
    simp only [Option.getD_some]
    cases c with
    | nil => exact .inl rfl
    | cons a r =>
      refine .inr ((hA _).2 ⟨a :: r, cleanAt_mem hc, 0, ?_, rfl⟩)
      have h2 := hf.2
      unfold Pairs at h2
      simp only [List.length_cons] at h2 ⊢
      omega

theorem resEntry (W : World) (v : Value) (tmps : Array Value) (h4 : tmps.getD 4 undef = v) : (results Tryz.f14 tmps).run Tryz.prog W = .ok v W := by
  have h4' : tmps[4]?.getD undef = v := by simpa using h4
  simp [results, Tryz.results14, go_sem, h4']

set_option maxRecDepth 100000 in
set_option maxHeartbeats 4000000 in
theorem entry_any (s : ByteArray) (hs : s.size ≤ 1048576) (at_ : Int) (w : World) : Calls Tryz.prog 14 #[.string s, .int .i64 at_] w (fun e w' => e = .returned (.int .i64 (entryP s at_)) ∧ Keeps noB w w') := by
  have HC := Lib.hid (fun w => cleaning_any s hs w)
  cases hp : progP s with
  | none =>
    have e : entryP s at_ = -1 := by unfold entryP cleanupP; rw [hp]
    rw [e]
    rw [hp] at HC
    clear hp e
    go_enter Tryz.func14, Tryz.ntmps14
    go_wp2_with fail
    refine (HC.out _).mono ?_
    rintro e w1 ⟨rfl, q1⟩
    go_wp2_with fail
    refine bodyPost_ret (resEntry _ (.int .i64 (-1)) _ rfl) rfl ?_
    exact ⟨rfl, q1⟩
  | some x =>
    rw [entryP_eq hp]
    rw [hp] at HC
    have HP := Lib.hid hp
    clear hp
    obtain ⟨c, hcd⟩ : ∃ c, c = (cleanAt x at_).getD [] := ⟨_, rfl⟩
    rw [← hcd]
    obtain ⟨CB, hCB⟩ : ∃ CB : ByteArray, CB = ⟨c.toArray⟩ := ⟨_, rfl⟩
    obtain ⟨RES, hRES⟩ : ∃ RES, idxT (tailsL ((exitsL x).map Prod.snd)) c = RES := ⟨_, rfl⟩
    rw [hRES]
    have HCD := Lib.hid (And.intro hcd (And.intro hCB hRES))
    generalize hbv : (cleanAt x at_).isSome = bv
    have HBV := Lib.hid hbv
    clear hcd hCB hbv hRES
    go_enter Tryz.func14, Tryz.ntmps14
    go_wp2_with fail
    refine (HC.out _).mono ?_
    rintro e w1 ⟨R, Q, C, mm, wx, rfl, hok, q1a, q1b, hm1, hmC, hbC, hmap⟩
    have HCL := Lib.hid (cleanupAt_any hok q1b hbC at_)
    rw [← HCD.out.1, HBV.out, ← HCD.out.2.1] at HCL
    have HQ := Lib.hid (And.intro (q1a.trans q1b) (And.intro q1a (And.intro hm1 (And.intro hok (And.intro q1b (And.intro hbC (And.intro hmC hmap)))))))
    clear hok q1a q1b hm1 hmC hbC hmap
    go_wp2_with fail
    refine HCL.out.mono ?_
    rintro e w2 ⟨rfl, q2⟩
    have HI : Hid (Calls Tryz.prog 18 #[.pointer (some ⟨C, 0, none⟩)] w2 (OrderPost ((exitsL x).map Prod.snd) mm w2)) := Lib.hid (by
      obtain ⟨_, q1a, hm1, hok, q1b, hbC, hmC, hmap⟩ := HQ.out
      refine inOrder_any hok (q1b.trans q2) (q2.blk hbC id) hm1 hmC ?_
      have hl := hmap.lt
      obtain ⟨es, clock, hb, r⟩ := hmap
      exact ⟨es, clock, (q2.block mm hl id).trans hb, r⟩)
    have HQ2 := Lib.hid q2
    clear q2
    go_wp2_with fail
    refine HI.out.mono ?_
    rintro e w3 ⟨v, N, A, rfl, hT, hN, hA, hrow, hlow, q3⟩
    obtain ⟨va, vk, rfl⟩ := row_shape (ok := fun _ => True) ⟨hrow, fun _ _ => trivial⟩
    obtain ⟨hcl, hcp, hcs⟩ := cleanAt_get HP.out at_ hA
    rw [← HCD.out.1] at hcl hcp hcs
    have HTA : Hid (Calls Tryz.prog 26 #[.pointer (some ⟨C, 0, none⟩), .string CB] w3 (TailPost w3 0 mm N A c)) := Lib.hid (by
      rw [HCD.out.2.1]
      obtain ⟨_, q1a, hm1, hok, q1b, hbC, hmC, hmap⟩ := HQ.out
      exact tail_all c.length c w3 C R Q 0 mm N A rfl hcp (by omega) (by omega) (q3.blk (HQ2.out.blk hbC id) (fun e => by have : C = mm := e; omega)) (by omega) (Nat.zero_le _) hT)
    have HR3 := Lib.hid (And.intro hrow (And.intro hlow (And.intro q3 (And.intro hA hcs))))
    obtain ⟨n, hn⟩ : ∃ n, n = (tailsL ((exitsL x).map Prod.snd)).length := ⟨_, rfl⟩
    have HN := Lib.hid hn
    rw [← hn]
    clear hrow hlow q3 hT hN hA hcl hcp hcs hn
    go_wp2_with fail
    refine HTA.out.mono ?_
    rintro e w4 ⟨A', rfl, hT4, hx4, hs4, hn4, q4⟩
    have HPI : Hid (Calls Tryz.prog 25 #[.slice va n vk, tailV A' c] w4 (fun e w' => e = .returned (.int .i64 RES) ∧ w' = w4)) := Lib.hid (by
      obtain ⟨hrow, hlow, q3, hA, hcs⟩ := HR3.out
      have hin : ∀ u ∈ tailsL ((exitsL x).map Prod.snd), ∃ g, A u = some g := fun u hu => by
        have h2 := (hA u).2 (mem_tailsL.1 hu)
        cases hAu : A u with
        | none => rw [hAu] at h2; cases h2
        | some g => exact ⟨g, rfl⟩
      have hmp : (tailsL ((exitsL x).map Prod.snd)).map (tailV A) = (tailsL ((exitsL x).map Prod.snd)).map (tailV A') := List.map_congr_left (fun u hu => by
        obtain ⟨g, hg⟩ := hin u hu
        unfold tailV
        rw [hg, hx4 u g hg])
      rw [hmp] at hrow
      have hm2 : mm < w2.heap.size := by
        obtain ⟨_, _, _, _, _, hbC, hmC, _⟩ := HQ.out
        have := (HQ2.out.blk hbC id).lt
        omega
      have hrow4 := q4.ownsRow hrow (fun g hg _ e => by have : g = mm := e; have := hlow g hg; omega)
      have hlen : (tailsL ((exitsL x).map Prod.snd)).length ≤ 6400 := by
        have := tailsP_len s
        rw [tailsP_some HP.out] at this
        exact this
      have := pindex_any (tailsL ((exitsL x).map Prod.snd)) c w4 hT4 hs4 (fun u hu => by
        obtain ⟨g, hg⟩ := hin u hu
        rw [hx4 u g hg]; rfl) va vk hrow4 (by omega)
      rw [HCD.out.2.2, ← HN.out] at this
      exact this)
    have HE : Hid (Keeps noB w w4) := Lib.hid (by
      obtain ⟨qa, q1a, hm1, hok, q1b, hbC, hmC, hmap⟩ := HQ.out
      have h2 := q1a.size
      refine (qa.trans HQ2.out).transNew (HR3.out.2.2.1.trans q4) (fun i hi e => ?_)
      have h1 : i = mm := e
      omega)
    clear hT4 hx4 hs4 hn4 q4
    unfold tailV at HPI ⊢
    obtain ⟨pr, hpr⟩ : ∃ pr, (A' c).map (fun g => (⟨g, 0, none⟩ : Addr)) = pr := ⟨_, rfl⟩
    rw [hpr] at HPI ⊢
    clear hpr
    go_wp2_with fail
    refine HPI.out.mono ?_
    rintro e w5 ⟨rfl, rfl⟩
    go_wp2_with fail
    refine bodyPost_ret (resEntry _ (.int .i64 RES) _ rfl) rfl ?_
    exact ⟨rfl, HE.out⟩

end Go.Proofs.YtkfcgamdlckncaaGreat

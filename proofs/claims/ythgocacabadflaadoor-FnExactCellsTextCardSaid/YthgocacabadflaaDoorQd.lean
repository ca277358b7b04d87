/-
  The program's eventsIn: the iterator over the events of a text.
-/
import Derived.Test.YthgocacabadflaaDoorQb
import Derived.Test.YthgocacabadflaaDoorQc
namespace Go.Proofs.YthgocacabadflaaDoor
set_option linter.unusedVariables false
set_option linter.unusedSimpArgs false
open Go.RowKit

attribute [local go_sem] Oper.semAt_some

theorem OwnsL.behind {lo : Nat} {o1 o2 : Nat → Prop} {A B C : World} (h : Keeps noB A B) (k : OwnsL lo o1 o2 B C) (hl : A.heap.size ≤ lo) : Owns o1 o2 A C :=
  ⟨fun i hi => (k.more i hi).imp id (Nat.le_trans h.size), k.lt, (h.mono (fun _ e => e.elim)).transNew k.keeps (fun i hi e => e.elim id (fun e => by omega))⟩

/-- What an iterator hands on: up to the first that is none. -/
def upTo {α : Type} : List (Option α) → List (Option α)
  | [] => []
  | none :: _ => [none]
  | some x :: r => some x :: upTo r

def rdL (ws : List (List UInt8)) : List (Option (UInt8 × Int)) := upTo (ws.map rdE)
theorem rdL_some {x : List UInt8} {p : UInt8 × Int} {post : List (List UInt8)} (hx : rdE x = some p) : ∀ pre : List (List UInt8), (∀ y ∈ pre, (rdE y).isSome = true) → rdL (pre ++ x :: post) = pre.map rdE ++ some p :: rdL post
  | [], _ => by unfold rdL; simp [hx, upTo]
  | y :: r, h => by
    have hy := h y (by simp)
    obtain ⟨q, hq⟩ := Option.isSome_iff_exists.1 hy
    have ih := rdL_some (post := post) hx r (fun z hz => h z (by simp [hz]))
    unfold rdL at *
    simp only [List.cons_append, List.map_cons, hq, upTo]
    rw [ih]
theorem rdL_none {x : List UInt8} {post : List (List UInt8)} (hx : rdE x = none) : ∀ pre : List (List UInt8), (∀ y ∈ pre, (rdE y).isSome = true) → rdL (pre ++ x :: post) = pre.map rdE ++ [none]
  | [], _ => by unfold rdL; simp [hx, upTo]
  | y :: r, h => by
    have hy := h y (by simp)
    obtain ⟨q, hq⟩ := Option.isSome_iff_exists.1 hy
    have ih := rdL_none (post := post) hx r (fun z hz => h z (by simp [hz]))
    unfold rdL at *
    simp only [List.cons_append, List.map_cons, hq, upTo]
    rw [ih]
theorem rdL_all : ∀ l : List (List UInt8), (∀ y ∈ l, (rdE y).isSome = true) → rdL l = l.map rdE
  | [], _ => rfl
  | y :: r, h => by
    have hy := h y (by simp)
    obtain ⟨q, hq⟩ := Option.isSome_iff_exists.1 hy
    have ih := rdL_all r (fun z hz => h z (by simp [hz]))
    unfold rdL at *
    simp only [List.map_cons, hq, upTo]
    rw [ih]

/-- What eventsIn yields. -/
def yldP (s : ByteArray) : List (Option (UInt8 × Int)) := if s = ⟨#[45]⟩ then [] else rdL (cutAt 32 s.data.toList)
def encE (o : Option (UInt8 × Int)) (args : Array Value) : Prop :=
  match o with
  | some p => args = #[.agg #[.int .u8 (p.1.toNat : Int), .int .i64 p.2], .nilIface]
  | none => ∃ tp q, args = #[.agg #[.int .u8 0, .int .i64 0], .iface tp q]
theorem encE_size {o : Option (UInt8 × Int)} {args : Array Value} (h : encE o args) : args.size = 2 := by
  cases o with
  | none => obtain ⟨_, _, rfl⟩ := h; rfl
  | some p => have h : args = _ := h; rw [h]; rfl

theorem eventsIn_any (s : ByteArray) (w : World) : Calls Tryd.prog 52 #[.string s] w
    fun e w' => e = .returned (.func (.func 66) #[] #[ptr w.heap.size]) ∧ w' = w.alloc (.cells #[.string s] 9) := by
  go_enter Tryd.func52, Tryd.ntmps52
  go_wp2
  go_ret
  exact ⟨rfl, rfl⟩

def protE (B : Nat) : Nat → Prop := fun k => k = B ∨ k < 12

set_option maxRecDepth 100000 in
set_option maxHeartbeats 8000000 in
theorem eventsIn_iter (W : World) (B : Nat) (s : ByteArray) (hs : s.size ≤ 1048576) (hE : Env W) (hB : Blk W B #[.string s] 9) : IterAt Tryd.prog 66 #[ptr B] (yldP s) encE (protE B) W := by
  intro lb J Jx own hJ hJx hown hprot hR h0 n0
  obtain ⟨F, hF⟩ : ∃ F, F = Fence.wide := ⟨_, rfl⟩
  have hFf : ∀ f, F.fn f := by subst hF; exact fun _ => trivial
  have hdd : ∀ k : Nat, (F.depth.isSome = true → 1 ≤ k) := by subst hF; intro k h; simp [Fence.wide] at h
  have hro : F.round = none := by subst hF; rfl
  have hds : F.depth.isSome = false := by subst hF; rfl
  have HSP : Hid (∀ m w, CallsIn F m Tryd.prog 67 #[.string s, .string ⟨#[32]⟩] w fun e w' => e = .returned (.func (.func 94) #[] #[ptr (w.heap.size + 1), ptr w.heap.size, ptr (w.heap.size + 2)]) ∧
      w' = ((w.alloc (.cells #[.string s] 9)).alloc (.cells #[.string ⟨#[32]⟩] 9)).alloc (.cells #[.int .i64 0] 3)) := fun m w => by
    rw [hF]; exact callsIn_wide.2 (splitSeq_any s w)
  have HRE : Hid (∀ m w x, x ∈ cutAt 32 s.data.toList → Env w → CallsIn F m Tryd.prog 68 #[.string ⟨x.toArray⟩] w (RdEPost w (rdE x))) := fun m w x hx hw => by
    rw [hF]
    have hl := cutAt_mem 32 _ x hx
    have hl2 : s.data.toList.length = s.size := by simp
    have e : (⟨x.toArray⟩ : ByteArray).size = x.length := by show x.toArray.size = _; simp
    have h := readE_any ⟨x.toArray⟩ (by omega) w hw
    exact callsIn_wide.2 h
  rw [← hF]
  have HF := Lib.hid hF
  clear hF
  refine callsIn_of_wp_marks Tryd.func66 rfl (hFf _) ?_ hro
  simp only [Tryd.ntmps66, List.size_toArray, List.length_cons, List.length_nil, Nat.reduceAdd, Nat.reduceSub, Array.replicate_succ, Array.replicate_zero, List.push_toArray, List.append_toArray, List.nil_append, List.cons_append]
  have hBlt := hB.lt
  have hz12 := hE.sz
  have rB := (hB.alloc (.cells #[.func (.yield lb) #[] #[]] 112)).cell 0
  simp at rB
  unfold ptr
  by_cases hd : s = ⟨#[45]⟩
  · subst hd
    have HE : Hid (∀ W', Keeps (fun k => k ∈ []) (W.alloc (.cells #[.func (.yield lb) #[] #[]] 112)) W' → IterEnds J Jx (yldP ⟨#[45]⟩) own W (.returned (.tuple #[])) W') := by
      intro W' q
      have qa : Keeps noB W W' := ((Keeps.refl noB W).alloc _).trans (q.mono (fun _ e => by cases e))
      have e : yldP ⟨#[45]⟩ = [] := if_pos rfl
      rw [e]
      exact ⟨_, own, rfl, (Owns.refl hown).ahead qa (fun _ e => e.elim), .inl (hJ _ _ _ _ h0 (qa.mono (fun _ e => e.elim)))⟩
    clear hJ hJx h0 hprot hR
    gi_wp2
    refine leaves_marks [] _ List.nodup_nil (fun _ h => by cases h) (fun W' q _ => ?_)
    exact ⟨_, results_none rfl _ _ _, HE.out _ q⟩
  · have hbb : (s.toList == [45]) = false := by
      rw [beq_eq_false_iff_ne]
      intro e
      apply hd
      have : s.data.toList = [45] := by rw [← e]; simp [ByteArray.toList_eq]
      cases s
      simp at this ⊢
      exact congrArg List.toArray this
    have hyl : yldP s = rdL (cutAt 32 s.data.toList) := if_neg hd
    have HYL := Lib.hid hyl
    clear hd hyl
    gi_wp2
    refine (HSP.out _ _).mono ?_
    rintro e w5 ⟨rfl, hw5⟩
    obtain ⟨Y, hY⟩ : ∃ Y, Y = W.heap.size := ⟨_, rfl⟩
    have hs5 : w5.heap.size = Y + 4 := by rw [hw5, hY]; simp
    have q05 : Keeps noB W w5 := by rw [hw5]; exact ((((Keeps.refl _ _).alloc _).alloc _).alloc _).alloc _
    have bY : Blk w5 Y #[.func (.yield lb) #[] #[]] 112 := by
      rw [hw5, hY]; exact (((Blk.new W _ _).alloc _).alloc _).alloc _
    have hsp : SplitAt w5 (Y + 1) s := by
      have e1 : (W.alloc (.cells #[.func (.yield lb) #[] #[]] 112)).heap.size = Y + 1 := by rw [hY]; simp
      have h1 := ((Blk.new (W.alloc (.cells #[.func (.yield lb) #[] #[]] 112)) #[.string s] 9).alloc (.cells #[.string ⟨#[32]⟩] 9)).alloc (.cells #[.int .i64 0] 3)
      have h2 := (Blk.new ((W.alloc (.cells #[.func (.yield lb) #[] #[]] 112)).alloc (.cells #[.string s] 9)) #[.string ⟨#[32]⟩] 9).alloc (.cells #[.int .i64 0] 3)
      have h3 := Blk.new (((W.alloc (.cells #[.func (.yield lb) #[] #[]] 112)).alloc (.cells #[.string s] 9)).alloc (.cells #[.string ⟨#[32]⟩] 9)) #[.int .i64 0] 3
      simp only [World.size_alloc] at h1 h2 h3
      rw [← hY] at h1 h2 h3
      rw [hw5]
      exact ⟨h1, h2, h3⟩
    simp only [World.size_alloc]
    rw [← hY]
    clear hw5 rB
    gi_wp2
    have HQ := Lib.hid (And.intro q05 (And.intro bY (And.intro hsp hE)))
    have HS := Lib.hid (And.intro hs5 (And.intro hY hz12))
    have HJ := Lib.hid (And.intro hJ hJx)
    have HP := Lib.hid (And.intro hprot hown)
    have HR := Lib.hid hR
    have hlo : Y + 1 ≤ w5.heap.size := by omega
    clear hs5 hY hz12
    refine wp_rangeL HF.out (gf := 94) (lb := #[ptr (Y + 1 + 1), ptr (Y + 1), ptr (Y + 1 + 2)]) (all := cutAt 32 s.data.toList) (enc := encS) (prot := prot3 (Y + 1)) (own := own) (Y + 1) hlo
      rfl (enters_of Tryd.func94 (by kernel_rfl) rfl)
      (fun W' q' => split_iter W' (Y + 1) s hs (hsp.keeps q' id id id))
      (fun pre own' W' => J (pre.map rdE) own' W' ∧ (∀ y ∈ pre, (rdE y).isSome = true) ∧ OwnsL (Y + 1) own own' w5 W')
      (fun c pre own' W' => (c = .ret ∧ ((yldP s = pre.map rdE ∧ J (pre.map rdE) own' W') ∨ ∃ post, yldP s = pre.map rdE ++ post ∧ Jx (pre.map rdE) own' W')) ∧ OwnsL (Y + 1) own own' w5 W') ?hI ?hIx ?hown ?hprot ?hps ?h0 ?hround ?hdone ?hstop
    case hI =>
      intro pre own' Wa Wb h q
      exact ⟨(hJ.mono (by have := HS.out; omega)) _ _ _ _ h.1 q, h.2.1, h.2.2.ahead q (fun _ e => e.1)⟩
    case hIx =>
      intro c pre own' Wa Wb h q
      refine ⟨⟨h.1.1, ?_⟩, h.2.ahead q (fun _ e => e.1)⟩
      rcases h.1.2 with ⟨h1, h2⟩ | ⟨post, h1, h2⟩
      · exact .inl ⟨h1, (hJ.mono (by have := HS.out; omega)) _ _ _ _ h2 q⟩
      · exact .inr ⟨post, h1, (hJx.mono (by have := HS.out; omega)) _ _ _ _ h2 q⟩
    case hown => intro k hk; have := hown k hk; have := HS.out; omega
    case hprot =>
      rintro k (rfl | rfl | rfl)
      · exact ⟨fun e => by have := hown _ e; have := HS.out; omega, by have := HS.out; omega⟩
      · exact ⟨fun e => by have := hown _ e; have := HS.out; omega, by have := HS.out; omega⟩
      · exact ⟨fun e => by have := hown _ e; have := HS.out; omega, by have := HS.out; omega⟩
    case hps => rintro y args rfl; rfl
    case h0 => exact ⟨hJ _ _ _ _ h0 (q05.mono (fun _ e => e.elim)), fun y hy => by simp at hy, ⟨fun _ h => .inl h, fun k hk => by have := hown k hk; have := HS.out; omega, Keeps.refl _ _⟩⟩
    case hround =>
      rintro lq n pre x post args own1 W1 hall henc ⟨hj1, hsome, ho1⟩ hlt hl hnl hll
      unfold encS at henc
      subst henc
      unfold str
      have hxm : x ∈ cutAt 32 s.data.toList := by rw [hall]; simp
      have HALL := Lib.hid (And.intro hall (And.intro hsome hxm))
      clear hall
      gi_wp2
      refine ⟨Keeps.refl _ _, fun W3 q3 hs3 => ?_⟩
      clear hs3
      have hk13 : Keeps (fun k => Y + 1 ≤ k ∧ ¬ own1 k) W1 W3 := q3.mono (fun k e => by obtain rfl : k = lq := e; exact ⟨by omega, hnl⟩)
      have ho3 := ho1.ahead hk13 (fun i e => e.1)
      have hj3 := HJ.out.1 _ _ _ _ hj1 (hk13.mono (fun k e => ⟨by have := HS.out; omega, e.2⟩))
      have y5 : Blk W3 Y #[.func (.yield lb) #[] #[]] 112 := ho3.keeps.blk HQ.out.2.1 (fun e => by
        rcases e with e | e
        · have := HP.out.2 _ e; have := HS.out; omega
        · omega)
      have hE3 : Env W3 := (HQ.out.2.2.2.keeps HQ.out.1 (fun _ _ e => e)).keeps ho3.keeps (fun k hk e => by
        rcases e with e | e
        · exact HP.out.1 k (.inr hk) e
        · have := HS.out; omega)
      have HO3 := Lib.hid (And.intro ho3 (And.intro hj3 (And.intro y5 hE3)))
      clear hk13 q3 hj1 hj3 ho1 ho3 y5 hE3
      gi_wp2
      refine CallsIn.mono (CallsIn.inRound lq (HRE.out _ _ x hxm HO3.out.2.2.2)) ?_
      rintro e W4 ⟨he, q4⟩
      have hY4 : Y < W4.heap.size := (q4.blk HO3.out.2.2.1 id).lt
      have hY4n : ¬ Y = W4.heap.size := by omega
      have rY := (q4.blk HO3.out.2.2.1 id).cell 0
      simp at rY
      have HQ4 := Lib.hid q4
      clear q4 hxm
      cases hx : rdE x with
      | some p =>
        rw [hx] at he
        obtain rfl := he
        obtain ⟨k, v⟩ := p
        obtain ⟨kv, hkv⟩ : ∃ kv : Int, kv = (k.toNat : Int) := ⟨_, rfl⟩
        simp only
        rw [← hkv]
        have k6 : Keeps noB W3 (W4.alloc (.cells #[.int .u8 kv, .int .i64 v] 63)) := HQ4.out.alloc _
        have hyl : yldP s = pre.map rdE ++ some (k, v) :: rdL post := by rw [HYL.out, HALL.out.1]; exact rdL_some hx pre HALL.out.2.1
        obtain ⟨fn2, tmps2, assign2, body2, hy2, hR2⟩ : YieldAt F (n - 1) Tryd.prog lb #[.agg #[.int .u8 kv, .int .i64 v], .nilIface] (W4.alloc (.cells #[.int .u8 kv, .int .i64 v] 63)) (RoundEnds J Jx (pre.map rdE ++ [some (k, v)]) own1 (W4.alloc (.cells #[.int .u8 kv, .int .i64 v] 63))) := by
          rw [HF.out]
          exact HR.out (n - 1) _ (some (k, v)) _ _ own1 _ hyl (by rw [hkv]; exact rfl) (HJ.out.1 _ _ _ _ HO3.out.2.1 (k6.mono (fun _ e => e.elim))) (fun i hi => Nat.lt_of_lt_of_le (HO3.out.1.lt i hi) k6.size)
        have HK6 := Lib.hid k6
        have HX := Lib.hid (And.intro hx hyl)
        have HKV := Lib.hid hkv
        clear hx hkv hyl k6
        gi_wp2
        refine (show RoundIn (F.inRound lq) _ _ _ _ _ _ _ _ _ from hR2).mono ?_
        clear hR2 hy2
        rintro e W6 ⟨own6, ho6, (⟨rfl, hj6⟩ | ⟨rfl, hj6⟩)⟩
        · have HE : Hid (∃ own', Owns own1 own' W3 W6 ∧ (J ((pre ++ [x]).map rdE) own' W6 ∧ (∀ y ∈ pre ++ [x], (rdE y).isSome = true) ∧ OwnsL (Y + 1) own own' w5 W6)) := by
            have hb := Owns.behind HK6.out ho6
            refine ⟨own6, hb, ?_, ?_, HO3.out.1.transR (by have := HS.out; omega) hb⟩
            · rw [List.map_append, List.map_cons, List.map_nil, HX.out.1]; exact hj6
            · intro y hy
              rcases List.mem_append.1 hy with hy | hy
              · exact HALL.out.2.1 y hy
              · simp at hy; subst hy; rw [HX.out.1]; rfl
          clear hj6 ho6
          gi_wp2
          exact HE.out
        · have HE : Hid (∃ own', Owns own1 own' W3 W6 ∧ ((Code.ret = .ret ∧ ((yldP s = (pre ++ [x]).map rdE ∧ J ((pre ++ [x]).map rdE) own' W6) ∨ ∃ post, yldP s = (pre ++ [x]).map rdE ++ post ∧ Jx ((pre ++ [x]).map rdE) own' W6)) ∧ OwnsL (Y + 1) own own' w5 W6)) := by
            have hb := Owns.behind HK6.out ho6
            refine ⟨own6, hb, ⟨rfl, .inr ⟨rdL post, ?_, ?_⟩⟩, HO3.out.1.transR (by have := HS.out; omega) hb⟩
            · rw [List.map_append, List.map_cons, List.map_nil, HX.out.1, HX.out.2]; simp
            · rw [List.map_append, List.map_cons, List.map_nil, HX.out.1]; exact hj6
          clear hj6 ho6
          gi_wp2
          obtain ⟨o2, g1, ⟨_, g2⟩, g3⟩ := HE.out
          exact ⟨o2, g1, ⟨rfl, g2⟩, g3⟩
      | none =>
        rw [hx] at he
        obtain ⟨tp, qq, rfl⟩ := he
        have k6 : Keeps noB W3 (W4.alloc (.cells #[.int .u8 0, .int .i64 0] 63)) := HQ4.out.alloc _
        have hyl : yldP s = pre.map rdE ++ none :: [] := by rw [HYL.out, HALL.out.1]; exact rdL_none hx pre HALL.out.2.1
        obtain ⟨fn2, tmps2, assign2, body2, hy2, hR2⟩ : YieldAt F (n - 1) Tryd.prog lb #[.agg #[.int .u8 0, .int .i64 0], .iface tp qq] (W4.alloc (.cells #[.int .u8 0, .int .i64 0] 63)) (RoundEnds J Jx (pre.map rdE ++ [none]) own1 (W4.alloc (.cells #[.int .u8 0, .int .i64 0] 63))) := by
          rw [HF.out]
          exact HR.out (n - 1) _ none _ _ own1 _ hyl ⟨_, _, rfl⟩ (HJ.out.1 _ _ _ _ HO3.out.2.1 (k6.mono (fun _ e => e.elim))) (fun i hi => Nat.lt_of_lt_of_le (HO3.out.1.lt i hi) k6.size)
        have HK6 := Lib.hid k6
        have HX := Lib.hid (And.intro hx hyl)
        clear hx hyl k6
        gi_wp2
        refine (show RoundIn (F.inRound lq) _ _ _ _ _ _ _ _ _ from hR2).mono ?_
        clear hR2 hy2
        rintro e W6 ⟨own6, ho6, hres⟩
        have HE : Hid (∃ own', Owns own1 own' W3 W6 ∧ ((Code.ret = .ret ∧ ((yldP s = (pre ++ [x]).map rdE ∧ J ((pre ++ [x]).map rdE) own' W6) ∨ ∃ post, yldP s = (pre ++ [x]).map rdE ++ post ∧ Jx ((pre ++ [x]).map rdE) own' W6)) ∧ OwnsL (Y + 1) own own' w5 W6)) := by
          have hb := Owns.behind HK6.out ho6
          have em : (pre ++ [x]).map rdE = pre.map rdE ++ [none] := by rw [List.map_append, List.map_cons, List.map_nil, HX.out.1]
          refine ⟨own6, hb, ⟨rfl, ?_⟩, HO3.out.1.transR (by have := HS.out; omega) hb⟩
          rw [em]
          rcases hres with ⟨_, hj6⟩ | ⟨_, hj6⟩
          · exact .inl ⟨HX.out.2, hj6⟩
          · exact .inr ⟨[], by rw [HX.out.2]; simp, hj6⟩
        have hv : e = .returned (.bool true) ∨ e = .returned (.bool false) := by rcases hres with ⟨h, _⟩ | ⟨h, _⟩; exact .inl h; exact .inr h
        clear hres ho6
        rcases hv with rfl | rfl
        · gi_wp2
          obtain ⟨o2, g1, ⟨_, g2⟩, g3⟩ := HE.out
          exact ⟨o2, g1, ⟨rfl, g2⟩, g3⟩
        · gi_wp2
          obtain ⟨o2, g1, ⟨_, g2⟩, g3⟩ := HE.out
          exact ⟨o2, g1, ⟨rfl, g2⟩, g3⟩
    case hdone =>
      rintro D own' W' hb ⟨hj', hsome, ho'⟩
      have hS := HS.out
      have hnew := hb.new
      have HD := Lib.hid hb.none
      have HE : Hid (∀ W2, Keeps (fun k => k ∈ [D]) W' W2 → Owns own own' W W2 ∧ J (yldP s) own' W2) := fun W2 q2 => by
        rw [HYL.out, rdL_all _ hsome]
        exact ⟨(OwnsL.behind HQ.out.1 ho' (by omega)).ahead q2 (fun i hi => by simp at hi; omega), HJ.out.1 _ _ _ _ hj' (q2.mono (fun i hi => by simp at hi; subst hi; exact ⟨by omega, hb.free⟩))⟩
      clear hb hj' ho'
      dsimp only
      gi_wp2
      refine leaves_marks [D] _ (by simp) (fun D' hD' => by simp at hD'; subst hD'; exact HD.out) (fun W2 q2 _ => ?_)
      exact ⟨_, results_none rfl _ _ _, _, own', rfl, (HE.out W2 q2).1, .inl (HE.out W2 q2).2⟩
    case hstop =>
      rintro D c pre post own' W' hb hall ⟨⟨rfl, hj'⟩, ho'⟩
      have hS := HS.out
      have hnew := hb.new
      have HD := Lib.hid hb.none
      have HE : Hid (∀ W2, Keeps (fun k => k ∈ [D]) W' W2 → Owns own own' W W2 ∧ (J (yldP s) own' W2 ∨ ∃ pre post, yldP s = pre ++ post ∧ Jx pre own' W2)) := fun W2 q2 => by
        have hD2 : Keeps (fun k => W.heap.size ≤ k ∧ ¬ own' k) W' W2 := q2.mono (fun i hi => by simp at hi; subst hi; exact ⟨by omega, hb.free⟩)
        refine ⟨(OwnsL.behind HQ.out.1 ho' (by omega)).ahead q2 (fun i hi => by simp at hi; omega), ?_⟩
        rcases hj' with ⟨h1, h2⟩ | ⟨post, h1, h2⟩
        · rw [h1]; exact .inl (HJ.out.1 _ _ _ _ h2 hD2)
        · exact .inr ⟨_, _, h1, HJ.out.2 _ _ _ _ h2 hD2⟩
      clear hb hj' ho' hall
      dsimp only
      gi_wp2
      refine leaves_marks [D] _ (by simp) (fun D' hD' => by simp at hD'; subst hD'; exact HD.out) (fun W2 q2 _ => ?_)
      exact ⟨_, results_none rfl _ _ _, _, own', rfl, (HE.out W2 q2).1, (HE.out W2 q2).2⟩

end Go.Proofs.YthgocacabadflaaDoor

/-
  The program's CommonTail: the text of a tail, and where two tails meet.
-/
import Derived.Test.YtcpbkohpgchckaaDi
import Derived.LaidEqlPtr
namespace Go.Proofs.Ytcpbkohpgchckaa
set_option linter.unusedVariables false
set_option linter.unusedSimpArgs false
open Go.RowKit Go.Maps Go.WideMaps

attribute [local go_sem] Oper.semAt_some

/-! ### meeting -/
theorem tailV_ne {w : World} {lo m N : Nat} {A : TailM} (hT : TailsAt w lo m N A) {t u : List UInt8} (ht : t = [] ∨ (A t).isSome) (hu : u = [] ∨ (A u).isSome) (hne : t ≠ u) :
    (A t).map (fun g => (⟨g, 0, none⟩ : Addr)) ≠ (A u).map (fun g => (⟨g, 0, none⟩ : Addr)) := by
  intro e
  cases h1 : A t with
  | none =>
    cases h2 : A u with
    | none =>
      rw [h1] at ht; rw [h2] at hu
      simp at ht hu
      exact hne (by rw [ht, hu])
    | some g => rw [h1, h2] at e; cases e
  | some g =>
    cases h2 : A u with
    | none => rw [h1, h2] at e; cases e
    | some g' =>
      rw [h1, h2] at e
      simp at e
      subst e
      exact hne (hT.inj t u g h1 h2)

theorem Try.infoT162 : (Try.prog.info? 162).map (fun i => i.size) = some 3 := by kernel_rfl
theorem undT : Try.prog.underlying 114 = some (.pointer 162) := by kernel_rfl

/-- Two tails compared. -/
theorem neq_tails {w : World} {lo m N : Nat} {A : TailM} (hT : TailsAt w lo m N A) (t u : List UInt8) (ht : t = [] ∨ (A t).isSome) (hu : u = [] ∨ (A u).isSome) :
    (binOp .neq 114 (tailV A t) (tailV A u)).run Try.prog w = .ok (.bool (!decide (t = u))) w := by
  obtain ⟨j, hj, hjs⟩ : ∃ j, Try.prog.info? 162 = some j ∧ j.size ≠ 0 := by
    have h := Try.infoT162
    cases e : Try.prog.info? 162 with
    | none => rw [e] at h; cases h
    | some j => rw [e] at h; simp at h; exact ⟨j, rfl, by omega⟩
  have key : ∀ d : Nat, (Op.equalIn (d + 1) 114 (tailV A t) (tailV A u)).run Try.prog w = .ok (decide (t = u)) w := fun d => by
    unfold tailV
    cases h1 : A t with
    | none =>
      rw [h1] at ht
      have ht : t = [] := by simpa using ht
      subst ht
      cases h2 : A u with
      | none =>
        rw [h2] at hu
        have hu : u = [] := by simpa using hu
        subst hu
        simp [Op.equalIn, run_underlying undT]
      | some g =>
        have : ¬ ([] : List UInt8) = u := fun e => by rw [← e, hT.nil] at h2; cases h2
        simp [Op.equalIn, run_underlying undT, this]
    | some g =>
      cases h2 : A u with
      | none =>
        rw [h2] at hu
        have hu : u = [] := by simpa using hu
        subst hu
        have : ¬ t = [] := fun e => by rw [e, hT.nil] at h1; cases h1
        simp [Op.equalIn, run_underlying undT, this]
      | some g' =>
        by_cases htu : t = u
        · subst htu
          rw [h1] at h2
          obtain rfl := Option.some.inj h2
          simp [Op.equalIn, run_underlying undT, sizeOf, typeInfo, hj, run_sameAddr_same]
        · have hgg : (⟨g, 0, none⟩ : Addr) ≠ ⟨g', 0, none⟩ := fun e => htu (hT.inj t u g h1 (by have hg : g = g' := congrArg Addr.block e; rw [hg]; exact h2))
          obtain ⟨_, _, _, _, _, _, hb1, _⟩ := hT.node t g h1
          obtain ⟨_, _, _, _, _, _, hb2, _⟩ := hT.node u g' h2
          simp [Op.equalIn, run_underlying undT, sizeOf, typeInfo, hj, hjs, run_sameAddr_other w hgg hb1 hb2, htu]
  unfold tailV at key ⊢
  simp only [binOp]
  simp [Op.equal, Op.maxDepth, key 9999]

/-- What the loop of meeting holds. -/
def MeetAt (x y C : List UInt8) (A : TailM) (w : World) (g : Nat) (v0 v1 : Value) (wr : World) : Prop :=
  ∃ t u, v0 = tailV A t ∧ v1 = tailV A u ∧ t.length + u.length < g ∧ Sfx C t ∧ Sfx C u ∧ ((Sfx t x ∧ Sfx u y) ∨ (Sfx t y ∧ Sfx u x)) ∧ Pairs t ∧ Pairs u ∧ t.length ≤ 1000 ∧ u.length ≤ 1000 ∧ (t = [] ∨ (A t).isSome) ∧ (u = [] ∨ (A u).isSome) ∧ wr = w

/-- One step of the longer one. -/
theorem meet_next {x y C t u : List UInt8} {A : TailM} {w : World} {g lo m N : Nat} (hC : Com x y C) (hT : TailsAt w lo m N A) (hg : t.length + u.length < g + 1) (h1 : Sfx C t) (h2 : Sfx C u) (h3 : (Sfx t x ∧ Sfx u y) ∨ (Sfx t y ∧ Sfx u x)) (h4 : Pairs t) (h5 : Pairs u) (h6 : t.length ≤ 1000) (h7 : u.length ≤ 1000)
    (h8 : t = [] ∨ (A t).isSome) (h9 : u = [] ∨ (A u).isSome) (hne : t ≠ u) (hl : u.length ≤ t.length) :
    ∃ gb, (A t).map (fun g => (⟨g, 0, none⟩ : Addr)) = some ⟨gb, 0, none⟩ ∧ w.cell? ⟨gb, 2, none⟩ = some (tailV A (t.drop 2)) ∧ MeetAt x y C A w g (tailV A (t.drop 2)) (tailV A u) w := by
  obtain ⟨hd, h2l⟩ := meet_drop hC h1 h2 h4 hne hl
  rcases h8 with h8 | h8
  · rw [h8] at h2l; simp at h2l
  · cases hA : A t with
    | none => rw [hA] at h8; cases h8
    | some gb =>
      obtain ⟨c, v, r, e, _, _, hb, hr⟩ := hT.node t gb hA
      subst e
      refine ⟨gb, rfl, (hb.cell 2).trans rfl, r, u, rfl, rfl, ?_, hd, h2, ?_, ?_, h5, ?_, h7, hr, h9, rfl⟩
      · simp only [List.length_cons] at hg; omega
      · have hs : Sfx r (c :: v :: r) := ⟨[c, v], rfl⟩
        exact h3.imp (fun h => ⟨hs.trans h.1, h.2⟩) (fun h => ⟨hs.trans h.1, h.2⟩)
      · unfold Pairs at h4 ⊢; simp only [List.length_cons] at h4; omega
      · simp only [List.length_cons] at h6; omega

theorem resMeet (W : World) (v : Value) (tmps : Array Value) (h4 : tmps.getD 4 undef = v) : (results Try.f72 tmps).run Try.prog W = .ok v W := by
  have h4' : tmps[4]?.getD undef = v := by simpa using h4
  simp [results, Try.results72, go_sem, h4']

set_option maxRecDepth 100000 in
set_option maxHeartbeats 2000000 in
theorem meeting_any {x y C : List UInt8} (hC : Com x y C) {w : World} {lo m N : Nat} {A : TailM} (hT : TailsAt w lo m N A) (hpx : Pairs x) (hpy : Pairs y) (hlx : x.length ≤ 1000) (hly : y.length ≤ 1000) (hx : x = [] ∨ (A x).isSome) (hy : y = [] ∨ (A y).isSome) :
    Calls Try.prog 72 #[tailV A x, tailV A y] w (fun e w' => e = .returned (tailV A C) ∧ w' = w) := by
  have HLN : Hid (∀ t, t.length ≤ 1000 → Pairs t → (t = [] ∨ (A t).isSome) → Calls Try.prog 100 #[tailV A t] w (fun e w' => e = .returned (.int .i64 ((t.length / 2 : Nat) : Int)) ∧ w' = w)) := fun t h1 h2 h3 =>
    len_all t.length t w lo m N A rfl h1 h2 hT h3
  have HP : Hid (MeetAt x y C A w (x.length + y.length + 1) (tailV A x) (tailV A y) w) := Lib.hid ⟨x, y, rfl, rfl, by omega, hC.one, hC.two, .inl ⟨Sfx.refl x, Sfx.refl y⟩, hpx, hpy, hlx, hly, hx, hy, rfl⟩
  have HC := Lib.hid (And.intro hC hT)
  have e1 : tailV A x = .pointer ((A x).map (fun g => (⟨g, 0, none⟩ : Addr))) := rfl
  have e2 : tailV A y = .pointer ((A y).map (fun g => (⟨g, 0, none⟩ : Addr))) := rfl
  rw [e1, e2] at HP ⊢
  generalize (A x).map (fun g => (⟨g, 0, none⟩ : Addr)) = px at *
  generalize (A y).map (fun g => (⟨g, 0, none⟩ : Addr)) = py at *
  clear hC hT hpx hpy hlx hly hx hy e1 e2
  go_enter Try.func72, Try.ntmps72
  go_upto_region 1 with fail
  go_loopg [0, 1] (x.length + y.length + 1) (fun g v0 v1 wr => MeetAt x y C A w g v0 v1 wr)
  case atStart => exact HP.out
  case round =>
    clear HP
    obtain ⟨t, u, rfl, rfl, hg, h1, h2, h3, h4, h5, h6, h7, h8, h9, rfl⟩ := hrel
    cases gk with
    | zero => omega
    | succ gk =>
    have HL1 := Lib.hid (HLN.out t h6 h4 h8)
    have HL2 := Lib.hid (HLN.out u h7 h5 h9)
    have hbn := neq_tails HC.out.2 t u h8 h9
    have e1 : tailV A t = .pointer ((A t).map (fun g => (⟨g, 0, none⟩ : Addr))) := rfl
    have e2 : tailV A u = .pointer ((A u).map (fun g => (⟨g, 0, none⟩ : Addr))) := rfl
    by_cases htu : t = u
    · have hCt : Hid (tailV A C = tailV A t) := Lib.hid (by
        have h : Sfx t x ∧ Sfx t y := by
          rcases h3 with h | h
          · exact ⟨h.1, by rw [htu]; exact h.2⟩
          · exact ⟨by rw [htu]; exact h.2, h.1⟩
        have := HC.out.1.most t h.1 h.2 h4
        have h1l := h1.len
        rw [Sfx.eq HC.out.1.one h.1 (by omega)])
      subst htu
      have hbn2 : (!decide (t = t)) = false := by simp
      rw [hbn2] at hbn
      rw [e1] at HL1 HL2 hCt hbn ⊢
      generalize (A t).map (fun g => (⟨g, 0, none⟩ : Addr)) = pt at *
      clear hg h1 h2 h3 h4 h5 h6 h7 h8 h9 HL1 HL2 e1 e2 hbn2
      go_wp2_with fail
      refine bodyPost_ret (resMeet _ (.pointer pt) _ rfl) rfl ?_
      exact ⟨congrArg Ending.returned hCt.out.symm, rfl⟩
    · have hbn2 : (!decide (t = u)) = true := by simp [htu]
      rw [hbn2] at hbn
      by_cases hl : u.length ≤ t.length
      · obtain ⟨gb, hgb, hcell, hnext⟩ := meet_next HC.out.1 HC.out.2 hg h1 h2 h3 h4 h5 h6 h7 h8 h9 htu hl
        have hlt : ¬ ((t.length / 2 : Nat) : Int) < ((u.length / 2 : Nat) : Int) := by omega
        rw [hgb] at e1
        rw [e1] at HL1
        rw [e2] at HL2 hnext
        rw [e1, e2] at hbn
        rw [e1, e2]
        generalize (A u).map (fun g => (⟨g, 0, none⟩ : Addr)) = pu at *
        have e3 : tailV A (t.drop 2) = .pointer ((A (t.drop 2)).map (fun g => (⟨g, 0, none⟩ : Addr))) := rfl
        rw [e3] at hcell hnext
        generalize (A (t.drop 2)).map (fun g => (⟨g, 0, none⟩ : Addr)) = pr at *
        have HN := Lib.hid hnext
        generalize ((t.length / 2 : Nat) : Int) = tl at *
        generalize ((u.length / 2 : Nat) : Int) = ul at *
        clear hg h1 h2 h3 h4 h5 h6 h7 h8 h9 e1 e2 e3 hgb hnext hl hbn2
        go_wp2_with (first
          | (go_at_call_of 100 (Value.pointer (some ⟨gb, 0, none⟩)); refine HL1.out.mono ?_; rintro e w' ⟨rfl, rfl⟩)
          | (go_at_call_of 100 (Value.pointer pu); refine HL2.out.mono ?_; rintro e w' ⟨rfl, rfl⟩))
        go_roundg gk
        case measure => omega
        case rel => exact HN.out
      · obtain ⟨gb, hgb, hcell, hnext⟩ := meet_next HC.out.1 HC.out.2 (by omega : u.length + t.length < gk + 1) h2 h1 (h3.elim (fun h => .inr ⟨h.2, h.1⟩) (fun h => .inl ⟨h.2, h.1⟩)) h5 h4 h7 h6 h9 h8 (fun e => htu e.symm) (by omega)
        have hlt : ((t.length / 2 : Nat) : Int) < ((u.length / 2 : Nat) : Int) := by unfold Pairs at h4 h5; omega
        rw [hgb] at e2
        rw [e1] at HL1 hnext
        rw [e2] at HL2
        rw [e1, e2] at hbn
        rw [e1, e2]
        generalize (A t).map (fun g => (⟨g, 0, none⟩ : Addr)) = pu at *
        have e3 : tailV A (u.drop 2) = .pointer ((A (u.drop 2)).map (fun g => (⟨g, 0, none⟩ : Addr))) := rfl
        rw [e3] at hcell hnext
        generalize (A (u.drop 2)).map (fun g => (⟨g, 0, none⟩ : Addr)) = pr at *
        have HN := Lib.hid hnext
        generalize ((t.length / 2 : Nat) : Int) = tl at *
        generalize ((u.length / 2 : Nat) : Int) = ul at *
        clear hg h1 h2 h3 h4 h5 h6 h7 h8 h9 e1 e2 e3 hgb hnext hl hbn2
        go_wp2_with (first
          | (go_at_call_of 100 (Value.pointer pu); refine HL1.out.mono ?_; rintro e w' ⟨rfl, rfl⟩)
          | (go_at_call_of 100 (Value.pointer (some ⟨gb, 0, none⟩)); refine HL2.out.mono ?_; rintro e w' ⟨rfl, rfl⟩))
        go_roundg gk
        case measure => omega
        case rel => exact HN.out

/-! ### text -/
theorem execOp_convert {P : Program} {a : Act} {o : Oper} {W : World} {t1 t2 : TypeId} {x : Operand} (ho : o.op = .convert t1 t2 x) (vx : Value) (hx : a.eval x = vx) (v : Value) (hr : (convert t1 t2 vx).run P W = .ok v W) : (execOp a.eval o).run P W = .ok (.value v) W := by
  unfold execOp
  simp only [ho, hx, Sem.run_bind, Sem.run_pure, hr, Result.andThen_ok]

theorem conv_two {W : World} {g : Nat} {a v : UInt8} (h0 : W.cell? ⟨g, 0, none⟩ = some (.int .u8 (a.toNat : Int))) (h1 : W.cell? ⟨g, 1, none⟩ = some (.int .u8 (v.toNat : Int))) :
    (convert 22 9 (.slice (some ⟨g, 0, none⟩) 2 2)).run Try.prog W = .ok (.string ⟨#[a, v]⟩) W := by
  have h := fun hh => run_convert_bytes_back (P := Try.prog) W 22 9 5 ⟨g, 0, none⟩ 2 [a, v] Try.underlying22 Try.underlying5 Try.underlying9 hh
  refine h (fun j hj => ?_)
  match j, hj with
  | 0, _ => exact h0
  | 1, _ => exact h1
  | j + 2, hj => simp at hj; omega

def TextOk (n : Nat) : Prop := ∀ (t : List UInt8) (w : World) (lo m N : Nat) (A : TailM), t.length = n → n ≤ 1000 → Pairs t → TailsAt w lo m N A → (t = [] ∨ (A t).isSome) →
  Calls Try.prog 73 #[tailV A t] w (fun e w' => e = .returned (.string ⟨t.toArray⟩) ∧ Keeps noB w w')

theorem resText (W : World) (v : Value) (tmps : Array Value) (h2 : tmps.getD 2 undef = v) : (results Try.f73 tmps).run Try.prog W = .ok v W := by
  have h2' : tmps[2]?.getD undef = v := by simpa using h2
  simp [results, Try.results73, go_sem, h2']

set_option maxRecDepth 100000 in
set_option maxHeartbeats 4000000 in
theorem text_ok (n : Nat) (ih : ∀ k, k < n → TextOk k) : TextOk n := by
  intro t w lo m N A htn hn hpr hT hs
  match t, htn, hpr, hs with
  | [], htn, hpr, hs =>
    have e : tailV A [] = .pointer none := by unfold tailV; rw [hT.nil]; rfl
    rw [e]
    clear ih hT
    go_enter Try.func73, Try.ntmps73
    go_wp2
    go_ret
    exact ⟨rfl, Keeps.refl _ _⟩
  | [a], htn, hpr, hs => exact absurd hpr (by unfold Pairs; simp)
  | a :: v :: r, htn, hpr, hs =>
    have hrp : Pairs r := by unfold Pairs at hpr ⊢; simp only [List.length_cons] at hpr; omega
    have hrl : r.length + 2 = n := by simpa using htn
    rcases hs with hs | hs
    · cases hs
    · cases hA : A (a :: v :: r) with
      | none => rw [hA] at hs; cases hs
      | some g =>
        obtain ⟨c', v', r', hcv, _, _, hb, hsr⟩ := hT.node _ _ hA
        obtain ⟨rfl, rfl, rfl⟩ : a = c' ∧ v = v' ∧ r = r' := by simpa using hcv
        have HI : Hid (∀ W, Keeps noB w W → Calls Try.prog 73 #[tailV A r] W (fun e w' => e = .returned (.string ⟨r.toArray⟩) ∧ Keeps noB w w')) := fun W q =>
          (ih r.length (by omega) r W lo m N A rfl (by omega) hrp (hT.quiet q) hsr).mono (fun e w' h => ⟨h.1, q.trans h.2⟩)
        have e : tailV A (a :: v :: r) = .pointer (some ⟨g, 0, none⟩) := by unfold tailV; rw [hA]; rfl
        rw [e]
        have HB := Lib.hid hb
        unfold tailV at HB HI
        generalize (A r).map (fun g => (⟨g, 0, none⟩ : Addr)) = pr at *
        clear ih hT hs hcv hb hsr hpr hrp htn e hA
        refine (callsIn_wide (n := 9)).1 ?_
        obtain ⟨F, hF⟩ : ∃ F, F = Fence.wide := ⟨_, rfl⟩
        have hFf : ∀ f, F.fn f := by subst hF; exact fun _ => trivial
        have hdd : ∀ k : Nat, (F.depth.isSome = true → 1 ≤ k) := by subst hF; intro k h; simp [Fence.wide] at h
        have hro : F.round = none := by subst hF; rfl
        have hds : F.depth.isSome = false := by subst hF; rfl
        rw [← hF]
        have HF := Lib.hid hF
        clear hF
        have HIC : Hid (∀ n' W, Keeps noB w W → CallsIn F n' Try.prog 73 #[.pointer pr] W (fun e w' => e = .returned (.string ⟨r.toArray⟩) ∧ Keeps noB w w')) := fun n' W q => by rw [HF.out]; exact callsIn_wide.2 (HI.out W q)
        have HL : Hid (∀ W, Keeps noB w W → W.cell? ⟨g, 0, none⟩ = some (.int .u8 (a.toNat : Int)) ∧ W.cell? ⟨g, 1, none⟩ = some (.int .u8 (v.toNat : Int)) ∧ W.cell? ⟨g, 2, none⟩ = some (.pointer pr)) := fun W q =>
          ⟨((q.blk HB.out id).cell 0).trans rfl, ((q.blk HB.out id).cell 1).trans rfl, ((q.blk HB.out id).cell 2).trans rfl⟩
        refine callsIn_of_wp_marks Try.func73 rfl (hFf _) ?_ hro
        simp only [Try.ntmps73, List.size_toArray, List.length_cons, List.length_nil, Nat.reduceAdd, Nat.reduceSub, Array.replicate_succ, Array.replicate_zero, List.push_toArray, List.append_toArray, List.nil_append, List.cons_append]
        gi_wp2
        refine wpIn_region_seqP (fun W => Keeps noB w W) [(0, true), (1, true), (2, true), (3, true), (4, true), (5, true), (6, true), (7, true), (8, true), (9, false), (10, true), (11, true)] hro hFf (by kernel_rfl) (by kernel_rfl) (by kernel_rfl) rfl (by kernel_rfl) ((Keeps.refl _ _).drew) ?_
        refine seqH_take (.pointer (some ⟨g, 0, none⟩)) rfl rfl (fun W4 q4 => by obtain ⟨f0, f1, f2⟩ := HL.out W4 q4; go_simp) (fun K hK => ?_)
        go_simp
        refine hK _ ?_
        clear hK K
        refine seqH_take (.pointer (some ⟨g, 0, none⟩)) rfl rfl (fun W4 q4 => by obtain ⟨f0, f1, f2⟩ := HL.out W4 q4; go_simp) (fun K hK => ?_)
        go_simp
        refine hK _ ?_
        clear hK K
        refine seqH_take (.pointer (some ⟨g, 0, none⟩)) rfl rfl (fun W4 q4 => by obtain ⟨f0, f1, f2⟩ := HL.out W4 q4; go_simp) (fun K hK => ?_)
        go_simp
        refine hK _ ?_
        clear hK K
        refine seqH_take (.slice (some ⟨g, 0, none⟩) 2 2) rfl rfl (fun W4 q4 => by obtain ⟨f0, f1, f2⟩ := HL.out W4 q4; go_simp) (fun K hK => ?_)
        go_simp
        refine hK _ ?_
        clear hK K
        refine seqH_take (.string ⟨#[a, v]⟩) rfl rfl (fun W4 q4 => by obtain ⟨f0, f1, f2⟩ := HL.out W4 q4; exact execOp_convert rfl _ rfl _ (conv_two f0 f1)) (fun K hK => ?_)
        go_simp
        refine hK _ ?_
        clear hK K
        refine seqH_take (.pointer (some ⟨g, 0, none⟩)) rfl rfl (fun W4 q4 => by obtain ⟨f0, f1, f2⟩ := HL.out W4 q4; go_simp) (fun K hK => ?_)
        go_simp
        refine hK _ ?_
        clear hK K
        refine seqH_take (.pointer (some ⟨g, 0, none⟩)) rfl rfl (fun W4 q4 => by obtain ⟨f0, f1, f2⟩ := HL.out W4 q4; go_simp) (fun K hK => ?_)
        go_simp
        refine hK _ ?_
        clear hK K
        refine seqH_take (.pointer (some ⟨g, 2, none⟩)) rfl rfl (fun W4 q4 => by obtain ⟨f0, f1, f2⟩ := HL.out W4 q4; go_simp) (fun K hK => ?_)
        go_simp
        refine hK _ ?_
        clear hK K
        refine seqH_take (.pointer pr) rfl rfl (fun W4 q4 => by obtain ⟨f0, f1, f2⟩ := HL.out W4 q4; go_simp) (fun K hK => ?_)
        go_simp
        refine hK _ ?_
        clear hK K
        refine seqH_loud rfl (fun K hK => ?_)
        gi_wp2
        refine CallsIn.mono (HIC.out _ _ ((Keeps.refl _ _).drew)) ?_
        rintro e W4 ⟨rfl, q4⟩
        have Q4 := Lib.hid q4
        clear q4
        gi_wp2
        refine hK _ _ Q4.out ?_
        clear hK K
        obtain ⟨RB, hRB⟩ : ∃ RB : ByteArray, ⟨r.toArray⟩ = RB := ⟨_, rfl⟩
        have hRs : RB.size = r.length := by rw [← hRB]; simp [ByteArray.size]
        have hRl : RB.size ≤ 1000 := by omega
        have HRB : Hid ((⟨#[a, v]⟩ : ByteArray) ++ RB = ⟨(a :: v :: r).toArray⟩) := Lib.hid (by
          rw [← hRB]; apply ByteArray.ext; rw [ByteArray.data_append]; simp)
        rw [hRB]
        have h2 : (⟨#[a, v]⟩ : ByteArray).size = 2 := rfl
        obtain ⟨AV, hAV⟩ : ∃ AV : ByteArray, ⟨#[a, v]⟩ = AV := ⟨_, rfl⟩
        rw [hAV] at HRB h2 ⊢
        clear hRB hRs hAV hrl
        have hsum : ¬ 9223372036854775807 < AV.size + RB.size := by omega
        refine seqH_take (.string (AV ++ RB)) rfl rfl (fun W4 q4 => by go_simp; omega) (fun K hK => ?_)
        go_simp
        refine hK _ ?_
        clear hK K
        refine seqH_take (.string (AV ++ RB)) rfl rfl (fun W4 q4 => by go_simp) (fun K hK => ?_)
        go_simp
        refine hK _ ?_
        clear hK K
        simp only [wpSeqH, noPanic]
        gi_wp2
        refine leaves_marks [] _ List.nodup_nil (fun _ h => by cases h) (fun W' q _ => ?_)
        exact ⟨_, resText W' (.string (AV ++ RB)) _ rfl, by rw [HRB.out], Q4.out.trans (q.mono (fun _ e => by cases e))⟩

theorem text_all (n : Nat) : TextOk n := Nat.strongRecOn n (fun n ih => text_ok n ih)

/-- Every end of a tail that is there is there. -/
theorem tails_closed {w : World} {lo m N : Nat} {A : TailM} (hT : TailsAt w lo m N A) {C : List UInt8} (hpc : Pairs C) : ∀ (n : Nat) (t : List UInt8), t.length = n → Pairs t → (t = [] ∨ (A t).isSome) → Sfx C t → (C = [] ∨ (A C).isSome) := by
  intro n
  induction n using Nat.strongRecOn with
  | _ n ih =>
    intro t htn hp hs hc
    by_cases he : C = t
    · rw [he]; exact hs
    · rcases hs with hs | hs
      · rw [hs] at hc
        have := hc.len
        exact .inl (List.length_eq_zero_iff.1 (by simpa using this))
      · cases hA : A t with
        | none => rw [hA] at hs; cases hs
        | some g =>
          obtain ⟨c, v, r, e, _, _, _, hr⟩ := hT.node t g hA
          subst e
          have hl := hc.len
          have hne : C.length ≠ (c :: v :: r).length := fun e => he (Sfx.eq hc (Sfx.refl _) e)
          unfold Pairs at hp hpc
          simp only [List.length_cons] at hl hne hp htn
          exact ih r.length (by omega) r rfl (by unfold Pairs; omega) hr (Sfx.of_len hc ⟨[c, v], rfl⟩ (by omega))

/-! ### CommonTail -/
theorem resCommon (W : World) (v b : Value) (tmps : Array Value) (h4 : tmps.getD 6 undef = v) (h5 : tmps.getD 7 undef = b) : (results Try.f40 tmps).run Try.prog W = .ok (.tuple #[v, b]) W := by
  have h4' : tmps[6]?.getD undef = v := by simpa using h4
  have h5' : tmps[7]?.getD undef = b := by simpa using h5
  simp [results, Try.results40, go_sem, h4', h5']

def CommonEnds (w : World) (r : Option (List UInt8)) (e : Ending) (w' : World) : Prop := e = .returned (.tuple #[.string ⟨(r.getD []).toArray⟩, .bool r.isSome]) ∧ Keeps noB w w'

set_option maxRecDepth 100000 in
set_option maxHeartbeats 4000000 in
theorem commonTail_any (s : ByteArray) (hs : s.size ≤ 1048576) (a b : Int) (w : World) : Calls Try.prog 40 #[.string s, .int .i64 a, .int .i64 b] w (CommonEnds w (commonP s a b)) := by
  have HC := Lib.hid (fun w => cleaning_any s hs w)
  cases hp : progP s with
  | none =>
    have e : commonP s a b = none := by unfold commonP cleanupP; rw [hp]
    rw [e]
    rw [hp] at HC
    clear hp e
    go_enter Try.func40, Try.ntmps40
    go_wp2_with fail
    refine (HC.out _).mono ?_
    rintro e w1 ⟨rfl, q1⟩
    go_wp2_with fail
    refine bodyPost_ret (resCommon _ (.string ⟨#[]⟩) (.bool false) _ rfl rfl) rfl ?_
    exact ⟨rfl, q1⟩
  | some x =>
    rw [hp] at HC
    have hca := cleanupP_eq hp a
    have hcb := cleanupP_eq hp b
    have HFA := Lib.hid (fun c h => cleanAt_fit hp (at_ := a) (c := c) h)
    have HFB := Lib.hid (fun c h => cleanAt_fit hp (at_ := b) (c := c) h)
    clear hp
    cases hA : cleanAt x a with
    | none =>
      have e : commonP s a b = none := by unfold commonP; rw [hca, hA]
      rw [e]
      have HA := Lib.hid hA
      obtain ⟨tb, htb⟩ : ∃ tb, ((cleanAt x b).getD []).toArray = tb := ⟨_, rfl⟩
      obtain ⟨bv, hbv⟩ : ∃ bv, (cleanAt x b).isSome = bv := ⟨_, rfl⟩
      have HB := Lib.hid (And.intro htb hbv)
      clear hca hcb hA e htb hbv HFA HFB
      go_enter Try.func40, Try.ntmps40
      go_wp2_with fail
      refine (HC.out _).mono ?_
      rintro e w1 ⟨R, Q, C, mm, wx, rfl, hok, q1a, q1b, hm1, hmC, hbC, hmap⟩
      have H1 := Lib.hid (cleanupAt_any hok q1b hbC a)
      have H2 := Lib.hid (fun W (q : Keeps noB w1 W) => cleanupAt_any hok (q1b.trans q) (q.blk hbC id) b)
      rw [HA.out] at H1
      rw [HB.out.1, HB.out.2] at H2
      have HQ := Lib.hid (q1a.trans q1b)
      clear hok q1a q1b hm1 hmC hbC hmap
      go_wp2_with fail
      refine H1.out.mono ?_
      rintro e w2 ⟨rfl, q2⟩
      have Q2 := Lib.hid q2
      clear q2
      go_wp2_with fail
      refine (H2.out _ Q2.out).mono ?_
      rintro e w3 ⟨rfl, q3⟩
      go_wp2_with fail
      refine bodyPost_ret (resCommon _ (.string ⟨#[]⟩) (.bool false) _ rfl rfl) rfl ?_
      exact ⟨rfl, (HQ.out.trans Q2.out).trans q3⟩
    | some ca =>
      cases hB : cleanAt x b with
      | none =>
        have e : commonP s a b = none := by unfold commonP; rw [hca, hcb, hA, hB]
        rw [e]
        have HA := Lib.hid (And.intro hA hB)
        clear hca hcb hA hB e HFA HFB
        go_enter Try.func40, Try.ntmps40
        go_wp2_with fail
        refine (HC.out _).mono ?_
        rintro e w1 ⟨R, Q, C, mm, wx, rfl, hok, q1a, q1b, hm1, hmC, hbC, hmap⟩
        have H1 := Lib.hid (cleanupAt_any hok q1b hbC a)
        have H2 := Lib.hid (fun W (q : Keeps noB w1 W) => cleanupAt_any hok (q1b.trans q) (q.blk hbC id) b)
        rw [HA.out.1] at H1
        rw [HA.out.2] at H2
        have HQ := Lib.hid (q1a.trans q1b)
        clear hok q1a q1b hm1 hmC hbC hmap
        go_wp2_with fail
        refine H1.out.mono ?_
        rintro e w2 ⟨rfl, q2⟩
        have Q2 := Lib.hid q2
        clear q2
        go_wp2_with fail
        refine (H2.out _ Q2.out).mono ?_
        rintro e w3 ⟨rfl, q3⟩
        go_wp2_with fail
        refine bodyPost_ret (resCommon _ (.string ⟨#[]⟩) (.bool false) _ rfl rfl) rfl ?_
        exact ⟨rfl, (HQ.out.trans Q2.out).trans q3⟩
      | some cb =>
        have e : commonP s a b = some (comT ca cb) := by unfold commonP; rw [hca, hcb, hA, hB]
        rw [e]
        obtain ⟨hla, hpa⟩ := HFA.out ca hA
        obtain ⟨hlb, hpb⟩ := HFB.out cb hB
        have HA := Lib.hid (And.intro hA hB)
        obtain ⟨CT, hCT⟩ : ∃ CT, comT ca cb = CT := ⟨_, rfl⟩
        have hcom := comT_com ca cb
        rw [hCT] at hcom ⊢
        have hlc := hcom.one.len
        have HCM := Lib.hid (And.intro hcom (And.intro hpa (And.intro hpb (And.intro hla hlb))))
        clear hca hcb hA hB e HFA HFB hCT hcom hpa hpb
        go_enter Try.func40, Try.ntmps40
        go_wp2_with fail
        refine (HC.out _).mono ?_
        rintro e w1 ⟨R, Q, C, mm, wx, rfl, hok, q1a, q1b, hm1, hmC, hbC, hmap⟩
        have H1 := Lib.hid (cleanupAt_any hok q1b hbC a)
        have H2 := Lib.hid (fun W (q : Keeps noB w1 W) => cleanupAt_any hok (q1b.trans q) (q.blk hbC id) b)
        rw [HA.out.1] at H1
        rw [HA.out.2] at H2
        have HT := Lib.hid (And.intro hbC (And.intro (TailsAt.start (lo := 0) hmap) (And.intro hm1 (And.intro hmC (And.intro q1a q1b)))))
        clear hok q1a q1b hm1 hmC hbC hmap
        go_wp2_with fail
        refine H1.out.mono ?_
        rintro e w2 ⟨rfl, q2⟩
        have Q2 := Lib.hid q2
        clear q2
        go_wp2_with fail
        refine (H2.out _ Q2.out).mono ?_
        rintro e w3 ⟨rfl, q3⟩
        have Q3 := Lib.hid (Q2.out.trans q3)
        clear q3
        have H3 := Lib.hid (tail_all ca.length ca w3 C R Q 0 mm 0 (fun _ => none) rfl HCM.out.2.1 (by omega) (by omega) (Q3.out.blk HT.out.1 id) (by have := HT.out.2.2.2.1; omega) (Nat.zero_le _) (HT.out.2.1.quiet Q3.out))
        go_wp2_with fail
        refine H3.out.mono ?_
        rintro e w4 ⟨A1, rfl, hT1, hx1, hs1, hn1, q4⟩
        have H4 := Lib.hid (tail_all cb.length cb w4 C R Q 0 mm _ A1 rfl HCM.out.2.2.1 (by omega) (by omega) (q4.blk (Q3.out.blk HT.out.1 id) (by have := HT.out.2.2.2.1; show ¬ C = mm; omega)) (by have := HT.out.2.2.2.1; omega) (Nat.zero_le _) hT1)
        have Q4 := Lib.hid (And.intro hs1 q4)
        clear hT1 hx1 hs1 hn1 q4
        have e1 : tailV A1 ca = .pointer ((A1 ca).map (fun g => (⟨g, 0, none⟩ : Addr))) := rfl
        rw [e1]
        obtain ⟨p1, hp1⟩ : ∃ p1, (A1 ca).map (fun g => (⟨g, 0, none⟩ : Addr)) = p1 := ⟨_, rfl⟩
        rw [hp1]
        have HP1 := Lib.hid hp1
        clear e1 hp1
        go_wp2_with fail
        refine H4.out.mono ?_
        rintro e w5 ⟨A2, rfl, hT2, hx2, hs2, hn2, q5⟩
        have hs1 : ca = [] ∨ (A2 ca).isSome := by
          rcases Q4.out.1 with h | h
          · exact .inl h
          · cases hh : A1 ca with
            | none => rw [hh] at h; cases h
            | some g => rw [hx2 _ _ hh]; exact .inr rfl
        have hp2 : (A2 ca).map (fun g => (⟨g, 0, none⟩ : Addr)) = p1 := by
          rw [← HP1.out]
          rcases Q4.out.1 with h | h
          · rw [h, hT2.nil]
            cases hh : A1 [] with
            | none => rfl
            | some g => have := hx2 _ _ hh; rw [hT2.nil] at this; cases this
          · cases hh : A1 ca with
            | none => rw [hh] at h; cases h
            | some g => rw [hx2 _ _ hh]
        have HM := Lib.hid (meeting_any HCM.out.1 hT2 HCM.out.2.1 HCM.out.2.2.1 (by omega) (by omega) hs1 hs2)
        have hsC := tails_closed hT2 HCM.out.1.pairs ca.length ca rfl HCM.out.2.1 hs1 HCM.out.1.one
        have HTX := Lib.hid (text_all CT.length CT w5 0 mm _ A2 rfl (by omega) HCM.out.1.pairs hT2 hsC)
        have Q5 := Lib.hid (And.intro Q4.out.2 q5)
        unfold tailV at HM HTX ⊢
        rw [hp2] at HM
        obtain ⟨p2, hq2⟩ : ∃ p2, (A2 cb).map (fun g => (⟨g, 0, none⟩ : Addr)) = p2 := ⟨_, rfl⟩
        rw [hq2] at HM ⊢
        obtain ⟨p3, hq3⟩ : ∃ p3, (A2 CT).map (fun g => (⟨g, 0, none⟩ : Addr)) = p3 := ⟨_, rfl⟩
        rw [hq3] at HM HTX
        clear hT2 hx2 hs2 hn2 q5 hs1 hp2 hsC hq2 hq3
        go_wp2_with fail
        refine HM.out.mono ?_
        rintro e w6 ⟨rfl, rfl⟩
        go_wp2_with fail
        refine HTX.out.mono ?_
        rintro e w7 ⟨rfl, q7⟩
        have Q7 := Lib.hid q7
        clear q7
        go_wp2_with fail
        refine bodyPost_ret (resCommon _ (.string ⟨CT.toArray⟩) (.bool true) _ rfl rfl) rfl ?_
        refine ⟨rfl, ?_⟩
        obtain ⟨_, _, hm1, _, q1a, q1b⟩ := HT.out
        have h1 := q1a.size
        exact ((((q1a.trans q1b).trans Q3.out).transNew Q5.out.1 (fun i hi e => by have : i = mm := e; omega)).transNew Q5.out.2 (fun i hi e => by have : i = mm := e; omega)).trans Q7.out

end Go.Proofs.Ytcpbkohpgchckaa

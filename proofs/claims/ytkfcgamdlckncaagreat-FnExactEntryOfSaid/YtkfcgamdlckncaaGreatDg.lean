/-
  The tails of cleanups in memory: nodes that are found in a map by text; the program's tail, which makes those that it lacks.
-/
import Derived.Test.YtkfcgamdlckncaaGreatDb
import Derived.StringKeys
import Derived.Maps.OwnSet
namespace Go.Proofs.YtkfcgamdlckncaaGreat
set_option linter.unusedVariables false
set_option linter.unusedSimpArgs false
open Go.RowKit Go.Maps Go.WideMaps

attribute [local go_sem] Oper.semAt_some

/-! ### a map from texts to blocks -/
abbrev TailM := List UInt8 → Option Nat
/-- The pointer to a tail. -/
def tailV (A : TailM) (t : List UInt8) : Value := .pointer ((A t).map (fun g => (⟨g, 0, none⟩ : Addr)))
def MapT (P : Program) (kt : TypeId) (w : World) (m N : Nat) (A : TailM) : Prop :=
  ∃ D : DataW Value, w.ownsMap P kt heldR m N D ∧ ∀ t z, D.atKey (.string t) z = match A t with | some g => .held (.pointer (some ⟨g, 0, none⟩)) | none => z
def putT (t : List UInt8) (g : Nat) (A : TailM) : TailM := fun u => if u = t then some g else A u

theorem MapT.lt {P : Program} {kt : TypeId} {w : World} {m N : Nat} {A : TailM} (h : MapT P kt w m N A) : m < w.heap.size := by
  obtain ⟨D, h, _⟩ := h; exact h.lt
theorem MapT.keeps {P : Program} {kt : TypeId} {w w' : World} {m N : Nat} {A : TailM} {may : Nat → Prop} (h : MapT P kt w m N A) (q : Keeps may w w') (hm : ¬ may m) : MapT P kt w' m N A := by
  obtain ⟨D, ho, hd⟩ := h
  have hl := ho.lt
  obtain ⟨es, clock, hb, r⟩ := ho
  exact ⟨D, ⟨es, clock, (q.block m hl hm).trans hb, r⟩, hd⟩
theorem MapT.made {P : Program} {kt : TypeId} {w : World} {m : Nat} (h : w.ownsMap P kt heldR m 0 (.map [])) : MapT P kt w m 0 (fun _ => none) := ⟨_, h, fun t z => rfl⟩
theorem MapT.mono {P : Program} {kt : TypeId} {w : World} {m N N' : Nat} {A : TailM} (h : MapT P kt w m N A) (hN : N ≤ N') : MapT P kt w m N' A := by
  obtain ⟨D, ho, hd⟩ := h
  exact ⟨D, ho.mono hN, hd⟩

theorem MapT.look {P : Program} {kt t e : TypeId} {w : World} {m N : Nat} {A : TailM} (h : MapT P kt w m N A) (hk : P.underlying kt = some .string) (ht : P.underlying t = some (.map kt e)) (hz : (zeroValue e).run P w = .ok (.pointer none) w) (s : ByteArray) (hs : s.size ≤ 1000) :
    (Instr.lookup t (.map (some m)) (.string s) false).run P w = .ok (tailV A s.data.toList) w := by
  obtain ⟨D, ho, hd⟩ := h
  obtain ⟨v, ps, hrun, hR⟩ := ho.lookup (string_keyed hk) ht hz (zd := .held (.pointer none)) (zp := []) rfl (keyOf_string_mk hk (s := s) (by unfold maxLen; omega))
  rw [hrun]
  simp only [heldR, Option.some.injEq, Prod.mk.injEq] at hR
  have e3 := hR.1.trans (hd s.data.toList _)
  have : v = tailV A s.data.toList := by
    unfold tailV
    cases hA : A s.data.toList with
    | none => rw [hA] at e3; exact DataW.held.inj e3
    | some g => rw [hA] at e3; exact DataW.held.inj e3
  rw [this]

theorem MapT.update {P : Program} {kt t e : TypeId} {w : World} {m N : Nat} {A : TailM} (h : MapT P kt w m N A) (hk : P.underlying kt = some .string) (ht : P.underlying t = some (.map kt e)) (hN : N ≤ 100000) (s : ByteArray) (hs : s.size ≤ 1000) (g : Nat) :
    ∃ w', (Instr.mapUpdate t (.map (some m)) (.string s) (.pointer (some ⟨g, 0, none⟩))).run P w = .ok () w' ∧ MapT P kt w' m (N + 1) (putT s.data.toList g A) ∧ Keeps (oneB m) w w' ∧ w'.heap.size = w.heap.size := by
  obtain ⟨D, ho, hd⟩ := h
  have K := string_keyed hk
  obtain ⟨w', hrun, ho', hg⟩ := ho.store (val := .pointer (some ⟨g, 0, none⟩)) K ht (by unfold maxLen; omega) (keyOf_string_mk hk (s := s) (by unfold maxLen; omega)) (d := .held (.pointer (some ⟨g, 0, none⟩))) (ps := []) rfl
  refine ⟨w', hrun, ⟨_, ho', fun u z => ?_⟩, (Keeps.refl _ _).grown hg.grown (fun i e => .inl (by cases e; rfl)), ?_⟩
  · unfold putT
    by_cases hu : u = s.data.toList
    · subst hu
      rw [if_pos rfl, atKey_put_same (k := .string s.data.toList) ho.isMap trivial]
    · rw [if_neg hu, atKey_put_other (fun e => hu (by injection e)), hd u z]
  · obtain ⟨es, clock, es', clock', hb, rfl⟩ := hg
    simp [Go.ChangeMaps.setBlock]

/-! ### the tails -/
structure TailsAt (w : World) (lo m N : Nat) (A : TailM) : Prop where
  map : MapT Tryz.prog 9 w m N A
  node : ∀ t g, A t = some g → ∃ c v r, t = c :: v :: r ∧ lo ≤ g ∧ g ≠ m ∧ Blk w g #[.int .u8 (c.toNat : Int), .int .u8 (v.toNat : Int), tailV A r] 83 ∧ (r = [] ∨ (A r).isSome)
  inj : ∀ t u g, A t = some g → A u = some g → t = u

/-- Which blocks the tails are. -/
def ownT (m : Nat) (A : TailM) : Nat → Prop := fun k => k = m ∨ ∃ t, A t = some k
def Ext (A A' : TailM) : Prop := ∀ t g, A t = some g → A' t = some g

theorem TailsAt.keeps {w w' : World} {lo m N : Nat} {A : TailM} {may : Nat → Prop} (h : TailsAt w lo m N A) (q : Keeps may w w') (hm : ∀ k, ownT m A k → ¬ may k) : TailsAt w' lo m N A :=
  ⟨h.map.keeps q (hm m (.inl rfl)), fun t g e => by
    obtain ⟨c, v, r, h1, h2, h3, h4, h5⟩ := h.node t g e
    exact ⟨c, v, r, h1, h2, h3, q.blk h4 (hm g (.inr ⟨t, e⟩)), h5⟩, h.inj⟩
theorem TailsAt.quiet {w w' : World} {lo m N : Nat} {A : TailM} (h : TailsAt w lo m N A) (q : Keeps noB w w') : TailsAt w' lo m N A := h.keeps q (fun _ _ e => e)
theorem TailsAt.mono {w : World} {lo m N N' : Nat} {A : TailM} (h : TailsAt w lo m N A) (hN : N ≤ N') : TailsAt w lo m N' A := ⟨h.map.mono hN, h.node, h.inj⟩
theorem TailsAt.lt {w : World} {lo m N : Nat} {A : TailM} (h : TailsAt w lo m N A) : ∀ k, ownT m A k → k < w.heap.size := by
  rintro k (rfl | ⟨t, e⟩)
  · exact h.map.lt
  · obtain ⟨c, v, r, _, _, _, h4, _⟩ := h.node t k e
    exact h4.lt
theorem TailsAt.nil {w : World} {lo m N : Nat} {A : TailM} (h : TailsAt w lo m N A) : A [] = none := by
  cases e : A [] with
  | none => rfl
  | some g => obtain ⟨c, v, r, h1, _⟩ := h.node [] g e; cases h1
theorem TailsAt.start {w : World} {lo m : Nat} (h : w.ownsMap Tryz.prog 9 heldR m 0 (.map [])) : TailsAt w lo m 0 (fun _ => none) :=
  ⟨MapT.made h, (fun t g e => by cases e), (fun t u g e => by cases e)⟩

/-- One tail more. -/
theorem TailsAt.put {w w1 : World} {lo m N : Nat} {A : TailM} {c v : UInt8} {r : List UInt8} {g : Nat} (h : TailsAt w lo m N A) (hn : A (c :: v :: r) = none) (hr : r = [] ∨ (A r).isSome) (hlo : lo ≤ g) (hgm : g ≠ m) (hfree : ∀ t, A t ≠ some g)
    (q : Keeps (oneB m) w w1) (hb : Blk w1 g #[.int .u8 (c.toNat : Int), .int .u8 (v.toNat : Int), tailV A r] 83) (hm : MapT Tryz.prog 9 w1 m (N + 1) (putT (c :: v :: r) g A)) :
    TailsAt w1 lo m (N + 1) (putT (c :: v :: r) g A) := by
  have hrne : ∀ (c' v' : UInt8) (r' : List UInt8), (r' = [] ∨ (A r').isSome) → tailV (putT (c :: v :: r) g A) r' = tailV A r' := fun c' v' r' hs => by
    unfold tailV putT
    rw [if_neg]
    intro e
    rcases hs with hs | hs
    · rw [hs] at e; cases e
    · rw [e, hn] at hs; cases hs
  have hsome : ∀ r' : List UInt8, (r' = [] ∨ (A r').isSome) → (r' = [] ∨ (putT (c :: v :: r) g A r').isSome) := fun r' hs => hs.imp id (fun e => by unfold putT; split <;> first | rfl | exact e)
  refine ⟨hm, fun t g' e => ?_, fun t u g' e1 e2 => ?_⟩
  · unfold putT at e
    by_cases ht : t = c :: v :: r
    · rw [if_pos ht] at e
      obtain rfl : g = g' := Option.some.inj e
      refine ⟨c, v, r, ht, hlo, hgm, ?_, hsome r hr⟩
      rw [hrne c v r hr]; exact hb
    · rw [if_neg ht] at e
      obtain ⟨c', v', r', h1, h2, h3, h4, h5⟩ := h.node t g' e
      refine ⟨c', v', r', h1, h2, h3, ?_, hsome r' h5⟩
      rw [hrne c' v' r' h5]
      exact q.blk h4 h3
  · unfold putT at e1 e2
    by_cases h1 : t = c :: v :: r
    · by_cases h2 : u = c :: v :: r
      · rw [h1, h2]
      · rw [if_pos h1] at e1
        rw [if_neg h2] at e2
        obtain rfl : g = g' := Option.some.inj e1
        exact absurd e2 (hfree u)
    · by_cases h2 : u = c :: v :: r
      · rw [if_neg h1] at e1
        rw [if_pos h2] at e2
        obtain rfl : g = g' := Option.some.inj e2
        exact absurd e1 (hfree t)
      · rw [if_neg h1] at e1
        rw [if_neg h2] at e2
        exact h.inj t u g' e1 e2

/-- How tail ends. -/
def TailPost (w : World) (lo m N : Nat) (A : TailM) (c : List UInt8) (e : Ending) (w' : World) : Prop :=
  ∃ A', e = .returned (tailV A' c) ∧ TailsAt w' lo m (N + c.length) A' ∧ Ext A A' ∧ (c = [] ∨ (A' c).isSome) ∧ (∀ t g, A' t = some g → A t = some g ∨ (w.heap.size ≤ g ∧ ∃ p, p ++ t = c)) ∧ Keeps (oneB m) w w'

theorem zeroTl (w : World) : (zeroValue 40).run Tryz.prog w = .ok (.pointer none) w := by kernel_rfl

theorem resTail (W : World) (v : Value) (tmps : Array Value) (h4 : tmps.getD 4 undef = v) : (results Tryz.f26 tmps).run Tryz.prog W = .ok v W := by
  have h4' : tmps[4]?.getD undef = v := by simpa using h4
  simp [results, Tryz.results26, go_sem, h4']

theorem TailPost.quiet {w w1 w2 : World} {lo m N : Nat} {A : TailM} {c : List UInt8} {e : Ending} (h : TailPost w lo m N A c e w1) (q : Keeps noB w1 w2) : TailPost w lo m N A c e w2 := by
  obtain ⟨A', h1, h2, h3, h4, h5, h6⟩ := h
  exact ⟨A', h1, h2.quiet q, h3, h4, h5, h6.trans (q.mono (fun _ e => e.elim))⟩

def TailOk (n : Nat) : Prop := ∀ (c : List UInt8) (w : World) (C R Q lo m N : Nat) (A : TailM), c.length = n → Pairs c → n ≤ 1000 → N + n ≤ 100000 → Blk w C (cleanC R Q m) 74 → C ≠ m → lo ≤ w.heap.size → TailsAt w lo m N A →
  Calls Tryz.prog 26 #[.pointer (some ⟨C, 0, none⟩), .string ⟨c.toArray⟩] w (TailPost w lo m N A c)

set_option maxRecDepth 100000 in
set_option maxHeartbeats 4000000 in
theorem tail_ok (n : Nat) (ih : ∀ k, k < n → TailOk k) : TailOk n := by
  intro c w C R Q lo m N A hcl hpr hn1 hN hbC hCm hlo hT
  refine (callsIn_wide (n := 9)).1 ?_
  obtain ⟨F, hF⟩ : ∃ F, F = Fence.wide := ⟨_, rfl⟩
  have hFf : ∀ f, F.fn f := by subst hF; exact fun _ => trivial
  have hdd : ∀ k : Nat, (F.depth.isSome = true → 1 ≤ k) := by subst hF; intro k h; simp [Fence.wide] at h
  have hro : F.round = none := by subst hF; rfl
  have hds : F.depth.isSome = false := by subst hF; rfl
  rw [← hF]
  have HF := Lib.hid hF
  clear hF
  match c, hcl, hpr with
  | [], hcl, hpr =>
    have HE : Hid (TailPost w lo m N A [] (.returned (.pointer none)) w) := Lib.hid ⟨A, by unfold tailV; rw [hT.nil]; rfl, hT.mono (by omega), fun _ _ e => e, .inl rfl, fun _ _ e => .inl e, Keeps.refl _ _⟩
    clear hT hbC ih
    refine callsIn_of_wp_marks Tryz.func26 rfl (hFf _) ?_ hro
    simp only [Tryz.ntmps26, List.size_toArray, List.length_cons, List.length_nil, Nat.reduceAdd, Nat.reduceSub, Array.replicate_succ, Array.replicate_zero, List.push_toArray, List.append_toArray, List.nil_append, List.cons_append]
    gi_wp2
    refine leaves_marks [] _ List.nodup_nil (fun _ h => by cases h) (fun W' q _ => ?_)
    exact ⟨_, resTail W' (.pointer none) _ rfl, HE.out.quiet (q.mono (fun _ e => by cases e))⟩
  | [a], hcl, hpr => exact absurd hpr (by unfold Pairs; simp)
  | a :: v :: r, hcl, hpr =>
    obtain ⟨S, hS⟩ : ∃ S : ByteArray, S = ⟨(a :: v :: r).toArray⟩ := ⟨_, rfl⟩
    have hSd : S.data.toList = a :: v :: r := by rw [hS]
    have hSz : S.size = n := by rw [← hcl, hS]; rfl
    rw [← hS]
    have he : S.toList.isEmpty = false := by rw [Go.ByteArray.toList_eq, hSd]; rfl
    have hlk := fun W (hm : MapT Tryz.prog 9 W m N A) => hm.look Tryz.underlying9 Tryz.underlying72 (t := 72) (zeroTl W) S (by omega)
    rw [hSd] at hlk
    have rC : w.cell? ⟨C, 1, none⟩ = some (.map (some m)) := (hbC.cell 1).trans rfl
    cases hA : A (a :: v :: r) with
    | some g =>
      have hl0 := hlk w hT.map
      unfold tailV at hl0
      rw [hA] at hl0
      simp only [Option.map_some] at hl0
      have HE : Hid (TailPost w lo m N A (a :: v :: r) (.returned (.pointer (some ⟨g, 0, none⟩))) w) := Lib.hid ⟨A, by unfold tailV; rw [hA]; rfl, hT.mono (by omega), fun _ _ e => e, .inr (by rw [hA]; rfl), fun _ _ e => .inl e, Keeps.refl _ _⟩
      clear hT hbC ih hlk hS hSd hcl hpr hA
      refine callsIn_of_wp_marks Tryz.func26 rfl (hFf _) ?_ hro
      simp only [Tryz.ntmps26, List.size_toArray, List.length_cons, List.length_nil, Nat.reduceAdd, Nat.reduceSub, Array.replicate_succ, Array.replicate_zero, List.push_toArray, List.append_toArray, List.nil_append, List.cons_append]
      gi_wp2
      refine leaves_marks [] _ List.nodup_nil (fun _ h => by cases h) (fun W' q _ => ?_)
      exact ⟨_, resTail W' (.pointer (some ⟨g, 0, none⟩)) _ rfl, HE.out.quiet (q.mono (fun _ e => by cases e))⟩
    | none =>
      have hl0 := hlk w hT.map
      unfold tailV at hl0
      rw [hA] at hl0
      simp only [Option.map_none] at hl0
      have hrp : Pairs r := by unfold Pairs at hpr ⊢; simp only [List.length_cons] at hpr; omega
      have hrl : r.length + 2 = n := by simpa using hcl
      have HIH := Lib.hid (fun (w : World) hb hl hT => ih r.length (by omega) r w C R Q lo m N A rfl hrp (by omega) (by omega) hb hCm hl hT)
      refine callsIn_of_wp_marks Tryz.func26 rfl (hFf _) ?_ hro
      simp only [Tryz.ntmps26, List.size_toArray, List.length_cons, List.length_nil, Nat.reduceAdd, Nat.reduceSub, Array.replicate_succ, Array.replicate_zero, List.push_toArray, List.append_toArray, List.nil_append, List.cons_append]
      have h0 : 0 < S.size := by omega
      have h1 : 1 < S.size := by omega
      have g0 : S[0] = a := by
        have : S.data.toList[0]? = some a := by rw [hSd]; rfl
        have e : S.data.toList[0]? = some S[0] := by rw [List.getElem?_eq_getElem (by simpa using h0)]; rfl
        rw [e] at this; exact Option.some.inj this
      have g1 : S[1] = v := by
        have : S.data.toList[1]? = some v := by rw [hSd]; rfl
        have e : S.data.toList[1]? = some S[1] := by rw [List.getElem?_eq_getElem (by simpa using h1)]; rfl
        rw [e] at this; exact Option.some.inj this
      have g2 : S.extract 2 n = ⟨r.toArray⟩ := by
        apply ByteArray.ext
        apply Array.ext'
        rw [ByteArray.data_extract, Array.toList_extract, hSd]
        simp [List.extract]
        rw [List.take_of_length_le (by omega)]
      have HL : Hid (∀ W, Keeps (oneB m) w W → W.cell? ⟨C, 1, none⟩ = some (.map (some m))) := fun W q => ((q.blk hbC hCm).cell 1).trans rfl
      have HC : Hid (∀ n' W, Keeps noB w W → CallsIn F n' Tryz.prog 26 #[.pointer (some ⟨C, 0, none⟩), .string ⟨r.toArray⟩] W (TailPost W lo m N A r)) := fun n' W q => by
        rw [HF.out]
        exact callsIn_wide.2 (HIH.out W (q.blk hbC id) (by have := q.size; omega) (hT.quiet q))
      have HA := Lib.hid hA
      have HSD := Lib.hid hSd
      clear hbC ih hlk hS hcl hpr hA hSd
      gi_wp2
      refine wpIn_region_seqP (fun W => Keeps (oneB m) w W) [(0, true), (1, true), (2, true), (3, true), (4, true), (5, true), (6, true), (7, true), (8, true), (9, true), (10, true), (11, true), (12, true), (13, false), (14, true), (15, false), (16, false)] hro hFf (by kernel_rfl) (by kernel_rfl) (by kernel_rfl) rfl (by kernel_rfl) ((Keeps.refl _ _).drew) ?_
      refine seqH_take (.pointer (some ⟨C, 0, none⟩)) rfl rfl (fun W4 q4 => by have f0 := HL.out W4 q4; go_simp) (fun K hK => ?_)
      go_simp
      refine hK _ ?_
      clear hK K
      refine seqH_take (.pointer (some ⟨C, 0, none⟩)) rfl rfl (fun W4 q4 => by have f0 := HL.out W4 q4; go_simp) (fun K hK => ?_)
      go_simp
      refine hK _ ?_
      clear hK K
      refine seqH_take (.pointer (some ⟨C, 1, none⟩)) rfl rfl (fun W4 q4 => by have f0 := HL.out W4 q4; go_simp) (fun K hK => ?_)
      go_simp
      refine hK _ ?_
      clear hK K
      refine seqH_take (.map (some m)) rfl rfl (fun W4 q4 => by have f0 := HL.out W4 q4; go_simp) (fun K hK => ?_)
      go_simp
      refine hK _ ?_
      clear hK K
      refine seqH_take (.string S) rfl rfl (fun W4 q4 => by have f0 := HL.out W4 q4; go_simp) (fun K hK => ?_)
      go_simp
      refine hK _ ?_
      clear hK K
      refine seqH_take (.string S) rfl rfl (fun W4 q4 => by have f0 := HL.out W4 q4; go_simp) (fun K hK => ?_)
      go_simp
      refine hK _ ?_
      clear hK K
      refine seqH_take (.int .u8 (a.toNat : Int)) rfl rfl (fun W4 q4 => by have f0 := HL.out W4 q4; go_simp; intro hh; exfalso; omega) (fun K hK => ?_)
      go_simp
      refine hK _ ?_
      clear hK K
      refine seqH_take (.string S) rfl rfl (fun W4 q4 => by have f0 := HL.out W4 q4; go_simp) (fun K hK => ?_)
      go_simp
      refine hK _ ?_
      clear hK K
      refine seqH_take (.int .u8 (v.toNat : Int)) rfl rfl (fun W4 q4 => by have f0 := HL.out W4 q4; go_simp; intro hh; exfalso; omega) (fun K hK => ?_)
      go_simp
      refine hK _ ?_
      clear hK K
      refine seqH_take (.agg #[.int .u8 (a.toNat : Int), .int .u8 (v.toNat : Int)]) rfl rfl (fun W4 q4 => by have f0 := HL.out W4 q4; go_simp) (fun K hK => ?_)
      go_simp
      refine hK _ ?_
      clear hK K
      refine seqH_take (.pointer (some ⟨C, 0, none⟩)) rfl rfl (fun W4 q4 => by have f0 := HL.out W4 q4; go_simp) (fun K hK => ?_)
      go_simp
      refine hK _ ?_
      clear hK K
      refine seqH_take (.string S) rfl rfl (fun W4 q4 => by have f0 := HL.out W4 q4; go_simp) (fun K hK => ?_)
      go_simp
      refine hK _ ?_
      clear hK K
      refine seqH_take (.string ⟨r.toArray⟩) rfl rfl (fun W4 q4 => by have f0 := HL.out W4 q4; go_simp; intro hh; exfalso; omega) (fun K hK => ?_)
      go_simp
      refine hK _ ?_
      clear hK K
      refine seqH_loud rfl (fun K hK => ?_)
      gi_wp2
      refine CallsIn.mono (HC.out _ _ ((Keeps.refl _ _).drew)) ?_
      rintro e W1 ⟨A1, rfl, hT1, hx1, hs1, hn1', q1⟩
      have q1' : Keeps (oneB m) w W1 := ⟨q1.os, q1.tape, q1.output, q1.size, q1.block⟩
      have hsz1 : w.heap.size ≤ W1.heap.size := q1'.size
      unfold tailV
      obtain ⟨pr, hpr⟩ : ∃ pr, (A1 r).map (fun g => (⟨g, 0, none⟩ : Addr)) = pr := ⟨_, rfl⟩
      rw [hpr]
      have H1 := Lib.hid (And.intro hT1 (And.intro hx1 (And.intro hs1 (And.intro hn1' (And.intro q1' hpr)))))
      clear hT1 hx1 hs1 hn1' q1 q1' hpr
      gi_wp2
      refine hK _ _ H1.out.2.2.2.2.1 ?_
      clear hK K
      refine seqH_take (.agg #[.int .u8 (a.toNat : Int), .int .u8 (v.toNat : Int), .pointer pr]) rfl rfl (fun W4 q4 => by go_simp) (fun K hK => ?_)
      go_simp
      refine hK _ ?_
      clear hK K
      refine seqH_loud rfl (fun K hK => ?_)
      gi_wp2
      obtain ⟨W2, hW2⟩ : ∃ W2, W2 = W1.alloc (.cells #[.int .u8 (a.toNat : Int), .int .u8 (v.toNat : Int), .pointer pr] 83) := ⟨_, rfl⟩
      have H2 : Hid (Keeps noB W1 W2 ∧ W2.heap.size = W1.heap.size + 1 ∧ Blk W2 W1.heap.size #[.int .u8 (a.toNat : Int), .int .u8 (v.toNat : Int), .pointer pr] 83) := Lib.hid (by
        rw [hW2]; exact ⟨(Keeps.refl _ _).alloc _, by simp, Blk.new _ _ _⟩)
      rw [← hW2]
      clear hW2
      refine hK _ _ (H1.out.2.2.2.2.1.trans (H2.out.1.mono (fun _ e => e.elim))) ?_
      clear hK K
      obtain ⟨W3, hrun, hm3, q23, hs3⟩ := (H1.out.1.map.keeps H2.out.1 id).update Tryz.underlying9 Tryz.underlying72 (t := 72) (by omega) S (by omega) W1.heap.size
      have H3 := Lib.hid (And.intro hm3 (And.intro q23 hs3))
      clear hm3 q23 hs3
      refine seqH_loud rfl (fun K hK => ?_)
      gi_wp2
      have HE : Hid (TailPost w lo m N A (a :: v :: r) (.returned (.pointer (some ⟨W1.heap.size, 0, none⟩))) W3 ∧ Keeps (oneB m) w W3 ∧ (Instr.lookup 72 (.map (some m)) (.string S) false).run Tryz.prog W3 = .ok (.pointer (some ⟨W1.heap.size, 0, none⟩)) W3) := Lib.hid (by
        obtain ⟨hT1, hx1, hs1, hn1', q1', hpr⟩ := H1.out
        obtain ⟨q12, hz2, hb2⟩ := H2.out
        obtain ⟨hm3, q23, hs3⟩ := H3.out
        have hml := hT1.map.lt
        have hA1 : A1 (a :: v :: r) = none := by
          cases e : A1 (a :: v :: r) with
          | none => rfl
          | some g' =>
            rcases hn1' _ _ e with h | h
            · rw [HA.out] at h; cases h
            · obtain ⟨p, hp⟩ := h.2; have := congrArg List.length hp; simp at this; omega
        have qk : Keeps (oneB m) W1 W3 := (q12.mono (fun _ e => e.elim)).trans q23
        have hgm : W1.heap.size ≠ m := by omega
        have hb3 : Blk W3 W1.heap.size #[.int .u8 (a.toNat : Int), .int .u8 (v.toNat : Int), tailV A1 r] 83 := by
          unfold tailV; rw [hpr]; exact q23.blk hb2 hgm
        rw [HSD.out] at hm3
        have hT3 := hT1.put hA1 (by
          rcases hs1 with h | h
          · exact .inl h
          · exact .inr h) (by omega) hgm (fun t e => by have := hT1.lt _ (.inr ⟨t, e⟩); omega) qk hb3 hm3
        have hput : putT (a :: v :: r) W1.heap.size A1 (a :: v :: r) = some W1.heap.size := by unfold putT; rw [if_pos rfl]
        refine ⟨⟨_, by unfold tailV; rw [hput]; rfl, hT3.mono (by simp only [List.length_cons]; omega), fun t g' e => ?_, .inr (by rw [hput]; rfl), fun t g' e => ?_, q1'.trans qk⟩, q1'.trans qk, ?_⟩
        · have h1 := hx1 t g' e
          unfold putT
          rw [if_neg (fun ht => by rw [ht, HA.out] at e; cases e)]
          exact h1
        · unfold putT at e
          by_cases ht : t = a :: v :: r
          · rw [if_pos ht] at e
            obtain rfl : W1.heap.size = g' := Option.some.inj e
            exact .inr ⟨hsz1, [], by rw [ht]; rfl⟩
          · rw [if_neg ht] at e
            rcases hn1' t g' e with h | h
            · exact .inl h
            · obtain ⟨p, hp⟩ := h.2
              exact .inr ⟨h.1, a :: v :: p, by rw [← hp]; rfl⟩
        · have := hT3.map.look Tryz.underlying9 Tryz.underlying72 (t := 72) (zeroTl W3) S (by omega)
          rw [HSD.out] at this
          unfold tailV at this
          rw [hput] at this
          exact this)
      have rC3 := HL.out W3 HE.out.2.1
      have hl3 := HE.out.2.2
      refine hK _ _ HE.out.2.1 ?_
      clear hK K
      simp only [wpSeqH, noPanic]
      clear hrun rC hl0
      gi_wp2
      refine leaves_marks [] _ List.nodup_nil (fun _ h => by cases h) (fun W' q _ => ?_)
      exact ⟨_, resTail W' (.pointer (some ⟨W1.heap.size, 0, none⟩)) _ rfl, HE.out.1.quiet (q.mono (fun _ e => by cases e))⟩

theorem tail_all (n : Nat) : TailOk n := Nat.strongRecOn n (fun n ih => tail_ok n ih)

end Go.Proofs.YtkfcgamdlckncaaGreat

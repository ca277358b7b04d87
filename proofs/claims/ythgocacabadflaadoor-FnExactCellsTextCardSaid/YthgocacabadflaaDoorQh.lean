/-
  The program's historyOf.
-/
import Derived.Test.YthgocacabadflaaDoorQd
import Derived.Test.YthgocacabadflaaDoorQg
namespace Go.Proofs.YthgocacabadflaaDoor
set_option linter.unusedVariables false
set_option linter.unusedSimpArgs false
open Go.RowKit

attribute [local go_sem] Oper.semAt_some

/-! ### what the iterator yields, added one by one -/
def foldE : List (Option (UInt8 × Int)) → List Ev → Option (List Ev)
  | [], l => some l
  | none :: _, _ => none
  | some p :: r, l => match addE l p.1 p.2 with | none => none | some e => foldE r (l ++ [e])

theorem fits_kind {l : List Ev} {k : UInt8} {n : Nat} (h : fits l ⟨k, n⟩) : k = 43 ∨ k = 46 ∨ k = 45 := by
  rcases h with ⟨h, _⟩ | ⟨h, _⟩
  · exact .inl h
  · exact .inr h

theorem addE_fits {l : List Ev} {k : UInt8} {v : Int} {e : Ev} (h : addE l k v = some e) : fits l e ∧ l.length < 600 := by
  unfold addE at h
  split at h
  · cases h
  · split at h
    · rename_i h1 h2
      have := Option.some.inj h; subst this; exact ⟨h2.2, by omega⟩
    · cases h

theorem readL_fold : ∀ (ws : List (List UInt8)) (l : List Ev), Good l → l.length ≤ 600 → readL ws l = foldE (rdL ws) l
  | [], l, _, _ => rfl
  | w :: ws, l, hg, hl => by
    cases hx : rdE w with
    | none =>
      have e1 : rdL (w :: ws) = [none] := rdL_none (post := ws) hx [] (fun _ h => by simp at h)
      rw [e1]
      show _ = none
      refine readL_stop (.inr ?_)
      cases w with
      | nil => rfl
      | cons k d =>
        have hx : (if k = 43 ∨ k = 46 ∨ k = 45 then (numP d).map (fun v => (k, v)) else none) = none := hx
        rw [nextE_by numP_reads hg hl]
        by_cases hk : k = 43 ∨ k = 46 ∨ k = 45
        · rw [if_pos hk] at hx
          cases hn : numP d with
          | none => rfl
          | some v => rw [hn] at hx; cases hx
        · cases hn : numP d with
          | none => rfl
          | some v =>
            show (if 0 ≤ v ∧ fits l ⟨k, v.toNat⟩ then some (⟨k, v.toNat⟩ : Ev) else none) = none
            exact if_neg (fun e => hk (fits_kind e.2))
    | some p =>
      have e1 : rdL (w :: ws) = some p :: rdL ws := rdL_some (post := ws) hx [] (fun _ h => by simp at h)
      rw [e1]
      cases w with
      | nil => cases hx
      | cons k d =>
        have hx : (if k = 43 ∨ k = 46 ∨ k = 45 then (numP d).map (fun v => (k, v)) else none) = some p := hx
        by_cases hk : k = 43 ∨ k = 46 ∨ k = 45
        · rw [if_pos hk] at hx
          cases hn : numP d with
          | none => rw [hn] at hx; cases hx
          | some v =>
            rw [hn] at hx
            have hp : (k, v) = p := Option.some.inj hx
            subst hp
            have hne : nextE l (k :: d) = if 0 ≤ v ∧ fits l ⟨k, v.toNat⟩ then some ⟨k, v.toNat⟩ else none := by rw [nextE_by numP_reads hg hl, hn]
            show _ = match addE l k v with | none => none | some e => foldE (rdL ws) (l ++ [e])
            by_cases h6 : 600 ≤ l.length
            · have ha : addE l k v = none := if_pos h6
              rw [ha, readL_stop (.inl h6)]
            · have ha : addE l k v = if 0 ≤ v ∧ fits l ⟨k, v.toNat⟩ then some ⟨k, v.toNat⟩ else none := if_neg h6
              by_cases hf : 0 ≤ v ∧ fits l ⟨k, v.toNat⟩
              · rw [if_pos hf] at ha hne
                rw [ha, readL_next h6 hne]
                exact readL_fold ws _ (hg.snoc hf.2) (by simp; omega)
              · rw [if_neg hf] at ha hne
                rw [ha, readL_stop (.inr hne)]
        · rw [if_neg hk] at hx; cases hx

theorem readP_fold (s : ByteArray) : readP s = foldE (yldP s) [] := by
  unfold readP yldP
  by_cases h : s = ⟨#[45]⟩
  · rw [if_pos h, if_pos h]; rfl
  · rw [if_neg h, if_neg h]; exact readL_fold _ _ .nil (by simp)

theorem rdE_ok {w : List UInt8} {p : UInt8 × Int} (h : rdE w = some p) : (p.1 = 43 ∨ p.1 = 46 ∨ p.1 = 45) ∧ (Lit.int .i64 p.2).wf = true := by
  cases w with
  | nil => cases h
  | cons k d =>
    have hx : (if k = 43 ∨ k = 46 ∨ k = 45 then (numP d).map (fun v => (k, v)) else none) = some p := h
    by_cases hk : k = 43 ∨ k = 46 ∨ k = 45
    · rw [if_pos hk] at hx
      cases hn : numP d with
      | none => rw [hn] at hx; cases hx
      | some v =>
        rw [hn] at hx
        have hp : (k, v) = p := Option.some.inj hx
        subst hp
        refine ⟨hk, ?_⟩
        unfold numP at hn
        split at hn
        · rename_i u hu
          split at hn
          · have := Option.some.inj hn; subst this
            obtain ⟨b1, b2⟩ := atoi_bounds hu
            simp [Lit.wf, IntKind.min, IntKind.max, IntKind.signed, IntKind.bits]; omega
          · cases hn
        · cases hn
    · rw [if_neg hk] at hx; cases hx

theorem upTo_mem {α : Type} : ∀ (l : List (Option α)) (x : α), some x ∈ upTo l → some x ∈ l
  | [], x, h => by simp [upTo] at h
  | none :: r, x, h => by simp [upTo] at h
  | some y :: r, x, h => by
    unfold upTo at h
    rcases List.mem_cons.1 h with h | h
    · rw [h]; simp
    · exact List.mem_cons_of_mem _ (upTo_mem r x h)

theorem yld_ok {s : ByteArray} {p : UInt8 × Int} (h : some p ∈ yldP s) : (p.1 = 43 ∨ p.1 = 46 ∨ p.1 = 45) ∧ (Lit.int .i64 p.2).wf = true := by
  unfold yldP at h
  split at h
  · simp at h
  · have := upTo_mem _ _ h
    obtain ⟨w, _, hw⟩ := List.mem_map.1 this
    exact rdE_ok hw

/-! ### the walk -/
def HistPost (w : World) (r : Option (List Ev)) (e : Ending) (w' : World) : Prop :=
  (match r with
   | some l => ∃ H own ve vl, e = .returned (.tuple #[.pointer (some ⟨H, 0, none⟩), .nilIface]) ∧ HistAt w' H own l ve vl ∧ (∀ k, own k → w.heap.size ≤ k)
   | none => ∃ tp q, e = .returned (.tuple #[.pointer none, .iface tp q])) ∧ Keeps noB w w'

theorem resHist (W : World) (A B : Nat) (a b : Value) (tmps : Array Value) (h2 : tmps.getD 2 undef = .pointer (some ⟨A, 0, none⟩)) (h3 : tmps.getD 3 undef = .pointer (some ⟨B, 0, none⟩)) (ha : W.cell? ⟨A, 0, none⟩ = some a) (hb : W.cell? ⟨B, 0, none⟩ = some b) :
    (results Tryd.f34 tmps).run Tryd.prog W = .ok (.tuple #[a, b]) W := by
  have h2' : tmps[2]?.getD undef = .pointer (some ⟨A, 0, none⟩) := by simpa using h2
  have h3' : tmps[3]?.getD undef = .pointer (some ⟨B, 0, none⟩) := by simpa using h3
  simp [results, Tryd.results34, go_sem, h2', h3', ha, hb]

/-- What the rounds of historyOf hold: the results' boxes are the blocks R and R + 1, the history R + 2. -/
def HI (s : ByteArray) (R : Nat) (own0 : Nat → Prop) (w5 : World) (pre : List (Option (UInt8 × Int))) (own : Nat → Prop) (W : World) : Prop :=
  ∃ l ve vl oA, Good l ∧ l.length ≤ 600 ∧ (∀ post, yldP s = pre ++ post → readP s = foldE post l) ∧ HistAt W (R + 2) oA l ve vl ∧ (∀ k, own k ↔ oA k ∨ k = R ∨ k = R + 1) ∧ ¬ oA R ∧ ¬ oA (R + 1) ∧ (∀ k, oA k → R ≤ k) ∧
    Blk W R #[.pointer none] 43 ∧ Blk W (R + 1) #[.nilIface] 45 ∧ Owns own0 own w5 W
def HX (s : ByteArray) (R : Nat) (own0 : Nat → Prop) (w5 : World) (c : Code) (pre : List (Option (UInt8 × Int))) (own : Nat → Prop) (W : World) : Prop :=
  c = .ret ∧ readP s = none ∧ Blk W R #[.pointer none] 43 ∧ (∃ tp q, Blk W (R + 1) #[.iface tp q] 45) ∧ own R ∧ own (R + 1) ∧ Owns own0 own w5 W

def own3 (R : Nat) : Nat → Prop := fun k => k = R ∨ k = R + 1 ∨ k = R + 2

set_option maxRecDepth 100000 in
set_option maxHeartbeats 8000000 in
theorem historyOf_any (s : ByteArray) (hs : s.size ≤ 1048576) (w : World) (hE : Env w) : Calls Tryd.prog 34 #[.string s] w (HistPost w (readP s)) := by
  refine (callsIn_wide (n := 9)).1 ?_
  obtain ⟨F, hF⟩ : ∃ F, F = Fence.wide := ⟨_, rfl⟩
  have hFf : ∀ f, F.fn f := by subst hF; exact fun _ => trivial
  have hdd : ∀ k : Nat, (F.depth.isSome = true → 1 ≤ k) := by subst hF; intro k h; simp [Fence.wide] at h
  have hro : F.round = none := by subst hF; rfl
  have hds : F.depth.isSome = false := by subst hF; rfl
  have HEI : Hid (∀ m w, CallsIn F m Tryd.prog 52 #[.string s] w fun e w' => e = .returned (.func (.func 66) #[] #[ptr w.heap.size]) ∧ w' = w.alloc (.cells #[.string s] 9)) := fun m w => by
    rw [hF]; exact callsIn_wide.2 (eventsIn_any s w)
  rw [← hF]
  have HF := Lib.hid hF
  clear hF
  refine callsIn_of_wp_marks Tryd.func34 rfl (hFf _) ?_ hro
  simp only [Tryd.ntmps34, List.size_toArray, List.length_cons, List.length_nil, Nat.reduceAdd, Nat.reduceSub, Array.replicate_succ, Array.replicate_zero, List.push_toArray, List.append_toArray, List.nil_append, List.cons_append]
  gi_wp2
  refine (HEI.out _ _).mono ?_
  rintro e w5 ⟨rfl, hw5⟩
  obtain ⟨R, hR⟩ : ∃ R, R = w.heap.size := ⟨_, rfl⟩
  have hs5 : w5.heap.size = R + 5 := by rw [hw5, hR]; simp
  have q05 : Keeps noB w w5 := by rw [hw5]; exact (((((Keeps.refl _ _).alloc _).alloc _).alloc _).alloc _).alloc _
  have bR : Blk w5 R #[.pointer none] 43 := by rw [hw5, hR]; exact ((((Blk.new w _ _).alloc _).alloc _).alloc _).alloc _
  have bR1 : Blk w5 (R + 1) #[.nilIface] 45 := by
    have h := (((Blk.new (w.alloc (.cells #[.pointer none] 43)) #[.nilIface] 45).alloc (.cells #[.slice none 0 0, .slice none 0 0] 60)).alloc (.cells #[.pointer (some ⟨w.heap.size + 1 + 1, 0, none⟩)] 43)).alloc (.cells #[.string s] 9)
    simp only [World.size_alloc] at h
    rw [hw5, hR]; exact h
  have bH : Blk w5 (R + 2) #[.slice none 0 0, .slice none 0 0] 60 := by
    have h := ((Blk.new ((w.alloc (.cells #[.pointer none] 43)).alloc (.cells #[.nilIface] 45)) #[.slice none 0 0, .slice none 0 0] 60).alloc (.cells #[.pointer (some ⟨w.heap.size + 1 + 1, 0, none⟩)] 43)).alloc (.cells #[.string s] 9)
    simp only [World.size_alloc] at h
    rw [hw5, hR]; exact h
  have bP : Blk w5 (R + 3) #[.pointer (some ⟨R + 2, 0, none⟩)] 43 := by
    have h := (Blk.new (((w.alloc (.cells #[.pointer none] 43)).alloc (.cells #[.nilIface] 45)).alloc (.cells #[.slice none 0 0, .slice none 0 0] 60)) #[.pointer (some ⟨w.heap.size + 1 + 1, 0, none⟩)] 43).alloc (.cells #[.string s] 9)
    simp only [World.size_alloc] at h
    rw [hw5, hR]; exact h
  have bT : Blk w5 (R + 4) #[.string s] 9 := by
    have h := Blk.new ((((w.alloc (.cells #[.pointer none] 43)).alloc (.cells #[.nilIface] 45)).alloc (.cells #[.slice none 0 0, .slice none 0 0] 60)).alloc (.cells #[.pointer (some ⟨w.heap.size + 1 + 1, 0, none⟩)] 43)) #[.string s] 9
    simp only [World.size_alloc] at h
    rw [hw5, hR]; exact h
  simp only [World.size_alloc]
  rw [← hR]
  have hE5 := hE.keeps q05 (fun _ _ e => e)
  have hz := hE.sz
  have HQ := Lib.hid (And.intro q05 (And.intro bP (And.intro bT hE5)))
  have HS := Lib.hid (And.intro hs5 (And.intro hR hz))
  have hh0 : HistAt w5 (R + 2) (fun k => k = R + 2) [] (.slice none 0 0) (.slice none 0 0) :=
    ⟨bH, ⟨rfl, .inl ⟨rfl, rfl⟩⟩, ⟨rfl, .inl ⟨rfl, rfl⟩⟩, rfl, fun g hg => by simp [Value.ownBlock] at hg, fun g hg => by simp [Value.ownBlock] at hg, fun g hg => by simp [Value.ownBlock] at hg⟩
  have HP0 : Hid (HI s R (own3 R) w5 [] (own3 R) w5) :=
    ⟨[], _, _, fun k => k = R + 2, .nil, by simp, fun post h => by rw [readP_fold, h]; rfl, hh0, fun k => by unfold own3; omega, by show ¬ R = R + 2; omega, by show ¬ R + 1 = R + 2; omega, fun k e => by have e : k = R + 2 := e; omega, bR, bR1, Owns.refl (fun k hk => by unfold own3 at hk; omega)⟩
  clear hw5 hR hs5 q05 bR bR1 bH bP bT hE5 hz hh0 hE
  gi_wp2
  refine wp_range HF.out (gf := 66) (lb := #[ptr (R + 1 + 1 + 1 + 1)]) (all := yldP s) (enc := encE) (prot := protE (R + 4)) (own := own3 R)
    rfl (enters_of Tryd.func66 (by kernel_rfl) rfl)
    (fun W' q' => eventsIn_iter W' (R + 4) s hs (HQ.out.2.2.2.keeps q' (fun _ _ e => e)) (q'.blk HQ.out.2.2.1 id))
    (HI s R (own3 R) w5) (HX s R (own3 R) w5) ?hI ?hIx ?hown ?hprot ?hps ?h0 ?hround ?hdone ?hstop
  case hI =>
    rintro pre own' Wa Wb ⟨l, ve, vl, oA, h1, h2, h3, h4, h5, h6, h7, h8, h9, h10, h11⟩ q
    have hS := HS.out
    exact ⟨l, ve, vl, oA, h1, h2, h3, h4.keeps q (fun k hk e => e.2 ((h5 k).2 (.inl hk))), h5, h6, h7, h8, q.blk h9 (fun e => by have := e.1; omega), q.blk h10 (fun e => by have := e.1; omega), h11.ahead q (fun _ e => e.1)⟩
  case hIx =>
    rintro c pre own' Wa Wb ⟨h1, h2, h3, ⟨tp, qq, h4⟩, h5, h6, h7⟩ q
    have hS := HS.out
    exact ⟨h1, h2, q.blk h3 (fun e => by have := e.1; omega), ⟨tp, qq, q.blk h4 (fun e => by have := e.1; omega)⟩, h5, h6, h7.ahead q (fun _ e => e.1)⟩
  case hown => intro k hk; have := HS.out; unfold own3 at hk; omega
  case hprot =>
    intro k hk
    have := HS.out
    unfold protE at hk
    refine ⟨fun e => ?_, by omega⟩
    unfold own3 at e; omega
  case hps => intro y args h; rw [encE_size h]; rfl
  case h0 => exact HP0.out
  case hround =>
    rintro lq n pre x post args own1 W1 hall henc hI1 hlt hl hnl hll
    have hS := HS.out
    have hI1' := hI1
    obtain ⟨l, ve, vl, oA, g1, g2, g3, g4, g5, g6, g7, g8, g9, g10, g11⟩ := hI1'
    have hl5 : w5.heap.size ≤ lq := hl
    have hbP1 : Blk W1 (R + 3) #[.pointer (some ⟨R + 2, 0, none⟩)] 43 := g11.keeps.blk HQ.out.2.1 (fun e => by unfold own3 at e; omega)
    have hE1 : Env W1 := HQ.out.2.2.2.keeps g11.keeps (fun k hk e => by unfold own3 at e; omega)
    cases x with
    | none =>
      obtain ⟨tp, qq, rfl⟩ := henc
      have hrd : readP s = none := by rw [g3 _ hall]; rfl
      have hF : Hid (∀ W3, Keeps (fun k => k = lq) (W1.alloc (.cells #[.int .u8 0, .int .i64 0] 63)) W3 →
          (W3.cell? ⟨R, 0, none⟩ = some (.pointer none) ∧ W3.frozen? ⟨R, 0, none⟩ = false ∧ W3.cell? ⟨R + 1, 0, none⟩ = some .nilIface ∧ W3.frozen? ⟨R + 1, 0, none⟩ = false) ∧
          ∃ own', Owns own1 own' W3 ((W3.setCell ⟨R, 0, none⟩ (.pointer none)).setCell ⟨R + 1, 0, none⟩ (.iface tp qq)) ∧ HX s R (own3 R) w5 .ret (pre ++ [none]) own' ((W3.setCell ⟨R, 0, none⟩ (.pointer none)).setCell ⟨R + 1, 0, none⟩ (.iface tp qq))) := fun W3 q3 => by
        have q13 : Keeps (fun k => w5.heap.size ≤ k ∧ ¬ own1 k) W1 W3 := ((Keeps.refl _ _).alloc _).trans (q3.mono (fun k e => by rw [e]; exact ⟨hl5, hnl⟩))
        have c9 := q13.blk g9 (fun e => by have := e.1; omega)
        have c10 := q13.blk g10 (fun e => by have := e.1; omega)
        have ho := g11.ahead q13 (fun _ e => e.1)
        have oR : own1 R := (g5 R).2 (.inr (.inl rfl))
        have oR1 : own1 (R + 1) := (g5 (R + 1)).2 (.inr (.inr rfl))
        have qs : Keeps own1 W3 ((W3.setCell ⟨R, 0, none⟩ (.pointer none)).setCell ⟨R + 1, 0, none⟩ (.iface tp qq)) := ((Keeps.refl own1 W3).setCell (p := ⟨R, 0, none⟩) (.inl oR) _).setCell (p := ⟨R + 1, 0, none⟩) (.inl oR1) _
        have ho2 : Owns own1 own1 W3 ((W3.setCell ⟨R, 0, none⟩ (.pointer none)).setCell ⟨R + 1, 0, none⟩ (.iface tp qq)) := ⟨fun _ h => .inl h, fun k hk => Nat.lt_of_lt_of_le (ho.lt k hk) qs.size, qs⟩
        refine ⟨⟨(c9.cell 0).trans rfl, c9.free 0, (c10.cell 0).trans rfl, c10.free 0⟩, own1, ho2, rfl, hrd, ?_, ⟨tp, qq, ?_⟩, oR, oR1, ho.trans ho2⟩
        · exact (c9.set 0 (.pointer none)).setOther (by show ¬ R + 1 = R; omega) _
        · exact (c10.setOther (by show ¬ R = R + 1; omega) _).set 0 _
      clear hI1 hall g1 g2 g3 g4 g5 g6 g7 g8 g9 g10 g11 hbP1 hE1 hS
      gi_wp2
      refine ⟨(Keeps.refl _ _).alloc _, fun W3 q3 hs3 => ?_⟩
      clear hs3
      obtain ⟨⟨a1, a2, a3, a4⟩, hpost⟩ := hF.out W3 q3
      have HE := Lib.hid hpost
      have hRR : ¬ R + 1 = R := by omega
      have hRR' : ¬ R = R + 1 := by omega
      clear hpost q3
      gi_wp2
      exact HE.out
    | some p =>
      obtain ⟨k, v⟩ := p
      have henc : args = #[.agg #[.int .u8 (k.toNat : Int), .int .i64 v], .nilIface] := henc
      subst henc
      have hok := yld_ok (s := s) (p := (k, v)) (by rw [hall]; simp)
      have hrd : readP s = foldE (some (k, v) :: post) l := g3 _ hall
      obtain ⟨kv, hkv⟩ : ∃ kv : Int, kv = (k.toNat : Int) := ⟨_, rfl⟩
      have hF : Hid (∀ W3, Keeps (fun k => k = lq) (W1.alloc (.cells #[.int .u8 kv, .int .i64 v] 63)) W3 →
          W3.cell? ⟨R + 3, 0, none⟩ = some (.pointer (some ⟨R + 2, 0, none⟩)) ∧ (W3.cell? ⟨W1.heap.size, 0, none⟩ = some (.int .u8 kv) ∧ W3.cell? ⟨W1.heap.size, 1, none⟩ = some (.int .i64 v)) ∧
          ∀ m, CallsIn F m Tryd.prog 53 #[.pointer (some ⟨R + 2, 0, none⟩), .agg #[.int .u8 kv, .int .i64 v]] W3 (fun e w' =>
            (e = .returned .nilIface ∧ ∃ own', Owns own1 own' W3 w' ∧ HI s R (own3 R) w5 (pre ++ [some (k, v)]) own' w') ∨
            ((∃ tp qq, e = .returned (.iface tp qq) ∧ ∃ own', Owns own1 own' W3 ((w'.setCell ⟨R, 0, none⟩ (.pointer none)).setCell ⟨R + 1, 0, none⟩ (.iface tp qq)) ∧ HX s R (own3 R) w5 .ret (pre ++ [some (k, v)]) own' ((w'.setCell ⟨R, 0, none⟩ (.pointer none)).setCell ⟨R + 1, 0, none⟩ (.iface tp qq))) ∧
              w'.cell? ⟨R, 0, none⟩ = some (.pointer none) ∧ w'.frozen? ⟨R, 0, none⟩ = false ∧ w'.cell? ⟨R + 1, 0, none⟩ = some .nilIface ∧ w'.frozen? ⟨R + 1, 0, none⟩ = false))) := fun W3 q3 => by
        have hlW1 : lq < W1.heap.size := hll
        have qa : Keeps noB W1 (W1.alloc (.cells #[.int .u8 kv, .int .i64 v] 63)) := (Keeps.refl _ _).alloc _
        have q13 : Keeps (fun k => w5.heap.size ≤ k ∧ ¬ own1 k) W1 W3 := (qa.mono (fun _ e => e.elim)).trans (q3.mono (fun k e => by rw [e]; exact ⟨hl5, hnl⟩))
        have bE := q3.blk (Blk.new W1 #[.int .u8 kv, .int .i64 v] 63) (fun e => by have e : W1.heap.size = lq := e; omega)
        have c9 := q13.blk g9 (fun e => by have := e.1; omega)
        have c10 := q13.blk g10 (fun e => by have := e.1; omega)
        have cP := q13.blk hbP1 (fun e => by have := e.1; omega)
        have ho := g11.ahead q13 (fun _ e => e.1)
        have h4 := g4.keeps q13 (fun k hk e => e.2 ((g5 k).2 (.inl hk)))
        have hE3 := hE1.keeps q13 (fun k hk e => by have := e.1; omega)
        refine ⟨(cP.cell 0).trans rfl, ⟨(bE.cell 0).trans rfl, (bE.cell 1).trans rfl⟩, fun m => ?_⟩
        rw [HF.out, hkv]
        have hadd := add_any W3 (R + 2) oA l ve vl h4 (fun k hk => ho.lt k ((g5 k).2 (.inl hk))) (fun k hk => by have := g8 k hk; omega) hE3 g1 g2 k v hok.1 hok.2
        refine (callsIn_wide.2 hadd).mono ?_
        intro e w' hp
        cases ha : addE l k v with
        | some ev =>
          rw [ha] at hp
          obtain ⟨rfl, own', ve', vl', ho', hh'⟩ := hp
          have hf := addE_fits ha
          have hnR : ∀ i, i = R ∨ i = R + 1 → ¬ own' i := fun i hi e => by
            rcases ho'.more i e with h | h
            · rcases hi with rfl | rfl
              · exact g6 h
              · exact g7 h
            · have := ho.keeps.size; rcases hi with rfl | rfl <;> omega
          have hW3R : R + 1 < W3.heap.size := c10.lt
          have hO : Owns own1 (fun k => own' k ∨ k = R ∨ k = R + 1) W3 w' := by
            refine ⟨fun i hi => ?_, fun i hi => ?_, ho'.keeps.mono (fun i hi => (g5 i).2 (.inl hi))⟩
            · rcases hi with hi | hi
              · exact (ho'.more i hi).imp (fun h => (g5 i).2 (.inl h)) id
              · exact .inl ((g5 i).2 (.inr hi))
            · rcases hi with hi | hi
              · exact ho'.lt i hi
              · have := ho'.keeps.size; rcases hi with rfl | rfl <;> omega
          refine .inl ⟨rfl, _, hO, l ++ [ev], ve', vl', own', g1.snoc hf.1, by simp; omega, fun post' h' => ?_, hh', fun i => Iff.rfl, hnR _ (.inl rfl), hnR _ (.inr rfl), fun i hi => ?_, ho'.keeps.blk c9 g6, ho'.keeps.blk c10 g7, ho.trans hO⟩
          · have h2 : yldP s = pre ++ some (k, v) :: post' := by rw [h']; simp
            have e2 : post = post' := by
              rw [hall] at h2
              have := List.append_cancel_left h2
              exact (List.cons.inj this).2
            rw [hrd, e2]
            show (match addE l k v with | none => none | some e => foldE post' (l ++ [e])) = _
            rw [ha]
          · rcases ho'.more i hi with h | h
            · exact g8 i h
            · have := ho.keeps.size; omega
        | none =>
          rw [ha] at hp
          obtain ⟨⟨tp, qq, rfl⟩, ho'⟩ := hp
          have d9 := ho'.keeps.blk c9 g6
          have d10 := ho'.keeps.blk c10 g7
          have oR : own1 R := (g5 R).2 (.inr (.inl rfl))
          have oR1 : own1 (R + 1) := (g5 (R + 1)).2 (.inr (.inr rfl))
          have qs : Keeps own1 W3 ((w'.setCell ⟨R, 0, none⟩ (.pointer none)).setCell ⟨R + 1, 0, none⟩ (.iface tp qq)) := ((ho'.keeps.mono (fun i hi => (g5 i).2 (.inl hi))).setCell (p := ⟨R, 0, none⟩) (.inl oR) _).setCell (p := ⟨R + 1, 0, none⟩) (.inl oR1) _
          have ho2 : Owns own1 own1 W3 ((w'.setCell ⟨R, 0, none⟩ (.pointer none)).setCell ⟨R + 1, 0, none⟩ (.iface tp qq)) := ⟨fun _ h => .inl h, fun k hk => Nat.lt_of_lt_of_le (ho.lt k hk) qs.size, qs⟩
          refine .inr ⟨⟨tp, qq, rfl, own1, ho2, rfl, ?_, ?_, ⟨tp, qq, ?_⟩, oR, oR1, ho.trans ho2⟩, (d9.cell 0).trans rfl, d9.free 0, (d10.cell 0).trans rfl, d10.free 0⟩
          · rw [hrd]
            show (match addE l k v with | none => none | some e => foldE post (l ++ [e])) = none
            rw [ha]
          · exact (d9.set 0 (.pointer none)).setOther (by show ¬ R + 1 = R; omega) _
          · exact (d10.setOther (by show ¬ R = R + 1; omega) _).set 0 _
      rw [← hkv]
      clear hI1 hall g1 g2 g3 g4 g5 g6 g7 g8 g9 g10 g11 hbP1 hE1 hS hkv hok hrd
      gi_wp2
      refine ⟨(Keeps.refl _ _).alloc _, fun W3 q3 hs3 => ?_⟩
      clear hs3
      obtain ⟨a0, ⟨a1, a2⟩, hcall⟩ := hF.out W3 q3
      have HCA := Lib.hid hcall
      have hRR : ¬ R + 1 = R := by omega
      have hRR' : ¬ R = R + 1 := by omega
      clear hcall q3
      gi_wp2
      refine CallsIn.mono (CallsIn.inRound lq (HCA.out _)) ?_
      rintro e w6 (⟨rfl, hpost⟩ | ⟨⟨tp, qq, rfl, hpost⟩, b1, b2, b3, b4⟩)
      · have HE := Lib.hid hpost
        clear hpost
        gi_wp2
        exact HE.out
      · have HE := Lib.hid hpost
        clear hpost
        gi_wp2
        exact HE.out
  case hdone =>
    rintro D own' W' hb ⟨l, ve, vl, oA, g1, g2, g3, g4, g5, g6, g7, g8, g9, g10, g11⟩
    have hS := HS.out
    have hnew := hb.new
    have HD := Lib.hid hb.none
    have cP := g11.keeps.blk HQ.out.2.1 (fun e => by unfold own3 at e; omega)
    have r0 : W'.cell? ⟨R + 1 + 1 + 1, 0, none⟩ = some (.pointer (some ⟨R + 2, 0, none⟩)) := (cP.cell 0).trans rfl
    have s0 := g9.cell 0
    have s1 := g10.cell 0
    have f0 := g9.free 0
    have f1 := g10.free 0
    simp at s0 s1
    have hRR : ¬ R + 1 = R := by omega
    have hRR' : ¬ R = R + 1 := by omega
    have hDR : D ≠ R ∧ D ≠ R + 1 := by omega
    have HE : Hid (∀ W2, Keeps (fun k => k ∈ [D]) ((W'.setCell ⟨R, 0, none⟩ (.pointer (some ⟨R + 2, 0, none⟩))).setCell ⟨R + 1, 0, none⟩ .nilIface) W2 → W2.cell? ⟨R, 0, none⟩ = some (.pointer (some ⟨R + 2, 0, none⟩)) ∧ W2.cell? ⟨R + 1, 0, none⟩ = some .nilIface ∧ HistPost w (readP s) (.returned (.tuple #[.pointer (some ⟨R + 2, 0, none⟩), .nilIface])) W2) := fun W2 q2 => by
      have e9 : Blk ((W'.setCell ⟨R, 0, none⟩ (.pointer (some ⟨R + 2, 0, none⟩))).setCell ⟨R + 1, 0, none⟩ .nilIface) R #[.pointer (some ⟨R + 2, 0, none⟩)] 43 := (g9.set 0 (.pointer (some ⟨R + 2, 0, none⟩))).setOther (by show ¬ R + 1 = R; omega) _
      have e10 : Blk ((W'.setCell ⟨R, 0, none⟩ (.pointer (some ⟨R + 2, 0, none⟩))).setCell ⟨R + 1, 0, none⟩ .nilIface) (R + 1) #[.nilIface] 45 := (g10.setOther (by show ¬ R = R + 1; omega) _).set 0 _
      have qs : Keeps (fun k => k = R ∨ k = R + 1) W' ((W'.setCell ⟨R, 0, none⟩ (.pointer (some ⟨R + 2, 0, none⟩))).setCell ⟨R + 1, 0, none⟩ .nilIface) := ((Keeps.refl _ W').setCell (p := ⟨R, 0, none⟩) (.inl (.inl rfl)) _).setCell (p := ⟨R + 1, 0, none⟩) (.inl (.inr rfl)) _
      have hD2 : ∀ i, i ≠ D → ¬ (i ∈ [D]) := fun i hi e => hi (by simpa using e)
      refine ⟨((q2.blk e9 (hD2 _ (by omega))).cell 0).trans rfl, ((q2.blk e10 (hD2 _ (by omega))).cell 0).trans rfl, ?_, ?_⟩
      · have hrd : readP s = some l := by rw [g3 [] (by simp)]; rfl
        rw [hrd]
        refine ⟨R + 2, oA, ve, vl, rfl, (g4.keeps qs (fun k hk e => ?_)).keeps q2 (fun k hk e => ?_), fun k hk => by have := g8 k hk; omega⟩
        · rcases e with e | e
          · exact g6 (by rw [← e]; exact hk)
          · exact g7 (by rw [← e]; exact hk)
        · have e : k = D := by simpa using e
          exact hb.free (by rw [← e]; exact (g5 k).2 (.inl hk))
      · have k1 : Keeps noB w W' := HQ.out.1.transNew g11.keeps (fun i hi e => by unfold own3 at e; omega)
        exact (k1.transNew qs (fun i hi e => by omega)).transNew q2 (fun i hi e => by simp at e; omega)
    clear hb g1 g2 g3 g4 g5 g6 g7 g8 g9 g10 g11 cP hS
    dsimp only
    gi_wp2
    refine leaves_marks [D] _ (by simp) (fun D' hD' => ?_) (fun W2 q2 _ => ?_)
    · simp at hD'; subst hD'
      rw [Below.heap_setCell _ _ _ _ (by show D' ≠ R + 1; exact hDR.2), Below.heap_setCell _ _ _ _ (by show D' ≠ R; exact hDR.1)]
      exact HD.out
    · obtain ⟨h1, h2, h3⟩ := HE.out W2 q2
      exact ⟨_, resHist W2 R (R + 1) _ _ _ rfl rfl h1 h2, h3⟩
  case hstop =>
    rintro D c pre post own' W' hb hall ⟨rfl, hrd, b1, ⟨tp, qq, b2⟩, o1, o2, ho⟩
    have hS := HS.out
    have hnew := hb.new
    have HD := Lib.hid hb.none
    have HE : Hid (∀ W2, Keeps (fun k => k ∈ [D]) W' W2 → W2.cell? ⟨R, 0, none⟩ = some (.pointer none) ∧ W2.cell? ⟨R + 1, 0, none⟩ = some (.iface tp qq) ∧ HistPost w (readP s) (.returned (.tuple #[.pointer none, .iface tp qq])) W2) := fun W2 q2 => by
      have hD2 : ∀ i, i ≠ D → ¬ (i ∈ [D]) := fun i hi e => hi (by simpa using e)
      refine ⟨((q2.blk b1 (hD2 _ (by omega))).cell 0).trans rfl, ((q2.blk b2 (hD2 _ (by omega))).cell 0).trans rfl, ?_, ?_⟩
      · rw [hrd]; exact ⟨_, _, rfl⟩
      · exact (HQ.out.1.transNew ho.keeps (fun i hi e => by unfold own3 at e; omega)).transNew q2 (fun i hi e => by simp at e; omega)
    clear hb hall ho b1 b2 hrd hS
    dsimp only
    gi_wp2
    refine leaves_marks [D] _ (by simp) (fun D' hD' => by simp at hD'; subst hD'; exact HD.out) (fun W2 q2 _ => ?_)
    obtain ⟨h1, h2, h3⟩ := HE.out W2 q2
    exact ⟨_, resHist W2 R (R + 1) _ _ _ rfl rfl h1 h2, h3⟩

end Go.Proofs.YthgocacabadflaaDoor

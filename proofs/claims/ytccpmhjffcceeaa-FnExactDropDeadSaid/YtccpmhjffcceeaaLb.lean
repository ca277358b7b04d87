/-
  The model's l10Alive: a step without steps within it that no run comes by, in new memory.
-/
import Derived.Test.YtccpmhjffcceeaaLa
import Derived.Test.YtccpmhjffcceeaaHpa
import Derived.Test.YtccpmhjffcceeaaVm
import Derived.Deep.LoopGhost
import Derived.Deep.Cut
import Derived.Lib.AppendZeros
namespace Go.Proofs.Ytccpmhjffcceeaa
set_option linter.unusedVariables false
set_option linter.unusedSimpArgs false
open Go.RowKit

/-- What l10Alive says of a step. -/
def AliveC (w0 : World) (ok : Nat → Prop) (h : Nat) (K : Nd → Bool) (z : Nd) : Prop :=
  ∀ a n m W, RepS w0 ok z (nodeCellsK z (.slice a n m)) → Keeps noB w0 W →
    Calls Try.prog 60 #[.pointer (some ⟨h, 0, none⟩), nodeA z a n m] W (fun e w' => ∃ a' n' m', e = .returned (nodeA (z.al K) a' n' m') ∧ RepS w' (fromB W.heap.size) (z.al K) (nodeCellsK (z.al K) (.slice a' n' m')) ∧ Keeps noB W w')

/-- What the inner loop has gathered. -/
def KeptI (w0 Wi : World) (ok : Nat → Prop) (K : Nd → Bool) (y : Nds) (cy : List Value) (n : Nat) (v8 v26 : Value) (wr : World) : Prop :=
  ∃ (j : Nat) (rest done : Nds) (m : Nat) (cs : List Value), j + rest.list.length = n ∧ v26 = .int .i64 (j : Int) ∧ m ≤ j ∧ wr.ownsRow 0 52 6 v8 m cs ∧ (∀ g, v8.ownBlock = some g → Wi.heap.size ≤ g) ∧
    RepSL wr (fun g => Wi.heap.size ≤ g ∧ v8.ownBlock ≠ some g) done cs ∧ done.app (rest.al K) = y.al K ∧ RepSL w0 ok rest (cy.drop (j * 6)) ∧ (∀ z ∈ rest.list, z ∈ y.list) ∧ Keeps noB Wi wr

/-- What the outer loop has made: the copy of the step, the result, the new step. -/
def BodiesI (W : World) (K : Nd → Bool) (bl : List Nds) (n : Nat) (va : Value) (kv bv ev : Int) (VS AR : ByteArray) (v19 : Value) (wr : World) : Prop :=
  ∃ (i : Nat) (vb : Value) (xs : List Value), i ≤ n ∧ v19 = .int .i64 (i : Int) ∧
    Blk wr W.heap.size #[.int .u8 kv, .int .i64 bv, .int .i64 ev, .string VS, va, .string AR] 52 ∧
    Blk wr (W.heap.size + 1) #[.int .u8 0, .int .i64 0, .int .i64 0, .string ⟨#[]⟩, .slice none 0 0, .string ⟨#[]⟩] 52 ∧
    Blk wr (W.heap.size + 1 + 1) #[.int .u8 kv, .int .i64 bv, .int .i64 ev, .string VS, vb, .string AR] 52 ∧
    wr.ownsRow 0 55 1 vb i xs ∧ (∀ g, vb.ownBlock = some g → W.heap.size + 3 ≤ g) ∧ RepSB wr (fun g => W.heap.size + 3 ≤ g ∧ vb.ownBlock ≠ some g) (((bl.take i).map (fun y => y.al K)).foldr Bds.cons .nil) xs ∧ Keeps noB W wr

theorem resAlive (W : World) (R : Nat) (c k e : Int) (vs ar : ByteArray) (a : Option Addr) (n m : Nat) (tmps : Array Value) (h : tmps.getD 4 undef = .pointer (some ⟨R, 0, none⟩))
    (c0 : W.cell? ⟨R, 0, none⟩ = some (.int .u8 c)) (c1 : W.cell? ⟨R, 1, none⟩ = some (.int .i64 k)) (c2 : W.cell? ⟨R, 2, none⟩ = some (.int .i64 e)) (c3 : W.cell? ⟨R, 3, none⟩ = some (.string vs)) (c4 : W.cell? ⟨R, 4, none⟩ = some (.slice a n m)) (c5 : W.cell? ⟨R, 5, none⟩ = some (.string ar)) :
    (results Try.f60 tmps).run Try.prog W = .ok (.agg #[.int .u8 c, .int .i64 k, .int .i64 e, .string vs, .slice a n m, .string ar]) W := by
  have h' : tmps[4]?.getD undef = .pointer (some ⟨R, 0, none⟩) := by simpa using h
  simp [results, Try.results60, go_sem, h', c0, c1, c2, c3, c4, c5]

set_option maxRecDepth 100000 in
set_option maxHeartbeats 2000000 in
theorem alive_any {w0 : World} {ok : Nat → Prop} {h : Nat} {x0 : Nd} {own : Nat → Prop} {l : AL} {va' vs' : Value} (hold : HoldAt w0 own h l va' vs') (hll : lookL l = notesP x0) (hok : ∀ i, ok i → i < w0.heap.size)
    (z : Nd) (hk : ∀ y ∈ z.bodies.lists, (∀ q ∈ y.list, AliveC w0 ok h (fun q => liveK (knownJ x0 q.beg)) q ∧ notesP x0 q.beg = some (knownJ x0 q.beg)) ∧ y.list.length ≤ 1000) (hbl : z.bodies.lists.length ≤ 10) :
    AliveC w0 ok h (fun q => liveK (knownJ x0 q.beg)) z := by
  intro a n m W hrep q
  obtain ⟨K, hK⟩ : ∃ K : Nd → Bool, (fun q => liveK (knownJ x0 q.beg)) = K := ⟨_, rfl⟩
  rw [hK] at hk ⊢
  obtain ⟨a', n', m', xs, hva, hrow, hb⟩ : ∃ a' n' m' xs, Value.slice a n m = .slice a' n' m' ∧ Row w0 ok 55 1 (.slice a n m) n' xs ∧ RepSB w0 ok z.bodies xs := by
    obtain ⟨c, k, e, vs, ar, bs⟩ := z
    exact node_slice hrep
  obtain ⟨rfl, rfl, rfl⟩ : a = a' ∧ n = n' ∧ m = m' := by simpa using hva
  obtain ⟨hxl, hget⟩ := RepSB.get z.bodies xs hb
  have hnl : n = z.bodies.lists.length := by have := hrow.1.1; omega
  unfold nodeA
  obtain ⟨kv, hkv⟩ : ∃ kv : Int, (z.kind.toNat : Int) = kv := ⟨_, rfl⟩
  obtain ⟨bv, hbv⟩ : ∃ bv : Int, (z.beg : Int) = bv := ⟨_, rfl⟩
  obtain ⟨ev, hev⟩ : ∃ ev : Int, (z.fin : Int) = ev := ⟨_, rfl⟩
  obtain ⟨VS, hVS⟩ : ∃ VS : ByteArray, (⟨z.vars.toArray⟩ : ByteArray) = VS := ⟨_, rfl⟩
  obtain ⟨AR, hAR⟩ : ∃ AR : ByteArray, (⟨z.scope.toArray⟩ : ByteArray) = AR := ⟨_, rfl⟩
  have hkind : (z.al K).kind = z.kind ∧ (z.al K).beg = z.beg ∧ (z.al K).fin = z.fin ∧ (z.al K).vars = z.vars ∧ (z.al K).scope = z.scope := by
    obtain ⟨c, k, e, vs, ar, bs⟩ := z; exact ⟨rfl, rfl, rfl, rfl, rfl⟩
  rw [hkind.1, hkind.2.1, hkind.2.2.1, hkind.2.2.2.1, hkind.2.2.2.2, hkv, hbv, hev, hVS, hAR]
  have HINFO := Lib.hid (And.intro (info_parts Try.info52) (info_parts Try.info55))
  have hz1 : ∀ (u : World) (o : Obj), (u.alloc o).heap.size = u.heap.size + 1 := fun u o => by simp
  have HP : Hid (BodiesI W K z.bodies.lists n (.slice a n m) kv bv ev VS AR (.int .i64 0) ((((W.alloc (.cells #[.int .u8 kv, .int .i64 bv, .int .i64 ev, .string VS, .slice a n m, .string AR] 52)).alloc (.cells #[.int .u8 0, .int .i64 0, .int .i64 0, .string ⟨#[]⟩, .slice none 0 0, .string ⟨#[]⟩] 52)).alloc (.cells #[.int .u8 kv, .int .i64 bv, .int .i64 ev, .string VS, .slice (some ⟨W.heap.size + 1 + 1 + 1, 0, none⟩) 0 0, .string AR] 52)).alloc (.cells #[] 55))) := by
    refine ⟨0, .slice (some ⟨W.heap.size + 1 + 1 + 1, 0, none⟩) 0 0, [], Nat.zero_le _, rfl, (((Blk.new W _ _).alloc _).alloc _).alloc _, ?_, ?_, ?_, ?_, rfl, ((((Keeps.refl _ W).alloc _).alloc _).alloc _).alloc _⟩
    · have h := ((Blk.new (W.alloc (.cells #[.int .u8 kv, .int .i64 bv, .int .i64 ev, .string VS, .slice a n m, .string AR] 52)) #[.int .u8 0, .int .i64 0, .int .i64 0, .string ⟨#[]⟩, .slice none 0 0, .string ⟨#[]⟩] 52).alloc (.cells #[.int .u8 kv, .int .i64 bv, .int .i64 ev, .string VS, .slice (some ⟨W.heap.size + 1 + 1 + 1, 0, none⟩) 0 0, .string AR] 52)).alloc (.cells #[] 55)
      rw [hz1] at h; exact h
    · have h := (Blk.new ((W.alloc (.cells #[.int .u8 kv, .int .i64 bv, .int .i64 ev, .string VS, .slice a n m, .string AR] 52)).alloc (.cells #[.int .u8 0, .int .i64 0, .int .i64 0, .string ⟨#[]⟩, .slice none 0 0, .string ⟨#[]⟩] 52)) #[.int .u8 kv, .int .i64 bv, .int .i64 ev, .string VS, .slice (some ⟨W.heap.size + 1 + 1 + 1, 0, none⟩) 0 0, .string AR] 52).alloc (.cells #[] 55)
      rw [hz1, hz1] at h; exact h
    · have h := World.ownsRow_made (((W.alloc (.cells #[.int .u8 kv, .int .i64 bv, .int .i64 ev, .string VS, .slice a n m, .string AR] 52)).alloc (.cells #[.int .u8 0, .int .i64 0, .int .i64 0, .string ⟨#[]⟩, .slice none 0 0, .string ⟨#[]⟩] 52)).alloc (.cells #[.int .u8 kv, .int .i64 bv, .int .i64 ev, .string VS, .slice (some ⟨W.heap.size + 1 + 1 + 1, 0, none⟩) 0 0, .string AR] 52)) (base := 0) (e := 55) (size := 1) #[] 0 (Nat.zero_le _) (by simp [maxLen]) rfl
      rw [hz1, hz1, hz1] at h; exact h
    · intro g hg; simp [Value.ownBlock] at hg; omega
  have HG := Lib.hid (And.intro hrow (And.intro hget (And.intro hnl (And.intro hk (And.intro q (And.intro hold (And.intro hll hok)))))))
  have HKK := Lib.hid hK
  have HBL := Lib.hid hbl
  have HFIN : Hid (∀ (vb : Value) (xs1 : List Value) (wr : World), Blk wr (W.heap.size + 1) #[.int .u8 kv, .int .i64 bv, .int .i64 ev, .string VS, vb, .string AR] 52 → wr.ownsRow 0 55 1 vb n xs1 → (∀ g, vb.ownBlock = some g → W.heap.size + 3 ≤ g) → RepSB wr (fun g => W.heap.size + 3 ≤ g) (((z.bodies.lists.take n).map (fun y => y.al K)).foldr Bds.cons .nil) xs1 → RepS wr (fromB W.heap.size) (z.al K) (nodeCellsK (z.al K) vb)) := by
    intro vb xs1 wr _ ho hf hr
    have e : ((z.bodies.lists.take n).map (fun y => y.al K)).foldr Bds.cons .nil = z.bodies.al K := by
      rw [hnl, List.take_length, ← Bds.al_lists, Bds.of_lists]
    rw [e] at hr
    have hh : Hands wr wr (fun g => W.heap.size + 3 ≤ g) (fromB W.heap.size) := Hands.of_keeps (Keeps.refl noB wr) (fun _ _ _ e => e) (fun g (hg : W.heap.size + 3 ≤ g) _ => show W.heap.size ≤ g by omega)
    obtain ⟨c, k, e', vs, ar, bs⟩ := z
    simp only [Nd.al, RepS, nodeCellsK, Nd.kind, Nd.beg, Nd.fin, Nd.vars, Nd.scope]
    exact ⟨vb, n, xs1, rfl, ⟨ho, fun g hg => by have := hf g hg; show W.heap.size ≤ g; omega⟩, hh.repSB _ _ hr⟩
  have hNC : Hid (∀ vb, nodeCellsK (z.al K) vb = [.int .u8 kv, .int .i64 bv, .int .i64 ev, .string VS, vb, .string AR]) := fun vb => by
    unfold nodeCellsK u8 i64 str
    rw [hkind.1, hkind.2.1, hkind.2.2.1, hkind.2.2.2.1, hkind.2.2.2.2, hkv, hbv, hev, hVS, hAR]
  clear hrow hget hnl hk q hold hll hok hrep hb hva hxl hkind hkv hbv hev hVS hAR hK hbl hz1
  obtain ⟨bl, hbl⟩ : ∃ bl, z.bodies.lists = bl := ⟨_, rfl⟩
  rw [hbl] at HP HG HBL HFIN
  clear hbl
  go_enter Try.func60, Try.ntmps60
  go_wp2_with fail
  go_loopw [19] (fun v19 wr => BodiesI W K bl n (.slice a n m) kv bv ev VS AR v19 wr) (fun v19 _ => n - (intOf v19).toNat)
  case atStart => exact HP.out
  case round =>
    clear HP
    obtain ⟨wO, hwO⟩ : ∃ wO, wO = wr := ⟨_, rfl⟩
    subst hwO
    obtain ⟨i, vb, xs1, hi, rfl, bN, bR, bO, hown, hfrom, hrepB, qW⟩ := hrel
    obtain ⟨ab, cb, rfl⟩ := row_shape (ok := fun _ => True) ⟨hown, fun _ _ => trivial⟩
    have hNl := bN.lt
    have hRl := bR.lt
    have hOl := bO.lt
    by_cases hin : i < n
    · have hd : (i : Int) < (n : Int) := by omega
      obtain ⟨hrow, hget, hnl, hk, q, hold, hll, hok⟩ := HG.out
      have hil : i < bl.length := by omega
      obtain ⟨v, n1, cy, hxi, hrowy, hrepy⟩ := hget i bl[i] (List.getElem?_eq_getElem hil)
      have hky := hk bl[i] (List.getElem_mem hil)
      obtain ⟨y, hy⟩ : ∃ y, bl[i] = y := ⟨_, rfl⟩
      rw [hy] at hrepy hky
      obtain ⟨ya, yc, rfl⟩ := row_shape hrowy
      have hn1 : n1 = y.list.length := by
        have h1 := repSL_len y cy hrepy
        have h2 := hrowy.1.1
        rw [len_list] at h1
        omega
      obtain ⟨gB, cc, hv, hg1, hg2, hcell⟩ := row_get hrow (by omega)
      obtain ⟨rfl, rfl⟩ : a = some ⟨gB, 0, none⟩ ∧ m = cc := by simpa using hv
      have qO := q.trans qW
      have s0 : wO.cell? ⟨gB, i, none⟩ = some (.slice ya n1 yc) := (qO.cell (p := ⟨gB, i, none⟩) hg2 id).trans (hcell i _ hxi)
      have hn1k : n1 ≤ 1000 := by rw [hn1]; exact hky.2
      have HI0 : Hid (KeptI w0 wO ok K y cy n1 (.slice (some ⟨wO.heap.size, 0, none⟩) 0 0) (.int .i64 0) (wO.alloc (.cells #[] 52))) :=
        ⟨0, y, .nil, 0, [], by omega, rfl, Nat.le_refl _, World.ownsRow_made wO (base := 0) (e := 52) (size := 6) #[] 0 (Nat.zero_le _) (by simp [maxLen]) rfl, fun g hg => by simp [Value.ownBlock] at hg; omega, rfl, rfl, by simpa using hrepy, fun z hz => hz, (Keeps.refl _ _).alloc _⟩
      have HOUT := Lib.hid (And.intro bN (And.intro bR (And.intro bO (And.intro hown (And.intro hfrom (And.intro hrepB (And.intro qW hy)))))))
      have HY := Lib.hid (And.intro hrowy (And.intro hky hn1))
      have hin2 : i < n := hin
      clear hrow hget hnl hk q hold hll hok hxi hrepy hrowy hky hn1 hv hcell qO hown hfrom hrepB qW bN bR bO hy hi
      go_wp2_with fail
      go_loopw [8, 26] (fun v8 v26 wi => KeptI w0 wO ok K y cy n1 v8 v26 wi) (fun _ v26 _ => n1 - (intOf v26).toNat)
      case atStart => exact HI0.out
      case round =>
        clear HI0 s0
        obtain ⟨wi, hwi⟩ : ∃ wi, wi = wr := ⟨_, rfl⟩
        subst hwi
        obtain ⟨j, rest, done, m1, cs1, hj, rfl, hm1, hown8, hfrom8, hrep8, hdone, hrest, hmem, qi⟩ := hrel
        obtain ⟨a8, c8, rfl⟩ := row_shape (ok := fun _ => True) ⟨hown8, fun _ _ => trivial⟩
        cases rest with
        | nil =>
          have hd1 : ¬ (j : Int) < (n1 : Int) := by simp [Nds.list] at hj; omega
          obtain ⟨bN, bR, bO, hown, hfrom, hrepB, qW, hy⟩ := HOUT.out
          obtain ⟨i1, hi1, hz10, hz11, hz12⟩ := HINFO.out.2
          have hbl10 := HBL.out
          have hsO := qW.size
          have hsI := qi.size
          have hOl2 := bO.lt
          have hdone' : done = y.al K := by rw [← hdone]; simp only [Nds.al, Nds.app_nil]
          have hvO : ∀ g, (Value.slice ab i cb).ownBlock = some g → g < wO.heap.size := fun g hg => (hown.lt g hg).2
          have hownI := qi.ownsRow hown (fun _ _ _ => id)
          have qA : Keeps noB wi (wi.alloc (.cells #[.slice a8 m1 c8] 55)) := (Keeps.refl _ _).alloc _
          have hownA := qA.ownsRow hownI (fun _ _ _ => id)
          obtain ⟨v', w2, hr, ho2, hgr, hfr⟩ := run_append_fresh (P := Try.prog) (wi.alloc (.cells #[.slice a8 m1 c8] 55)) 50 50 55 i1 (.slice none 0 0) 1 24 Try.underlying50 hi1 hz10 hz11 hz12 rfl (by decide)
            (.slice ab i cb) i xs1 hownA ⟨wi.heap.size, 0, none⟩ 1 1 [.slice a8 m1 c8] rfl (fun j' u hu => by
              have := cells_all wi #[.slice a8 m1 c8] 55 j' u (by simpa using hu)
              exact this) (fun u hu => by simp at hu; subst hu; rfl) (by unfold maxLen; omega) (by omega)
          obtain ⟨a9, c9, rfl⟩ := row_shape (ok := fun _ => True) ⟨ho2, fun _ _ => trivial⟩
          have k2 : Keeps (fun g => (Value.slice ab i cb).ownBlock = some g) wi w2 := qA.mono (fun _ e => e.elim) |>.grown hgr (fun g hg => .inl hg)
          have hs2 := k2.size
          have hfrom' : ∀ g, (Value.slice a9 (i + 1) c9).ownBlock = some g → ((Value.slice ab i cb).ownBlock = some g) ∨ wi.heap.size + 1 ≤ g := fun g hg => by
            rcases hfr with h | h
            · exact .inl (h ▸ hg)
            · have := h g hg; simp at this; exact .inr (by omega)
          have bO2 : Blk w2 (W.heap.size + 1 + 1) #[.int .u8 kv, .int .i64 bv, .int .i64 ev, .string VS, .slice ab i cb, .string AR] 52 := k2.blk (qi.blk bO id) (fun e => by have := hfrom _ e; omega)
          have o4 : wi.cell? ⟨W.heap.size + 1 + 1, 4, none⟩ = some (.slice ab i cb) := ((qi.blk bO id).cell 4).trans rfl
          have z4 := bO2.free 4
          have p4 : w2.cell? ⟨W.heap.size + 1 + 1, 4, none⟩ = some (.slice ab i cb) := (bO2.cell 4).trans rfl
          have q3 : Keeps (oneB (W.heap.size + 1 + 1)) w2 (w2.setCell ⟨W.heap.size + 1 + 1, 4, none⟩ (.slice a9 (i + 1) c9)) := (Keeps.refl (oneB (W.heap.size + 1 + 1)) w2).setCell (p := ⟨W.heap.size + 1 + 1, 4, none⟩) (.inl (show oneB (W.heap.size + 1 + 1) (W.heap.size + 1 + 1) from rfl)) _
          have HNX : Hid (BodiesI W K bl n (.slice (some ⟨gB, 0, none⟩) n m) kv bv ev VS AR (.int .i64 ((i : Int) + 1)) (w2.setCell ⟨W.heap.size + 1 + 1, 4, none⟩ (.slice a9 (i + 1) c9))) := by
            refine ⟨i + 1, .slice a9 (i + 1) c9, xs1 ++ [.slice a8 m1 c8], by omega, by simp, ?_, ?_, ?_, ?_, ?_, ?_, ?_⟩
            · exact q3.blk (k2.blk (qi.blk bN id) (fun e => by have := hfrom _ e; omega)) (fun e => by have e : W.heap.size = W.heap.size + 1 + 1 := e; omega)
            · exact q3.blk (k2.blk (qi.blk bR id) (fun e => by have := hfrom _ e; omega)) (fun e => by have e : W.heap.size + 1 = W.heap.size + 1 + 1 := e; omega)
            · exact bO2.set 4 _
            · exact q3.ownsRow ho2 (fun g hg _ e => by
                have e : g = W.heap.size + 1 + 1 := e
                rcases hfrom' g hg with h | h
                · have := hfrom g h; omega
                · omega)
            · intro g hg
              rcases hfrom' g hg with h | h
              · exact hfrom g h
              · omega
            · have hget' : bl[i]? = some y := by rw [List.getElem?_eq_getElem hil, hy]
              have etake : (bl.take (i + 1)).map (fun y => y.al K) = (bl.take i).map (fun y => y.al K) ++ [y.al K] := by
                rw [List.take_add_one, hget', Option.toList_some, List.map_append]; rfl
              rw [etake]
              have hh8 : Hands wi (w2.setCell ⟨W.heap.size + 1 + 1, 4, none⟩ (.slice a9 (i + 1) c9)) (fun g => wO.heap.size ≤ g) (fun g => W.heap.size + 3 ≤ g ∧ (Value.slice a9 (i + 1) c9).ownBlock ≠ some g) := by
                refine Hands.of_keeps (may := fun g => (Value.slice ab i cb).ownBlock = some g ∨ g = W.heap.size + 1 + 1) ((k2.mono (fun g e => .inl e)).trans (q3.mono (fun g e => .inr e))) ?_ ?_
                · rintro g hg _ (e | e)
                  · have := hvO g e; omega
                  · omega
                · intro g hg hl
                  refine ⟨by omega, fun e => ?_⟩
                  rcases hfrom' g e with h | h
                  · have := hvO g h; omega
                  · omega
              refine repSBL_snoc (y := y.al K) (n := m1) (cs := cs1) ?_ ?_ _ _ ?_
              · exact hh8.row _ _ _ _ _ ⟨hown8, fun g hg => hfrom8 g hg⟩
              · have h1 : RepSL wi (fun g => wO.heap.size ≤ g) done cs1 := (Hands.of_keeps (Keeps.refl noB wi) (fun _ _ _ e => e) (fun g hg _ => hg.1)).repSL _ _ hrep8
                rw [hdone'] at h1
                exact hh8.repSL _ _ h1
              · have hhA : Hands wO wi (fun g => W.heap.size + 3 ≤ g ∧ (Value.slice ab i cb).ownBlock ≠ some g) (fun g => (W.heap.size + 3 ≤ g ∧ (Value.slice ab i cb).ownBlock ≠ some g) ∧ g < wO.heap.size) := Hands.of_keeps qi (fun _ _ _ e => e) (fun g hg hl => ⟨hg, hl⟩)
                refine (Hands.of_keeps (may := fun g => (Value.slice ab i cb).ownBlock = some g ∨ g = W.heap.size + 1 + 1) ((k2.mono (fun g e => .inl e)).trans (q3.mono (fun g e => .inr e))) ?_ ?_).repSB _ _ (hhA.repSB _ _ hrepB)
                · rintro g hg _ (e | e)
                  · exact hg.1.2 e
                  · have := hg.1.1; omega
                · intro g hg hl
                  refine ⟨hg.1.1, fun e => ?_⟩
                  rcases hfrom' g e with h | h
                  · exact hg.1.2 h
                  · have := hg.2; omega
            · refine (qW.trans qi).transNew ((k2.mono (fun g e => .inl e)).trans (q3.mono (fun g e => .inr e)) : Keeps (fun g => (Value.slice ab i cb).ownBlock = some g ∨ g = W.heap.size + 1 + 1) wi _) ?_
              rintro g hg (e | e)
              · have := hfrom g e; omega
              · omega
          clear bN bR bO hown hfrom hrepB qW hy hi1 hz10 hz11 hz12 hsO hsI hdone' hvO hownI qA hownA ho2 hgr hfr k2 hs2 hfrom' bO2 q3 hown8 hfrom8 hrep8 hdone hrest hmem qi hj HOUT hm1 HFIN hNC
          go_wp2_with (at_builtin; refine Lib.wpList_append_run _ rfl _ _ _ _ rfl _ _ rfl rfl _ _ hr ?_)
          go_roundw
          case rel => exact HNX.out
          case measure => simp [intOf]; omega
        | cons z1 r =>
          have hd1 : (j : Int) < (n1 : Int) := by simp [Nds.list] at hj; omega
          obtain ⟨na, nn, nm, hzrep, hzc, hrr⟩ := node_repK hrest
          obtain ⟨hrow, hget, hnl, hk, q, hold, hll, hok⟩ := HG.out
          obtain ⟨hrowy, hky, hn1⟩ := HY.out
          have hsz := (HOUT.out.2.2.2.2.2.2.1).size
          obtain ⟨gY, ccy, hvy, hgy1, hgy2, hcelly⟩ := row_get hrowy (by omega)
          obtain ⟨rfl, rfl⟩ : ya = some ⟨gY, 0, none⟩ ∧ yc = ccy := by simpa using hvy
          have qI : Keeps noB w0 wi := (q.trans HOUT.out.2.2.2.2.2.2.1).trans qi
          have hcw : ∀ i' u, (nodeCellsK z1 (.slice na nn nm))[i']? = some u → wi.cell? ⟨gY, j * 6 + i', none⟩ = some u := fun i' u hu =>
            (qI.cell (p := ⟨gY, j * 6 + i', none⟩) hgy2 id).trans (hcelly _ _ (hzc i' u hu))
          obtain ⟨hzC, hzN⟩ := hky.1 z1 (hmem z1 (by simp [Nds.list]))
          have hAL := fun W' (q' : Keeps noB w0 W') => hzC na nn nm W' hzrep q'
          have hKz : liveK (knownJ x0 z1.beg) = K z1 := by rw [← HKK.out]
          have hKl : Nds.al K (.cons z1 r) = if K z1 then .cons (z1.al K) (r.al K) else r.al K := by simp only [Nds.al]
          unfold nodeA at hAL
          have s0 : wi.cell? ⟨gY, j * 6, none⟩ = some (.int .u8 (z1.kind.toNat : Int)) := hcw 0 _ rfl
          have s1 : wi.cell? ⟨gY, j * 6 + 1, none⟩ = some (.int .i64 (z1.beg : Int)) := hcw 1 _ rfl
          have s2 : wi.cell? ⟨gY, j * 6 + 2, none⟩ = some (.int .i64 (z1.fin : Int)) := hcw 2 _ rfl
          have s3 : wi.cell? ⟨gY, j * 6 + 3, none⟩ = some (.string ⟨z1.vars.toArray⟩) := hcw 3 _ rfl
          have s4 : wi.cell? ⟨gY, j * 6 + 4, none⟩ = some (.slice na nn nm) := hcw 4 _ rfl
          have s5 : wi.cell? ⟨gY, j * 6 + 5, none⟩ = some (.string ⟨z1.scope.toArray⟩) := hcw 5 _ rfl
          obtain ⟨MA, hMA⟩ : ∃ MA, mayB (knownJ x0 z1.beg) = MA := ⟨_, rfl⟩
          obtain ⟨MU, hMU⟩ : ∃ MU, mustB (knownJ x0 z1.beg) = MU := ⟨_, rfl⟩
          have hAT : ∀ W', Keeps noB w0 W' → Calls Try.prog 88 #[.pointer (some ⟨h, 0, none⟩), .int .i64 (z1.beg : Int)] W' (fun e w' => e = .returned (.tuple #[.agg #[.string MA, .string MU, .bool (K z1)], .bool true]) ∧ Keeps noB W' w') := fun W' q' => by
            have hc := hat_any (z1.beg : Int) l W' own h va' vs' (hold.quiet q')
            rw [hll, noteI_nat, hzN] at hc
            simp only [Option.getD, Option.isSome] at hc
            rw [stV_eq, hMA, hMU, hKz] at hc
            exact hc
          obtain ⟨kc, hkc⟩ : ∃ kc : Int, (z1.kind.toNat : Int) = kc := ⟨_, rfl⟩
          obtain ⟨bc, hbc⟩ : ∃ bc : Int, (z1.beg : Int) = bc := ⟨_, rfl⟩
          obtain ⟨ec, hec⟩ : ∃ ec : Int, (z1.fin : Int) = ec := ⟨_, rfl⟩
          obtain ⟨VC, hVC⟩ : ∃ VC : ByteArray, (⟨z1.vars.toArray⟩ : ByteArray) = VC := ⟨_, rfl⟩
          obtain ⟨AC, hAC⟩ : ∃ AC : ByteArray, (⟨z1.scope.toArray⟩ : ByteArray) = AC := ⟨_, rfl⟩
          rw [hkc, hbc, hec, hVC, hAC] at hAL
          rw [hbc] at hAT
          rw [hkc] at s0
          rw [hbc] at s1
          rw [hec] at s2
          rw [hVC] at s3
          rw [hAC] at s5
          have bM := Blk.new wi #[.int .u8 kc, .int .i64 bc, .int .i64 ec, .string VC, .slice na nn nm, .string AC] 52
          have qA : Keeps noB wi (wi.alloc (.cells #[.int .u8 kc, .int .i64 bc, .int .i64 ec, .string VC, .slice na nn nm, .string AC] 52)) := (Keeps.refl _ _).alloc _
          have HA := Lib.hid (hAT _ (qI.trans qA))
          have HQ := Lib.hid (And.intro qI (And.intro qA bM))
          have HALC := Lib.hid hAL
          have HIN := Lib.hid (And.intro hown8 (And.intro hfrom8 (And.intro hrep8 (And.intro hdone (And.intro hrr (And.intro hmem (And.intro qi (And.intro hm1 (And.intro hj hKl)))))))))
          have hjn : j < n1 := by simp [Nds.list] at hj; omega
          clear hrow hget hnl hk q hold hll hok hrowy hky hn1 hsz hvy hcelly qI hcw hzC hzN hAL hAT hkc hbc hec hVC hAC bM qA hown8 hfrom8 hrep8 hdone hrr hmem qi hm1 hj hzrep hzc hrest hMA hMU hKz hKl
          obtain ⟨LV, hLV⟩ : ∃ LV, K z1 = LV := ⟨_, rfl⟩
          rw [hLV] at HA
          go_wp2_with fail
          refine HA.out.mono ?_
          rintro e2 w2 ⟨rfl, q2⟩
          obtain ⟨qI, qA, bM⟩ := HQ.out
          have m2 := (q2.blk bM id).alloc (.cells #[.string MA, .string MU, .bool LV] 125)
          have q23 : Keeps noB w2 (w2.alloc (.cells #[.string MA, .string MU, .bool LV] 125)) := (Keeps.refl _ _).alloc _
          have qi3 : Keeps noB wi (w2.alloc (.cells #[.string MA, .string MU, .bool LV] 125)) := (qA.trans q2).trans q23
          have t0 : (w2.alloc (.cells #[.string MA, .string MU, .bool LV] 125)).cell? ⟨wi.heap.size, 0, none⟩ = some (.int .u8 kc) := (m2.cell 0).trans rfl
          have t1 : (w2.alloc (.cells #[.string MA, .string MU, .bool LV] 125)).cell? ⟨wi.heap.size, 1, none⟩ = some (.int .i64 bc) := (m2.cell 1).trans rfl
          have t2 : (w2.alloc (.cells #[.string MA, .string MU, .bool LV] 125)).cell? ⟨wi.heap.size, 2, none⟩ = some (.int .i64 ec) := (m2.cell 2).trans rfl
          have t3 : (w2.alloc (.cells #[.string MA, .string MU, .bool LV] 125)).cell? ⟨wi.heap.size, 3, none⟩ = some (.string VC) := (m2.cell 3).trans rfl
          have t4 : (w2.alloc (.cells #[.string MA, .string MU, .bool LV] 125)).cell? ⟨wi.heap.size, 4, none⟩ = some (.slice na nn nm) := (m2.cell 4).trans rfl
          have t5 : (w2.alloc (.cells #[.string MA, .string MU, .bool LV] 125)).cell? ⟨wi.heap.size, 5, none⟩ = some (.string AC) := (m2.cell 5).trans rfl
          have HC3 := Lib.hid (HALC.out _ (qI.trans qi3))
          have HQ3 := Lib.hid qi3
          clear qI qA bM m2 q23 qi3 q2 HA HQ HALC
          cases LV with
          | false =>
            have HE : Hid (KeptI w0 wO ok K y cy n1 (.slice a8 m1 c8) (.int .i64 ((j : Int) + 1)) (w2.alloc (.cells #[.string MA, .string MU, .bool false] 125))) := by
              obtain ⟨hown8, hfrom8, hrep8, hdone, hrr, hmem, qi, hm1, hj, hKl⟩ := HIN.out
              have qi3 := HQ3.out
              rw [hKl, hLV] at hdone
              refine ⟨j + 1, r, done, m1, cs1, by simp [Nds.list] at hj; omega, by simp, by omega, qi3.ownsRow hown8 (fun _ _ _ => id), hfrom8, ?_, hdone, hrr, fun x hx => hmem x (by simp [Nds.list, hx]), qi.trans qi3⟩
              exact (Hands.of_keeps qi3 (fun _ _ _ e => e) (fun g hg _ => hg)).repSL _ _ hrep8
            clear HC3 HQ3 HIN hLV HFIN hNC HOUT HY HG
            go_wp2_with fail
            go_roundw
            case rel => exact HE.out
            case measure => simp [intOf]; omega
          | true =>
            go_wp2_with fail
            refine HC3.out.mono ?_
            rintro e4 w4 ⟨a6, n6, m6, rfl, hrep4, q4⟩
            obtain ⟨k6, hk6⟩ : ∃ k6 : Int, ((z1.al K).kind.toNat : Int) = k6 := ⟨_, rfl⟩
            obtain ⟨b6, hb6⟩ : ∃ b6 : Int, ((z1.al K).beg : Int) = b6 := ⟨_, rfl⟩
            obtain ⟨e6, he6⟩ : ∃ e6 : Int, ((z1.al K).fin : Int) = e6 := ⟨_, rfl⟩
            obtain ⟨V6, hV6⟩ : ∃ V6 : ByteArray, (⟨(z1.al K).vars.toArray⟩ : ByteArray) = V6 := ⟨_, rfl⟩
            obtain ⟨A6, hA6⟩ : ∃ A6 : ByteArray, (⟨(z1.al K).scope.toArray⟩ : ByteArray) = A6 := ⟨_, rfl⟩
            have hc6 : nodeCellsK (z1.al K) (.slice a6 n6 m6) = [.int .u8 k6, .int .i64 b6, .int .i64 e6, .string V6, .slice a6 n6 m6, .string A6] := by
              unfold nodeCellsK _root_.Go.Proofs.Ytccpmhjffcceeaa.u8 i64 str
              rw [hk6, hb6, he6, hV6, hA6]
            rw [hc6] at hrep4
            rw [hk6, hb6, he6, hV6, hA6]
            obtain ⟨hown8, hfrom8, hrep8, hdone, hrr, hmem, qi, hm1, hj, hKl⟩ := HIN.out
            have qi4 : Keeps noB wi w4 := HQ3.out.trans q4
            have hwi3 := HQ3.out.size
            obtain ⟨i6, hi6, hz60, hz61, hz62⟩ := HINFO.out.1
            have hown4 := (qi4.trans ((Keeps.refl noB w4).alloc (.cells #[.int .u8 k6, .int .i64 b6, .int .i64 e6, .string V6, .slice a6 n6 m6, .string A6] 52))).ownsRow hown8 (fun _ _ _ => id)
            obtain ⟨v', w5, hr, ho5, hg5, hf5⟩ := run_append_fresh (P := Try.prog) (w4.alloc (.cells #[.int .u8 k6, .int .i64 b6, .int .i64 e6, .string V6, .slice a6 n6 m6, .string A6] 52)) 55 55 52 i6 _ 6 80 Try.underlying55 hi6 hz60 hz61 hz62 rfl (by decide)
              (.slice a8 m1 c8) m1 cs1 hown4 ⟨w4.heap.size, 0, none⟩ 1 1 (#[.int .u8 k6, .int .i64 b6, .int .i64 e6, .string V6, .slice a6 n6 m6, .string A6] : Array Value).toList rfl (cells_all w4 #[.int .u8 k6, .int .i64 b6, .int .i64 e6, .string V6, .slice a6 n6 m6, .string A6] 52) (fun u hu => by simp at hu; rcases hu with rfl | rfl | rfl | rfl | rfl | rfl <;> rfl) (by unfold maxLen; omega) (by omega)
            obtain ⟨a9, c9, rfl⟩ := row_shape (ok := fun _ => True) ⟨ho5, fun _ _ => trivial⟩
            obtain ⟨hfrom9, hrep9, q9⟩ := rowS_next (cells := #[.int .u8 k6, .int .i64 b6, .int .i64 e6, .string V6, .slice a6 n6 m6, .string A6]) hfrom8 hown8 hrep8 qi.size qi4 (fromBS_mono hwi3 hrep4) hg5 hf5
            have HE : Hid (KeptI w0 wO ok K y cy n1 (.slice a9 (m1 + 1) c9) (.int .i64 ((j : Int) + 1)) w5) := by
              rw [hKl, hLV] at hdone
              refine ⟨j + 1, r, done.app (.cons (z1.al K) .nil), m1 + 1, _, by simp [Nds.list] at hj; omega, by simp, by omega, ho5, hfrom9, hrep9, ?_, hrr, fun x hx => hmem x (by simp [Nds.list, hx]), qi.transNew q9 (fun g hg e => by have e : wO.heap.size ≤ g := e; omega)⟩
              rw [app_one]; exact hdone
            clear hown8 hfrom8 hrep8 hdone hrr hmem qi hm1 hj hKl qi4 hwi3 hi6 hz60 hz61 hz62 hown4 ho5 hg5 hf5 hfrom9 hrep9 q9 hrep4 q4 hc6 hk6 hb6 he6 hV6 hA6 HC3 HQ3 HIN hLV HFIN hNC HOUT HY HG
            go_wp2_with (at_builtin; refine Lib.wpList_append_run _ rfl _ _ _ _ rfl _ _ rfl rfl _ _ hr ?_)
            go_roundw
            case rel => exact HE.out
            case measure => simp [intOf]; omega
    · have hni : i = n := by omega
      have hd : ¬ (i : Int) < (n : Int) := by omega
      have bR' := (((((bR.set 0 (.int .u8 kv)).set 1 (.int .i64 bv)).set 2 (.int .i64 ev)).set 3 (.string VS)).set 4 (.slice ab i cb)).set 5 (.string AR)
      have qR : Keeps (oneB (W.heap.size + 1)) wO ((((((wO.setCell ⟨W.heap.size + 1, 0, none⟩ (.int .u8 kv)).setCell ⟨W.heap.size + 1, 1, none⟩ (.int .i64 bv)).setCell ⟨W.heap.size + 1, 2, none⟩ (.int .i64 ev)).setCell ⟨W.heap.size + 1, 3, none⟩ (.string VS)).setCell ⟨W.heap.size + 1, 4, none⟩ (.slice ab i cb)).setCell ⟨W.heap.size + 1, 5, none⟩ (.string AR)) :=
        ((((((Keeps.refl (oneB (W.heap.size + 1)) wO).setCell (p := ⟨W.heap.size + 1, 0, none⟩) (.inl (show oneB (W.heap.size + 1) (W.heap.size + 1) from rfl)) _).setCell (p := ⟨W.heap.size + 1, 1, none⟩) (.inl (show oneB (W.heap.size + 1) (W.heap.size + 1) from rfl)) _).setCell (p := ⟨W.heap.size + 1, 2, none⟩) (.inl (show oneB (W.heap.size + 1) (W.heap.size + 1) from rfl)) _).setCell (p := ⟨W.heap.size + 1, 3, none⟩) (.inl (show oneB (W.heap.size + 1) (W.heap.size + 1) from rfl)) _).setCell (p := ⟨W.heap.size + 1, 4, none⟩) (.inl (show oneB (W.heap.size + 1) (W.heap.size + 1) from rfl)) _).setCell (p := ⟨W.heap.size + 1, 5, none⟩) (.inl (show oneB (W.heap.size + 1) (W.heap.size + 1) from rfl)) _
      have o0 := (bO.cell 0).trans rfl
      have o1 := (bO.cell 1).trans rfl
      have o2 := (bO.cell 2).trans rfl
      have o3 := (bO.cell 3).trans rfl
      have o4 := (bO.cell 4).trans rfl
      have o5 := (bO.cell 5).trans rfl
      have z0 := bR.free 0
      have z1 := bR.free 1
      have z2 := bR.free 2
      have z3 := bR.free 3
      have z4 := bR.free 4
      have z5 := bR.free 5
      have p0 := (bR.cell 0).trans rfl
      have p1 := (bR.cell 1).trans rfl
      have p2 := (bR.cell 2).trans rfl
      have p3 := (bR.cell 3).trans rfl
      have p4 := (bR.cell 4).trans rfl
      have p5 := (bR.cell 5).trans rfl
      subst hni
      have HE := Lib.hid (And.intro bR' (And.intro qR (And.intro hown (And.intro hfrom (And.intro hrepB qW)))))
      clear bR' qR hown hfrom hrepB qW bN bR bO
      go_wp2_with fail
      obtain ⟨bR', qR, hown, hfrom, hrepB, qW⟩ := HE.out
      refine bodyPost_ret (resAlive _ (W.heap.size + 1) kv bv ev VS AR ab i cb _ rfl ((bR'.cell 0).trans rfl) ((bR'.cell 1).trans rfl) ((bR'.cell 2).trans rfl) ((bR'.cell 3).trans rfl) ((bR'.cell 4).trans rfl) ((bR'.cell 5).trans rfl)) rfl ⟨ab, i, cb, rfl, ?_, ?_⟩
      · refine HFIN.out _ xs1 _ bR' (qR.ownsRow hown (fun g hg _ (e : g = W.heap.size + 1) => by have := hfrom g hg; omega)) hfrom ?_
        exact (Hands.of_keeps qR (fun g hg _ (e : g = W.heap.size + 1) => by have := hg.1; omega) (fun g hg _ => hg.1)).repSB _ _ hrepB
      · exact qW.transNew qR (fun i hi (e : i = W.heap.size + 1) => by omega)

end Go.Proofs.Ytccpmhjffcceeaa

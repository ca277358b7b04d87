/-
  The model's l7Read: the events of a text.
-/
import Derived.Test.YthgocacabadflaaDoorSy
namespace Go.Proofs.YthgocacabadflaaDoor
set_option linter.unusedVariables false
set_option linter.unusedSimpArgs false
open Go.RowKit

theorem cells_all (w : World) (cs : Array Value) (t : TypeId) : ∀ j u, cs.toList[j]? = some u → (w.alloc (.cells cs t)).cell? ((⟨w.heap.size, 0, none⟩ : Addr).add j) = some u := by
  intro j u hu
  have hadd : (⟨w.heap.size, 0, none⟩ : Addr).add j = ⟨w.heap.size, j, none⟩ := by unfold Addr.add; split <;> simp_all
  rw [hadd, (Blk.new w cs t).cell j]
  simpa using hu

theorem Tryd.infoE39 : (Tryd.prog.info? 39).map (fun i => (i.zero, i.size, i.bytes)) = some (some (.agg #[.int .u8 0, .int .i64 0]), 2, 16) := by kernel_rfl

/-- Events as cells. -/
def evC (l : List Ev) : List Value := l.flatMap (fun e => [.int .u8 (e.k.toNat : Int), .int .i64 (e.n : Int)])
theorem evC_snoc (l : List Ev) (e : Ev) : evC (l ++ [e]) = evC l ++ [.int .u8 (e.k.toNat : Int), .int .i64 (e.n : Int)] := by unfold evC; simp
theorem evC_len : ∀ l : List Ev, (evC l).length = l.length * 2
  | [] => rfl
  | e :: r => by have := evC_len r; unfold evC at *; simp at *; omega
theorem evC_get : ∀ (l : List Ev) (i : Nat) (e : Ev), l[i]? = some e → (evC l)[2 * i]? = some (.int .u8 (e.k.toNat : Int)) ∧ (evC l)[2 * i + 1]? = some (.int .i64 (e.n : Int))
  | [], i, e, h => by simp at h
  | x :: r, 0, e, h => by simp at h; subst h; exact ⟨rfl, rfl⟩
  | x :: r, i + 1, e, h => by
    have := evC_get r i e (by simpa using h)
    have e1 : evC (x :: r) = [.int .u8 (x.k.toNat : Int), .int .i64 (x.n : Int)] ++ evC r := rfl
    rw [e1, show 2 * (i + 1) = 2 * i + 2 by omega, show 2 * i + 2 + 1 = (2 * i + 1) + 2 by omega]
    exact this

/-- A row of the model's events. -/
def ERow (w : World) (v : Value) (l : List Ev) : Prop := w.ownsRow 0 39 2 v l.length (evC l)

theorem ERow.keepsE {may : Nat → Prop} {w w' : World} {v : Value} {l : List Ev} (h : ERow w v l) (q : Keeps may w w') (hm : ∀ g, v.ownBlock = some g → ¬ may g) : ERow w' v l := q.ownsRow h (fun g hg _ => hm g hg)

def ReadPost (w : World) (r : Option (List Ev)) (e : Ending) (w' : World) : Prop :=
  ∃ v, e = .returned (.tuple #[v, .bool r.isSome]) ∧ ERow w' v (r.getD []) ∧ (∀ g, v.ownBlock = some g → w.heap.size ≤ g) ∧ Keeps noB w w'

theorem fitsI {l : List Ev} (k : UInt8) (v : Int) : (0 ≤ v ∧ fits l ⟨k, v.toNat⟩) ↔ (k = 43 ∧ v = (madeN l : Int) + 1) ∨ ((k = 46 ∨ k = 45) ∧ inB (aliveL l) v = true) := by
  have hin : 0 ≤ v → (v.toNat ∈ aliveL l ↔ inB (aliveL l) v = true) := fun hv => by
    unfold inB
    rw [List.any_eq_true]
    constructor
    · intro h; exact ⟨_, h, by simp; omega⟩
    · rintro ⟨m, hm, h⟩
      have h : (m : Int) = v := by simpa using h
      rw [show v.toNat = m by omega]; exact hm
  have hpos : inB (aliveL l) v = true → 0 ≤ v := fun h => by
    unfold inB at h
    obtain ⟨m, hm, h⟩ := List.any_eq_true.1 h
    have h : (m : Int) = v := by simpa using h
    omega
  unfold fits
  constructor
  · rintro ⟨h0, ⟨h1, h2⟩ | ⟨h1, h2⟩⟩
    · have h2 : v.toNat = madeN l + 1 := h2
      exact .inl ⟨h1, by omega⟩
    · exact .inr ⟨h1, (hin h0).1 h2⟩
  · rintro (⟨h1, h2⟩ | ⟨h1, h2⟩)
    · exact ⟨by omega, .inl ⟨h1, show v.toNat = madeN l + 1 by omega⟩⟩
    · exact ⟨hpos h2, .inr ⟨h1, (hin (hpos h2)).2 h2⟩⟩

theorem nextE_yes {l : List Ev} (hg : Good l) (hl : l.length ≤ 600) {k : UInt8} {d : List UInt8} {v : Int} (hd : numM d = some v) (h : (k = 43 ∧ v = (madeN l : Int) + 1) ∨ ((k = 46 ∨ k = 45) ∧ inB (aliveL l) v = true)) :
    nextE l (k :: d) = some ⟨k, v.toNat⟩ ∧ 0 ≤ v := by
  have h' := (fitsI k v).2 h
  rw [nextE_by numM_reads hg hl, hd]
  exact ⟨if_pos h', h'.1⟩
theorem nextE_no {l : List Ev} (hg : Good l) (hl : l.length ≤ 600) {k : UInt8} {d : List UInt8} {v : Int} (hd : numM d = some v) (h : ¬ ((k = 43 ∧ v = (madeN l : Int) + 1) ∨ ((k = 46 ∨ k = 45) ∧ inB (aliveL l) v = true))) :
    nextE l (k :: d) = none := by
  rw [nextE_by numM_reads hg hl, hd]
  exact if_neg (fun e => h ((fitsI k v).1 e))
theorem nextE_bad {l : List Ev} (hg : Good l) (hl : l.length ≤ 600) {k : UInt8} {d : List UInt8} (hd : numM d = none) : nextE l (k :: d) = none := by
  rw [nextE_by numM_reads hg hl, hd]

theorem readL_next {w : List UInt8} {ws : List (List UInt8)} {l : List Ev} {e : Ev} (h6 : ¬ 600 ≤ l.length) (h : nextE l w = some e) : readL (w :: ws) l = readL ws (l ++ [e]) := by
  show (if 600 ≤ l.length then none else match nextE l w with | none => none | some e => readL ws (l ++ [e])) = _
  rw [if_neg h6, h]
theorem readL_stop {w : List UInt8} {ws : List (List UInt8)} {l : List Ev} (h : 600 ≤ l.length ∨ nextE l w = none) : readL (w :: ws) l = none := by
  show (if 600 ≤ l.length then none else match nextE l w with | none => none | some e => readL ws (l ++ [e])) = _
  rcases h with h | h
  · rw [if_pos h]
  · rw [h]; split <;> rfl

theorem asc_len7 : ∀ (l : List Nat) (lo hi : Nat), l.Pairwise (· < ·) → (∀ a ∈ l, lo ≤ a ∧ a < hi) → l.length ≤ hi - lo
  | [], _, _, _, _ => Nat.zero_le _
  | a :: r, lo, hi, h, hb => by
    have g := List.pairwise_cons.1 h
    have := asc_len7 r (a + 1) hi g.2 (fun b hm => ⟨g.1 b hm, (hb b (by simp [hm])).2⟩)
    have := hb a (by simp)
    simp only [List.length_cons]
    omega

theorem byte_is (k c : UInt8) : ((k.toNat : Int) == (c.toNat : Int)) = decide (k = c) := by
  by_cases h : k = c
  · subst h; simp
  · have : ¬ ((k.toNat : Int) = (c.toNat : Int)) := fun e => h (UInt8.toNat_inj.1 (Int.ofNat.inj e))
    rw [beq_eq_false_iff_ne.2 this, decide_eq_false h]

theorem resRead (W : World) (v b : Value) (tmps : Array Value) (h2 : tmps.getD 2 undef = v) (h3 : tmps.getD 3 undef = b) : (results Tryd.f31 tmps).run Tryd.prog W = .ok (.tuple #[v, b]) W := by
  have h2' : tmps[2]?.getD undef = v := by simpa using h2
  have h3' : tmps[3]?.getD undef = b := by simpa using h3
  simp [results, Tryd.results31, go_sem, h2', h3']

def may2 (a b : Nat) : Nat → Prop := fun k => k = a ∨ k = b

/-- What the loop of l7Read holds. -/
def RdAt (w w2 : World) (s : ByteArray) (ws : List (List UInt8)) (vo vm va vi : Value) (wr : World) : Prop :=
  ∃ (i : Nat) (l : List Ev), i ≤ ws.length ∧ vi = .int .i64 (i : Int) ∧ readP s = readL (ws.drop i) l ∧ Good l ∧ l.length ≤ 600 ∧ vm = .int .i64 (madeN l : Int) ∧
    ERow wr vo l ∧ NRow wr va (aliveL l) ∧ (∀ g, vo.ownBlock = some g → g = w.heap.size ∨ w2.heap.size ≤ g) ∧ (∀ g, va.ownBlock = some g → g = w.heap.size + 1 ∨ w2.heap.size ≤ g) ∧
    (∀ g, vo.ownBlock = some g → va.ownBlock ≠ some g) ∧ Keeps noB w wr ∧ Keeps (may2 w.heap.size (w.heap.size + 1)) w2 wr

theorem out_nat {v : Int} (hv : 0 ≤ v) (l : List Nat) : l.filter (fun m => decide (m ≠ v.toNat)) = outN l v := by
  unfold outN
  congr 1
  funext m
  by_cases h : m = v.toNat
  · have : (m : Int) = v := by omega
    simp [h]; omega
  · have : ¬ (m : Int) = v := by omega
    simp [h, this]

theorem nextE_fits {l : List Ev} {x : List UInt8} {e : Ev} (h : nextE l x = some e) : fits l e := by
  unfold nextE at h
  split at h
  · cases h
  · split at h
    · cases h
    · split at h
      · rename_i hf
        have := Option.some.inj h; subst this; exact hf
      · cases h

theorem RdAt.next {w w2 : World} {s : ByteArray} {ws : List (List UInt8)} {i nO : Nat} {l : List Ev} {k : UInt8} {v : Int} {x : List UInt8} {ao : Option Addr} {co : Nat} {va' : Value} {W3 w4 : World} {vo' : Value}
    (hi : i < ws.length) (hgood : Good l) (h6 : ¬ 600 ≤ l.length) (hnO : nO = l.length) (hv : 0 ≤ v) (hx : nextE l x = some ⟨k, v.toNat⟩) (hread : readP s = readL (ws.drop (i + 1)) (l ++ [⟨k, v.toNat⟩]))
    (hs2 : w.heap.size + 1 + 1 ≤ w2.heap.size) (hro : ERow W3 (.slice ao nO co) l) (hra : NRow W3 va' (aliveL (l ++ [⟨k, v.toNat⟩])))
    (hof : ∀ g, (Value.slice ao nO co).ownBlock = some g → g = w.heap.size ∨ w2.heap.size ≤ g) (haf : ∀ g, va'.ownBlock = some g → g = w.heap.size + 1 ∨ w2.heap.size ≤ g)
    (hap : ∀ g, (Value.slice ao nO co).ownBlock = some g → va'.ownBlock ≠ some g) (hq : Keeps noB w W3) (hq2 : Keeps (may2 w.heap.size (w.heap.size + 1)) w2 W3)
    (hown : w4.ownsRow 0 39 2 vo' (nO + 1) (evC l ++ [.int .u8 (k.toNat : Int), .int .i64 v]))
    (hgrow : (W3.alloc (.cells #[.int .u8 (k.toNat : Int), .int .i64 v] 39)).grownBy w4 (Value.slice ao nO co).ownBlock)
    (hfr : Fresh (W3.alloc (.cells #[.int .u8 (k.toNat : Int), .int .i64 v] 39)) (.slice ao nO co) vo') :
    RdAt w w2 s ws vo' (.int .i64 (madeN (l ++ [⟨k, v.toNat⟩]) : Int)) va' (.int .i64 ((i : Int) + 1)) w4 := by
  have qa : Keeps (fun g => (Value.slice ao nO co).ownBlock = some g) W3 w4 := ((Keeps.refl _ W3).alloc _).grown hgrow (fun g hg => .inl hg)
  have hs3 := hq2.size
  refine ⟨i + 1, l ++ [⟨k, v.toNat⟩], hi, by go_num, hread, hgood.snoc (nextE_fits hx), by simp; omega, rfl, ?_, ?_, ?_, haf, ?_, ?_, ?_⟩
  · unfold ERow
    rw [List.length_append, evC_snoc, ← hnO, show ((v.toNat : Nat) : Int) = v by omega]
    exact hown
  · exact hra.keeps qa (fun g hg e => hap g e hg)
  · intro g hg
    rcases hfr with h | h
    · exact hof g (h ▸ hg)
    · have := h g hg; simp at this; omega
  · intro g hg h
    rcases hfr with h1 | h1
    · exact hap g (h1 ▸ hg) h
    · have h2 := h1 g hg; simp at h2
      have := (hra.lt g h).2
      omega
  · exact hq.transNew qa (fun i hi e => by have := hof i e; have := hq.size; have : i < w.heap.size := hi; omega)
  · exact hq2.transNew qa (fun i hi e => by rcases hof i e with h | h; exact .inl h; omega)

set_option maxRecDepth 100000 in
set_option maxHeartbeats 4000000 in
theorem read_dash (w : World) : Calls Tryd.prog 31 #[.string ⟨#[45]⟩] w (ReadPost w (some [])) := by
  have o1 := World.ownsRow_made w #[] 0 (e := 39) (size := 2) (Nat.zero_le _) (by simp [maxLen]) rfl
  have HO := Lib.hid (And.intro o1 ((Keeps.refl noB w).alloc (.cells #[] 39)))
  clear o1
  go_enter Tryd.func31, Tryd.ntmps31
  go_wp2_with fail
  refine bodyPost_ret (resRead _ _ _ _ rfl rfl) rfl ?_
  exact ⟨_, rfl, HO.out.1, fun g hg => by simp [Value.ownBlock] at hg; omega, HO.out.2⟩

theorem word_facts {sw : ByteArray} {x : List UInt8} (h : Value.string sw = str x) : sw.data.toList = x := by
  unfold str at h
  injection h with h
  rw [h]

set_option maxRecDepth 100000 in
set_option maxHeartbeats 8000000 in
theorem read_words (s : ByteArray) (hs : s.size ≤ 1048576) (hd : s ≠ ⟨#[45]⟩) (w : World) : Calls Tryd.prog 31 #[.string s] w (ReadPost w (readP s)) := by
  obtain ⟨i0, hi, hz0, hz1, hz2⟩ := info_parts Tryd.infoE39
  have HI := Lib.hid (And.intro hi (And.intro hz0 (And.intro hz1 hz2)))
  obtain ⟨j0, hj, hy0, hy1, hy2⟩ := info_parts Tryd.infoI3
  have HJ := Lib.hid (And.intro hj (And.intro hy0 (And.intro hy1 hy2)))
  have hbb : (s.toList == [45]) = false := by
    rw [beq_eq_false_iff_ne]
    intro e
    apply hd
    have : s.data.toList = [45] := by rw [← e]; simp [ByteArray.toList_eq]
    cases s
    simp at this ⊢
    exact congrArg List.toArray this
  have o1 := World.ownsRow_made w #[] 0 (e := 39) (size := 2) (Nat.zero_le _) (by simp [maxLen]) rfl
  have o2 := World.ownsRow_made (w.alloc (.cells #[] 39)) #[] 0 (e := 3) (size := 1) (Nat.zero_le _) (by simp [maxLen]) rfl
  rw [World.size_alloc] at o2
  have HO := Lib.hid (And.intro o1 (And.intro o2 (((Keeps.refl noB w).alloc (.cells #[] 39)).alloc (.cells #[] 3))))
  have HR : Hid (readP s = readL (cutAt 32 s.data.toList) []) := Lib.hid (by unfold readP; rw [if_neg hd])
  have HC := Lib.hid (fun W => cut_any s hs W)
  have hcl := cutAt_len 32 s.data.toList
  have hlen : s.data.toList.length = s.size := by simp
  rw [hlen] at hcl
  have HSZ0 : ∀ x ∈ cutAt 32 s.data.toList, x.length ≤ 1048576 := fun x hx => by
    have := cutAt_mem 32 s.data.toList x hx
    rw [hlen] at this; omega
  generalize cutAt 32 s.data.toList = ws at HR HC hcl HSZ0
  clear hi hz0 hz1 hz2 hj hy0 hy1 hy2 o1 o2 hlen
  have HSZ1 := Lib.hid HSZ0
  have HD := Lib.hid hd
  clear hd HSZ0
  go_enter Tryd.func31, Tryd.ntmps31
  go_wp2_with fail
  refine (HC.out _).mono ?_
  rintro e w2 ⟨vw, rfl, hw, hwf, q2⟩
  obtain ⟨aw, cw, rfl⟩ := row_shape (ok := fun _ => True) ⟨hw, fun _ _ => trivial⟩
  obtain ⟨N, hN⟩ : ∃ N, N = ws.length := ⟨_, rfl⟩
  rw [← hN] at hw hcl ⊢
  have hsz2 := q2.size
  simp only [World.size_alloc] at hsz2
  have HW : Hid (∀ i wr, Keeps (may2 w.heap.size (w.heap.size + 1)) w2 wr → i < N → ∃ gw x, aw = some ⟨gw, 0, none⟩ ∧ N ≤ cw ∧ ws[i]? = some x ∧ wr.cell? ⟨gw, i, none⟩ = some (.string ⟨x.toArray⟩)) := fun i wr q hi => by
    obtain ⟨g, c, e, hc, hg, hh⟩ := row_capM (ok := fun _ => True) hw (by omega)
    simp only [Value.slice.injEq, true_and] at e
    obtain ⟨rfl, rfl⟩ := e
    have hm := List.getElem?_eq_getElem (l := ws) (i := i) (by omega)
    have hgw := hwf g rfl
    simp only [World.size_alloc] at hgw
    exact ⟨g, _, rfl, hc, hm, (q.cell (p := ⟨g, i, none⟩) hg (fun e => by rcases e with e | e <;> (have e : g = _ := e; omega))).trans (hh i (str _) (by rw [List.getElem?_map, hm]; rfl)).1⟩
  have HP : Hid (RdAt w w2 s ws (.slice (some ⟨w.heap.size, 0, none⟩) 0 0) (.int .i64 0) (.slice (some ⟨w.heap.size + 1, 0, none⟩) 0 0) (.int .i64 0) w2) :=
    ⟨0, [], Nat.zero_le _, rfl, HR.out, .nil, by simp, rfl, q2.ownsRow (((Keeps.refl noB _).alloc _).ownsRow HO.out.1 (fun _ _ _ e => e)) (fun _ _ _ e => e), q2.ownsRow HO.out.2.1 (fun _ _ _ e => e),
      fun g hg => .inl (by simpa [Value.ownBlock] using hg.symm), fun g hg => .inl (by simpa [Value.ownBlock] using hg.symm), fun g hg h => by simp [Value.ownBlock] at hg h; omega, HO.out.2.2.trans q2, Keeps.refl _ _⟩
  have HN := Lib.hid hN
  have HS2 := Lib.hid hsz2
  clear hw hwf q2 hN hsz2
  go_upto_region 7 with fail
  go_loopw [4, 5, 6, 20] (fun vo vm va vi wr => RdAt w w2 s ws vo vm va vi wr) (fun _ _ _ vi _ => N - (intOf vi).toNat)
  case atStart => exact HP.out
  case round =>
    clear HP
    obtain ⟨i, l, hin, rfl, hread, hgood, hl6, rfl, ho, ha, hof, haf, hap, hq, hq2⟩ := hrel
    rw [← HN.out] at hin
    obtain ⟨ao, co, rfl⟩ := row_shape (ok := fun _ => True) ⟨ho, fun _ _ => trivial⟩
    obtain ⟨aa, ca, rfl⟩ := ha.shape
    have hsay := hgood.says
    have hmade : madeN l ≤ 600 := Nat.le_trans hsay.le hl6
    have halen : (aliveL l).length ≤ 600 := by
      have hsub : ∀ n ∈ aliveL l, n < 601 := fun n hn => by
        obtain ⟨h1, f, h2, _⟩ := (hsay.alive n).1 hn
        have := (List.getElem?_eq_some_iff.1 h2).1
        rw [hsay.made] at this; omega
      have hge : ∀ n ∈ aliveL l, 1 ≤ n := fun n hn => ((hsay.alive n).1 hn).1
      exact asc_len7 (aliveL l) 1 601 hsay.asc (fun n hn => ⟨hge n hn, hsub n hn⟩)
    obtain ⟨nO, hnO⟩ : ∃ nO, nO = l.length := ⟨_, rfl⟩
    obtain ⟨nA, hnA⟩ : ∃ nA, nA = (aliveL l).length := ⟨_, rfl⟩
    obtain ⟨mN, hmN⟩ : ∃ mN, mN = madeN l := ⟨_, rfl⟩
    rw [← hnO, ← hnA, ← hmN]
    have HST := Lib.hid (And.intro hgood (And.intro hl6 (And.intro hnO (And.intro hnA hmN))))
    have HRO : Hid (ERow wr (.slice ao nO co) l ∧ NRow wr (.slice aa nA ca) (aliveL l)) := by rw [hnO, hnA]; exact ⟨ho, ha⟩
    have HFR : Hid ((∀ g, (Value.slice ao nO co).ownBlock = some g → g = w.heap.size ∨ w2.heap.size ≤ g) ∧ (∀ g, (Value.slice aa nA ca).ownBlock = some g → g = w.heap.size + 1 ∨ w2.heap.size ≤ g) ∧ (∀ g, (Value.slice ao nO co).ownBlock = some g → (Value.slice aa nA ca).ownBlock ≠ some g) ∧ Keeps noB w wr ∧ Keeps (may2 w.heap.size (w.heap.size + 1)) w2 wr) := by
      rw [hnO, hnA]; exact ⟨hof, haf, hap, hq, hq2⟩
    have hnO6 : nO ≤ 600 := by omega
    have hnA6 : nA ≤ 600 := by omega
    have hmN6 : mN ≤ 600 := by omega
    clear ho ha hof haf hap hq hsay hmade halen hnO hnA hgood hl6 hmN
    by_cases hlt : i < N
    · obtain ⟨gw, x, rfl, hcw, hx, r1⟩ := HW.out i wr hq2 hlt
      have hi1 : (i : Int) < (N : Int) := by omega
      have hdrop : ws.drop i = x :: ws.drop (i + 1) := by
        rw [List.drop_eq_getElem_cons (by have := HN.out; omega)]
        rw [List.getElem?_eq_getElem (by have := HN.out; omega)] at hx
        rw [Option.some.inj hx]
      have HSTOP : Hid (600 ≤ l.length ∨ nextE l x = none → readP s = none) := fun h => by rw [hread, hdrop]; exact readL_stop h
      have HNEXT : Hid (∀ e, ¬ 600 ≤ l.length → nextE l x = some e → readP s = readL (ws.drop (i + 1)) (l ++ [e])) := fun e h1 h2 => by rw [hread, hdrop]; exact readL_next h1 h2
      have HNO : Hid (readP s = none → ∀ (W : World) (b : Nat), b = W.heap.size → Keeps noB w W → ReadPost w (readP s) (.returned (.tuple #[.slice (some ⟨b, 0, none⟩) 0 0, .bool false])) (W.alloc (.cells #[] 39))) := fun h W b hb hk => by
        rw [h, hb]
        exact ⟨_, rfl, World.ownsRow_made W #[] 0 (e := 39) (size := 2) (Nat.zero_le _) (by simp [maxLen]) rfl, fun g hg => by simp [Value.ownBlock] at hg; have := hk.size; omega, hk.alloc _⟩
      have HSZ : Hid (∀ d, i < N → ∀ k, x = k :: d → (⟨d.toArray⟩ : ByteArray).size ≤ 1048576) := fun d _ k hx2 => by
        have := HSZ1.out x (List.mem_of_getElem? hx)
        rw [hx2] at this
        have e : (⟨d.toArray⟩ : ByteArray).size = d.length := by show d.toArray.size = d.length; simp
        rw [e]; simp at this; omega
      clear hread hdrop hx hq2
      cases x with
      | nil =>
        have HE := Lib.hid (HSTOP.out (.inr rfl))
        go_wp2_with fail
        refine bodyPost_ret (resRead _ _ _ _ rfl rfl) rfl ?_
        exact HNO.out HE.out wr _ rfl HFR.out.2.2.2.1
      | cons k d =>
        by_cases h6 : 600 ≤ nO
        · have HE := Lib.hid (HSTOP.out (.inl (by have := HST.out.2.2.1; omega)))
          have h61 : (600 : Int) ≤ (nO : Int) := by omega
          go_wp2_with fail
          refine bodyPost_ret (resRead _ _ _ _ rfl rfl) rfl ?_
          exact HNO.out HE.out wr _ rfl HFR.out.2.2.2.1
        · have h61 : ¬ (600 : Int) ≤ (nO : Int) := by omega
          have hxt : (⟨(k :: d).toArray⟩ : ByteArray).extract 1 (d.length + 1) = ⟨d.toArray⟩ := by
            have h := str_eq (a := (⟨(k :: d).toArray⟩ : ByteArray).extract 1 (d.length + 1)) (l := d) (by rw [cut_str]; simp)
            unfold str at h
            injection h
          have HNUM : Hid (∀ W, Calls Tryd.prog 49 #[.string ((⟨(k :: d).toArray⟩ : ByteArray).extract 1 (d.length + 1))] W (NumPost W (numM d))) := fun W => by
            rw [hxt]
            exact num_any ⟨d.toArray⟩ (HSZ.out d hlt k rfl) W
          have HIN : Hid (∀ v W, NRow W (.slice aa nA ca) (aliveL l) → Calls Tryd.prog 50 #[.slice aa nA ca, .int .i64 v] W fun e w' => e = .returned (.bool (inB (aliveL l) v)) ∧ w' = W) := fun v W hW =>
            in_any _ _ v W hW (by have := HST.out.2.2.2.1; omega)
          have HWO : Hid (∀ v W, NRow W (.slice aa nA ca) (aliveL l) → Calls Tryd.prog 51 #[.slice aa nA ca, .int .i64 v] W (WithoutPost W (outN (aliveL l) v))) := fun v W hW =>
            without_any _ _ v W hW (by have := HST.out.2.2.2.1; omega)
          clear hxt
          go_wp2_with fail
          refine (HNUM.out _).mono ?_
          rintro e w' ⟨he, rfl⟩
          cases hnum : numM d with
          | none =>
            rw [hnum] at he
            obtain rfl := he
            have HE := Lib.hid (HSTOP.out (.inr (nextE_bad HST.out.1 HST.out.2.1 hnum)))
            clear hnum HNUM
            obtain ⟨kv, hkv⟩ : ∃ kv : Int, kv = (k.toNat : Int) := ⟨_, rfl⟩
            go_wp2_with fail
            refine bodyPost_ret (resRead _ _ _ _ rfl rfl) rfl ?_
            exact HNO.out HE.out _ _ (by simp) (HFR.out.2.2.2.1.alloc _)
          | some v =>
            rw [hnum] at he
            obtain rfl := he
            have hk0 : 0 < (⟨(k :: d).toArray⟩ : ByteArray).size := by show 0 < ((k :: d).toArray).size; simp
            obtain ⟨kv, hkv1⟩ : ∃ kv : Int, kv = (((⟨(k :: d).toArray⟩ : ByteArray)[0]'hk0).toNat : Int) := ⟨_, rfl⟩
            have hkv : kv = (k.toNat : Int) := hkv1
            have hk43 : (kv == 43) = decide (k = 43) := by rw [hkv]; exact byte_is k 43
            have hk46 : (kv == 46) = decide (k = 46) := by rw [hkv]; exact byte_is k 46
            have hk45 : (kv == 45) = decide (k = 45) := by rw [hkv]; exact byte_is k 45
            go_upto_region 14 with fail
            rw [← hkv1]
            have HKV := Lib.hid hkv
            clear hkv hkv1 hk0
            have HB : Hid (∀ W, Keeps noB (w'.alloc (.cells #[.int .u8 kv, .int .i64 v] 39)) W → W.cell? ⟨w'.heap.size, 0, none⟩ = some (.int .u8 kv) ∧ W.cell? ⟨w'.heap.size, 1, none⟩ = some (.int .i64 v)) := fun W q => by
              have b := q.blk (Blk.new w' #[.int .u8 kv, .int .i64 v] 39) id
              exact ⟨(b.cell 0).trans rfl, (b.cell 1).trans rfl⟩
            have HQ : Hid (Keeps noB w' (w'.alloc (.cells #[.int .u8 kv, .int .i64 v] 39))) := (Keeps.refl _ _).alloc _
            have HRA : Hid (NRow (w'.alloc (.cells #[.int .u8 kv, .int .i64 v] 39)) (.slice aa nA ca) (aliveL l)) := HRO.out.2.keeps HQ.out (fun _ _ e => e)
            obtain ⟨ib, hib⟩ : ∃ ib, ib = inB (aliveL l) v := ⟨_, rfl⟩
            have HIN2 : Hid (∀ W, NRow W (.slice aa nA ca) (aliveL l) → Calls Tryd.prog 50 #[.slice aa nA ca, .int .i64 v] W fun e w' => e = .returned (.bool ib) ∧ w' = W) := fun W hW => by rw [hib]; exact HIN.out v W hW
            clear HIN
            obtain ⟨hi1', hz0, hz1, hz2⟩ := HI.out
            by_cases hA : k = 43 ∧ v = (mN : Int) + 1
            · have e1 : (kv == 43) = true := by rw [hk43]; simp [hA.1]
              have e2 : (v == (mN : Int) + 1) = true := by simp [hA.2]
              have hyes := nextE_yes (k := k) (d := d) HST.out.1 HST.out.2.1 hnum (.inl ⟨hA.1, by rw [hA.2, HST.out.2.2.2.2]⟩)
              have hal : aliveL (l ++ [⟨k, v.toNat⟩]) = aliveL l ++ [v.toNat] := by rw [aliveL_snoc]; unfold aliveStep; rw [if_pos hA.1]
              have hmd : ((madeN (l ++ [⟨k, v.toNat⟩]) : Nat) : Int) = v := by rw [madeN_snoc, if_pos hA.1, ← HST.out.2.2.2.2]; omega
              have HY := Lib.hid (And.intro hyes (And.intro hal (And.intro hmd hA)))
              clear hyes hal hmd hA hk43 hk46 hk45 hib hnum HNUM HNO HSTOP
              obtain ⟨hj1', hy0, hy1, hy2⟩ := HJ.out
              obtain ⟨LA, hLA⟩ : ∃ LA, LA = (aliveL l).map i64 := ⟨_, rfl⟩
              have HLA := Lib.hid (And.intro hLA HST.out.2.2.2.1)
              have HRA2 : Hid ((w'.alloc (.cells #[.int .u8 kv, .int .i64 v] 39)).ownsRow 0 3 1 (.slice aa nA ca) nA LA) := by
                have h := HRA.out; unfold NRow at h; rw [← HST.out.2.2.2.1, ← hLA] at h; exact h
              clear hLA
              go_wp2_with (at_builtin; refine wpList_append_fresh _ rfl _ _ 25 rfl 3 j0 _ 1 8 Tryd.underlying25 hj1' hy0 hy1 hy2 rfl (by decide) (.slice aa nA ca) nA LA rfl (HRA2.out.alloc _) ⟨w'.heap.size + 1, 0, none⟩ 1 1 [.int .i64 v] rfl rfl (by have h := cells_one (w'.alloc (.cells #[.int .u8 kv, .int .i64 v] 39)) (.int .i64 v) 3; rwa [World.size_alloc] at h) (by intro u hu; simp at hu; subst hu; rfl) (by unfold maxLen; omega) (by omega) ?_)
              intro va' w3 hownA hgrowA hfreshA
              have hkA : Keeps (fun g => (Value.slice aa nA ca).ownBlock = some g) (w'.alloc (.cells #[.int .u8 kv, .int .i64 v] 39)) w3 := ((Keeps.refl _ _).alloc _).grown hgrowA (fun g hg => .inl hg)
              have hbl : (Value.slice aa nA ca).ownBlock ≠ some w'.heap.size := fun e => by have := (HRO.out.2.lt _ e).2; omega
              have hB3 := hkA.blk (Blk.new w' #[.int .u8 kv, .int .i64 v] 39) hbl
              have b0 : w3.cell? ⟨w'.heap.size, 0, none⟩ = some (.int .u8 kv) := (hB3.cell 0).trans rfl
              have b1 : w3.cell? ⟨w'.heap.size, 1, none⟩ = some (.int .i64 v) := (hB3.cell 1).trans rfl
              have hkW : Keeps (fun g => (Value.slice aa nA ca).ownBlock = some g) w' w3 := (HQ.out.mono (fun _ e => e.elim)).trans hkA
              have hroA : ERow w3 (.slice ao nO co) l := HRO.out.1.keepsE hkW (fun g hg e => HFR.out.2.2.1 g hg e)
              obtain ⟨aa', ca', rfl⟩ := row_shape (ok := fun _ => True) ⟨hownA, fun _ _ => trivial⟩
              have hraA : NRow w3 (.slice aa' (nA + 1) ca') (aliveL (l ++ [⟨k, v.toNat⟩])) := by
                rw [HY.out.2.1]
                unfold NRow
                rw [List.length_append, List.map_append, ← HLA.out.2, ← HLA.out.1]
                show w3.ownsRow 0 3 1 (.slice aa' (nA + 1) ca') (nA + 1) (LA ++ [.int .i64 ((v.toNat : Nat) : Int)])
                rw [show ((v.toNat : Nat) : Int) = v by have := HY.out.1.2; omega]
                exact hownA
              have hfrA : (∀ g, (Value.slice aa' (nA + 1) ca').ownBlock = some g → g = w.heap.size + 1 ∨ w2.heap.size ≤ g) ∧ (∀ g, (Value.slice ao nO co).ownBlock = some g → (Value.slice aa' (nA + 1) ca').ownBlock ≠ some g) := by
                refine ⟨fun g hg => ?_, fun g hg h => ?_⟩
                · rcases hfreshA with e | e
                  · exact HFR.out.2.1 g (e ▸ hg)
                  · have := e g hg; have := HFR.out.2.2.2.2.size; simp at *; omega
                · rcases hfreshA with e | e
                  · exact HFR.out.2.2.1 g hg (e ▸ h)
                  · have := e g h; have := (HRO.out.1.lt g hg).2; simp at *; omega
              have hqA : Keeps noB w w3 ∧ Keeps (may2 w.heap.size (w.heap.size + 1)) w2 w3 := by
                refine ⟨HFR.out.2.2.2.1.transNew hkW (fun i hi e => by have := HFR.out.2.1 i e; have := HS2.out; omega), HFR.out.2.2.2.2.transNew hkW (fun i hi e => by rcases HFR.out.2.1 i e with h | h; exact .inr h; omega)⟩
              obtain ⟨EL, hEL⟩ : ∃ EL, EL = evC l := ⟨_, rfl⟩
              have HRO3 : Hid (w3.ownsRow 0 39 2 (.slice ao nO co) nO EL) := by
                have h := hroA; unfold ERow at h; rw [← HST.out.2.2.1, ← hEL] at h; exact h
              have HNX : Hid (∀ v' w4, w4.ownsRow 0 39 2 v' (nO + 1) (EL ++ [.int .u8 kv, .int .i64 v]) → (w3.alloc (.cells #[.int .u8 kv, .int .i64 v] 39)).grownBy w4 (Value.slice ao nO co).ownBlock → Fresh (w3.alloc (.cells #[.int .u8 kv, .int .i64 v] 39)) (.slice ao nO co) v' → RdAt w w2 s ws v' (.int .i64 v) (.slice aa' (nA + 1) ca') (.int .i64 ((i : Int) + 1)) w4) := fun v' w4 h1 h2 h3 => by
                rw [HKV.out] at h1 h2 h3
                rw [hEL] at h1
                have h6' : ¬ 600 ≤ l.length := by have := HST.out.2.2.1; omega
                have h := RdAt.next (by rw [← HN.out]; exact hlt) HST.out.1 h6' HST.out.2.2.1 HY.out.1.2 HY.out.1.1 (HNEXT.out _ h6' HY.out.1.1) HS2.out hroA hraA HFR.out.1 hfrA.1 hfrA.2 hqA.1 hqA.2 h1 h2 h3
                rw [HY.out.2.2.1] at h
                exact h
              clear hkA hbl hB3 hkW hroA hraA hfrA hqA hEL hownA hgrowA hfreshA HY HLA HRA2 HRA hj1' hy0 hy1 hy2
              go_wp2_with (at_builtin; refine wpList_append_fresh _ rfl _ _ 33 rfl 39 i0 _ 2 16 Tryd.underlying33 hi1' hz0 hz1 hz2 rfl (by decide) (.slice ao nO co) nO EL rfl (HRO3.out.alloc _) ⟨w3.heap.size, 0, none⟩ 1 1 [.int .u8 kv, .int .i64 v] rfl rfl (cells_all w3 #[.int .u8 kv, .int .i64 v] 39) (by intro u hu; simp at hu; rcases hu with rfl | rfl <;> rfl) (by unfold maxLen; omega) (by omega) ?_)
              intro v' w4 hown' hgrow' hfresh'
              have hnew := HNX.out v' w4 hown' hgrow' hfresh'
              obtain ⟨a4, c4, rfl⟩ := row_shape (ok := fun _ => True) ⟨hown', fun _ _ => trivial⟩
              have HE := Lib.hid hnew
              clear hown' hgrow' hfresh' hnew
              go_wp2_with fail
              go_roundw
              case rel => exact HE.out
              case measure => simp [intOf]; omega
            · have HOLDQ : Hid (Keeps noB w (w'.alloc (.cells #[.int .u8 kv, .int .i64 v] 39)) ∧ Keeps (may2 w.heap.size (w.heap.size + 1)) w2 (w'.alloc (.cells #[.int .u8 kv, .int .i64 v] 39))) := ⟨HFR.out.2.2.2.1.trans HQ.out, HFR.out.2.2.2.2.trans (HQ.out.mono (fun _ e => e.elim))⟩
              have HROB : Hid (ERow (w'.alloc (.cells #[.int .u8 kv, .int .i64 v] 39)) (.slice ao nO co) l) := HRO.out.1.keepsE HQ.out (fun _ _ e => e)
              by_cases hB : k = 46 ∧ ib = true
              · have e1 : (kv == 43) = false := by rw [hk43, hB.1]; decide
                have e2 : (kv == 46) = true := by rw [hk46]; simp [hB.1]
                have hyes := nextE_yes (k := k) (d := d) HST.out.1 HST.out.2.1 hnum (.inr ⟨.inl hB.1, by rw [← hib]; exact hB.2⟩)
                have hal : aliveL (l ++ [⟨k, v.toNat⟩]) = aliveL l := by rw [aliveL_snoc]; unfold aliveStep; rw [if_neg (show ¬ k = 43 by rw [hB.1]; decide), if_neg (show ¬ k = 45 by rw [hB.1]; decide)]
                have hmd : ((madeN (l ++ [⟨k, v.toNat⟩]) : Nat) : Int) = (mN : Int) := by rw [madeN_snoc, if_neg (show ¬ k = 43 by rw [hB.1]; decide), ← HST.out.2.2.2.2, Nat.add_zero]
                have HY := Lib.hid (And.intro hyes (And.intro hal hmd))
                obtain ⟨hB1, hB2⟩ := hB
                subst hB2
                clear hyes hal hmd hA hB1 hk43 hk46 hk45 hib hnum HNUM HNO HSTOP
                obtain ⟨EL, hEL⟩ : ∃ EL, EL = evC l := ⟨_, rfl⟩
                have HRO3 : Hid ((w'.alloc (.cells #[.int .u8 kv, .int .i64 v] 39)).ownsRow 0 39 2 (.slice ao nO co) nO EL) := by
                  have h := HROB.out; unfold ERow at h; rw [← HST.out.2.2.1, ← hEL] at h; exact h
                have HNX : Hid (∀ v' w4, w4.ownsRow 0 39 2 v' (nO + 1) (EL ++ [.int .u8 kv, .int .i64 v]) → ((w'.alloc (.cells #[.int .u8 kv, .int .i64 v] 39)).alloc (.cells #[.int .u8 kv, .int .i64 v] 39)).grownBy w4 (Value.slice ao nO co).ownBlock → Fresh ((w'.alloc (.cells #[.int .u8 kv, .int .i64 v] 39)).alloc (.cells #[.int .u8 kv, .int .i64 v] 39)) (.slice ao nO co) v' → RdAt w w2 s ws v' (.int .i64 (mN : Int)) (.slice aa nA ca) (.int .i64 ((i : Int) + 1)) w4) := fun v' w4 h1 h2 h3 => by
                  rw [HKV.out] at h1 h2 h3
                  rw [hEL] at h1
                  have h6' : ¬ 600 ≤ l.length := by have := HST.out.2.2.1; omega
                  have h := RdAt.next (by rw [← HN.out]; exact hlt) HST.out.1 h6' HST.out.2.2.1 HY.out.1.2 HY.out.1.1 (HNEXT.out _ h6' HY.out.1.1) HS2.out (by have h := HROB.out; (try rw [HKV.out] at h); exact h) (by have h := (show NRow (w'.alloc (.cells #[.int .u8 kv, .int .i64 v] 39)) (.slice aa nA ca) (aliveL (l ++ [⟨k, v.toNat⟩])) by rw [HY.out.2.1]; exact HRA.out); (try rw [HKV.out] at h); exact h) HFR.out.1 HFR.out.2.1 HFR.out.2.2.1 (by have h := HOLDQ.out.1; (try rw [HKV.out] at h); exact h) (by have h := HOLDQ.out.2; (try rw [HKV.out] at h); exact h) h1 h2 h3
                  rw [HY.out.2.2] at h
                  exact h
                clear hEL HY
                go_wp2_with (first | (go_at_call 50; refine (HIN2.out _ HRA.out).mono ?_; rintro e w5 ⟨rfl, rfl⟩) | (at_builtin; refine wpList_append_fresh _ rfl _ _ 33 rfl 39 i0 _ 2 16 Tryd.underlying33 hi1' hz0 hz1 hz2 rfl (by decide) (.slice ao nO co) nO EL rfl (HRO3.out.alloc _) ⟨w'.heap.size + 1, 0, none⟩ 1 1 [.int .u8 kv, .int .i64 v] rfl rfl (by have h := cells_all (w'.alloc (.cells #[.int .u8 kv, .int .i64 v] 39)) #[.int .u8 kv, .int .i64 v] 39; rwa [World.size_alloc] at h) (by intro u hu; simp at hu; rcases hu with rfl | rfl <;> rfl) (by unfold maxLen; omega) (by omega) ?_))
                intro v' w4 hown' hgrow' hfresh'
                have hnew := HNX.out v' w4 hown' hgrow' hfresh'
                obtain ⟨a4, c4, rfl⟩ := row_shape (ok := fun _ => True) ⟨hown', fun _ _ => trivial⟩
                have HE := Lib.hid hnew
                clear hown' hgrow' hfresh' hnew
                go_wp2_with fail
                go_roundw
                case rel => exact HE.out
                case measure => simp [intOf]; omega
              by_cases hC : k = 45 ∧ ib = true
              · have e1 : (kv == 43) = false := by rw [hk43, hC.1]; decide
                have e2 : (kv == 46) = false := by rw [hk46, hC.1]; decide
                have e3 : (kv == 45) = true := by rw [hk45]; simp [hC.1]
                have hyes := nextE_yes (k := k) (d := d) HST.out.1 HST.out.2.1 hnum (.inr ⟨.inr hC.1, by rw [← hib]; exact hC.2⟩)
                have hal : aliveL (l ++ [⟨k, v.toNat⟩]) = outN (aliveL l) v := by
                  rw [aliveL_snoc]; unfold aliveStep; rw [if_neg (show ¬ k = 43 by rw [hC.1]; decide), if_pos hC.1]
                  exact out_nat hyes.2 (aliveL l)
                have hmd : ((madeN (l ++ [⟨k, v.toNat⟩]) : Nat) : Int) = (mN : Int) := by rw [madeN_snoc, if_neg (show ¬ k = 43 by rw [hC.1]; decide), ← HST.out.2.2.2.2, Nat.add_zero]
                have HY := Lib.hid (And.intro hyes (And.intro hal hmd))
                obtain ⟨hC1, hC2⟩ := hC
                subst hC2
                clear hyes hal hmd hA hB hC1 hk43 hk46 hk45 hib hnum HNUM HNO HSTOP
                go_wp2_with (first | (go_at_call 50; refine (HIN2.out _ HRA.out).mono ?_; rintro e w5 ⟨rfl, rfl⟩) | (go_at_call 51; refine (HWO.out v _ HRA.out).mono ?_; rintro e w3 ⟨va', rfl, hra', hfa', q3⟩; obtain ⟨aa', ca', rfl⟩ := hra'.shape; have HW3 := Lib.hid (And.intro hra' (And.intro hfa' q3)); have ⟨b0, b1⟩ := HB.out w3 q3; clear hra' hfa' q3; refine Hid.out ?_))
                refine Lib.hid ?_
                obtain ⟨nA', hnA'⟩ : ∃ nA', nA' = (outN (aliveL l) v).length := ⟨_, rfl⟩
                rw [← hnA'] at HW3 ⊢
                have HNA := Lib.hid hnA'
                clear hnA'
                have HROC : Hid (ERow w3 (.slice ao nO co) l) := HROB.out.keepsE HW3.out.2.2 (fun _ _ e => e)
                have HRAC : Hid (NRow w3 (.slice aa' nA' ca') (aliveL (l ++ [⟨k, v.toNat⟩]))) := by rw [HY.out.2.1]; exact HW3.out.1
                have HFC : Hid ((∀ g, (Value.slice aa' nA' ca').ownBlock = some g → g = w.heap.size + 1 ∨ w2.heap.size ≤ g) ∧ (∀ g, (Value.slice ao nO co).ownBlock = some g → (Value.slice aa' nA' ca').ownBlock ≠ some g)) := by
                  refine ⟨fun g hg => ?_, fun g hg h => ?_⟩
                  · have := HW3.out.2.1 g hg; have := HOLDQ.out.2.size; omega
                  · have := HW3.out.2.1 g h; have := (HROB.out.lt g hg).2; omega
                have HQC : Hid (Keeps noB w w3 ∧ Keeps (may2 w.heap.size (w.heap.size + 1)) w2 w3) := ⟨HOLDQ.out.1.trans HW3.out.2.2, HOLDQ.out.2.trans (HW3.out.2.2.mono (fun _ e => e.elim))⟩
                obtain ⟨EL, hEL⟩ : ∃ EL, EL = evC l := ⟨_, rfl⟩
                have HRO3 : Hid (w3.ownsRow 0 39 2 (.slice ao nO co) nO EL) := by
                  have h := HROC.out; unfold ERow at h; rw [← HST.out.2.2.1, ← hEL] at h; exact h
                have HNX : Hid (∀ v' w4, w4.ownsRow 0 39 2 v' (nO + 1) (EL ++ [.int .u8 kv, .int .i64 v]) → (w3.alloc (.cells #[.int .u8 kv, .int .i64 v] 39)).grownBy w4 (Value.slice ao nO co).ownBlock → Fresh (w3.alloc (.cells #[.int .u8 kv, .int .i64 v] 39)) (.slice ao nO co) v' → RdAt w w2 s ws v' (.int .i64 (mN : Int)) (.slice aa' nA' ca') (.int .i64 ((i : Int) + 1)) w4) := fun v' w4 h1 h2 h3 => by
                  rw [HKV.out] at h1 h2 h3
                  rw [hEL] at h1
                  have h6' : ¬ 600 ≤ l.length := by have := HST.out.2.2.1; omega
                  have h := RdAt.next (by rw [← HN.out]; exact hlt) HST.out.1 h6' HST.out.2.2.1 HY.out.1.2 HY.out.1.1 (HNEXT.out _ h6' HY.out.1.1) HS2.out (by have h := HROC.out; (try rw [HKV.out] at h); exact h) (by have h := HRAC.out; (try rw [HKV.out] at h); exact h) HFR.out.1 HFC.out.1 HFC.out.2 HQC.out.1 HQC.out.2 h1 h2 h3
                  rw [HY.out.2.2] at h
                  exact h
                clear hEL HY
                go_wp2_with (first | (at_builtin; refine wpList_append_fresh _ rfl _ _ 33 rfl 39 i0 _ 2 16 Tryd.underlying33 hi1' hz0 hz1 hz2 rfl (by decide) (.slice ao nO co) nO EL rfl (HRO3.out.alloc _) ⟨w3.heap.size, 0, none⟩ 1 1 [.int .u8 kv, .int .i64 v] rfl rfl (cells_all w3 #[.int .u8 kv, .int .i64 v] 39) (by intro u hu; simp at hu; rcases hu with rfl | rfl <;> rfl) (by unfold maxLen; omega) (by omega) ?_))
                intro v' w4 hown' hgrow' hfresh'
                have hnew := HNX.out v' w4 hown' hgrow' hfresh'
                obtain ⟨a4, c4, rfl⟩ := row_shape (ok := fun _ => True) ⟨hown', fun _ _ => trivial⟩
                have HE := Lib.hid hnew
                clear hown' hgrow' hfresh' hnew
                go_wp2_with fail
                go_roundw
                case rel => exact HE.out
                case measure => simp [intOf]; omega
              · have HE := Lib.hid (HSTOP.out (.inr (nextE_no (k := k) (d := d) HST.out.1 HST.out.2.1 hnum (by
                  rintro (⟨h1, h2⟩ | ⟨h1 | h1, h2⟩)
                  · exact hA ⟨h1, by rw [h2, HST.out.2.2.2.2]⟩
                  · exact hB ⟨h1, by rw [hib]; exact h2⟩
                  · exact hC ⟨h1, by rw [hib]; exact h2⟩))))
                have hcase : ((kv == 43) = true ∧ (v == (mN : Int) + 1) = false ∧ (kv == 46) = false ∧ (kv == 45) = false) ∨ ((kv == 43) = false ∧ (kv == 46) = true ∧ (kv == 45) = false ∧ ib = false) ∨ ((kv == 43) = false ∧ (kv == 46) = false ∧ (kv == 45) = true ∧ ib = false) ∨ ((kv == 43) = false ∧ (kv == 46) = false ∧ (kv == 45) = false) := by
                  rw [hk43, hk46, hk45]
                  by_cases h43 : k = 43
                  · refine .inl ⟨by simp [h43], ?_, by rw [h43]; decide, by rw [h43]; decide⟩
                    rw [beq_eq_false_iff_ne]; exact fun e => hA ⟨h43, e⟩
                  by_cases h46 : k = 46
                  · refine .inr (.inl ⟨by rw [h46]; decide, by simp [h46], by rw [h46]; decide, ?_⟩)
                    cases ib with | false => rfl | true => exact absurd ⟨h46, rfl⟩ hB
                  by_cases h45 : k = 45
                  · refine .inr (.inr (.inl ⟨by rw [h45]; decide, by rw [h45]; decide, by simp [h45], ?_⟩))
                    cases ib with | false => rfl | true => exact absurd ⟨h45, rfl⟩ hC
                  · exact .inr (.inr (.inr ⟨decide_eq_false h43, decide_eq_false h46, decide_eq_false h45⟩))
                clear hA hB hC hk43 hk46 hk45 hnum HNUM hib
                rcases hcase with ⟨e1, e2, e3, e4⟩ | ⟨e1, e2, e3, e4⟩ | ⟨e1, e2, e3, e4⟩ | ⟨e1, e2, e3⟩
                · go_wp2_with fail
                  refine bodyPost_ret (resRead _ _ _ _ rfl rfl) rfl ?_
                  exact HNO.out HE.out _ _ (by simp) (HFR.out.2.2.2.1.alloc _)
                · subst e4
                  go_wp2_with (go_at_call 50; refine (HIN2.out _ HRA.out).mono ?_; rintro e w5 ⟨rfl, rfl⟩)
                  refine bodyPost_ret (resRead _ _ _ _ rfl rfl) rfl ?_
                  exact HNO.out HE.out _ _ (by simp) (HFR.out.2.2.2.1.alloc _)
                · subst e4
                  go_wp2_with (go_at_call 50; refine (HIN2.out _ HRA.out).mono ?_; rintro e w5 ⟨rfl, rfl⟩)
                  refine bodyPost_ret (resRead _ _ _ _ rfl rfl) rfl ?_
                  exact HNO.out HE.out _ _ (by simp) (HFR.out.2.2.2.1.alloc _)
                · go_wp2_with fail
                  refine bodyPost_ret (resRead _ _ _ _ rfl rfl) rfl ?_
                  exact HNO.out HE.out _ _ (by simp) (HFR.out.2.2.2.1.alloc _)
    · have hie : i = N := by omega
      have hi1 : ¬ (i : Int) < (N : Int) := by omega
      have HE : Hid (ReadPost w (readP s) (.returned (.tuple #[.slice ao nO co, .bool true])) wr) := by
        have hr : readP s = some l := by rw [hread, List.drop_of_length_le (by have := HN.out; omega)]; rfl
        rw [hr]
        refine ⟨_, rfl, HRO.out.1, fun g hg => ?_, HFR.out.2.2.2.1⟩
        have := HFR.out.1 g hg; have := HS2.out; omega
      clear hread hie hq2
      go_wp2_with fail
      refine bodyPost_ret (resRead _ _ _ _ rfl rfl) rfl ?_
      exact HE.out

theorem read_any (s : ByteArray) (hs : s.size ≤ 1048576) (w : World) : Calls Tryd.prog 31 #[.string s] w (ReadPost w (readP s)) := by
  by_cases h : s = ⟨#[45]⟩
  · subst h
    have e : readP ⟨#[45]⟩ = some [] := by unfold readP; rw [if_pos rfl]
    rw [e]; exact read_dash w
  · exact read_words s hs h w

end Go.Proofs.YthgocacabadflaaDoor

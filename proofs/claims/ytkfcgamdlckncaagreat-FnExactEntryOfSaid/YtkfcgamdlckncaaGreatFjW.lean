/-
  Texts gathered in a list by the rounds of a range.
  The model's l9Index: where a text stands in a list of texts.
  The model's l9Tails, its parts: where a tail goes, and the three appends that put it there.
  The model's l9Tails: all tails of all cleanups, each once, in order.
-/
import Derived.Test.YtkfcgamdlckncaaGreatIuW
import Derived.Test.YtkfcgamdlckncaaGreatRf
import Derived.Test.YtkfcgamdlckncaaGreatScW
import Derived.Test.YtkfcgamdlckncaaGreatFdW
import Derived.Test.YtkfcgamdlckncaaGreatRtW
import Derived.Test.YtkfcgamdlckncaaGreatWqfW
import Derived.Sort.Walk0
namespace Go.Proofs.YtkfcgamdlckncaaGreat
set_option linter.unusedVariables false
set_option linter.unusedSimpArgs false
open Go.RowKit Go.Shelf

theorem Tryz.zeroK9 : (Tryz.prog.info? 9).map (fun i => (i.zero, i.size, i.bytes)) = some (some (.string ⟨#[]⟩), 1, 16) := by kernel_rfl

def strsC (l : List (List UInt8)) : List Value := l.map str

theorem strsC_len (l : List (List UInt8)) : (strsC l).length = l.length := by simp [strsC]
theorem strsC_snoc (l : List (List UInt8)) (c : List UInt8) : strsC (l ++ [c]) = strsC l ++ [str c] := by simp [strsC]

/-- What the loop over the choices has gathered; N: the list's block. -/
def AllI (N : Nat) (w2 : World) (pre : List (List UInt8)) (own : Nat → Prop) (W' : World) : Prop :=
  Owns (oneB N) own w2 W' ∧ own N ∧ ∃ a c, Blk W' N #[.slice a pre.length c] 22 ∧ W'.ownsRow 0 9 1 (.slice a pre.length c) pre.length (strsC pre) ∧ ∀ g, (Value.slice a pre.length c).ownBlock = some g → own g ∧ w2.heap.size ≤ g

theorem AllI.stab {N : Nat} {w2 : World} (hN : N < w2.heap.size) : Stab w2.heap.size (AllI N w2) := by
  rintro pre own W W' ⟨h1, h2, a, c, h3, h4, h5⟩ q
  refine ⟨h1.ahead q (fun i e => e.1), h2, a, c, q.blk h3 (fun e => by have := e.1; omega), q.ownsRow h4 (fun g hg hl e => e.2 (h5 g hg).1), h5⟩

set_option maxRecDepth 100000 in
set_option maxHeartbeats 1000000 in
theorem all_next {N : Nat} {w2 W3 : World} {pre : List (List UInt8)} {own1 : Nat → Prop} {a : Option Addr} {c : Nat} {p : List UInt8} (hN2 : N < w2.heap.size) (k3 : Owns (oneB N) own1 w2 W3) (hoN : own1 N) (d3 : Blk W3 N #[.slice a pre.length c] 22)
    (d4 : W3.ownsRow 0 9 1 (.slice a pre.length c) pre.length (strsC pre)) (d5 : ∀ g, (Value.slice a pre.length c).ownBlock = some g → own1 g ∧ w2.heap.size ≤ g) (hpre : pre.length ≤ 100000) :
    ∃ a' c' w', (Builtin.append_ #[22, 22] 22 #[.slice a pre.length c, .slice (some ⟨W3.heap.size, 0, none⟩) 1 1]).run Tryz.prog (W3.alloc (.cells #[.string ⟨p.toArray⟩] 9)) = .ok (.slice a' (pre.length + 1) c') w' ∧
      w'.frozen? ⟨N, 0, none⟩ = false ∧ w'.cell? ⟨N, 0, none⟩ = some (.slice a pre.length c) ∧ ∃ own', Owns own1 own' W3 (w'.setCell ⟨N, 0, none⟩ (.slice a' (pre.length + 1) c')) ∧ AllI N w2 (pre ++ [p]) own' (w'.setCell ⟨N, 0, none⟩ (.slice a' (pre.length + 1) c')) := by
  obtain ⟨i0, hi, hz0, hz1, hz2⟩ := info_parts Tryz.zeroK9
  obtain ⟨v', w', hr, ho', hg', hfr⟩ := run_append_fresh (P := Tryz.prog) (W3.alloc (.cells #[.string ⟨p.toArray⟩] 9)) 22 22 9 i0 (.string ⟨#[]⟩) 1 16 Tryz.underlying22 hi hz0 hz1 hz2 rfl (by omega)
    (.slice a pre.length c) pre.length _ (((Keeps.refl noB W3).alloc _).ownsRow d4 (fun _ _ _ => id)) ⟨W3.heap.size, 0, none⟩ 1 1 [.string ⟨p.toArray⟩] rfl (cells_one W3 _ _) (fun u hu => by simp at hu; subst hu; rfl) (by unfold maxLen; omega) (by omega)
  have hNl : N < W3.heap.size := d3.lt
  have hNw : w'.heap[N]? = W3.heap[N]? := (hg'.block N (by simp; omega) (fun e => by have := (d5 N e.symm).2; omega)).trans (Below.heap_alloc _ _ _ hNl)
  have b4 : Blk w' N #[.slice a pre.length c] 22 := hNw.trans d3
  obtain ⟨a', c', rfl⟩ := row_shape (ok := fun _ => True) ⟨ho', fun _ _ => trivial⟩
  refine ⟨a', c', w', hr, b4.free 0, by have := b4.cell 0; simpa using this, ?_⟩
  have hkA : Keeps own1 W3 w' := ((Keeps.refl _ W3).alloc _).grown hg' (fun k e => .inl (d5 k e).1)
  have hkB : Keeps own1 W3 (w'.setCell ⟨N, 0, none⟩ (.slice a' (pre.length + 1) c')) := hkA.setCell (.inl hoN) _
  have hnew : ∀ k, (Value.slice a' (pre.length + 1) c').ownBlock = some k → (own1 k ∨ W3.heap.size ≤ k) ∧ w2.heap.size ≤ k := by
    intro k hk
    have hs3 := k3.keeps.size
    rcases hfr with e | e
    · have := d5 k (e.symm.trans hk); exact ⟨.inl this.1, this.2⟩
    · have := e k hk; simp at this; exact ⟨.inr (by omega), by omega⟩
  have hk : Owns own1 (fun k => own1 k ∨ (Value.slice a' (pre.length + 1) c').ownBlock = some k) W3 (w'.setCell ⟨N, 0, none⟩ (.slice a' (pre.length + 1) c')) := by
    refine ⟨fun k e => e.elim .inl (fun e => (hnew k e).1), fun k e => ?_, hkB⟩
    rcases e with e | e
    · exact Nat.lt_of_lt_of_le (k3.lt k e) hkB.size
    · simpa [World.setCell] using (ho'.lt k e).2
  refine ⟨_, hk, k3.trans hk, .inl hoN, a', c', ?_, ?_, ?_⟩
  · have e := b4.set 0 (.slice a' (pre.length + 1) c')
    rw [List.length_append]
    simpa using e
  · have e := ((Keeps.refl (oneB N) w').setCell (p := ⟨N, 0, none⟩) (.inl rfl) (.slice a' (pre.length + 1) c')).ownsRow ho' (fun k hk hl e => by have : k = N := e; have := (hnew k hk).2; omega)
    rw [List.length_append, strsC_snoc]
    exact e
  · intro k hk
    rw [List.length_append] at hk
    exact ⟨.inr hk, (hnew k hk).2⟩

end Go.Proofs.YtkfcgamdlckncaaGreat

namespace Go.Proofs.YtkfcgamdlckncaaGreat
set_option linter.unusedVariables false
set_option linter.unusedSimpArgs false
open Go.RowKit

theorem idxT_hit {l done todo : List (List UInt8)} {t : List UInt8} (hl : l = done ++ t :: todo) (hn : ∀ u ∈ done, (t == u) = false) : idxT l t = done.length := by
  have hn2 : t ∉ done := fun h => by have := hn t h; simp at this
  unfold idxT
  rw [if_pos (by rw [hl]; simp), hl, List.idxOf_append, if_neg hn2]
  simp
theorem idxT_miss {l : List (List UInt8)} {t : List UInt8} (hn : ∀ u ∈ l, (t == u) = false) : idxT l t = -1 := by
  unfold idxT
  rw [if_neg (fun h => by have := hn t h; simp at this)]

theorem cells_of_strs {w : World} {base : Nat} {e : TypeId} {a : Option Addr} {n c : Nat} {xs : List Value} (h : w.ownsRow base e 1 (.slice a n c) n xs) {j : Nat} {u : Value} (hj : xs[j]? = some u) : ∃ g, a = some ⟨g, 0, none⟩ ∧ w.cell? ⟨g, j, none⟩ = some u := by
  obtain ⟨h1, h2⟩ := h
  rcases h2 with ⟨he, hz⟩ | ⟨g', c', cur, e, hb, hh, hnc, hcm, hcs, htk⟩
  · subst hz
    have : xs = [] := List.length_eq_zero_iff.1 (by simpa using h1)
    rw [this] at hj; cases hj
  · injection e with e1 e2 e3
    refine ⟨g', e1, ?_⟩
    have hjl : j < xs.length := (List.getElem?_eq_some_iff.1 hj).1
    rw [Nat.mul_one] at htk
    have hjn : j < n := by rw [h1] at hjl; omega
    have h3 : (cur.toList.take n)[j]? = some u := by rw [htk]; exact hj
    rw [List.getElem?_take_of_lt hjn] at h3
    simp only [World.cell?, hh]
    simp only [Option.isSome_none, Bool.false_eq_true, if_false]
    rw [← Array.getElem?_toList]
    exact h3

theorem resIndex (W : World) (v : Value) (tmps : Array Value) (h4 : tmps.getD 4 undef = v) : (results Tryz.f23 tmps).run Tryz.prog W = .ok v W := by
  have h4' : tmps[4]?.getD undef = v := by simpa using h4
  simp [results, Tryz.results23, go_sem, h4']

/-- What the loop of l9Index holds. -/
def IxAt (w : World) (l : List (List UInt8)) (t : List UInt8) (vi : Value) (wr : World) : Prop :=
  ∃ (done todo : List (List UInt8)), l = done ++ todo ∧ vi = .int .i64 done.length ∧ wr = w ∧ ∀ u ∈ done, (t == u) = false

set_option maxRecDepth 100000 in
set_option maxHeartbeats 2000000 in
theorem sindex_any (l : List (List UInt8)) (t : List UInt8) (w : World) (a : Option Addr) (c : Nat) (hrow : w.ownsRow 0 9 1 (.slice a l.length c) l.length (strsC l)) (hl : l.length ≤ 100000) :
    Calls Tryz.prog 23 #[.slice a l.length c, str t] w (fun e w' => e = .returned (.int .i64 (idxT l t)) ∧ w' = w) := by
  unfold str
  have HC : Hid (∀ j u, l[j]? = some u → ∃ g, a = some ⟨g, 0, none⟩ ∧ w.cell? ⟨g, j, none⟩ = some (.string ⟨u.toArray⟩)) := Lib.hid (fun j u hj => cells_of_strs hrow (by unfold strsC; rw [List.getElem?_map, hj]; rfl))
  obtain ⟨n, hn⟩ : ∃ n, n = l.length := ⟨_, rfl⟩
  rw [← hn] at hrow hl ⊢
  obtain ⟨RES, hRES⟩ : ∃ RES, idxT l t = RES := ⟨_, rfl⟩
  rw [hRES]
  have HR := Lib.hid (And.intro hRES hn)
  have H0 : Hid (IxAt w l t (.int .i64 0) w) := Lib.hid ⟨[], l, rfl, rfl, rfl, fun u hu => by cases hu⟩
  clear hrow hRES hn
  go_enter Tryz.func23, Tryz.ntmps23
  go_wp2
  go_loopw [9] (fun vi wr => IxAt w l t vi wr) (fun vi _ => n + 1 - (intOf vi).toNat)
  case atStart => exact H0.out
  case round =>
    clear H0
    obtain ⟨done, todo, hpt, rfl, rfl, hno0⟩ := hrel
    have hpl := congrArg List.length hpt
    rw [List.length_append, ← HR.out.2] at hpl
    cases todo with
    | nil =>
      have hd : ¬ (done.length : Int) < (n : Int) := by simp at hpl; omega
      have HE : Hid (RES = -1) := Lib.hid (by
        rw [← HR.out.1, hpt, List.append_nil]; exact idxT_miss hno0)
      clear hpt hpl hno0
      go_wp2
      refine bodyPost_ret (resIndex _ (.int .i64 (-1)) _ rfl) rfl ?_
      exact ⟨by rw [HE.out], rfl⟩
    | cons u todo =>
      have hd : (done.length : Int) < (n : Int) := by simp at hpl; omega
      have hd0 : (0 : Int) ≤ (done.length : Int) := by omega
      have hdn : done.length < n := by omega
      obtain ⟨g, rfl, hcell⟩ := HC.out done.length u (by rw [hpt]; simp)
      have HNX : Hid ((t == u) = false → IxAt wr l t (.int .i64 ((done.length : Int) + 1)) wr) := fun h => by
        refine ⟨done ++ [u], todo, by rw [hpt]; simp, by simp, rfl, fun q hq => ?_⟩
        rcases List.mem_append.1 hq with hq | hq
        · exact hno0 q hq
        · simp at hq; subst hq; exact h
      have HH : Hid ((t == u) = true → RES = done.length) := fun h1 => by
        rw [← HR.out.1]
        have : t = u := by simpa using h1
        subst this
        exact idxT_hit hpt hno0
      clear hpt hpl hno0
      cases hkk : (t == u) with
      | true =>
        have HE := Lib.hid (HH.out hkk)
        clear HNX HH
        go_wp2
        refine bodyPost_ret (resIndex _ (.int .i64 (done.length : Int)) _ rfl) rfl ?_
        exact ⟨by rw [HE.out], rfl⟩
      | false =>
        have HN := Lib.hid (HNX.out hkk)
        clear HNX HH
        go_wp2
        go_roundw
        case rel => exact HN.out
        case measure => simp [intOf]; omega

end Go.Proofs.YtkfcgamdlckncaaGreat

namespace Go.Proofs.YtkfcgamdlckncaaGreat
set_option linter.unusedVariables false
set_option linter.unusedSimpArgs false
open Go.RowKit

/-! ### where it goes -/
theorem pos_step {l : List (List UInt8)} {t u : List UInt8} {k : Nat} (hu : l[k]? = some u) (hq : ∀ b ∈ l.drop (k + 1), ltT t b = true) (h : ltT t u = true) : ∀ b ∈ l.drop k, ltT t b = true := by
  intro b hb
  have hk : k < l.length := (List.getElem?_eq_some_iff.1 hu).1
  rw [List.drop_eq_getElem_cons hk] at hb
  rcases List.mem_cons.1 hb with rfl | hb
  · have : l[k] = u := by rw [List.getElem?_eq_getElem hk] at hu; exact Option.some.inj hu
    rw [this]; exact h
  · exact hq b hb

theorem pos_stop {l : List (List UInt8)} {t u : List UInt8} {k : Nat} (hs : SortedT l) (hn : t ∉ l) (hu : l[k]? = some u) (h : ltT t u = false) : ∀ a ∈ l.take (k + 1), ltT a t = true := by
  have hk : k < l.length := (List.getElem?_eq_some_iff.1 hu).1
  have hul : u ∈ l := List.mem_of_getElem? hu
  have hut : ltT u t = true := by
    cases e : ltT u t with
    | true => rfl
    | false => exact absurd (ltT_tri h e) (fun e => hn (by rw [e]; exact hul))
  intro a ha
  rw [List.take_add_one, hu] at ha
  rcases List.mem_append.1 ha with ha | ha
  · refine ltT_trans ?_ hut
    have h1 : l = l.take k ++ l.drop k := (List.take_append_drop k l).symm
    have h2 : SortedT (l.take k ++ l.drop k) := by rw [← h1]; exact hs
    have h3 := (List.pairwise_append.1 h2).2.2 a ha u (by rw [List.drop_eq_getElem_cons hk, List.getElem?_eq_getElem hk] at *; have := Option.some.inj hu; rw [this]; simp)
    exact h3
  · have : a = u := by simpa using ha
    rw [this]; exact hut

/-! ### rows of texts -/
/-- A row of texts of one's own, not nil. -/
def TlRow (w : World) (l : List (List UInt8)) (v : Value) (wr : World) : Prop :=
  ∃ g c, v = .slice (some ⟨g, 0, none⟩) l.length c ∧ w.heap.size ≤ g ∧ wr.ownsRow 0 9 1 v l.length (strsC l) ∧ Keeps noB w wr

theorem tl_empty {w W : World} (h : Keeps noB w W) : TlRow w [] (.slice (some ⟨W.heap.size, 0, none⟩) 0 0) (W.alloc (.cells #[] 9)) :=
  ⟨W.heap.size, 0, rfl, h.size, ⟨rfl, .inr ⟨_, 0, _, rfl, Nat.zero_le _, Blk.new W _ 9, Nat.le_refl _, Nat.zero_le _, rfl, rfl⟩⟩, h.alloc _⟩

theorem strsC_append (l m : List (List UInt8)) : strsC (l ++ m) = strsC l ++ strsC m := by unfold strsC; rw [List.map_append]

/-- append of some texts to a row of texts. -/
theorem app_T {B : Nat} {W : World} {l news : List (List UInt8)} {v : Value} {ad : Addr} {m c : Nat} (hrow : W.ownsRow 0 9 1 v l.length (strsC l)) (hlow : ∀ g, v.ownBlock = some g → B ≤ g) (hB : B ≤ W.heap.size) (hm : m = news.length)
    (hcells : ∀ j u, (strsC news)[j]? = some u → W.cell? (ad.add j) = some u) (hlen : l.length + news.length ≤ 100000) :
    ∃ v' W', (Builtin.append_ #[22, 22] 22 #[v, .slice (some ad) m c]).run Tryz.prog W = .ok v' W' ∧ W'.ownsRow 0 9 1 v' (l ++ news).length (strsC (l ++ news)) ∧ (∀ g, v'.ownBlock = some g → B ≤ g) ∧
      Keeps (fun k => v.ownBlock = some k) W W' ∧ (∀ g, v'.ownBlock = some g → v.ownBlock = some g ∨ W.heap.size ≤ g) := by
  subst hm
  obtain ⟨i0, hif, hz0, hz1, hz2⟩ := info_parts Tryz.zeroK9
  obtain ⟨v', W', hr, hown', hgrow, hfresh⟩ := run_append_fresh (P := Tryz.prog) W 22 22 9 i0 (.string ⟨#[]⟩) 1 16 Tryz.underlying22 hif hz0 hz1 hz2 rfl (by omega)
    v l.length _ hrow ad news.length c (strsC news) (by rw [strsC_len]; omega) hcells (fun u hu => by
      unfold strsC at hu
      obtain ⟨c, _, rfl⟩ := List.mem_map.1 hu; rfl) (by unfold maxLen; omega) (by omega)
  refine ⟨v', W', hr, by rw [List.length_append, strsC_append]; exact hown', fun g hg => ?_, (Keeps.refl _ _).grown hgrow (fun g hg => .inl hg), fun g hg => ?_⟩
  · rcases hfresh with h | h
    · exact hlow g (h ▸ hg)
    · have := h g hg; omega
  · rcases hfresh with h | h
    · exact .inl (h ▸ hg)
    · exact .inr (h g hg)

theorem run_slT (W : World) : (sizeOf (Tryz.prog.elem 22)).run Tryz.prog W = .ok 1 W := by kernel_rfl
theorem run_elT : Tryz.prog.underlying 22 = some (.slice (Tryz.prog.elem 22)) := by kernel_rfl

theorem cutH (g L c k : Nat) (hk : k ≤ c) (W : World) : (Instr.slice 22 (.slice (some ⟨g, 0, none⟩) L c) none (some (.int .i64 (k : Int))) none).run Tryz.prog W = .ok (.slice (some ⟨g, 0, none⟩) k c) W := by
  rw [run_slice_h W 22 (some ⟨g, 0, none⟩) L c run_elT .i64 (k : Int) (by omega) (by omega), run_slT]
  simp only [Result.andThen, sliced]
  by_cases h : c = 0
  · subst h; simp
  · simp [h, Addr.add]

/-- Where the rest of a row begins. -/
def restA (g c k : Nat) : Addr := if c = k then ⟨g, 0, none⟩ else ⟨g, k, none⟩
theorem cutL (g L c k : Nat) (hk : k ≤ L) (hL : L ≤ c) (W : World) : (Instr.slice 22 (.slice (some ⟨g, 0, none⟩) L c) (some (.int .i64 (k : Int))) none none).run Tryz.prog W = .ok (.slice (some (restA g c k)) (L - k) (c - k)) W := by
  rw [run_slice_l W 22 (some ⟨g, 0, none⟩) L c run_elT .i64 (k : Int) (by omega) (by omega), run_slT]
  simp only [Result.andThen, sliced, restA]
  by_cases h : c = k
  · simp [h]
  · simp [h, Addr.add]; intro e; exact e.symm

theorem cutStr (l : List UInt8) (s : ByteArray) (h : s.data.toList = l) (i : Nat) (hi : i ≤ l.length) (wx : World) : (Instr.slice 9 (.string s) (some (.int .i64 (i : Int))) none none).run Tryz.prog wx = .ok (.string ⟨(l.drop i).toArray⟩) wx := by
  have hsz : s.size = l.length := by rw [← h, Array.length_toList]; rfl
  have e : s.extract (i : Int).toNat s.size = ⟨(l.drop i).toArray⟩ := by
    apply ByteArray.ext
    apply Array.toList_inj.1
    rw [show ((i : Int)).toNat = i by omega]
    simp only [ByteArray.data_extract, Array.toList_extract, List.extract, h, hsz]
    exact List.take_of_length_le (by rw [List.length_drop]; omega)
  rw [run_slice_string_l (P := Tryz.prog) wx 9 s Tryz.underlying9 .i64 (i : Int) (by omega) (by omega), e]

theorem slT_cap {w : World} {base : Nat} {e : TypeId} {g n c : Nat} {xs : List Value} (h : w.ownsRow base e 1 (.slice (some ⟨g, 0, none⟩) n c) n xs) : n ≤ c := by
  rcases h.2 with ⟨he, hz⟩ | ⟨g', c', cur, e, hb, hh, hnc, hcm, hcs, htk⟩
  · cases he
  · injection e with e1 e2 e3
    omega

/-! ### the three appends -/
/-- Ahead of the second append: what the first one left, and the text in a block of its own. -/
structure Mid (wr : World) (l : List (List UInt8)) (k : Nat) (t : List UInt8) (v4 : Value) (g6 : Nat) (W : World) : Prop where
  keeps : Keeps noB wr W
  row : W.ownsRow 0 9 1 v4 (l.take k).length (strsC (l.take k))
  low : ∀ g, v4.ownBlock = some g → wr.heap.size ≤ g
  text : W.cell? ⟨g6, 0, none⟩ = some (str t)

theorem fin_T {w wr : World} {l : List (List UInt8)} {k : Nat} {t : List UInt8} {g5 c5 : Nat} (h5 : w.heap.size ≤ g5) (hrow5 : wr.ownsRow 0 9 1 (.slice (some ⟨g5, 0, none⟩) l.length c5) l.length (strsC l)) (hq5 : Keeps noB w wr) (hk : k ≤ l.length) (hl : l.length ≤ 10000)
    (hs : SortedT l) (hn : t ∉ l) (hp : ∀ a ∈ l.take k, ltT a t = true) (hqq : ∀ b ∈ l.drop k, ltT t b = true) {v4 : Value} {g6 : Nat} {W : World} (hM : Mid wr l k t v4 g6 W) :
    ∃ v7 W7 v11 W11, (Builtin.append_ #[22, 22] 22 #[v4, .slice (some ⟨g6, 0, none⟩) 1 1]).run Tryz.prog W = .ok v7 W7 ∧
      (Builtin.append_ #[22, 22] 22 #[v7, .slice (some (restA g5 c5 k)) (l.length - k) (c5 - k)]).run Tryz.prog W7 = .ok v11 W11 ∧ TlRow w (insT t l) v11 W11 := by
  have hg5 : g5 < wr.heap.size := (hrow5.lt g5 rfl).2
  have hB := hM.keeps.size
  have htl : (l.take k).length = k := by rw [List.length_take]; omega
  obtain ⟨v7, W7, hr7, hrow7, hlow7, q7, hd7⟩ := app_T (news := [t]) (m := 1) (c := 1) (ad := ⟨g6, 0, none⟩) hM.row hM.low hB rfl (fun j u hj => by
    cases j with
    | zero =>
      have : u = str t := by simpa [strsC] using hj.symm
      rw [this]
      exact hM.text
    | succ j => simp [strsC] at hj) (by rw [htl]; simp only [List.length_cons, List.length_nil]; omega)
  have q7' : Keeps noB wr W7 := hM.keeps.transNew q7 (fun i hi e => by have := hM.low i e; omega)
  have hrow5' : W7.ownsRow 0 9 1 (.slice (some ⟨g5, 0, none⟩) l.length c5) l.length (strsC l) := q7'.ownsRow hrow5 (fun _ _ _ => id)
  have hlc := slT_cap hrow5
  obtain ⟨v11, W11, hr11, hrow11, hlow11, q11, hd11⟩ := app_T (news := l.drop k) (m := l.length - k) (c := c5 - k) (ad := restA g5 c5 k) hrow7 hlow7 q7'.size (by rw [List.length_drop]) (fun j u hj => by
    have hj' : j < (l.drop k).length := by rw [← strsC_len]; exact (List.getElem?_eq_some_iff.1 hj).1
    rw [List.length_drop] at hj'
    have hck : c5 ≠ k := by omega
    have ha : (restA g5 c5 k).add j = ⟨g5, k + j, none⟩ := by unfold restA; rw [if_neg hck]; unfold Addr.add; split <;> simp_all
    rw [ha]
    obtain ⟨g, hg, hc⟩ := cells_of_strs hrow5' (j := k + j) (u := u) (by unfold strsC at hj ⊢; rw [List.getElem?_map, List.getElem?_drop] at hj; rw [List.getElem?_map]; exact hj)
    have hgg : g5 = g := congrArg Addr.block (Option.some.inj hg)
    subst hgg
    exact hc) (by rw [List.length_append, htl, List.length_drop]; simp only [List.length_cons, List.length_nil]; omega)
  have e : l.take k ++ [t] ++ l.drop k = insT t l := by rw [List.append_assoc]; exact insT_at hs hn k hp hqq
  rw [e] at hrow11
  refine ⟨v7, W7, v11, W11, hr7, hr11, ?_⟩
  have hpos : 0 < (insT t l).length := by rw [← e, List.length_append, List.length_append]; simp only [List.length_cons, List.length_nil]; omega
  obtain ⟨g, c, rfl, hg1, hg2, _⟩ := row_get ⟨hrow11, hlow11⟩ hpos
  have q11' : Keeps noB wr W11 := q7'.transNew q11 (fun i hi e => by have := hlow7 i e; omega)
  exact ⟨g, c, rfl, by have := hlow11 g rfl; omega, hrow11, hq5.trans q11'⟩

/-- The first append: some first texts of the list, to a row of none. -/
theorem first_T {wr W : World} {l : List (List UInt8)} {k g5 c5 g0 : Nat} (hrow5 : wr.ownsRow 0 9 1 (.slice (some ⟨g5, 0, none⟩) l.length c5) l.length (strsC l)) (hk : k ≤ l.length) (hl : l.length ≤ 10000)
    (hq : Keeps noB wr W) (hg : wr.heap.size ≤ g0) (hb : Blk W g0 #[] 9) :
    ∃ v4 W4, (Builtin.append_ #[22, 22] 22 #[.slice (some ⟨g0, 0, none⟩) 0 0, .slice (some ⟨g5, 0, none⟩) k c5]).run Tryz.prog W = .ok v4 W4 ∧ W4.ownsRow 0 9 1 v4 (l.take k).length (strsC (l.take k)) ∧
      (∀ g, v4.ownBlock = some g → wr.heap.size ≤ g) ∧ Keeps noB wr W4 ∧ Keeps (oneB g0) W W4 := by
  have hrow5' : W.ownsRow 0 9 1 (.slice (some ⟨g5, 0, none⟩) l.length c5) l.length (strsC l) := hq.ownsRow hrow5 (fun _ _ _ => id)
  have htl : (l.take k).length = k := by rw [List.length_take]; omega
  obtain ⟨v4, W4, hr, hrow, hlow, q, hd⟩ := app_T (B := wr.heap.size) (l := []) (news := l.take k) (m := k) (c := c5) (v := .slice (some ⟨g0, 0, none⟩) 0 0) (ad := ⟨g5, 0, none⟩) (W := W)
    ⟨rfl, .inr ⟨g0, 0, _, rfl, Nat.zero_le _, hb, Nat.le_refl _, Nat.zero_le _, rfl, rfl⟩⟩ (fun g e => Nat.le_trans hg (Nat.le_of_eq (by simpa [Value.ownBlock] using e))) hq.size htl.symm (fun j u hj => by
      have hj' : j < (l.take k).length := by rw [← strsC_len]; exact (List.getElem?_eq_some_iff.1 hj).1
      rw [htl] at hj'
      have ha : (⟨g5, 0, none⟩ : Addr).add j = ⟨g5, j, none⟩ := by unfold Addr.add; split <;> simp_all
      rw [ha]
      obtain ⟨g, hgg, hc⟩ := cells_of_strs hrow5' (j := j) (u := u) (by unfold strsC at hj ⊢; rw [List.getElem?_map, List.getElem?_take_of_lt hj'] at hj; rw [List.getElem?_map]; exact hj)
      have he : g5 = g := congrArg Addr.block (Option.some.inj hgg)
      subst he
      exact hc) (by rw [htl]; simp only [List.length_nil]; omega)
  rw [List.nil_append] at hrow
  have q' : Keeps (oneB g0) W W4 := q.mono (fun i e => Eq.symm (show g0 = i by simpa [Value.ownBlock] using e))
  exact ⟨v4, W4, hr, hrow, hlow, hq.transNew q' (fun i hi e => by have : i = g0 := e; omega), q'⟩

theorem mid_A {wr W4 : World} {l : List (List UInt8)} {k : Nat} {t : List UInt8} {v4 : Value} (hrow : W4.ownsRow 0 9 1 v4 (l.take k).length (strsC (l.take k))) (hlow : ∀ g, v4.ownBlock = some g → wr.heap.size ≤ g) (hq : Keeps noB wr W4) :
    Mid wr l k t v4 W4.heap.size (W4.alloc (.cells #[str t] 9)) :=
  ⟨hq.alloc _, ((Keeps.refl noB W4).alloc _).ownsRow hrow (fun _ _ _ => id), hlow, ((Blk.new _ _ _).cell 0).trans rfl⟩

theorem mid_B {wr W W4 : World} {l : List (List UInt8)} {k g0 g6 : Nat} {t : List UInt8} {v4 : Value} (hrow : W4.ownsRow 0 9 1 v4 (l.take k).length (strsC (l.take k))) (hlow : ∀ g, v4.ownBlock = some g → wr.heap.size ≤ g) (hq : Keeps noB wr W4) (q : Keeps (oneB g0) W W4) (hb : Blk W g6 #[str t] 9) (hne : g6 ≠ g0) :
    Mid wr l k t v4 g6 W4 :=
  ⟨hq, hrow, hlow, ((q.blk hb (fun e => hne e)).cell 0).trans rfl⟩

end Go.Proofs.YtkfcgamdlckncaaGreat

namespace Go.Proofs.YtkfcgamdlckncaaGreat
set_option linter.unusedVariables false
set_option linter.unusedSimpArgs false
open Go.RowKit

def TlOutAt (w : World) (cs : List (List UInt8)) (v3 vi : Value) (wr : World) : Prop :=
  ∃ i, i ≤ cs.length ∧ vi = .int .i64 i ∧ TlRow w (tailsL (cs.take i)) v3 wr
def TlMidAt (w : World) (c : List UInt8) (l0 : List (List UInt8)) (v3 vi : Value) (wr : World) : Prop :=
  ∃ k, k ≤ c.length / 2 ∧ vi = .int .i64 ((2 * k : Nat) : Int) ∧ TlRow w (tailsN c k l0) v3 wr
def TlPosAt (w : World) (l : List (List UInt8)) (t : List UInt8) (vi : Value) (wr : World) : Prop :=
  ∃ k, k ≤ l.length ∧ vi = .int .i64 k ∧ wr = w ∧ ∀ b ∈ l.drop k, ltT t b = true

theorem resTails (W : World) (v : Value) (tmps : Array Value) (h2 : tmps.getD 2 undef = v) : (results Tryz.f16 tmps).run Tryz.prog W = .ok v W := by
  have h2' : tmps[2]?.getD undef = v := by simpa using h2
  simp [results, Tryz.results16, go_sem, h2']

theorem takeL_len {cs : List (List UInt8)} (h : ∀ c ∈ cs, c.length ≤ 160) (h2 : cs.length ≤ 80) (i : Nat) : (tailsL (cs.take i)).length ≤ 6400 :=
  tailsL_len (fun c hc => h c (List.mem_of_mem_take hc)) (by rw [List.length_take]; omega)

def TailsEnds (w : World) (l : List (List UInt8)) (e : Ending) (w' : World) : Prop :=
  ∃ v, e = .returned v ∧ Row w' (fromB w.heap.size) 9 1 v l.length (strsC l) ∧ Keeps noB w w'

set_option maxRecDepth 100000 in
set_option maxHeartbeats 4000000 in
theorem stails_any (cs : List (List UInt8)) (hc1 : ∀ c ∈ cs, c.length ≤ 160 ∧ c.length % 2 = 0) (hc2 : cs.length ≤ 80) (w : World) (a : Option Addr) (cn : Nat) (hrow : w.ownsRow 0 9 1 (.slice a cs.length cn) cs.length (strsC cs)) :
    Calls Tryz.prog 16 #[.slice a cs.length cn] w (TailsEnds w (tailsL cs)) := by
  refine (callsIn_wide (n := 9)).1 ?_
  obtain ⟨F, hF⟩ : ∃ F, F = Fence.wide := ⟨_, rfl⟩
  have hFf : ∀ f, F.fn f := by subst hF; exact fun _ => trivial
  have hdd : ∀ k : Nat, (F.depth.isSome = true → 1 ≤ k) := by subst hF; intro k h; simp [Fence.wide] at h
  have hro : F.round = none := by subst hF; rfl
  have hds : F.depth.isSome = false := by subst hF; rfl
  have HC : Hid (∀ wr, Keeps noB w wr → ∀ j u, cs[j]? = some u → ∃ g, a = some ⟨g, 0, none⟩ ∧ wr.cell? ⟨g, j, none⟩ = some (.string ⟨u.toArray⟩)) := Lib.hid (fun wr q j u hj => cells_of_strs (q.ownsRow hrow (fun _ _ _ => id)) (by unfold strsC; rw [List.getElem?_map, hj]; rfl))
  have HLC := Lib.hid (And.intro hc1 hc2)
  obtain ⟨n, hn⟩ : ∃ n, n = cs.length := ⟨_, rfl⟩
  rw [← hn] at hrow hc2 ⊢
  have HN := Lib.hid hn
  have H0 : Hid (TlOutAt w cs (.slice (some ⟨w.heap.size, 0, none⟩) 0 0) (.int .i64 0) (w.alloc (.cells #[] 9))) := Lib.hid ⟨0, Nat.zero_le _, rfl, tl_empty (Keeps.refl _ _)⟩
  rw [← hF]
  have HF := Lib.hid hF
  clear hF hrow hn hc1
  refine callsIn_of_wp_marks Tryz.func16 rfl (hFf _) ?_ hro
  simp only [Tryz.ntmps16, List.size_toArray, List.length_cons, List.length_nil, Nat.reduceAdd, Nat.reduceSub, Array.replicate_succ, Array.replicate_zero, List.push_toArray, List.append_toArray, List.nil_append, List.cons_append]
  gi_wp2
  gi_loopw [3, 12] (fun v3 vi wr => TlOutAt w cs v3 vi wr) (fun _ vi _ => n + 1 - (intOf vi).toNat)
  case atStart => exact H0.out
  case round =>
    clear H0
    obtain ⟨i, hi, rfl, hT⟩ := hrel
    rw [← HN.out] at hi
    by_cases hin : i < n
    · obtain ⟨c, hc⟩ : ∃ c, cs[i]? = some c := ⟨_, List.getElem?_eq_getElem (by rw [← HN.out]; exact hin)⟩
      have hq : Keeps noB w wr := by obtain ⟨_, _, _, _, _, q⟩ := hT; exact q
      obtain ⟨gn, rfl, hcell⟩ := HC.out wr hq i c hc
      obtain ⟨hcl, hcp⟩ := HLC.out.1 c (List.mem_of_getElem? hc)
      have hl0 : (tailsL (cs.take i)).length + c.length / 2 ≤ 6480 := by
        have := takeL_len (fun c hc => (HLC.out.1 c hc).1) HLC.out.2 i
        omega
      have hsn : tailsN c (c.length / 2) (tailsL (cs.take i)) = tailsL (cs.take (i + 1)) := by
        rw [List.take_add_one, hc]
        exact (tailsF_snoc _ c).symm
      have hs0 : SortedT (tailsL (cs.take i)) := tailsL_sorted _
      obtain ⟨l0, hl0e⟩ : ∃ l0, l0 = tailsL (cs.take i) := ⟨_, rfl⟩
      rw [← hl0e] at hT hl0 hsn hs0
      obtain ⟨C, hC⟩ : ∃ C : ByteArray, C = ⟨c.toArray⟩ := ⟨_, rfl⟩
      have hCd : C.data.toList = c := by rw [hC]
      have hCs : C.size = c.length := by rw [hC]; simp [ByteArray.size]
      rw [← hC] at hcell
      have HCU := Lib.hid (cutStr c C hCd)
      have HX := Lib.hid (And.intro hsn (And.intro hs0 (And.intro hl0 (And.intro hcp hcl))))
      have hCs2 : C.size ≤ 160 := by omega
      have HCS := Lib.hid hCs
      have H1 : Hid (∃ g k, u3 = .slice (some ⟨g, 0, none⟩) l0.length k) := by obtain ⟨g, k, h, _⟩ := hT; exact ⟨g, k, h⟩
      have HM0 : Hid (TlMidAt w c l0 u3 (.int .i64 0) wr) := Lib.hid ⟨0, Nat.zero_le _, rfl, hT⟩
      clear hT hl0e hC hCd hCs hc hq hsn hs0 hl0 hcp hcl
      have hi0 : (0 : Int) ≤ (i : Int) := by omega
      have hi1 : (i : Int) < (n : Int) := by omega
      gi_wp2
      gi_loopw [3, 6] (fun v3 vi wr => TlMidAt w c l0 v3 vi wr) (fun _ vi _ => C.size + 1 - (intOf vi).toNat)
      case atStart => exact HM0.out
      case round =>
        clear HM0 hcell H1
        obtain ⟨k, hk, rfl, hT⟩ := hrel
        by_cases hkn : k < c.length / 2
        · obtain ⟨g5, c5, rfl, hg5, hrow5, q5⟩ := hT
          have hsl : SortedT (tailsN c k l0) := tailsN_sorted c k l0 HX.out.2.1
          have hLl : (tailsN c k l0).length ≤ 6480 := by have := tailsN_len c k l0; have := HX.out.2.2.1; omega
          have hnx : tailsN c (k + 1) l0 = insT (c.drop (2 * k)) (tailsN c k l0) := rfl
          obtain ⟨l, hl⟩ : ∃ l, l = tailsN c k l0 := ⟨_, rfl⟩
          obtain ⟨t, ht⟩ : ∃ t, t = c.drop (2 * k) := ⟨_, rfl⟩
          obtain ⟨J, hJ⟩ : ∃ J, J = 2 * k := ⟨_, rfl⟩
          have hcut := HCU.out (2 * k) (by omega)
          have hCl := HCS.out
          have htl : t.length + J = C.size := by rw [ht, hJ, List.length_drop, hCl]; omega
          have hJl : J < C.size := by omega
          rw [← hl] at hrow5 hsl hLl hnx ⊢
          rw [← ht] at hnx hcut
          rw [← hJ] at hcut ⊢
          obtain ⟨TB, hTB⟩ : ∃ TB : ByteArray, TB = ⟨t.toArray⟩ := ⟨_, rfl⟩
          have hTBd : TB.data.toList = t := by rw [hTB]
          have hTBs : TB.size = t.length := by rw [hTB]; simp [ByteArray.size]
          rw [← hTB] at hcut
          have hix := sindex_any l t wr (some ⟨g5, 0, none⟩) c5 hrow5 (by omega)
          unfold str at hix
          rw [← hTB] at hix
          have HIX : Hid (∀ n', CallsIn F n' Tryz.prog 23 #[.slice (some ⟨g5, 0, none⟩) l.length c5, .string TB] wr (fun e w' => e = .returned (.int .i64 (idxT l t)) ∧ w' = wr)) := Lib.hid (fun n' => by rw [HF.out]; exact callsIn_wide.2 hix)
          have HRW := Lib.hid (And.intro hg5 (And.intro hrow5 q5))
          have HS5 := Lib.hid (And.intro hsl (And.intro hLl (And.intro hnx hJ)))
          have HTB := Lib.hid (And.intro hTBd (And.intro hTB hTBs))
          have HEN : Hid (∀ v wz, TlRow w (insT t l) v wz → TlMidAt w c l0 v (.int .i64 ((J : Int) + 2)) wz) := Lib.hid (fun v wz h => ⟨k + 1, hkn, by rw [HS5.out.2.2.2]; exact congrArg (Value.int .i64) (by omega), by rw [hnx]; exact h⟩)
          have hJ0 : (0 : Int) ≤ (J : Int) := by omega
          have hJ1 : (J : Int) < (C.size : Int) := by omega
          have hJ2 : (J : Int) ≤ 160 := by omega
          have HJT : Hid (t.length + J = C.size ∧ J < C.size) := Lib.hid ⟨htl, hJl⟩
          clear hix hrow5 q5 hsl hLl hnx hl ht hJ htl hTBd hTB hTBs hkn hk hg5 hCl
          by_cases hm : t ∈ l
          · have hidx : ∃ ix : Nat, idxT l t = (ix : Int) := by unfold idxT; rw [if_pos hm]; exact ⟨_, rfl⟩
            obtain ⟨ix, hix⟩ := hidx
            rw [hix] at HIX
            have hix0 : (0 : Int) ≤ (ix : Int) := by omega
            have HE : Hid (TlMidAt w c l0 (.slice (some ⟨g5, 0, none⟩) l.length c5) (.int .i64 ((J : Int) + 2)) wr) := Lib.hid (HEN.out _ _ (by
              have e : insT t l = l := by unfold insT; rw [if_pos hm]
              rw [e]
              exact ⟨g5, c5, rfl, HRW.out.1, HRW.out.2.1, HRW.out.2.2⟩))
            clear hix hm HEN
            gi_wp2
            refine (HIX.out _).mono ?_
            rintro e w' ⟨rfl, rfl⟩
            gi_wp2
            refine ⟨HE.out, ?_⟩
            simp [intOf]
            omega
          · have hidx : idxT l t = -1 := by unfold idxT; rw [if_neg hm]
            rw [hidx] at HIX
            clear hidx
            gi_wp2
            refine (HIX.out _).mono ?_
            rintro e w' ⟨rfl, hww⟩
            have hww2 := hww.symm
            subst hww2
            clear hww
            gi_wp2
            rename_i K4 hK4
            have HT : Hid (∀ (p : Nat) (u31 u32 u33 u34 u35 u36 u37 u38 u39 u40 u41 u42 u43 u44 u45 u46 u47 u48 u49 u50 u51 u52 u53 u54 u55 u56 u57 u58 u59 u60 u61 u62 u63 u64 u65 : Value) (pv : Value), pv = .int .i64 (p : Int) → p ≤ l.length → (∀ a ∈ l.take p, ltT a t = true) → (∀ b ∈ l.drop p, ltT t b = true) → K4 ⟨#[.slice (some ⟨gn, 0, none⟩) n cn, undef, .slice none 0 0, .slice (some ⟨g5, 0, none⟩) l.length c5, undef, .string C, .int .i64 (J : Int), .string TB, pv, .slice (some ⟨w.heap.size, 0, none⟩) 0 0, .slice (some ⟨gn, 0, none⟩) n cn, .int .i64 (n : Int), .int .i64 (i : Int), .bool true, .pointer (some ⟨gn, i, none⟩), .string C, .int .i64 (J : Int), .string C, .int .i64 (C.size : Int), .bool true, u20, u21, .string C, .int .i64 (J : Int), .string TB, .slice (some ⟨g5, 0, none⟩) l.length c5, .string TB, .int .i64 (-1), .bool false, .slice (some ⟨g5, 0, none⟩) l.length c5, .int .i64 (l.length : Int), u31, u32, u33, u34, u35, u36, u37, u38, u39, u40, u41, u42, u43, u44, u45, u46, u47, u48, u49, u50, u51, u52, u53, u54, u55, u56, u57, u58, u59, u60, u61, u62, u63, u64, u65, u66, u67, u68, u69, u70, u71, u72, u73, u74, u75, u76, u77, u78, undef], []⟩ wr) := Lib.hid (by
              intro p u31 u32 u33 u34 u35 u36 u37 u38 u39 u40 u41 u42 u43 u44 u45 u46 u47 u48 u49 u50 u51 u52 u53 u54 u55 u56 u57 u58 u59 u60 u61 u62 u63 u64 u65 pv hpv hp hpa hpb
              subst hpv
              have HFN : Hid (∀ {v4 : Value} {g6 : Nat} {W : World}, Mid wr l p t v4 g6 W → ∃ v7 W7 v11 W11, (Builtin.append_ #[22, 22] 22 #[v4, .slice (some ⟨g6, 0, none⟩) 1 1]).run Tryz.prog W = .ok v7 W7 ∧
                (Builtin.append_ #[22, 22] 22 #[v7, .slice (some (restA g5 c5 p)) (l.length - p) (c5 - p)]).run Tryz.prog W7 = .ok v11 W11 ∧ TlRow w (insT t l) v11 W11) := Lib.hid (fun hM => fin_T HRW.out.1 HRW.out.2.1 HRW.out.2.2 hp (by have := HS5.out.2.1; omega) HS5.out.1 hm hpa hpb hM)
              have hlc := slT_cap HRW.out.2.1
              have HCH := Lib.hid (cutH g5 l.length c5 p (by omega))
              have HCL := Lib.hid (cutL g5 l.length c5 p hp hlc)
              have hp0 : (0 : Int) ≤ (p : Int) := by omega
              have hp1 : (p : Int) ≤ (l.length : Int) := by omega
              have hp2 : (l.length : Int) ≤ 6480 := by have := HS5.out.2.1; omega
              clear hpa hpb hlc
              refine hK4 _ _ ?_
              clear hK4 K4
              refine wpIn_region_ord (fun _ => True) (.read 1 (.read 2 (.read 3 (.read 5 (.read 8 (.read 9 (.read 10 (.fork 0 (.fork 4 (.loud 6 (.loud 7 (.loud 11 (.read 12 .fin)))) 6 (.loud 4 (.loud 7 (.loud 11 (.read 12 .fin))))) 6 (.loud 0 (.loud 4 (.loud 7 (.loud 11 (.read 12 .fin))))))))))))) hro hFf (by kernel_rfl) (by kernel_rfl) rfl (by kernel_rfl) trivial ?_
              refine ord_read (.slice (some ⟨g5, 0, none⟩) l.length c5) rfl rfl (fun W4 q4 => by go_simp) (fun K hK => ?_)
              go_simp
              refine hK _ ?_
              clear hK K
              refine ord_read (.int .i64 (p : Int)) rfl rfl (fun W4 q4 => by go_simp) (fun K hK => ?_)
              go_simp
              refine hK _ ?_
              clear hK K
              refine ord_read (.slice (some ⟨g5, 0, none⟩) p c5) rfl rfl (fun W4 q4 => by have f0 := HCH.out W4; go_simp) (fun K hK => ?_)
              go_simp
              refine hK _ ?_
              clear hK K
              refine ord_read (.string TB) rfl rfl (fun W4 q4 => by go_simp) (fun K hK => ?_)
              go_simp
              refine hK _ ?_
              clear hK K
              refine ord_read (.slice (some ⟨g5, 0, none⟩) l.length c5) rfl rfl (fun W4 q4 => by go_simp) (fun K hK => ?_)
              go_simp
              refine hK _ ?_
              clear hK K
              refine ord_read (.int .i64 (p : Int)) rfl rfl (fun W4 q4 => by go_simp) (fun K hK => ?_)
              go_simp
              refine hK _ ?_
              clear hK K
              refine ord_read (.slice (some (restA g5 c5 p)) (l.length - p) (c5 - p)) rfl rfl (fun W4 q4 => by have f0 := HCL.out W4; go_simp) (fun K hK => ?_)
              go_simp
              refine hK _ ?_
              clear hK K
              refine ord_fork ?_ ?_
              · refine ord_loud rfl (fun K hK => ?_)
                gi_wp2
                refine hK _ _ trivial ?_
                clear hK K
                refine ord_fork ?_ ?_
                · obtain ⟨v4, W4, hr4, hrow4, hlow4, q4, qb4⟩ := first_T (W := wr.drew.alloc (.cells #[] 9)) (g0 := wr.heap.size) HRW.out.2.1 hp (by have := HS5.out.2.1; omega) (((Keeps.refl noB wr).drew).alloc _) (Nat.le_refl _) (Blk.new _ _ _)
                  have HM4 := Lib.hid (And.intro hrow4 (And.intro hlow4 (And.intro q4 qb4)))
                  clear hrow4 hlow4 q4 qb4
                  refine ord_loud rfl (fun K hK => ?_)
                  refine wpListIn_append_run _ rfl (.tmp 66) (.tmp 69) _ _ rfl _ _ rfl rfl _ _ hr4 ?_
                  gi_wp2
                  refine hK _ _ trivial ?_
                  clear hK K
                  refine ord_loud rfl (fun K hK => ?_)
                  gi_wp2
                  refine hK _ _ trivial ?_
                  clear hK K
                  have hmid := mid_A (t := t) HM4.out.1 HM4.out.2.1 HM4.out.2.2.1
                  unfold str at hmid
                  rw [← HTB.out.2.1] at hmid
                  obtain ⟨v7, W7, v11, W11, hr7, hr11, hend⟩ := HFN.out hmid
                  obtain ⟨g11, c11, rfl⟩ : ∃ g c, v11 = .slice (some ⟨g, 0, none⟩) (insT t l).length c := by obtain ⟨g, c, h, _⟩ := hend; exact ⟨g, c, h⟩
                  have HE := Lib.hid (HEN.out _ _ hend)
                  clear hend hmid
                  refine ord_loud rfl (fun K hK => ?_)
                  refine wpListIn_append_run _ rfl (.tmp 70) (.tmp 72) _ _ rfl _ _ rfl rfl _ _ hr7 ?_
                  gi_wp2
                  refine hK _ _ trivial ?_
                  clear hK K
                  refine ord_loud rfl (fun K hK => ?_)
                  refine wpListIn_append_run _ rfl (.tmp 73) (.tmp 76) _ _ rfl _ _ rfl rfl _ _ hr11 ?_
                  gi_wp2
                  refine hK _ _ trivial ?_
                  clear hK K
                  refine ord_read (.slice (some ⟨g11, 0, none⟩) (insT t l).length c11) rfl rfl (fun W4 q4 => by go_simp) (fun K hK => ?_)
                  go_simp
                  refine hK _ ?_
                  clear hK K
                  simp only [wpOrd, noPanic]
                  clear hr7 hr11
                  gi_wp2
                  refine ⟨HE.out, ?_⟩
                  simp [intOf]
                  omega
                · refine ord_loud rfl (fun K hK => ?_)
                  gi_wp2
                  refine hK _ _ trivial ?_
                  clear hK K
                  obtain ⟨v4, W4, hr4, hrow4, hlow4, q4, qb4⟩ := first_T (W := (wr.drew.alloc (.cells #[] 9)).alloc (.cells #[.string TB] 9)) (g0 := wr.heap.size) HRW.out.2.1 hp (by have := HS5.out.2.1; omega) ((((Keeps.refl noB wr).drew).alloc _).alloc _) (Nat.le_refl _) ((Blk.new _ _ _).alloc _)
                  have HM4 := Lib.hid (And.intro hrow4 (And.intro hlow4 (And.intro q4 qb4)))
                  clear hrow4 hlow4 q4 qb4
                  refine ord_loud rfl (fun K hK => ?_)
                  refine wpListIn_append_run _ rfl (.tmp 66) (.tmp 69) _ _ rfl _ _ rfl rfl _ _ hr4 ?_
                  gi_wp2
                  refine hK _ _ trivial ?_
                  clear hK K
                  have hmid := mid_B HM4.out.1 HM4.out.2.1 HM4.out.2.2.1 HM4.out.2.2.2 (g6 := wr.heap.size + 1) (t := t) (by unfold str; rw [← HTB.out.2.1]; have hbn := Blk.new (wr.drew.alloc (.cells #[] 9)) #[.string TB] 9; rw [World.size_alloc] at hbn; exact hbn) (by show wr.heap.size + 1 ≠ wr.heap.size; omega)
                  obtain ⟨v7, W7, v11, W11, hr7, hr11, hend⟩ := HFN.out hmid
                  obtain ⟨g11, c11, rfl⟩ : ∃ g c, v11 = .slice (some ⟨g, 0, none⟩) (insT t l).length c := by obtain ⟨g, c, h, _⟩ := hend; exact ⟨g, c, h⟩
                  have HE := Lib.hid (HEN.out _ _ hend)
                  clear hend hmid
                  refine ord_loud rfl (fun K hK => ?_)
                  refine wpListIn_append_run _ rfl (.tmp 70) (.tmp 72) _ _ rfl _ _ rfl rfl _ _ hr7 ?_
                  gi_wp2
                  refine hK _ _ trivial ?_
                  clear hK K
                  refine ord_loud rfl (fun K hK => ?_)
                  refine wpListIn_append_run _ rfl (.tmp 73) (.tmp 76) _ _ rfl _ _ rfl rfl _ _ hr11 ?_
                  gi_wp2
                  refine hK _ _ trivial ?_
                  clear hK K
                  refine ord_read (.slice (some ⟨g11, 0, none⟩) (insT t l).length c11) rfl rfl (fun W4 q4 => by go_simp) (fun K hK => ?_)
                  go_simp
                  refine hK _ ?_
                  clear hK K
                  simp only [wpOrd, noPanic]
                  clear hr7 hr11
                  gi_wp2
                  refine ⟨HE.out, ?_⟩
                  simp [intOf]
                  omega
              · refine ord_loud rfl (fun K hK => ?_)
                gi_wp2
                refine hK _ _ trivial ?_
                clear hK K
                refine ord_loud rfl (fun K hK => ?_)
                gi_wp2
                refine hK _ _ trivial ?_
                clear hK K
                obtain ⟨v4, W4, hr4, hrow4, hlow4, q4, qb4⟩ := first_T (W := (wr.drew.alloc (.cells #[.string TB] 9)).alloc (.cells #[] 9)) (g0 := wr.heap.size + 1) HRW.out.2.1 hp (by have := HS5.out.2.1; omega) ((((Keeps.refl noB wr).drew).alloc _).alloc _) (Nat.le_succ _) (by have hbn := Blk.new (wr.drew.alloc (.cells #[.string TB] 9)) #[] 9; rw [World.size_alloc] at hbn; exact hbn)
                have HM4 := Lib.hid (And.intro hrow4 (And.intro hlow4 (And.intro q4 qb4)))
                clear hrow4 hlow4 q4 qb4
                refine ord_loud rfl (fun K hK => ?_)
                refine wpListIn_append_run _ rfl (.tmp 66) (.tmp 69) _ _ rfl _ _ rfl rfl _ _ hr4 ?_
                gi_wp2
                refine hK _ _ trivial ?_
                clear hK K
                have hmid := mid_B HM4.out.1 HM4.out.2.1 HM4.out.2.2.1 HM4.out.2.2.2 (g6 := wr.heap.size) (t := t) (by unfold str; rw [← HTB.out.2.1]; exact (Blk.new wr.drew #[.string TB] 9).alloc _) (by omega)
                obtain ⟨v7, W7, v11, W11, hr7, hr11, hend⟩ := HFN.out hmid
                obtain ⟨g11, c11, rfl⟩ : ∃ g c, v11 = .slice (some ⟨g, 0, none⟩) (insT t l).length c := by obtain ⟨g, c, h, _⟩ := hend; exact ⟨g, c, h⟩
                have HE := Lib.hid (HEN.out _ _ hend)
                clear hend hmid
                refine ord_loud rfl (fun K hK => ?_)
                refine wpListIn_append_run _ rfl (.tmp 70) (.tmp 72) _ _ rfl _ _ rfl rfl _ _ hr7 ?_
                gi_wp2
                refine hK _ _ trivial ?_
                clear hK K
                refine ord_loud rfl (fun K hK => ?_)
                refine wpListIn_append_run _ rfl (.tmp 73) (.tmp 76) _ _ rfl _ _ rfl rfl _ _ hr11 ?_
                gi_wp2
                refine hK _ _ trivial ?_
                clear hK K
                refine ord_read (.slice (some ⟨g11, 0, none⟩) (insT t l).length c11) rfl rfl (fun W4 q4 => by go_simp) (fun K hK => ?_)
                go_simp
                refine hK _ ?_
                clear hK K
                simp only [wpOrd, noPanic]
                clear hr7 hr11
                gi_wp2
                refine ⟨HE.out, ?_⟩
                simp [intOf]
                omega)
            clear hK4 HEN
            have HP0 : Hid (TlPosAt wr l t (.int .i64 (l.length : Int)) wr) := Lib.hid ⟨l.length, Nat.le_refl _, rfl, rfl, fun b hb => by rw [List.drop_length] at hb; cases hb⟩
            have HC5 : Hid (∀ j u, l[j]? = some u → wr.cell? ⟨g5, j, none⟩ = some (.string ⟨u.toArray⟩)) := Lib.hid (fun j u hj => by
              obtain ⟨g, hgg, hc⟩ := cells_of_strs HRW.out.2.1 (j := j) (u := str u) (by unfold strsC; rw [List.getElem?_map, hj]; rfl)
              have he : g5 = g := congrArg Addr.block (Option.some.inj hgg)
              subst he
              exact hc)
            have hLi : (l.length : Int) ≤ 6480 := by have := HS5.out.2.1; omega
            gi_loopw [8] (fun v8 wx => TlPosAt wr l t v8 wx) (fun v8 _ => (intOf v8).toNat)
            case atStart => exact HP0.out
            case round =>
              clear HP0
              obtain ⟨p, hp, rfl, rfl, hq⟩ := hrel
              cases p with
              | zero =>
                have HQ0 := Lib.hid hq
                clear hq hm HC5
                have e0 : ((0 : Nat) : Int) = 0 := rfl
                rw [e0]
                clear e0
                have hz : ¬ (0 : Int) < 0 := by omega
                gi_wp2
                all_goals first
                  | exact HT.out 0 _ _ _ _ _ _ _ _ _ _ _ _ _ _ _ _ _ _ _ _ _ _ _ _ _ _ _ _ _ _ _ _ _ _ _ _ rfl (Nat.zero_le _) (fun a ha => by simp at ha) HQ0.out
                  | (rename_i hx hy; injection hx with hx; cases hx)
              | succ p =>
                obtain ⟨u, hu⟩ : ∃ u, l[p]? = some u := ⟨_, List.getElem?_eq_getElem (by omega)⟩
                have hcell := HC5.out p u hu
                obtain ⟨UB, hUB⟩ : ∃ UB : ByteArray, UB = ⟨u.toArray⟩ := ⟨_, rfl⟩
                rw [← hUB] at hcell
                have hUs : UB.size = u.length := by rw [hUB]; simp [ByteArray.size]
                have hTs : TB.size = t.length := HTB.out.2.2
                have hUl : UB.toList = u := by rw [Go.ByteArray.toList_eq, hUB]
                have hTl : TB.toList = t := by rw [Go.ByteArray.toList_eq]; exact HTB.out.1
                have hun : u ≠ t := fun e => hm (by rw [← e]; exact List.mem_of_getElem? hu)
                have he : (UB.toList == TB.toList) = false := by rw [hUl, hTl, beq_eq_false_iff_ne]; exact hun
                have hb : Op.bytesLess UB.toList TB.toList = decide (u < t) := by rw [hUl, hTl, bytesLess_eq]
                have HNX : Hid (ltT t u = true → TlPosAt wr l t (.int .i64 (p : Int)) wr) := fun h => ⟨p, by omega, rfl, rfl, pos_step hu hq h⟩
                have HST : Hid (ltT t u = false → ∀ a ∈ l.take (p + 1), ltT a t = true) := fun h => pos_stop HS5.out.1 hm hu h
                have HQ0 := Lib.hid (And.intro hp hq)
                have e1 : ((p + 1 : Nat) : Int) = (p : Int) + 1 := by omega
                rw [e1]
                have E1 := Lib.hid e1
                have hp0 : (0 : Int) ≤ (p : Int) := by omega
                have hp1 : (p : Int) < (l.length : Int) := by omega
                have hp2 : p < l.length := by omega
                have hp3 : (0 : Int) < (p : Int) + 1 := by omega
                clear hu hUB hUl hTl hq hp e1
                rcases Nat.lt_trichotomy UB.size TB.size with hA | hA | hA
                · have HF2 : Hid (ltT t u = false) := Lib.hid (by
                    cases e : ltT t u with
                    | false => rfl
                    | true => have := ltT_iff.1 e; omega)
                  have hA1 : ¬ (TB.size : Int) < (UB.size : Int) := by omega
                  have hA2 : ¬ (UB.size : Int) = (TB.size : Int) := by omega
                  clear HC5 HNX hm hun hb he hUs hTs
                  gi_wp2
                  exact HT.out (p + 1) _ _ _ _ _ _ _ _ _ _ _ _ _ _ _ _ _ _ _ _ _ _ _ _ _ _ _ _ _ _ _ _ _ _ _ _ (by rw [E1.out]) HQ0.out.1 (HST.out HF2.out) HQ0.out.2
                · have hA1 : ¬ (TB.size : Int) < (UB.size : Int) := by omega
                  have hA2 : (UB.size : Int) = (TB.size : Int) := by omega
                  by_cases hlt : t < u
                  · have HF2 : Hid (TlPosAt wr l t (.int .i64 (p : Int)) wr) := Lib.hid (HNX.out (ltT_iff.2 (.inr ⟨by omega, hlt⟩)))
                    have hb2 : Op.bytesLess UB.toList TB.toList = false := by rw [hb]; simp; exact List.le_of_lt hlt
                    clear HC5 HNX HST hm hun hb hlt hUs hTs
                    gi_wp2
                    refine ⟨HF2.out, ?_⟩
                    simp [intOf]
                    try omega
                  · have HF2 : Hid (ltT t u = false) := Lib.hid (by
                      cases e : ltT t u with
                      | false => rfl
                      | true => have := ltT_iff.1 e; rcases this with h | h; omega; exact absurd h.2 hlt)
                    have hut : u < t := by
                      rcases Classical.em (u < t) with h | h
                      · exact h
                      · exact absurd (bl_tri h hlt) hun
                    have hb2 : Op.bytesLess UB.toList TB.toList = true := by rw [hb]; simp [hut]
                    clear HC5 HNX hm hun hb hlt hUs hTs hut
                    gi_wp2
                    exact HT.out (p + 1) _ _ _ _ _ _ _ _ _ _ _ _ _ _ _ _ _ _ _ _ _ _ _ _ _ _ _ _ _ _ _ _ _ _ _ _ (by rw [E1.out]) HQ0.out.1 (HST.out HF2.out) HQ0.out.2
                · have HF2 : Hid (TlPosAt wr l t (.int .i64 (p : Int)) wr) := Lib.hid (HNX.out (ltT_iff.2 (.inl (by omega))))
                  have hA1 : (TB.size : Int) < (UB.size : Int) := by omega
                  clear HC5 HNX HST hm hun hb he hUs hTs
                  gi_wp2
                  refine ⟨HF2.out, ?_⟩
                  simp [intOf]
                  try omega
        · obtain ⟨g5, c5, rfl, hg5, hrow5, q5⟩ := hT
          have hke : k = c.length / 2 := by omega
          have hJn : ¬ ((2 * k : Nat) : Int) < (C.size : Int) := by have := HCS.out; have := HX.out.2.2.2.1; omega
          have HE : Hid (TlOutAt w cs (.slice (some ⟨g5, 0, none⟩) (tailsN c k l0).length c5) (.int .i64 ((i : Int) + 1)) wr) := Lib.hid ⟨i + 1, by rw [← HN.out]; exact hin, rfl, by
            rw [← HX.out.1, ← hke]
            exact ⟨g5, c5, rfl, hg5, hrow5, q5⟩⟩
          obtain ⟨J, hJ⟩ : ∃ J, J = 2 * k := ⟨_, rfl⟩
          obtain ⟨LL, hLL⟩ : ∃ LL, LL = (tailsN c k l0).length := ⟨_, rfl⟩
          rw [← hJ] at hJn ⊢
          rw [← hLL] at HE ⊢
          clear hke hJ hLL hrow5 q5 hg5 hkn hk
          gi_wp2
          refine ⟨HE.out, ?_⟩
          simp [intOf]
          omega
    · have hie : i = n := by omega
      obtain ⟨g5, c5, rfl, hg5, hrow5, q5⟩ := hT
      have hin2 : ¬ (i : Int) < (n : Int) := by omega
      have HE : Hid (∀ W2, Keeps (fun k => k ∈ ([] : List Nat)) wr W2 → TailsEnds w (tailsL cs) (.returned (.slice (some ⟨g5, 0, none⟩) (tailsL (cs.take i)).length c5)) W2) := Lib.hid (fun W2 q2 => by
        have e : cs.take i = cs := List.take_of_length_le (by rw [← HN.out]; omega)
        rw [e] at hrow5 ⊢
        have q3 : Keeps noB wr W2 := q2.mono (fun _ e => by cases e)
        exact ⟨_, rfl, ⟨q3.ownsRow hrow5 (fun _ _ _ => id), fun g hg => Nat.le_trans hg5 (Nat.le_of_eq (by simpa [Value.ownBlock] using hg))⟩, q5.trans q3⟩)
      obtain ⟨LL, hLL⟩ : ∃ LL, LL = (tailsL (cs.take i)).length := ⟨_, rfl⟩
      rw [← hLL] at HE ⊢
      clear hLL hrow5 q5 hg5 hie hin hi
      gi_wp2
      refine leaves_marks [] _ List.nodup_nil (fun _ h => by cases h) (fun W' q _ => ?_)
      exact ⟨_, resTails W' (.slice (some ⟨g5, 0, none⟩) LL c5) _ rfl, HE.out W' q⟩

end Go.Proofs.YtkfcgamdlckncaaGreat

/-
  The program's free list: where it lies; Push and Pop of its heap.
-/
import Derived.Test.YthgocacabadflaaDoorUg
import Derived.Test.YthgocacabadflaaDoorQg
import Derived.Test.YthgocacabadflaaDoorUd
namespace Go.Proofs.YthgocacabadflaaDoor
set_option linter.unusedVariables false
set_option linter.unusedSimpArgs false
open Go.RowKit

/-- The free list in block F: cells that were left, the next one. Its blocks are own. -/
structure FreeAt (W : World) (F : Nat) (own : Nat → Prop) (L : List Nat) (nx : Nat) (v : Value) : Prop where
  blk : Blk W F #[v, .int .i64 (nx : Int)] 56
  row : NRow W v L
  ownF : own F
  ownR : ∀ g, v.ownBlock = some g → own g ∧ g ≠ F
theorem FreeAt.keeps {W W' : World} {F : Nat} {own may : Nat → Prop} {L : List Nat} {nx : Nat} {v : Value} (h : FreeAt W F own L nx v) (q : Keeps may W W') (hm : ∀ k, own k → ¬ may k) : FreeAt W' F own L nx v :=
  ⟨q.blk h.blk (hm _ h.ownF), h.row.keeps q (fun g hg => hm g (h.ownR g hg).1), h.ownF, h.ownR⟩
/-- Of the row alone the numbers turn. -/
theorem FreeAt.turn {W W' : World} {F : Nat} {own : Nat → Prop} {L L' : List Nat} {nx : Nat} {v : Value} (h : FreeAt W F own L nx v) (hr : NRow W' v L') (q : Keeps (fun g => v.ownBlock = some g) W W') : FreeAt W' F own L' nx v :=
  ⟨q.blk h.blk (fun e => (h.ownR F e).2 rfl), hr, h.ownF, h.ownR⟩

theorem FreeAt.grown {W W2 w4 : World} {F : Nat} {own : Nat → Prop} {L : List Nat} {nx x n : Nat} {a : Option Addr} {c : Nat} {LV : List Value} {v' : Value} (h : FreeAt W F own L nx (.slice a n c)) (hlt : ∀ k, own k → k < W.heap.size) (q : Keeps noB W W2) (hn : n = L.length) (hl : LV = L.map i64)
    (hown : w4.ownsRow 0 3 1 v' (n + 1) (LV ++ [.int .i64 (x : Int)])) (hg : W2.grownBy w4 (Value.slice a n c).ownBlock) (hf : Fresh W2 (.slice a n c) v') :
    Blk w4 F #[.slice a n c, .int .i64 (nx : Int)] 56 ∧ Owns own (fun k => own k ∨ v'.ownBlock = some k) W (w4.setCell ⟨F, 0, none⟩ v') ∧ FreeAt (w4.setCell ⟨F, 0, none⟩ v') F (fun k => own k ∨ v'.ownBlock = some k) (L ++ [x]) nx v' := by
  have qa : Keeps (fun g => (Value.slice a n c).ownBlock = some g) W w4 := (q.mono (fun _ e => e.elim)).grown hg (fun g hg => .inl hg)
  have b4 := qa.blk h.blk (fun e => (h.ownR F e).2 rfl)
  have hF := hlt F h.ownF
  have hs := q.size
  have hnew : ∀ g, v'.ownBlock = some g → (Value.slice a n c).ownBlock = some g ∨ W.heap.size ≤ g := fun g hg => by
    rcases hf with h1 | h1
    · exact .inl (h1 ▸ hg)
    · exact .inr (Nat.le_trans hs (h1 g hg))
  have hne : ∀ g, v'.ownBlock = some g → g ≠ F := fun g hg e => by
    rcases hnew g hg with h1 | h1
    · exact (h.ownR g h1).2 e
    · omega
  have qs : Keeps (fun k => k = F) w4 (w4.setCell ⟨F, 0, none⟩ v') := (Keeps.refl (fun k => k = F) w4).setCell (p := ⟨F, 0, none⟩) (.inl rfl) _
  refine ⟨b4, ⟨fun k hk => ?_, fun k hk => ?_, ?_⟩, b4.set 0 v', (NRow.app hn hl hown).keeps qs (fun g hg e => hne g hg e), .inl h.ownF, fun g hg => ⟨.inr hg, hne g hg⟩⟩
  · rcases hk with hk | hk
    · exact .inl hk
    · rcases hnew k hk with h1 | h1
      · exact .inl (h.ownR k h1).1
      · exact .inr h1
  · rcases hk with hk | hk
    · exact Nat.lt_of_lt_of_le (hlt k hk) (Nat.le_trans qa.size qs.size)
    · exact Nat.lt_of_lt_of_le (hown.lt k hk).2 qs.size
  · exact (qa.mono (fun g hg => (h.ownR g hg).1)).trans (qs.mono (fun k e => e ▸ h.ownF))

set_option maxRecDepth 100000 in
set_option maxHeartbeats 8000000 in
theorem pushL_any (W : World) (F : Nat) (own : Nat → Prop) (L : List Nat) (nx : Nat) (v : Value) (h : FreeAt W F own L nx v) (hlt : ∀ k, own k → k < W.heap.size) (hl : L.length ≤ 1000) (x : Nat) :
    Calls Tryd.prog 167 #[.pointer (some ⟨F, 0, none⟩), .iface 3 (.int .i64 (x : Int))] W fun e w' =>
      e = .returned (.tuple #[]) ∧ ∃ v' own', Owns own own' W w' ∧ FreeAt w' F own' (L ++ [x]) nx v' := by
  obtain ⟨i0, hi, hz0, hz1, hz2⟩ := info_parts Tryd.infoI3
  obtain ⟨a, c, rfl⟩ := h.row.shape
  obtain ⟨n, hn⟩ : ∃ n, n = L.length := ⟨_, rfl⟩
  obtain ⟨LV, hLV⟩ : ∃ LV, LV = L.map i64 := ⟨_, rfl⟩
  rw [← hn] at h hl
  have HOW : Hid (∀ W', Keeps noB W W' → W'.ownsRow 0 3 1 (.slice a n c) n LV) := Lib.hid (fun W' q => by rw [hn, hLV]; have h := h.row.keeps q (fun _ _ e => e); rw [hn] at h; exact h)
  have r0 := h.blk.cell 0
  simp at r0
  have HFIN : Hid (∀ W2, Keeps noB W W2 → ∀ v' w4, w4.ownsRow 0 3 1 v' (n + 1) (LV ++ [.int .i64 (x : Int)]) → W2.grownBy w4 (Value.slice a n c).ownBlock → Fresh W2 (.slice a n c) v' → (w4.cell? ⟨F, 0, none⟩ = some (.slice a n c) ∧ w4.frozen? ⟨F, 0, none⟩ = false) ∧ ∃ v'' own', Owns own own' W (w4.setCell ⟨F, 0, none⟩ v') ∧ FreeAt (w4.setCell ⟨F, 0, none⟩ v') F own' (L ++ [x]) nx v'') := Lib.hid (fun W2 q v' w4 h1 h2 h3 => by
    obtain ⟨b, o, f⟩ := h.grown hlt q hn hLV h1 h2 h3
    exact ⟨⟨(b.cell 0).trans rfl, b.free 0⟩, v', _, o, f⟩)
  have hF : F < W.heap.size := h.blk.lt
  have hta : ∀ (y : Int) (W' : World), (Instr.typeAssert (.iface 3 (.int .i64 y)) 20 3 false).run Tryd.prog W' = .ok (.int .i64 y) W' := fun y W' => by kernel_rfl
  clear h hn hLV hlt
  go_enter Tryd.func167, Tryd.ntmps167
  go_wp2_with fail
  go_region_law (first
    | (refine step_append_fresh rfl (.tmp 7) (.tmp 10) 54 rfl 3 i0 _ 1 8 Tryd.underlying54 hi hz0 hz1 hz2 rfl (by decide) (.slice a n c) n LV (by simp [Act.eval, Act.put]) (HOW.out _ ((Keeps.refl noB W).alloc _).drew) ⟨W.heap.size, 0, none⟩ 1 1 [.int .i64 (x : Int)] (by simp [Act.eval, Act.put]) rfl (cells_one W (.int .i64 (x : Int)) 3) (by intro u hu; simp at hu; subst hu; rfl) (by unfold maxLen; omega) (by omega) ?_
       intro v' w4 ho hg hf
       obtain ⟨⟨y0, z0⟩, hpost⟩ := HFIN.out _ ((Keeps.refl noB W).alloc _).drew v' w4 ho hg hf
       obtain ⟨a', c', rfl⟩ := row_shape (ok := fun _ => True) ⟨ho, fun _ _ => trivial⟩
       have HE := Lib.hid hpost
       clear ho hg hf hpost))
  all_goals
    go_wp2_with fail
    go_end0
    exact ⟨rfl, HE.out⟩

/-- The first numbers of a row. -/
theorem NRow.cut {w : World} {g n c : Nat} {L : List Nat} (hn : L.length = n + 1) (h : NRow w (.slice (some ⟨g, 0, none⟩) (n + 1) c) L) : NRow w (.slice (some ⟨g, 0, none⟩) n c) (L.take n) := by
  obtain ⟨h1, h2⟩ := h
  have hl : (L.take n).length = n := by rw [List.length_take]; omega
  refine ⟨by rw [List.length_map, Nat.mul_one], ?_⟩
  rcases h2 with ⟨e, _⟩ | ⟨g', c', cur, e, hb, hh, hnc, hcm, hcs, htk⟩
  · cases e
  · simp only [Value.slice.injEq, Option.some.injEq, Addr.mk.injEq, and_true] at e
    obtain ⟨rfl, _, rfl⟩ := e
    refine .inr ⟨g, c, cur, by rw [hl], hb, hh, by rw [hl]; omega, hcm, hcs, ?_⟩
    rw [hl, List.map_take, ← htk, List.take_take, hn]
    congr 1
    omega

set_option maxRecDepth 100000 in
set_option maxHeartbeats 8000000 in
theorem popL_any (W : World) (F : Nat) (own : Nat → Prop) (L : List Nat) (nx : Nat) (v : Value) (h : FreeAt W F own L nx v) (hlt : ∀ k, own k → k < W.heap.size) (hl : L.length ≤ 1000) (n : Nat) (hn : L.length = n + 1) :
    Calls Tryd.prog 166 #[.pointer (some ⟨F, 0, none⟩)] W fun e w' =>
      e = .returned (.iface 3 (.int .i64 (nth L n : Int))) ∧ ∃ v', Owns own own W w' ∧ FreeAt w' F own (L.take n) nx v' := by
  obtain ⟨g, c, rfl, hc, hg, ci, _⟩ := h.row.at (i := n) (by omega)
  have r0 := h.blk.cell 0
  have z0 := h.blk.free 0
  simp at r0
  rw [hn] at r0 h hc
  have HE : Hid (∃ v', Owns own own W (W.setCell ⟨F, 0, none⟩ (.slice (some ⟨g, 0, none⟩) n c)) ∧ FreeAt (W.setCell ⟨F, 0, none⟩ (.slice (some ⟨g, 0, none⟩) n c)) F own (L.take n) nx v') := Lib.hid (by
    have hne := (h.ownR g rfl).2
    have qs : Keeps (fun k => k = F) W (W.setCell ⟨F, 0, none⟩ (.slice (some ⟨g, 0, none⟩) n c)) := (Keeps.refl (fun k => k = F) W).setCell (p := ⟨F, 0, none⟩) (.inl rfl) _
    refine ⟨_, ⟨fun _ h => .inl h, fun k hk => Nat.lt_of_lt_of_le (hlt k hk) qs.size, qs.mono (fun k e => e ▸ h.ownF)⟩, h.blk.set 0 _, (NRow.cut hn h.row).keeps qs (fun k hk e => ?_), h.ownF, fun k hk => ?_⟩
    · have hk : g = k := by simpa [Value.ownBlock] using hk
      exact hne (hk.trans e)
    · have hk : g = k := by simpa [Value.ownBlock] using hk
      exact hk ▸ h.ownR g rfl)
  obtain ⟨x, hx⟩ : ∃ x : Int, x = (nth L n : Int) := ⟨_, rfl⟩
  rw [← hx] at ci ⊢
  have hni : (((n + 1 : Nat)) : Int) = (n : Int) + 1 := by omega
  have hn0 : (0 : Int) ≤ (n : Int) := by omega
  have hn6 : (n : Int) ≤ 1000 := by omega
  have hcn : (n : Int) + 1 ≤ (c : Int) := by omega
  have hF : F < W.heap.size := h.blk.lt
  clear h hlt hx
  go_enter Tryd.func166, Tryd.ntmps166
  go_wp2_with fail
  go_ret
  exact ⟨rfl, HE.out⟩

end Go.Proofs.YthgocacabadflaaDoor

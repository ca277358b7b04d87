/-
  What the package-level variables hold ('Env'), and the library's contracts as the walks of chapter 7 take them.
-/
import Derived.Test.YthgocacabadflaaDoorMm
import Derived.Test.YthgocacabadflaaDoorPg
import Derived.Test.YthgocacabadflaaDoorShelf
import Derived.Lib.AtoiErrMem
import Derived.Lib.LaidTab
namespace Go.Proofs.YthgocacabadflaaDoor
set_option linter.unusedVariables false
set_option linter.unusedSimpArgs false
open Go.RowKit

theorem Keeps.of_below {w w' : World} (h : Below w.heap.size w w') : Keeps noB w w' := ⟨h.os, h.tape, h.output, h.size, fun k hk _ => h.block k hk⟩

theorem var_of_block {P : Program} {w w' : World} {n : String} {g : Nat} (hg : P.globalNamed n = some g) (hb : w'.heap[g]? = w.heap[g]?) : w'.var? P n = w.var? P n := by
  simp only [World.var?, hg, Option.bind_some, hb]

/-- A variable of an interface's type that is not nil. -/
def ErrAt (w : World) (g : Nat) : Prop := ∃ tp p, w.cell? ⟨g, 0, none⟩ = some (.iface tp p)

/-- What is read of the package-level variables. -/
structure Env (w : World) : Prop where
  tab : Lib.TabIs Tryd.prog w "internal/strconv.uint64pow10" .u64 Lib.pow10Tab
  es : ErrAt w 7
  er : ErrAt w 8
  e0 : ErrAt w 0
  e1 : ErrAt w 1
  e2 : ErrAt w 2
  e3 : ErrAt w 3
  sz : 12 ≤ w.heap.size

theorem gTab : Tryd.prog.globalNamed "internal/strconv.uint64pow10" = some 9 := by kernel_rfl

theorem ErrAt.keeps {may : Nat → Prop} {w w' : World} {g : Nat} (h : ErrAt w g) (q : Keeps may w w') (hg : g < w.heap.size) (hm : ¬ may g) : ErrAt w' g := by
  obtain ⟨tp, p, h⟩ := h
  exact ⟨tp, p, (q.cell (p := ⟨g, 0, none⟩) hg hm).trans h⟩

theorem Env.keeps {may : Nat → Prop} {w w' : World} (h : Env w) (q : Keeps may w w') (hm : ∀ k, k < 12 → ¬ may k) : Env w' := by
  have hs := h.sz
  refine ⟨?_, h.es.keeps q (by omega) (hm _ (by decide)), h.er.keeps q (by omega) (hm _ (by decide)), h.e0.keeps q (by omega) (hm _ (by decide)), h.e1.keeps q (by omega) (hm _ (by decide)), h.e2.keeps q (by omega) (hm _ (by decide)), h.e3.keeps q (by omega) (hm _ (by decide)), Nat.le_trans hs q.size⟩
  have := h.tab
  unfold Lib.TabIs at *
  rw [var_of_block gTab (q.block _ (by omega) (hm _ (by decide)))]
  exact this

theorem str_eq7 {a : ByteArray} {l : List UInt8} (h : a.data.toList = l) : Value.string a = str l := by
  subst h; cases a; simp [str]

/-! ### the library -/
theorem atoi_lib (s : ByteArray) (hs : s.size ≤ 1048576) (w : World) (h : Env w) : Calls Tryd.prog 80 #[.string s] w fun e w' =>
    (match Lib.atoiAll s.data.toList with | .ok v => e = .returned (.tuple #[.int .i64 v, .nilIface]) | _ => ∃ v tp p, e = .returned (.tuple #[.int .i64 v, .iface tp p])) ∧ Keeps noB w w' := by
  cases ha : Lib.atoiAll s.data.toList
  · rename_i v
    refine (Tryd.strconv_Atoi_ok s (by omega) v ha w).mono ?_
    rintro e w' ⟨rfl, hw⟩
    refine ⟨rfl, ?_⟩
    rcases hw with rfl | ⟨t, rfl⟩
    · exact Keeps.refl _ _
    · exact Keeps.of_below (Lib.bytesWorld_below _ _ _)
  · obtain ⟨tp, p, hv⟩ := h.es
    refine (Any.strconv_Atoi_syntax Tryd.laysC172 s (by omega) ha _ w hv (.inr ⟨_, _, rfl⟩)).mono ?_
    rintro e w' ⟨N, rfl, _, _, hb⟩
    exact ⟨⟨_, _, _, rfl⟩, Keeps.of_below hb⟩
  · obtain ⟨tp, p, hv⟩ := h.er
    refine (Any.strconv_Atoi_range Tryd.laysC172 s (by omega) ha _ w hv (.inr ⟨_, _, rfl⟩)).mono ?_
    rintro e w' ⟨N, rfl, _, _, hb⟩
    exact ⟨⟨_, _, _, rfl⟩, Keeps.of_below hb⟩

theorem itoa_lib (n : Int) (h0 : -9223372036854775808 ≤ n) (h1 : n ≤ 9223372036854775807) (w : World) (h : Env w) : Calls Tryd.prog 71 #[.int .i64 n] w fun e w' => e = .returned (.string ⟨(Lib.itoa n).toArray⟩) ∧ Keeps noB w w' := by
  refine (Tryd.strconv_Itoa n h0 h1 w h.tab).mono ?_
  rintro e w' ⟨rfl, k, os, rfl⟩
  exact ⟨rfl, rfl, rfl, rfl, by simp [Sort.grow, World.drewN], fun i hi _ => Sort.heap_grow_old (w.drewN k) os hi⟩

theorem atoi_bounds {l : List UInt8} {v : Int} (h : Lib.atoiAll l = .ok v) : -9223372036854775808 ≤ v ∧ v ≤ 9223372036854775807 := by
  unfold Lib.atoiAll at h
  split at h
  · cases h
  · simp only at h
    split at h
    · cases h
    · cases h
    · split at h
      · cases h
      · split at h
        · cases h
        · injection h with h
          subst h
          split <;> omega

end Go.Proofs.YthgocacabadflaaDoor

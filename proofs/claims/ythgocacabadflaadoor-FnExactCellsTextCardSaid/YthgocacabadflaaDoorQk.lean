/-
  What the rows' premise says of the package-level variables.
-/
import Derived.Test.YthgocacabadflaaDoorRows
import Derived.Test.YthgocacabadflaaDoorQa
import Derived.Stop.LaidErr
import Derived.LaidMore
import Derived.LaidOnce
import Derived.Lay
import Derived.ProofKit
namespace Go.Proofs.YthgocacabadflaaDoor
set_option linter.unusedVariables false
set_option linter.unusedSimpArgs false
open Go.RowKit

theorem gES : Tryd.prog.globalNamed "strconv.ErrSyntax" = some 7 := by kernel_rfl
theorem gER : Tryd.prog.globalNamed "strconv.ErrRange" = some 8 := by kernel_rfl
theorem gE0 : Tryd.prog.globalNamed "loop.example/endsoflife/impl.errTooMany" = some 0 := by kernel_rfl
theorem gE1 : Tryd.prog.globalNamed "loop.example/endsoflife/impl.errNotNext" = some 1 := by kernel_rfl
theorem gE2 : Tryd.prog.globalNamed "loop.example/endsoflife/impl.errNotAlive" = some 2 := by kernel_rfl
theorem gE3 : Tryd.prog.globalNamed "loop.example/endsoflife/impl.errNoEvent" = some 3 := by kernel_rfl
theorem gB64 : Tryd.prog.globalNamed "math/bits.deBruijn64tab" = some 11 := by kernel_rfl
theorem tES : (Tryd.prog.globals[7]?).map (·.type) = some 45 := by kernel_rfl
theorem tER : (Tryd.prog.globals[8]?).map (·.type) = some 45 := by kernel_rfl
theorem tE0 : (Tryd.prog.globals[0]?).map (·.type) = some 45 := by kernel_rfl
theorem tE1 : (Tryd.prog.globals[1]?).map (·.type) = some 45 := by kernel_rfl
theorem tE2 : (Tryd.prog.globals[2]?).map (·.type) = some 45 := by kernel_rfl
theorem tE3 : (Tryd.prog.globals[3]?).map (·.type) = some 45 := by kernel_rfl
theorem tTab : (Tryd.prog.globals[9]?).map (·.type) = some 173 := by kernel_rfl
theorem cES : Tryd.prog.cellsOf 180 = 1 := by kernel_rfl
theorem cS : Tryd.prog.cellsOf 9 = 1 := by kernel_rfl
theorem cU : Tryd.prog.cellsOf 136 = 1 := by kernel_rfl
theorem cT : Tryd.prog.cellsOf 173 = 20 := by kernel_rfl
theorem starES : "*" ++ "errors.errorString" = "*errors.errorString" := by decide
theorem rowES (u : TypeId) (h : Tryd.prog.typeName? 3 u = some "*errors.errorString") : u = 178 :=
  typeName_ptr_named (nm := "errors.errorString") (by rw [starES]; kernel_rfl) (by kernel_rfl) (by decide) u (by rw [starES]; exact h)

theorem errAt_of {W : World} {n : String} {g : Nat} {a : Addr} (hg : Tryd.prog.globalNamed n = some g) (h : W.var? Tryd.prog n = some #[.iface 178 (.pointer (some a))]) : ErrAt W g :=
  ⟨_, _, by have h0 := World.var?_cell hg h 0; simpa using h0⟩

theorem var_size {P : Program} {W : World} {n : String} {g : Nat} {cs : Array Value} (hg : P.globalNamed n = some g) (h : W.var? P n = some cs) : g < W.heap.size := by
  rcases Nat.lt_or_ge g W.heap.size with h' | h'
  · exact h'
  · simp only [World.var?, hg, Option.bind_some, Array.getElem?_eq_none h'] at h
    cases h

theorem env_of {W : World} (h0 : laidMetH Tryd.prog Rows.fnExactReusesOfRow.laid W) : Env W := by
  have h : laidMet Tryd.prog Rows.fnExactReusesOfRow.laid W := by rwa [MakeChecks.laidMetH_plain _ _ _ (by kernel_rfl)] at h0
  have h1 := laidMet.tail h
  have h2 := laidMet.tail h1
  have h3 := laidMet.tail h2
  have h4 := laidMet.tail h3
  have h5 := laidMet.tail h4
  have h6 := laidMet.tail h5
  have h7 := laidMet.tail h6
  have h8 := laidMet.tail h7
  have h9 := laidMet.tail h8
  obtain ⟨a4, _, v4, _⟩ := laid_sentinel h4 gER tER Tryd.underlying45 rowES Tryd.underlying178 Tryd.underlying180 rfl rfl Tryd.underlying9 cES cS
  obtain ⟨a5, _, v5, _⟩ := laid_sentinel h5 gES tES Tryd.underlying45 rowES Tryd.underlying178 Tryd.underlying180 rfl rfl Tryd.underlying9 cES cS
  obtain ⟨a6, _, v6, _⟩ := laid_sentinel h6 gE3 tE3 Tryd.underlying45 rowES Tryd.underlying178 Tryd.underlying180 rfl rfl Tryd.underlying9 cES cS
  obtain ⟨a7, _, v7, _⟩ := laid_sentinel h7 gE0 tE0 Tryd.underlying45 rowES Tryd.underlying178 Tryd.underlying180 rfl rfl Tryd.underlying9 cES cS
  obtain ⟨a8, _, v8, _⟩ := laid_sentinel h8 gE1 tE1 Tryd.underlying45 rowES Tryd.underlying178 Tryd.underlying180 rfl rfl Tryd.underlying9 cES cS
  obtain ⟨a9, _, v9, _⟩ := laid_sentinel h9 gE2 tE2 Tryd.underlying45 rowES Tryd.underlying178 Tryd.underlying180 rfl rfl Tryd.underlying9 cES cS
  have hsz : 11 < W.heap.size := by
    obtain ⟨ps, ⟨g, t, cs, fuel, p, q, hg, ht, hv, _⟩, _⟩ := h1
    exact var_size gB64 hv
  have htab : Lib.TabIs Tryd.prog W "internal/strconv.uint64pow10" .u64 Lib.pow10Tab :=
    Lib.tabIs_of_head gTab tTab Tryd.underlying173 Tryd.underlying136 cU cT (rest := Rows.fnExactReusesOfRow.laid.drop 3) (by
      have e : Rows.fnExactReusesOfRow.laid.drop 2 = ("internal/strconv.uint64pow10", Lib.tabData .u64 Lib.pow10Tab) :: Rows.fnExactReusesOfRow.laid.drop 3 := by rfl
      rw [← e]; exact h2)
  exact ⟨htab, errAt_of gES v5, errAt_of gER v4, errAt_of gE0 v7, errAt_of gE1 v8, errAt_of gE2 v9, errAt_of gE3 v6, hsz⟩

end Go.Proofs.YthgocacabadflaaDoor

/-
  A map from numbers to values of any kind, told by what stands at each key: what a look-up finds, what a store leaves. Nothing of the translation is imported.
-/
import Derived.Test.YtgpaplhbjhbfjaaPkWm
namespace Go.Proofs.Ytgpaplhbjhbfjaa
set_option linter.unusedVariables false
set_option linter.unusedSimpArgs false
open Go.Maps

def valR (v : Value) : Option (DataW Value × List MemPlace) := some (.held v, [])
abbrev VNotes := Nat → Option Value
def putV (i : Nat) (v : Value) (M : VNotes) : VNotes := fun j => if j = i then some v else M j

structure HoldsV (D : DataW Value) (M : VNotes) : Prop where
  get : ∀ j, Maps.has D (keyL j) = (M j).isSome
  val : ∀ j k, M j = some k → ∀ z, D.atKey (keyL j) z = .held k
  keys : ∀ es, D = .map es → ∀ p ∈ es, ∃ j, j < 81 ∧ p.1 = keyL j

def MapV (P : Program) (kt : TypeId) (w : World) (m : Nat) (M : VNotes) : Prop := ∃ D : DataW Value, w.ownsMap P kt valR m 81 D ∧ HoldsV D M

theorem MapV.made (P : Program) (kt : TypeId) (w : World) : MapV P kt (w.alloc (.map #[] 0)) w.heap.size (fun _ => none) :=
  ⟨_, (World.ownsMap_made w P kt valR).mono (by omega), ⟨fun j => rfl, (fun j k h => nomatch h), fun es h p hp => by cases h; cases hp⟩⟩

theorem MapV.lt {P : Program} {kt : TypeId} {w : World} {m : Nat} {M : VNotes} (h : MapV P kt w m M) : m < w.heap.size := by
  obtain ⟨D, h, _⟩ := h; exact h.lt

theorem MapV.keeps {P : Program} {kt : TypeId} {w w' : World} {m : Nat} {M : VNotes} {may : Nat → Prop} (h : MapV P kt w m M) (q : Keeps may w w') (hm : ¬ may m) : MapV P kt w' m M := by
  obtain ⟨D, ho, hd⟩ := h
  have hl := ho.lt
  obtain ⟨es, clock, hb, r⟩ := ho
  exact ⟨D, ⟨es, clock, (q.block m hl hm).trans hb, r⟩, hd⟩

theorem HoldsV.put {D : DataW Value} {M : VNotes} (h : HoldsV D M) (hD : IsMap D) {j : Nat} (hj : j < 81) (k : Value) : HoldsV (D.put (keyL j) (.held k)) (putV j k M) := by
  have hk : WideAt.IsKeyLit (keyL j) := trivial
  refine ⟨fun i => ?_, fun i t e z => ?_, fun es e p hp => ?_⟩
  · by_cases hi : i = j
    · subst hi
      rw [has_put_same hD hk]
      simp [putV]
    · rw [has_put_other (fun e => hi (keyL_inj e)), h.get]
      simp [putV, hi]
  · by_cases hi : i = j
    · subst hi
      rw [atKey_put_same hD hk]
      simp [putV] at e
      rw [e]
    · rw [atKey_put_other (fun e => hi (keyL_inj e)), h.val i t (by simpa [putV, hi] using e)]
  · obtain ⟨es0, rfl⟩ := hD
    have e' : DataW.map (DataW.insert (keyL j, .held k) (es0.filter fun p => !p.1.sameKey (keyL j))) = DataW.map es := e
    rw [← DataW.map.inj e'] at hp
    rcases mem_ins _ hp with rfl | hp
    · exact ⟨j, hj, rfl⟩
    · exact h.keys es0 rfl p (List.mem_filter.1 hp).1

theorem HoldsV.few {D : DataW Value} {M : VNotes} (h : HoldsV D M) (ht : Tidy D) : Maps.size D ≤ 81 := by
  obtain ⟨es, rfl, hp⟩ := ht
  have hkey := h.keys es rfl
  let f : Lit → Nat := fun l => match l with | .int _ a => a.toNat | _ => 0
  have hf : ∀ j, f (keyL j) = j := fun j => by show ((j : Int)).toNat = j; omega
  have hn : (es.map (fun p => f p.1)).Nodup := by
    refine List.Pairwise.map _ ?_ (List.Pairwise.and_mem.1 hp)
    rintro p q ⟨hp1, hq1, hne⟩ e
    obtain ⟨i, _, hi⟩ := hkey p hp1
    obtain ⟨j, _, hj⟩ := hkey q hq1
    rw [hi, hj, hf, hf] at e
    exact hne (by rw [hi, hj, e])
  have := few_nat 81 _ hn (by
    intro x hx
    obtain ⟨p, hp1, rfl⟩ := List.mem_map.1 hx
    obtain ⟨i, hlt, hi⟩ := hkey p hp1
    show f p.1 < 81
    rw [hi, hf]; exact hlt)
  simpa [Maps.size] using this

/-- 'm[k] = v'. -/
theorem MapV.update {P : Program} {kt t e : TypeId} {w : World} {m : Nat} {M : VNotes} (h : MapV P kt w m M) (hk : P.underlying kt = some (.int .i64)) (ht : P.underlying t = some (.map kt e)) {j : Nat} (hj : j < 81) (k : Value) :
    ∃ w', (Instr.mapUpdate t (.map (some m)) (.int .i64 (j : Int)) k).run P w = .ok () w' ∧ MapV P kt w' m (putV j k M) ∧ Keeps (oneB m) w w' := by
  obtain ⟨D, ho, hd⟩ := h
  have K := int_keyed hk
  have hwf : (Lit.int .i64 (j : Int)).wf = true := by simp [Lit.wf, IntKind.min, IntKind.max, IntKind.signed, IntKind.bits]; omega
  obtain ⟨w', hrun, ho', hg⟩ := ho.update (val := k) K ht (by unfold maxLen; omega) (keyOf_int_mk hk hwf) (d := .held k) (ps := []) rfl
  have hd' := hd.put ho.isMap hj k
  have hsz := hd'.few (ho'.tidy K)
  obtain ⟨es, clock, hb, F, hs, hD⟩ := ho'
  refine ⟨w', hrun, ⟨_, ⟨es, clock, hb, F, ?_, hD⟩, hd'⟩, (Keeps.refl _ _).grown hg (fun i e => .inl (by cases e; rfl))⟩
  have hsz' : size (D.put (.int .i64 (j : Int)) (.held k)) ≤ 81 := hsz
  rw [hD] at hsz'
  simpa [Maps.size, length_sorted] using hsz'

/-- 'm[k]'. -/
theorem MapV.look {P : Program} {kt t e : TypeId} {w : World} {m : Nat} {M : VNotes} (h : MapV P kt w m M) (hk : P.underlying kt = some (.int .i64)) (ht : P.underlying t = some (.map kt e)) {z : Value} (hz : (zeroValue e).run P w = .ok z w) (j : Nat) (hj : j < 81) :
    (Instr.lookup t (.map (some m)) (.int .i64 (j : Int)) false).run P w = .ok ((M j).getD z) w := by
  obtain ⟨D, ho, hd⟩ := h
  have hwf : (Lit.int .i64 (j : Int)).wf = true := by simp [Lit.wf, IntKind.min, IntKind.max, IntKind.signed, IntKind.bits]; omega
  obtain ⟨v, ps, hrun, hR⟩ := ho.lookup (int_keyed hk) ht hz (zd := .held z) (zp := []) rfl (keyOf_int_mk hk hwf)
  rw [hrun]
  have : v = (M j).getD z := by
    simp only [valR, Option.some.injEq, Prod.mk.injEq] at hR
    have e2 : D.atKey (.int .i64 (j : Int)) (.held z) = .held ((M j).getD z) := by
      cases hm : M j with
      | some k => exact hd.val j k hm _
      | none =>
        have := hd.get j
        rw [hm] at this
        exact atKey_of_not_has this _
    have e3 := hR.1.trans e2
    exact DataW.held.inj e3
  rw [this]

end Go.Proofs.Ytgpaplhbjhbfjaa

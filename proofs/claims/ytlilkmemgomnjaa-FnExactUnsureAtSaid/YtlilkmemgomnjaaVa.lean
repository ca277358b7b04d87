/-
  A map from places to what is known there, told by its notes: what a look-up finds, what a store leaves. Nothing of the translation is imported.
-/
import Derived.Test.YtlilkmemgomnjaaPl
import Derived.Test.YtlilkmemgomnjaaMemW
import Derived.Maps.OwnSet
import Derived.Lib.Hide
namespace Go.Proofs.Ytlilkmemgomnjaa
set_option linter.unusedVariables false
set_option linter.unusedSimpArgs false
open Go.Maps

/-- What is known, as a value. -/
def knV (k : Kn) : Value := .agg #[.int .u8 (k.may : Int), .int .u8 (k.must : Int)]
def knR (v : Value) : Option (DataW Value × List MemPlace) := some (.held v, [])
def keyL (j : Nat) : Lit := .int .i64 (j : Int)

/-- What stands at a key of a map that notes hold. -/
structure Holds (D : DataW Value) (M : Notes) : Prop where
  get : ∀ j, Maps.has D (keyL j) = (M j).isSome
  val : ∀ j k, M j = some k → ∀ z, D.atKey (keyL j) z = .held (knV k)
  keys : ∀ es, D = .map es → ∀ p ∈ es, ∃ j, j < 81 ∧ p.1 = keyL j

def MapAt (P : Program) (kt : TypeId) (w : World) (m : Nat) (M : Notes) : Prop := ∃ D : DataW Value, w.ownsMap P kt knR m 81 D ∧ Holds D M

/-- Notes at whatever number. -/
def noteI (M : Notes) (a : Int) : Option Kn := if 0 ≤ a then M a.toNat else none
def knO (o : Option Kn) : Kn := o.getD ⟨0, 0⟩

theorem keyL_inj {i j : Nat} (h : keyL i = keyL j) : i = j := by
  simp only [keyL, Lit.int.injEq, true_and] at h
  omega

theorem holds_blank : Holds (.map []) blank :=
  ⟨fun j => rfl, (fun j k h => nomatch h), fun es h p hp => by cases h; cases hp⟩

theorem MapAt.made (P : Program) (kt : TypeId) (w : World) : MapAt P kt (w.alloc (.map #[] 0)) w.heap.size blank :=
  ⟨_, (World.ownsMap_made w P kt knR).mono (by omega), holds_blank⟩

theorem MapAt.lt {P : Program} {kt : TypeId} {w : World} {m : Nat} {M : Notes} (h : MapAt P kt w m M) : m < w.heap.size := by
  obtain ⟨D, h, _⟩ := h; exact h.lt

theorem MapAt.keeps {P : Program} {kt : TypeId} {w w' : World} {m : Nat} {M : Notes} {may : Nat → Prop} (h : MapAt P kt w m M) (q : Keeps may w w') (hm : ¬ may m) : MapAt P kt w' m M := by
  obtain ⟨D, ho, hd⟩ := h
  have hl := ho.lt
  obtain ⟨es, clock, hb, r⟩ := ho
  exact ⟨D, ⟨es, clock, (q.block m hl hm).trans hb, r⟩, hd⟩

theorem mem_ins {x p : Lit × DataW Value} : ∀ (l : List (Lit × DataW Value)), p ∈ DataW.insert x l → p = x ∨ p ∈ l
  | [], h => by simpa [DataW.insert] using h
  | y :: r, h => by
    unfold DataW.insert at h
    split at h
    · rcases List.mem_cons.1 h with h | h
      · exact .inl h
      · exact .inr h
    · rcases List.mem_cons.1 h with h | h
      · exact .inr (by rw [h]; simp)
      · rcases mem_ins r h with h | h
        · exact .inl h
        · exact .inr (by simp [h])

theorem Holds.put {D : DataW Value} {M : Notes} (h : Holds D M) (hD : IsMap D) {j : Nat} (hj : j < 81) (k : Kn) : Holds (D.put (keyL j) (.held (knV k))) ((point j k).over M) := by
  have hk : WideAt.IsKeyLit (keyL j) := trivial
  refine ⟨fun i => ?_, fun i t e z => ?_, fun es e p hp => ?_⟩
  · by_cases hi : i = j
    · subst hi
      rw [has_put_same hD hk, over_some (k := k) (by simp [point])]
      rfl
    · rw [has_put_other (fun e => hi (keyL_inj e)), over_none (by simp [point, hi]), h.get]
  · by_cases hi : i = j
    · subst hi
      rw [over_some (k := k) (by simp [point])] at e
      rw [atKey_put_same hD hk]
      rw [Option.some.inj e]
    · rw [over_none (by simp [point, hi])] at e
      rw [atKey_put_other (fun e => hi (keyL_inj e)), h.val i t e]
  · obtain ⟨es0, rfl⟩ := hD
    have e' : DataW.map (DataW.insert (keyL j, .held (knV k)) (es0.filter fun p => !p.1.sameKey (keyL j))) = DataW.map es := e
    rw [← DataW.map.inj e'] at hp
    rcases mem_ins _ hp with rfl | hp
    · exact ⟨j, hj, rfl⟩
    · exact h.keys es0 rfl p (List.mem_filter.1 hp).1

/-! ### how many keys there are -/
theorem few_nat : ∀ (n : Nat) (l : List Nat), l.Nodup → (∀ x ∈ l, x < n) → l.length ≤ n
  | 0, l, _, h => by
    cases l with
    | nil => simp
    | cons x r => exact absurd (h x (by simp)) (by omega)
  | n + 1, l, hn, h => by
    have hn' : (l.erase n).Nodup := hn.erase n
    have hlt : ∀ x ∈ l.erase n, x < n := by
      intro x hx
      have h1 := h x (List.mem_of_mem_erase hx)
      have h2 : x ≠ n := by
        rintro rfl
        exact (List.Nodup.not_mem_erase hn) hx
      omega
    have := few_nat n (l.erase n) hn' hlt
    have h3 := List.le_length_erase (a := n) (l := l)
    omega

theorem Holds.few {D : DataW Value} {M : Notes} (h : Holds D M) (ht : Tidy D) : Maps.size D ≤ 81 := by
  obtain ⟨es, rfl, hp⟩ := ht
  have hkey := h.keys es rfl
  let f : Lit → Nat := fun l => match l with | .int _ a => a.toNat | _ => 0
  have hf : ∀ j, f (keyL j) = j := fun j => by show ((j : Int)).toNat = j; omega
  have hn : (es.map (fun p => f p.1)).Nodup := by
    refine List.Pairwise.map _ ?_ (List.Pairwise.and_mem.1 hp)
    rintro p q ⟨hp1, hq1, hne⟩ e
    obtain ⟨i, _, hi⟩ := hkey p hp1
    obtain ⟨j, _, hj⟩ := hkey q hq1
    rw [hi, hj, hf, hf] at e
    exact hne (by rw [hi, hj, e])
  have := few_nat 81 _ hn (by
    intro x hx
    obtain ⟨p, hp1, rfl⟩ := List.mem_map.1 hx
    obtain ⟨i, hlt, hi⟩ := hkey p hp1
    show f p.1 < 81
    rw [hi, hf]; exact hlt)
  simpa [Maps.size] using this

/-- 'm[k] = v'. -/
theorem MapAt.update {P : Program} {kt t e : TypeId} {w : World} {m : Nat} {M : Notes} (h : MapAt P kt w m M) (hk : P.underlying kt = some (.int .i64)) (ht : P.underlying t = some (.map kt e)) {j : Nat} (hj : j < 81) (k : Kn) :
    ∃ w', (Instr.mapUpdate t (.map (some m)) (.int .i64 (j : Int)) (knV k)).run P w = .ok () w' ∧ MapAt P kt w' m ((point j k).over M) ∧ Keeps (oneB m) w w' := by
  obtain ⟨D, ho, hd⟩ := h
  have K := int_keyed hk
  have hwf : (Lit.int .i64 (j : Int)).wf = true := by simp [Lit.wf, IntKind.min, IntKind.max, IntKind.signed, IntKind.bits]; omega
  obtain ⟨w', hrun, ho', hg⟩ := ho.update (val := knV k) K ht (by unfold maxLen; omega) (keyOf_int_mk hk hwf) (d := .held (knV k)) (ps := []) rfl
  have hd' := hd.put ho.isMap hj k
  have hsz := hd'.few (ho'.tidy K)
  obtain ⟨es, clock, hb, F, hs, hD⟩ := ho'
  refine ⟨w', hrun, ⟨_, ⟨es, clock, hb, F, ?_, hD⟩, hd'⟩, (Keeps.refl _ _).grown hg (fun i e => .inl (by cases e; rfl))⟩
  have hsz' : size (D.put (.int .i64 (j : Int)) (.held (knV k))) ≤ 81 := hsz
  rw [hD] at hsz'
  simpa [Maps.size, length_sorted] using hsz'

theorem Holds.noteI {D : DataW Value} {M : Notes} (h : Holds D M) (hD : IsMap D) (a : Int) : Maps.has D (.int .i64 a) = (noteI M a).isSome ∧ D.atKey (.int .i64 a) (.held (knV ⟨0, 0⟩)) = .held (knV (knO (noteI M a))) := by
  by_cases ha : 0 ≤ a
  · obtain ⟨j, rfl⟩ := Int.eq_ofNat_of_zero_le ha
    have e : Go.Proofs.Ytlilkmemgomnjaa.noteI M (j : Int) = M j := by unfold Go.Proofs.Ytlilkmemgomnjaa.noteI; rw [if_pos ha]; rfl
    rw [e]
    refine ⟨h.get j, ?_⟩
    cases hm : M j with
    | some k => exact h.val j k hm _
    | none =>
      have := h.get j
      rw [hm] at this
      exact atKey_of_not_has this _
  · have e : Go.Proofs.Ytlilkmemgomnjaa.noteI M a = none := by unfold Go.Proofs.Ytlilkmemgomnjaa.noteI; rw [if_neg ha]
    have hh : Maps.has D (.int .i64 a) = false := by
      obtain ⟨es, rfl⟩ := hD
      rw [Maps.has_eq, List.any_eq_false]
      intro p hp
      obtain ⟨j, _, hj⟩ := h.keys es rfl p hp
      rw [hj]
      have : Lit.sameKey (keyL j) (.int .i64 a) = false := Maps.sameKey_ne (fun e => by simp only [keyL, Lit.int.injEq, true_and] at e; omega)
      rw [this]; simp
    rw [e]
    exact ⟨hh, atKey_of_not_has hh _⟩

/-- 'v, ok := m[k]' and 'm[k]'. -/
theorem MapAt.look_ok {P : Program} {kt t e : TypeId} {w : World} {m : Nat} {M : Notes} (h : MapAt P kt w m M) (hk : P.underlying kt = some (.int .i64)) (ht : P.underlying t = some (.map kt e)) (hz : (zeroValue e).run P w = .ok (knV ⟨0, 0⟩) w) {a : Int} (ha : (Lit.int .i64 a).wf = true) :
    (Instr.lookup t (.map (some m)) (.int .i64 a) true).run P w = .ok (.tuple #[knV (knO (noteI M a)), .bool (noteI M a).isSome]) w := by
  obtain ⟨D, ho, hd⟩ := h
  obtain ⟨v, ps, hrun, hR⟩ := ho.look_ok (int_keyed hk) ht hz (zd := .held (knV ⟨0, 0⟩)) (zp := []) rfl (keyOf_int_mk hk ha)
  obtain ⟨e1, e2⟩ := hd.noteI ho.isMap a
  rw [hrun, e1]
  have : v = knV (knO (noteI M a)) := by
    simp only [knR, Option.some.injEq, Prod.mk.injEq] at hR
    have e3 := hR.1.trans e2
    exact DataW.held.inj e3
  rw [this]

theorem MapAt.look {P : Program} {kt t e : TypeId} {w : World} {m : Nat} {M : Notes} (h : MapAt P kt w m M) (hk : P.underlying kt = some (.int .i64)) (ht : P.underlying t = some (.map kt e)) (hz : (zeroValue e).run P w = .ok (knV ⟨0, 0⟩) w) {a : Int} (ha : (Lit.int .i64 a).wf = true) :
    (Instr.lookup t (.map (some m)) (.int .i64 a) false).run P w = .ok (knV (knO (noteI M a))) w := by
  obtain ⟨D, ho, hd⟩ := h
  obtain ⟨v, ps, hrun, hR⟩ := ho.lookup (int_keyed hk) ht hz (zd := .held (knV ⟨0, 0⟩)) (zp := []) rfl (keyOf_int_mk hk ha)
  obtain ⟨e1, e2⟩ := hd.noteI ho.isMap a
  rw [hrun]
  have : v = knV (knO (noteI M a)) := by
    simp only [knR, Option.some.injEq, Prod.mk.injEq] at hR
    have e3 := hR.1.trans e2
    exact DataW.held.inj e3
  rw [this]

end Go.Proofs.Ytlilkmemgomnjaa

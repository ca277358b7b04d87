/-
  Walks of the model's run: how it lies in memory; l13Dec, l1Sorted, ends.
-/
import Derived.Test.YtcohmhgmocdbfaaPureW
import Derived.Test.YtcohmhgmocdbfaaKjW
import Derived.Test.YtcohmhgmocdbfaaSb
import Derived.Test.YtcohmhgmocdbfaaTz
import Derived.Deep.RegionHeld3
namespace Go.Proofs.Ytcohmhgmocdbfaa
set_option linter.unusedVariables false
set_option linter.unusedSimpArgs false
open Go.RowKit

/-! ### How a run of the model's has ended, if it has: Exit, Where, Stuck, Asked. -/
def exitM : Option Why → Int
  | some .ret => 2
  | some .fail => 3
  | some (.fault _) => 4
  | _ => 0
def whereM : Option Why → Int
  | some (.fault k) => (k : Int)
  | _ => -1
def stuckM : Option Why → Bool
  | some (.stuck _) => true
  | _ => false
def askM (y : Option Why) (ch : List UInt8) : ByteArray :=
  match y with
  | some (.stuck br) => if ch = [] then betweenOf br else ⟨#[]⟩
  | _ => ⟨#[]⟩

def vsCells (l : List (Nat × (UInt8 → Nat))) : List Value := l.flatMap (fun p => [i64 p.1, str (namesOf p.2)])
theorem vsCells_snoc (l : List (Nat × (UInt8 → Nat))) (k : Nat) (f : UInt8 → Nat) : vsCells (l ++ [(k, f)]) = vsCells l ++ [i64 k, str (namesOf f)] := by simp [vsCells]
theorem vsCells_len (l : List (Nat × (UInt8 → Nat))) : (vsCells l).length = l.length * 2 := by
  induction l with
  | nil => rfl
  | cons p r ih => simp only [vsCells, List.flatMap_cons, List.length_append, List.length_cons, List.length_nil] at *; omega

/-- The fifteen cells of a run of the model's. -/
def rnCells (C : ByteArray) (at_ : Nat) (f : UInt8 → Nat) (made : Nat) (ev : ByteArray) (ex wh : Int) (st : Bool) (ask : ByteArray) (vv : Value) : Array Value :=
  #[.string C, i64 at_, i64 (f 97), i64 (f 98), i64 (f 99), i64 (f 100), i64 (f 101), i64 (f 102), i64 made, .string ev, .int .i64 ex, .int .i64 wh, .bool st, .string ask, vv]

/-- A run of the model's in memory; C: all choices; y: how it has ended. -/
structure RnAt (w : World) (own : Nat → Prop) (b : Nat) (C : ByteArray) (s : St) (y : Option Why) (vv : Value) : Prop where
  blk : Blk w b (rnCells C (C.size - s.ch.length) s.val s.made ⟨(evText s.ev).toArray⟩ (exitM y) (whereM y) (stuckM y) (askM y s.ch) vv) 111
  few : s.ch.length ≤ C.size
  rest : s.ch = C.data.toList.drop (C.size - s.ch.length)
  txt : (evText s.ev).length ≤ 20 * s.ev.length
  vis : w.ownsRow 0 183 2 vv s.vis.length (vsCells s.vis)
  mine : own b
  ownV : ∀ g, vv.ownBlock = some g → own g ∧ g ≠ b

theorem rn_get {v : UInt8} (h : lett v) (C : ByteArray) (a : Nat) (f : UInt8 → Nat) (m : Nat) (ev : ByteArray) (ex wh : Int) (st : Bool) (ask : ByteArray) (vv : Value) : (rnCells C a f m ev ex wh st ask vv)[slot v]? = some (i64 (f v)) := by
  rcases lett_cases h with rfl | rfl | rfl | rfl | rfl | rfl <;> rfl
theorem rn_set {v : UInt8} (h : lett v) (C : ByteArray) (a : Nat) (f : UInt8 → Nat) (m : Nat) (ev : ByteArray) (ex wh : Int) (st : Bool) (ask : ByteArray) (vv : Value) (k : Nat) :
    (rnCells C a f m ev ex wh st ask vv).setIfInBounds (slot v) (i64 k) = rnCells C a (fun u => if u = v then k else f u) m ev ex wh st ask vv := by
  rcases lett_cases h with rfl | rfl | rfl | rfl | rfl | rfl <;> rfl

/-- How a call ends that leaves the run in state t, ended as y says. -/
def RnRuns (w : World) (own : Nat → Prop) (b : Nat) (C : ByteArray) (t : St) (y : Option Why) (v : Value) (e : Ending) (w' : World) : Prop :=
  ∃ own' vv, e = .returned v ∧ Owns own own' w w' ∧ RnAt w' own' b C t y vv

theorem RnRuns.after {w w1 : World} {own own1 : Nat → Prop} {b : Nat} {C : ByteArray} {t : St} {y : Option Why} {v : Value} {e : Ending} {w' : World} (ho : Owns own own1 w w1) (h : RnRuns w1 own1 b C t y v e w') : RnRuns w own b C t y v e w' := by
  obtain ⟨own', vv, he, hO, hR⟩ := h
  exact ⟨own', vv, he, ho.trans hO, hR⟩

theorem RnAt.shape {w : World} {own : Nat → Prop} {b : Nat} {C : ByteArray} {s : St} {y : Option Why} {vv : Value} (h : RnAt w own b C s y vv) : ∃ a c, vv = .slice a s.vis.length c :=
  row_shape (ok := fun _ => True) ⟨h.vis, fun _ _ => trivial⟩

theorem RnAt.keeps {w W : World} {own : Nat → Prop} {b : Nat} {C : ByteArray} {s : St} {y : Option Why} {vv : Value} {may : Nat → Prop} (h : RnAt w own b C s y vv) (q : Keeps may w W) (hm : ∀ g, own g → ¬ may g) : RnAt W own b C s y vv :=
  ⟨q.blk h.blk (hm b h.mine), h.few, h.rest, h.txt, q.ownsRow h.vis (fun g hg _ => hm g (h.ownV g hg).1), h.mine, h.ownV⟩

theorem RnAt.drew {w : World} {own : Nat → Prop} {b : Nat} {C : ByteArray} {s : St} {y : Option Why} {vv : Value} (h : RnAt w own b C s y vv) : RnAt w.drew own b C s y vv := h.keeps (Keeps.refl noB w).drew (fun _ _ => id)

/-- A store into the run's own block. -/
theorem RnAt.stored {w : World} {own : Nat → Prop} {b : Nat} {C : ByteArray} {s t : St} {y z : Option Why} {vv : Value} (h : RnAt w own b C s y vv) (j : Nat) (u : Value)
    (hc : (rnCells C (C.size - s.ch.length) s.val s.made ⟨(evText s.ev).toArray⟩ (exitM y) (whereM y) (stuckM y) (askM y s.ch) vv).setIfInBounds j u = rnCells C (C.size - t.ch.length) t.val t.made ⟨(evText t.ev).toArray⟩ (exitM z) (whereM z) (stuckM z) (askM z t.ch) vv)
    (hf : t.ch.length ≤ C.size) (hr : t.ch = C.data.toList.drop (C.size - t.ch.length)) (hx : (evText t.ev).length ≤ 20 * t.ev.length) (hv : t.vis = s.vis) : RnAt (w.setCell ⟨b, j, none⟩ u) own b C t z vv := by
  have kb : Keeps (oneB b) w (w.setCell ⟨b, j, none⟩ u) := (Keeps.refl _ _).setCell (.inl (show oneB b b from rfl)) _
  refine ⟨?_, hf, hr, hx, ?_, h.mine, h.ownV⟩
  · rw [← hc]; exact h.blk.set j u
  · rw [hv]; exact kb.ownsRow h.vis (fun g hg _ e => (h.ownV g hg).2 e)

theorem RnAt.put {w : World} {own : Nat → Prop} {b : Nat} {C : ByteArray} {s : St} {y : Option Why} {vv : Value} (h : RnAt w own b C s y vv) {v : UInt8} (hv : lett v) (k : Nat) : RnAt (w.setCell ⟨b, slot v, none⟩ (i64 k)) own b C (s.put v k) y vv :=
  h.stored (slot v) (i64 k) (rn_set hv _ _ _ _ _ _ _ _ _ _ k) h.few h.rest h.txt rfl

/-! ### l13Dec. -/
theorem dec_small {n : Nat} (h : n ≤ 9) : Lib.decDigits n = [UInt8.ofNat (48 + n)] := by rw [Lib.decDigits, dif_pos (by omega)]
theorem dec_big {n : Nat} (h : 9 < n) : Lib.decDigits n = Lib.decDigits (n / 10) ++ [UInt8.ofNat (48 + n % 10)] := by rw [Lib.decDigits, dif_neg (by omega)]

theorem dec_len : ∀ (j u : Nat), u < 10 ^ (j + 1) → (Lib.decDigits u).length ≤ j + 1
  | 0, u, h => by
    have h9 : u ≤ 9 := by rw [Nat.zero_add, Nat.pow_one] at h; omega
    rw [dec_small h9]; exact Nat.le_refl _
  | j + 1, u, h => by
    by_cases h9 : u ≤ 9
    · rw [dec_small h9]; simp
    · rw [dec_big (by omega), List.length_append]
      have := dec_len j (u / 10) (by rw [Nat.pow_succ] at h; omega)
      simp; omega

theorem digit_nat {k : Nat} (h : k ≤ 9) : ((UInt8.ofNat (48 + k)).toNat : Int) = 48 + (k : Int) := by
  rw [UInt8.toNat_ofNat']
  omega

/-- What the loop of l13Dec holds. -/
def DecAt (w : World) (n : Nat) (v0 v3 : Value) (wr : World) : Prop :=
  ∃ (m : Nat) (out : ByteArray), v0 = .int .i64 (m : Int) ∧ v3 = .string out ∧ Lib.decDigits m ++ out.data.toList = Lib.decDigits n ∧ out.size + m ≤ n ∧ Keeps noB w wr

set_option maxRecDepth 100000 in
set_option maxHeartbeats 2000000 in
theorem dec_any (n : Nat) (hn : n ≤ 1000000) (w : World) : Calls Try.prog 130 #[.int .i64 (n : Int)] w (fun e w' => e = .returned (str (Lib.decDigits n)) ∧ Keeps noB w w') := by
  have HP : Hid (DecAt w n (.int .i64 (n : Int)) (.string ⟨#[]⟩) w) := ⟨n, ⟨#[]⟩, rfl, rfl, List.append_nil _, Nat.le_of_eq (Nat.zero_add n), Keeps.refl _ _⟩
  have hn0 : (0 : Int) ≤ (n : Int) := by omega
  have hn1 : (n : Int) ≤ 1000000 := by omega
  have hnn : ¬ (n : Int) < -9223372036854775807 := by omega
  have hn2 : ¬ (n : Int) < 0 := by omega
  go_enter Try.func130, Try.ntmps130
  go_wp2_with fail
  go_loopw [0, 3] (fun v0 v3 wr => DecAt w n v0 v3 wr) (fun v0 _ _ => (intOf v0).toNat)
  case atStart => exact HP.out
  case round =>
    clear HP hnn hn2 hn0 hn1
    obtain ⟨m, out, rfl, rfl, hd, hmn, q⟩ := hrel
    have hos : 1 + (out.size : Int) ≤ 9223372036854775807 := by omega
    have hos' : 1 + out.size ≤ 9223372036854775807 := by omega
    obtain ⟨c, hce⟩ : ∃ c, UInt8.ofNat (48 + m % 10) = c := ⟨_, rfl⟩
    have hc := digit_nat (k := m % 10) (by omega)
    rw [hce] at hc
    have hconv := fun W => conv_new W wr.heap.size c
    rw [hc] at hconv
    have hm1 : (m : Int) ≤ 1000000 := by omega
    by_cases h9 : 9 < m
    · have ht : (m : Int).tmod 10 = ((m % 10 : Nat) : Int) := (Int.ofNat_tmod m 10).symm
      have hq : (m : Int).tdiv 10 = ((m / 10 : Nat) : Int) := (Int.ofNat_tdiv m 10).symm
      have HN : Hid (∀ W, Keeps noB wr W → DecAt w n (.int .i64 ((m / 10 : Nat) : Int)) (.string (⟨#[c]⟩ ++ out)) W ∧ (intOf (.int .i64 ((m / 10 : Nat) : Int))).toNat < (intOf (.int .i64 (m : Int))).toNat) := fun W qq =>
        ⟨⟨m / 10, _, rfl, rfl, by
          rw [ByteArray.data_append, Array.toList_append, ← List.append_assoc]
          show (Lib.decDigits (m / 10) ++ [c]) ++ _ = _
          rw [← hce, ← dec_big h9]; exact hd, by rw [ByteArray.size_append]; show 1 + out.size + _ ≤ _; omega, q.trans qq⟩, by simp [intOf]; omega⟩
      have hr0 : (0 : Int) ≤ ((m % 10 : Nat) : Int) := by omega
      have hr1 : ((m % 10 : Nat) : Int) ≤ 9 := by omega
      have hq0 : (0 : Int) ≤ ((m / 10 : Nat) : Int) := by omega
      have hq1 : ((m / 10 : Nat) : Int) ≤ 1000000 := by omega
      have h9' : (9 : Int) < (m : Int) := by omega
      have hwr : IntKind.u8.wrap (48 + ((m % 10 : Nat) : Int)) = 48 + ((m % 10 : Nat) : Int) := by rw [IntKind.wrap]; simp [IntKind.signed, IntKind.bits]; omega
      clear hd hc q h9 hce hmn hos'
      generalize ((m % 10 : Nat) : Int) = r at *
      generalize ((m / 10 : Nat) : Int) = d at *
      go_wp2_with fail
      refine HN.out _ ((Keeps.refl _ _).alloc _)
    · have hml : m % 10 = m := by omega
      rw [hml] at hce hc hconv
      have h9' : ¬ (9 : Int) < (m : Int) := by omega
      have h90 : (m : Int) ≤ 9 := by omega
      have h00 : (0 : Int) ≤ (m : Int) := by omega
      have hwr : IntKind.u8.wrap (48 + (m : Int)) = 48 + (m : Int) := by rw [IntKind.wrap]; simp [IntKind.signed, IntKind.bits]; omega
      have HE : Hid (∀ W, Keeps noB wr W → Value.string (⟨#[c]⟩ ++ out) = str (Lib.decDigits n) ∧ Keeps noB w W) := fun W qq =>
        ⟨str_eq (by
          rw [ByteArray.data_append, Array.toList_append, ← hd, dec_small (by omega), hce]), q.trans qq⟩
      clear hd hc q h9 hce hmn hos' hml
      generalize (m : Int) = mi at *
      go_wp2_with fail
      go_ret
      obtain ⟨h1, h2⟩ := HE.out _ ((Keeps.refl _ _).alloc _)
      exact ⟨congrArg Ending.returned h1, h2⟩

end Go.Proofs.Ytcohmhgmocdbfaa

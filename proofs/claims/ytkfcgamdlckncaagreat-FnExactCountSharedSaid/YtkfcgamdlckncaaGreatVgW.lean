/-
  Walks of the model's texts of variables: l3With, l3Without.
  The model's holder of what is known: how it lies in memory; what a store into one of its states leaves.
  Walks of the model's states: l3Set, l3Clear, l3Needs, l3Join; two of them compared.
  Walks of the model's states: l3Join.
-/
import Derived.Test.YtkfcgamdlckncaaGreatPkW
import Derived.Test.YtkfcgamdlckncaaGreatTz
import Derived.Deep.RegionHeld3
import Derived.Test.YtkfcgamdlckncaaGreatScW
import Derived.Test.YtkfcgamdlckncaaGreatSgW
import Derived.Test.YtkfcgamdlckncaaGreatIjW
import Derived.Laws.StructEq
import Derived.StillTailTactics
namespace Go.Proofs.YtkfcgamdlckncaaGreat
set_option linter.unusedVariables false
set_option linter.unusedSimpArgs false
open Go.RowKit

theorem size_arr (l : List UInt8) : (⟨l.toArray⟩ : ByteArray).size = l.length := by simp [ByteArray.size]

set_option maxRecDepth 100000 in
set_option maxHeartbeats 1000000 in
theorem swith_any (a : Nat) {v : UInt8} (hv : ltr v) (w : World) : Calls Tryz.prog 109 #[str (lets a), u8 v] w (fun e w' => e = .returned (str (lets (a ||| bitV v))) ∧ Keeps noB w w') := by
  have hsz : (⟨(lets a).toArray⟩ : ByteArray).size ≤ 6 := by rw [size_arr]; exact lets_len a
  have HS : Hid (∀ w, Calls Tryz.prog 108 #[.string ((⟨(lets a).toArray⟩ : ByteArray) ++ ⟨#[v]⟩)] w (fun e w' => e = .returned (str (lets (a ||| bitV v))) ∧ Keeps noB w w')) := fun w => by
    have := sorted_any ((⟨(lets a).toArray⟩ : ByteArray) ++ ⟨#[v]⟩) (by rw [ByteArray.size_append]; show _ + 1 ≤ _; omega) w
    rw [ByteArray.data_append, Array.toList_append] at this
    have e : sortedOf ((lets a).toArray.toList ++ (#[v] : Array UInt8).toList) = lets (a ||| bitV v) := by
      rw [List.toList_toArray]; exact lets_with a hv
    rwa [e] at this
  have hconv := fun W => conv_new W w.heap.size v
  generalize lets (a ||| bitV v) = res at *
  unfold str u8
  unfold str at HS
  generalize (⟨(lets a).toArray⟩ : ByteArray) = sa at *
  have hos : (sa.size : Int) + 1 ≤ 9223372036854775807 := by omega
  go_enter Tryz.func109, Tryz.ntmps109
  go_wp2_with (go_at_call 108; refine (HS.out _).mono ?_; rintro e w1 ⟨rfl, q1⟩)
  go_ret
  exact ⟨rfl, ((Keeps.refl _ _).alloc _).trans q1⟩

/-- What the loop of l3Without holds. -/
def WoAt (w : World) (l : List UInt8) (v : UInt8) (vo vi : Value) (wr : World) : Prop :=
  ∃ (i : Nat) (out : ByteArray), i ≤ l.length ∧ vi = .int .i64 (i : Int) ∧ vo = .string out ∧ out.data.toList = (l.take i).filter (fun u => u != v) ∧ wr = w

set_option maxRecDepth 100000 in
set_option maxHeartbeats 2000000 in
theorem swithout_any (l : List UInt8) (hl : l.length ≤ 6) (v : UInt8) (w : World) : Calls Tryz.prog 110 #[str l, u8 v] w (fun e w' => e = .returned (str (l.filter (fun u => u != v))) ∧ w' = w) := by
  obtain ⟨sv, hsv⟩ : ∃ sv : ByteArray, sv = ⟨l.toArray⟩ := ⟨_, rfl⟩
  unfold str u8
  rw [← hsv]
  have hsz : sv.size = l.length := by rw [hsv]; exact size_arr l
  have hget : ∀ (i : Nat) (hi : i < sv.size), l[i]? = some sv[i] := by
    intro i hi
    subst hsv
    rw [List.getElem?_eq_getElem (by omega)]
    rfl
  have HP : Hid (WoAt w l v (.string ⟨#[]⟩) (.int .i64 0) w) := ⟨0, ⟨#[]⟩, Nat.zero_le _, rfl, rfl, rfl, rfl⟩
  have hsz1 : (sv.size : Int) ≤ 6 := by omega
  have HS := Lib.hid hsz
  have HX : Hid (∀ (i : Nat) (hi : i < sv.size), (l.take (i + 1)).filter (fun u => u != v) = (l.take i).filter (fun u => u != v) ++ (if sv[i] = v then [] else [sv[i]])) := fun i hi => by
    rw [List.take_add_one, hget i hi, List.filter_append]
    congr 1
    by_cases h : sv[i] = v
    · simp [h]
    · simp [h]
  clear hsv hget hsz hl
  go_enter Tryz.func110, Tryz.ntmps110
  go_wp2_with fail
  go_loopw [5, 9] (fun vo vi wr => WoAt w l v vo vi wr) (fun _ vi _ => sv.size - (intOf vi).toNat)
  case atStart => exact HP.out
  case round =>
    clear HP
    obtain ⟨i, out, hil, rfl, rfl, hout, rfl⟩ := hrel
    by_cases hi : i < sv.size
    · have hnx := HX.out i hi
      have hoz : out.size ≤ 6 := by
        have e : out.size = ((l.take i).filter (fun u => u != v)).length := by rw [← hout]; simp
        rw [e]
        refine Nat.le_trans (List.length_filter_le _ _) ?_
        rw [List.length_take]
        have := HS.out
        omega
      have hi0 : (0 : Int) ≤ (i : Int) := by omega
      have hi1 : (i : Int) < (sv.size : Int) := by omega
      have h3 : ((i : Int) + 1).toNat = i + 1 := by omega
      have h5 : (i : Int) + 1 ≤ (sv.size : Int) := by omega
      have h6 : (i : Int) ≤ (i : Int) + 1 := by omega
      have h7 : (0 : Int) ≤ (i : Int) + 1 := by omega
      have hxo := extract_one hi
      have hilt : i + 1 ≤ l.length := by have := HS.out; omega
      have HN : Hid (∀ (o : ByteArray), o.data.toList = (l.take (i + 1)).filter (fun u => u != v) → WoAt wr l v (.string o) (.int .i64 ((i : Int) + 1)) wr) := fun o ho =>
        ⟨i + 1, o, hilt, by simp, rfl, ho, rfl⟩
      by_cases hv : sv[i] = v
      · rw [if_pos hv, List.append_nil] at hnx
        have HY : Hid (out.data.toList = (l.take (i + 1)).filter (fun u => u != v)) := Lib.hid (by rw [hnx, hout])
        have hne : ((sv[i].toNat : Int) != (v.toNat : Int)) = false := by rw [hv]; simp
        clear hnx hout hxo hoz HX
        obtain ⟨x1, hx1⟩ : ∃ x1 : Int, (sv[i].toNat : Int) = x1 := ⟨_, rfl⟩
        rw [hx1] at hne
        generalize (v.toNat : Int) = x2 at *
        clear hv
        go_wp2_with fail
        exact ⟨HN.out _ HY.out, by simp [intOf]; omega⟩
      · rw [if_neg hv] at hnx
        have hxz : (sv.extract i (i + 1)).size = 1 := by
          have e : (sv.extract i (i + 1)).size = (sv.extract i (i + 1)).data.toList.length := by rw [Array.length_toList]; rfl
          rw [e, hxo]; rfl
        have hcz : out.size + (sv.extract i (i + 1)).size ≤ 9223372036854775807 := by omega
        have HY : Hid ((out ++ sv.extract i (i + 1)).data.toList = (l.take (i + 1)).filter (fun u => u != v)) := Lib.hid (by rw [hnx, ByteArray.data_append, Array.toList_append, hout, hxo])
        have hne : ((sv[i].toNat : Int) != (v.toNat : Int)) = true := by
          have hne0 : ¬ (sv[i].toNat : Int) = (v.toNat : Int) := fun e => hv (UInt8.toNat_inj.1 (by omega))
          rw [bne_iff_ne]; exact hne0
        clear hnx hout hxo hoz hxz hv HX
        obtain ⟨x1, hx1⟩ : ∃ x1 : Int, (sv[i].toNat : Int) = x1 := ⟨_, rfl⟩
        rw [hx1] at hne
        generalize (v.toNat : Int) = x2 at *
        go_wp2_with fail
        exact ⟨HN.out _ HY.out, by simp [intOf]; omega⟩
    · have hie : i = l.length := by have := HS.out; omega
      have HE : Hid (Value.string out = str (l.filter (fun u => u != v))) := Lib.hid (str_eq (by rw [hout, hie, List.take_length]))
      have hi1 : ¬ (i : Int) < (sv.size : Int) := by omega
      clear hout hie HX
      go_wp2_with fail
      go_ret
      exact ⟨congrArg Ending.returned HE.out, rfl⟩

end Go.Proofs.YtkfcgamdlckncaaGreat

namespace Go.Proofs.YtkfcgamdlckncaaGreat
set_option linter.unusedVariables false
set_option linter.unusedSimpArgs false
open Go.RowKit

theorem Tryz.zeroS60 : (Tryz.prog.info? 60).map (fun i => (i.zero, i.size, i.bytes)) = some (some (.agg #[.string ⟨#[]⟩, .string ⟨#[]⟩, .bool false]), 3, 40) := by kernel_rfl

/-- What is known, as the model's three cells and as its value. -/
def stCells (k : Kn) : List Value := [str (mayL k), str (mustL k), .bool (liveK k)]
def stV (k : Kn) : Value := .agg #[str (mayL k), str (mustL k), .bool (liveK k)]
def atsC (l : AL) : List Value := l.map (fun p => i64 p.1)
def stsC (l : AL) : List Value := l.flatMap (fun p => stCells p.2)

theorem stV_no : stV Kn.no = .agg #[.string ⟨#[]⟩, .string ⟨#[]⟩, .bool false] := by
  unfold stV; rw [mayL_no, mustL_no, liveK_no]; rfl

theorem atsC_len (l : AL) : (atsC l).length = l.length * 1 := by simp [atsC]
theorem stsC_len (l : AL) : (stsC l).length = l.length * 3 := by
  induction l with
  | nil => rfl
  | cons p r ih => simp only [stsC, stCells, List.flatMap_cons, List.length_append, List.length_cons, List.length_nil] at *; omega
theorem atsC_snoc (l : AL) (i : Nat) (k : Kn) : atsC (l ++ [(i, k)]) = atsC l ++ [i64 i] := by simp [atsC]
theorem stsC_snoc (l : AL) (i : Nat) (k : Kn) : stsC (l ++ [(i, k)]) = stsC l ++ stCells k := by simp [stsC]
theorem atsC_get (pre : AL) (i : Nat) (k : Kn) (r : AL) : (atsC (pre ++ (i, k) :: r))[pre.length]? = some (i64 i) := by
  simp [atsC]
theorem stsC_at (pre : AL) (i : Nat) (k : Kn) (r : AL) : stsC (pre ++ (i, k) :: r) = stsC pre ++ (str (mayL k) :: str (mustL k) :: .bool (liveK k) :: stsC r) := by
  simp [stsC, stCells]
theorem stsC_get (pre : AL) (i : Nat) (k : Kn) (r : AL) : (stsC (pre ++ (i, k) :: r))[pre.length * 3]? = some (str (mayL k)) ∧ (stsC (pre ++ (i, k) :: r))[pre.length * 3 + 1]? = some (str (mustL k)) ∧ (stsC (pre ++ (i, k) :: r))[pre.length * 3 + 2]? = some (.bool (liveK k)) := by
  rw [stsC_at, ← stsC_len pre]
  refine ⟨?_, ?_, ?_⟩
  · simp
  · rw [List.getElem?_append_right (by omega)]; simp
  · rw [List.getElem?_append_right (by omega)]; simp
theorem stsC_set (pre : AL) (i : Nat) (k t : Kn) (r : AL) : (((stsC (pre ++ (i, k) :: r)).set (pre.length * 3) (str (mayL t))).set (pre.length * 3 + 1) (str (mustL t))).set (pre.length * 3 + 2) (.bool (liveK t)) = stsC (pre ++ (i, t) :: r) := by
  rw [stsC_at, stsC_at, ← stsC_len pre]
  rw [List.set_append_right _ _ (by omega), List.set_append_right _ _ (by omega), List.set_append_right _ _ (by omega)]
  simp
theorem atsC_set (pre : AL) (i : Nat) (k t : Kn) (r : AL) : atsC (pre ++ (i, k) :: r) = atsC (pre ++ (i, t) :: r) := by simp [atsC]

/-- A cell of a row of one's own is stored into. -/
theorem ownsRow_put {w : World} {e : TypeId} {size n c g : Nat} {xs : List Value} (h : w.ownsRow 0 e size (.slice (some ⟨g, 0, none⟩) n c) n xs) (j : Nat) (hj : j < n * size) (u : Value) :
    (w.setCell ⟨g, j, none⟩ u).ownsRow 0 e size (.slice (some ⟨g, 0, none⟩) n c) n (xs.set j u) := by
  obtain ⟨h1, h2⟩ := h
  refine ⟨by simpa using h1, ?_⟩
  rcases h2 with ⟨h2, _⟩ | ⟨g', cap, cur, hv, hb, hh, hc, hm, hs, ht⟩
  · cases h2
  · obtain ⟨rfl, rfl⟩ : g = g' ∧ c = cap := by simpa using hv
    refine .inr ⟨g, c, cur.setIfInBounds j u, rfl, hb, ?_, hc, hm, by simpa using hs, ?_⟩
    · have hlt : g < w.heap.size := lt_of_block hh
      have h' : w.heap[g] = .cells cur e (0, 0) := by simpa [Array.getElem?_eq_getElem hlt] using hh
      show (w.heap.modify g _)[g]? = _
      rw [Array.getElem?_eq_getElem (by simpa using hlt), Array.getElem_modify_self, h']
      rfl
    · rw [Array.toList_setIfInBounds, List.take_set, ht]

/-- The model's holder in memory; 'own': the blocks that are its own. -/
structure HoldAt (w : World) (own : Nat → Prop) (h : Nat) (l : AL) (va vs : Value) : Prop where
  blk : Blk w h #[va, vs] 90
  ats : w.ownsRow 0 3 1 va l.length (atsC l)
  sts : w.ownsRow 0 60 3 vs l.length (stsC l)
  mine : own h
  ownA : ∀ g, va.ownBlock = some g → own g ∧ g ≠ h ∧ vs.ownBlock ≠ some g
  ownS : ∀ g, vs.ownBlock = some g → own g ∧ g ≠ h
  ok : AOk l

theorem HoldAt.shape {w : World} {own : Nat → Prop} {h : Nat} {l : AL} {va vs : Value} (H : HoldAt w own h l va vs) : (∃ a c, va = .slice a l.length c) ∧ ∃ a c, vs = .slice a l.length c :=
  ⟨row_shape (ok := fun _ => True) ⟨H.ats, fun _ _ => trivial⟩, row_shape (ok := fun _ => True) ⟨H.sts, fun _ _ => trivial⟩⟩

theorem HoldAt.keeps {w W : World} {own : Nat → Prop} {h : Nat} {l : AL} {va vs : Value} {may : Nat → Prop} (H : HoldAt w own h l va vs) (q : Keeps may w W) (hm : ∀ g, own g → ¬ may g) : HoldAt W own h l va vs :=
  ⟨q.blk H.blk (hm h H.mine), q.ownsRow H.ats (fun g hg _ => hm g (H.ownA g hg).1), q.ownsRow H.sts (fun g hg _ => hm g (H.ownS g hg).1), H.mine, H.ownA, H.ownS, H.ok⟩
theorem HoldAt.quiet {w W : World} {own : Nat → Prop} {h : Nat} {l : AL} {va vs : Value} (H : HoldAt w own h l va vs) (q : Keeps noB w W) : HoldAt W own h l va vs := H.keeps q (fun _ _ => id)

/-- How a call ends that leaves the holder with these notes. -/
def Notes1 (w : World) (own : Nat → Prop) (h : Nat) (M : Notes) (v : Value) (e : Ending) (w' : World) : Prop :=
  ∃ own' l va vs, e = .returned v ∧ Owns own own' w w' ∧ HoldAt w' own' h l va vs ∧ lookL l = M

theorem Notes1.after {w w1 : World} {own own1 : Nat → Prop} {h : Nat} {M : Notes} {v : Value} {e : Ending} {w' : World} (ho : Owns own own1 w w1) (H : Notes1 w1 own1 h M v e w') : Notes1 w own h M v e w' := by
  obtain ⟨own', l, va, vs, he, hO, hR, hM⟩ := H
  exact ⟨own', l, va, vs, he, ho.trans hO, hR, hM⟩

/-- A state is noted at a place that is noted. -/
theorem hold_set {w : World} {own : Nat → Prop} {h g c i : Nat} {pre r : AL} {t s : Kn} {va : Value} (H : HoldAt w own h (pre ++ (i, t) :: r) va (.slice (some ⟨g, 0, none⟩) (pre ++ (i, t) :: r).length c)) (hlt : ∀ k, own k → k < w.heap.size) (hs : s.Wf) (hi : i ∉ keysL pre) :
    Owns own own w (((w.setCell ⟨g, pre.length * 3, none⟩ (str (mayL (t.join s)))).setCell ⟨g, pre.length * 3 + 1, none⟩ (str (mustL (t.join s)))).setCell ⟨g, pre.length * 3 + 2, none⟩ (.bool (liveK (t.join s)))) ∧
    HoldAt (((w.setCell ⟨g, pre.length * 3, none⟩ (str (mayL (t.join s)))).setCell ⟨g, pre.length * 3 + 1, none⟩ (str (mustL (t.join s)))).setCell ⟨g, pre.length * 3 + 2, none⟩ (.bool (liveK (t.join s)))) own h
      (putL (pre ++ (i, t) :: r) i s) va (.slice (some ⟨g, 0, none⟩) (putL (pre ++ (i, t) :: r) i s).length c) := by
  have hg := H.ownS g rfl
  have hA : ∀ g', va.ownBlock = some g' → g' ≠ g := fun g' e e2 => (H.ownA g' e).2.2 (by rw [e2]; rfl)
  have hn : (pre ++ (i, t) :: r).length = pre.length + (r.length + 1) := by simp
  have q : Keeps (oneB g) w (((w.setCell ⟨g, pre.length * 3, none⟩ (str (mayL (t.join s)))).setCell ⟨g, pre.length * 3 + 1, none⟩ (str (mustL (t.join s)))).setCell ⟨g, pre.length * 3 + 2, none⟩ (.bool (liveK (t.join s)))) :=
    (((Keeps.refl _ _).setCell (.inl (show oneB g g from rfl)) _).setCell (.inl (show oneB g g from rfl)) _).setCell (.inl (show oneB g g from rfl)) _
  have hok : AOk (putL (pre ++ (i, t) :: r) i s) := H.ok.put (H.ok.lt (i, t) (by simp)).1 hs
  have hlen : (putL (pre ++ (i, t) :: r) i s).length = (pre ++ (i, t) :: r).length := by rw [putL_at pre t s r hi]; simp
  refine ⟨⟨fun k hk => .inl hk, fun k hk => Nat.lt_of_lt_of_le (hlt k hk) q.size, q.mono (fun k e => by cases e; exact hg.1)⟩, ?_⟩
  rw [hlen]
  refine ⟨q.blk H.blk (fun e => hg.2 e.symm), ?_, ?_, H.mine, H.ownA, H.ownS, hok⟩
  · have := q.ownsRow H.ats (fun g' e _ e2 => hA g' e e2)
    rw [hlen, putL_at pre t s r hi, ← atsC_set pre i t (t.join s) r]
    exact this
  · have h1 := ownsRow_put H.sts (pre.length * 3) (by omega) (str (mayL (t.join s)))
    have h2 := ownsRow_put h1 (pre.length * 3 + 1) (by omega) (str (mustL (t.join s)))
    have h3 := ownsRow_put h2 (pre.length * 3 + 2) (by omega) (.bool (liveK (t.join s)))
    rw [stsC_set] at h3
    rw [hlen, putL_at pre t s r hi]
    exact h3

end Go.Proofs.YtkfcgamdlckncaaGreat

namespace Go.Proofs.YtkfcgamdlckncaaGreat
set_option linter.unusedVariables false
set_option linter.unusedSimpArgs false
open Go.RowKit

/-- A result that lies in a cell of its own: a state. -/
theorem resSt {f : Func} {t : Tmp} (hf : f.results = #[.cell t 60]) (W : World) (N : Nat) (a b : ByteArray) (c : Bool) (tmps : Array Value) (h : tmps.getD t undef = .pointer (some ⟨N, 0, none⟩))
    (c0 : W.cell? ⟨N, 0, none⟩ = some (.string a)) (c1 : W.cell? ⟨N, 1, none⟩ = some (.string b)) (c2 : W.cell? ⟨N, 2, none⟩ = some (.bool c)) : (results f tmps).run Tryz.prog W = .ok (.agg #[.string a, .string b, .bool c]) W := by
  have h' : tmps[t]?.getD undef = .pointer (some ⟨N, 0, none⟩) := by simpa using h
  simp [results, hf, go_sem, h', c0, c1, c2]

/-- The boxes of a function that has a state of its own and answers with one. -/
structure StBox (w w1 : World) (a b : ByteArray) (c : Bool) : Prop where
  q : Keeps noB w w1
  bA : Blk w1 w.heap.size #[.string a, .string b, .bool c] 60
  bB : Blk w1 (w.heap.size + 1) #[.string ⟨#[]⟩, .string ⟨#[]⟩, .bool false] 60

theorem StBox.start {w w1 : World} {a b : ByteArray} {c : Bool} (q : Keeps noB ((w.alloc (.cells #[.string a, .string b, .bool c] 60)).alloc (.cells #[.string ⟨#[]⟩, .string ⟨#[]⟩, .bool false] 60)) w1) : StBox w w1 a b c := by
  have hA := (Blk.new w #[.string a, .string b, .bool c] 60).alloc (.cells #[.string ⟨#[]⟩, .string ⟨#[]⟩, .bool false] 60)
  have hB := Blk.new (w.alloc (.cells #[.string a, .string b, .bool c] 60)) #[.string ⟨#[]⟩, .string ⟨#[]⟩, .bool false] 60
  have hZ : (w.alloc (.cells #[.string a, .string b, .bool c] 60)).heap.size = w.heap.size + 1 := by simp only [World.alloc, Array.size_push]
  rw [hZ] at hB
  exact ⟨(((Keeps.refl _ w).alloc _).alloc _).trans q, q.blk hA id, q.blk hB id⟩
theorem StBox.keeps {w w1 w2 : World} {a b : ByteArray} {c : Bool} (h : StBox w w1 a b c) (q : Keeps noB w1 w2) : StBox w w2 a b c := ⟨h.q.trans q, q.blk h.bA id, q.blk h.bB id⟩
theorem StBox.may {w w1 : World} {a b : ByteArray} {c : Bool} (h : StBox w w1 a b c) (x : ByteArray) : StBox w (w1.setCell ⟨w.heap.size, 0, none⟩ (.string x)) x b c :=
  ⟨h.q.setCell (p := ⟨w.heap.size, 0, none⟩) (.inr (Nat.le_refl _)) _, h.bA.set 0 _, h.bB.setOther (by show w.heap.size ≠ w.heap.size + 1; omega) _⟩
theorem StBox.must {w w1 : World} {a b : ByteArray} {c : Bool} (h : StBox w w1 a b c) (x : ByteArray) : StBox w (w1.setCell ⟨w.heap.size, 1, none⟩ (.string x)) a x c :=
  ⟨h.q.setCell (p := ⟨w.heap.size, 1, none⟩) (.inr (Nat.le_refl _)) _, h.bA.set 1 _, h.bB.setOther (by show w.heap.size ≠ w.heap.size + 1; omega) _⟩
def StCells (w w1 : World) (a b : ByteArray) (c : Bool) : Prop :=
  w1.cell? ⟨w.heap.size, 0, none⟩ = some (.string a) ∧ w1.cell? ⟨w.heap.size, 1, none⟩ = some (.string b) ∧ w1.cell? ⟨w.heap.size, 2, none⟩ = some (.bool c) ∧
  w1.cell? ⟨w.heap.size + 1, 0, none⟩ = some (.string ⟨#[]⟩) ∧ w1.cell? ⟨w.heap.size + 1, 1, none⟩ = some (.string ⟨#[]⟩) ∧ w1.cell? ⟨w.heap.size + 1, 2, none⟩ = some (.bool false) ∧
  w1.frozen? ⟨w.heap.size, 0, none⟩ = false ∧ w1.frozen? ⟨w.heap.size, 1, none⟩ = false ∧ w1.frozen? ⟨w.heap.size, 2, none⟩ = false ∧ w1.frozen? ⟨w.heap.size + 1, 0, none⟩ = false ∧ w1.frozen? ⟨w.heap.size + 1, 1, none⟩ = false ∧ w1.frozen? ⟨w.heap.size + 1, 2, none⟩ = false
theorem StBox.cells {w w1 : World} {a b : ByteArray} {c : Bool} (h : StBox w w1 a b c) : StCells w w1 a b c :=
  ⟨(h.bA.cell 0).trans rfl, (h.bA.cell 1).trans rfl, (h.bA.cell 2).trans rfl, (h.bB.cell 0).trans rfl, (h.bB.cell 1).trans rfl, (h.bB.cell 2).trans rfl, h.bA.free 0, h.bA.free 1, h.bA.free 2, h.bB.free 0, h.bB.free 1, h.bB.free 2⟩
/-- The answer is stored. -/
theorem StBox.done {w w1 : World} {a b : ByteArray} {c : Bool} (h : StBox w w1 a b c) (x y z : Value) :
    (((w1.setCell ⟨w.heap.size + 1, 0, none⟩ x).setCell ⟨w.heap.size + 1, 1, none⟩ y).setCell ⟨w.heap.size + 1, 2, none⟩ z).cell? ⟨w.heap.size + 1, 0, none⟩ = some x ∧
    (((w1.setCell ⟨w.heap.size + 1, 0, none⟩ x).setCell ⟨w.heap.size + 1, 1, none⟩ y).setCell ⟨w.heap.size + 1, 2, none⟩ z).cell? ⟨w.heap.size + 1, 1, none⟩ = some y ∧
    (((w1.setCell ⟨w.heap.size + 1, 0, none⟩ x).setCell ⟨w.heap.size + 1, 1, none⟩ y).setCell ⟨w.heap.size + 1, 2, none⟩ z).cell? ⟨w.heap.size + 1, 2, none⟩ = some z ∧
    Keeps noB w (((w1.setCell ⟨w.heap.size + 1, 0, none⟩ x).setCell ⟨w.heap.size + 1, 1, none⟩ y).setCell ⟨w.heap.size + 1, 2, none⟩ z) := by
  have b2 := ((h.bB.set 0 x).set 1 y).set 2 z
  exact ⟨(b2.cell 0).trans rfl, (b2.cell 1).trans rfl, (b2.cell 2).trans rfl, ((h.q.setCell (p := ⟨w.heap.size + 1, 0, none⟩) (.inr (by show w.heap.size ≤ w.heap.size + 1; omega)) _).setCell (p := ⟨w.heap.size + 1, 1, none⟩) (.inr (by show w.heap.size ≤ w.heap.size + 1; omega)) _).setCell (p := ⟨w.heap.size + 1, 2, none⟩) (.inr (by show w.heap.size ≤ w.heap.size + 1; omega)) _⟩

def mayB (k : Kn) : ByteArray := ⟨(mayL k).toArray⟩
def mustB (k : Kn) : ByteArray := ⟨(mustL k).toArray⟩
theorem stV_eq (k : Kn) : stV k = .agg #[.string (mayB k), .string (mustB k), .bool (liveK k)] := rfl

set_option maxRecDepth 100000 in
set_option maxHeartbeats 4000000 in
theorem sset_any (k : Kn) (hk : k.Wf) (hn : k ≠ Kn.no) {v : UInt8} (hv : ltr v) (w : World) : Calls Tryz.prog 83 #[stV k, u8 v] w (fun e w' => e = .returned (stV (k.changed (bitV v) 0)) ∧ Keeps noB w w') := by
  have H1 := Lib.hid (fun w => swith_any k.may hv w)
  have H2 := Lib.hid (fun w => swith_any k.must hv w)
  have hr : k.changed (bitV v) 0 = k.set v := (val_make hk hn hv).symm
  have hne : k.set v ≠ Kn.no := by rw [← hr]; exact changed_live hk hn (bitV_lt hv)
  have e1 : stV k = .agg #[str (lets k.may), str (lets k.must), .bool true] := by unfold stV mayL; rw [mustL_live hn, liveK_yes hn]
  have e2 : stV (k.set v) = .agg #[str (lets (k.may ||| bitV v)), str (lets (k.must ||| bitV v)), .bool true] := by unfold stV mayL; rw [mustL_live hne, liveK_yes hne]; rfl
  rw [hr, e1, e2]
  clear hr hne e1 e2 hk hn hv
  unfold str u8 at *
  generalize (⟨(lets k.may).toArray⟩ : ByteArray) = a0 at *
  generalize (⟨(lets k.must).toArray⟩ : ByteArray) = b0 at *
  generalize (⟨(lets (k.may ||| bitV v)).toArray⟩ : ByteArray) = a1 at *
  generalize (⟨(lets (k.must ||| bitV v)).toArray⟩ : ByteArray) = b1 at *
  have HB := Lib.hid (fun w1 q => StBox.start (w := w) (w1 := w1) (a := a0) (b := b0) (c := true) q)
  obtain ⟨c1, hc1⟩ : ∃ c1 : Bool, c1 = true := ⟨_, rfl⟩
  rw [← hc1] at HB ⊢
  clear hc1
  go_enter Tryz.func83, Tryz.ntmps83
  go_wp2_with (first
    | (go_at_call 109; have hgd := HX.out; refine (H2.out _).mono ?_; rintro e2 w2 ⟨rfl, q2⟩; have hb := HX.out.keeps q2; have ⟨s0, s1, s2, s3, s4, s5, s6, s7, s8, s9, s10, s11⟩ := hb.cells; have HY := Lib.hid ((hb.must b1).done (.string a1) (.string b1) (.bool c1)); clear q2 hb hgd)
    | (go_at_call 109; refine (H1.out _).mono ?_; rintro e1 w1 ⟨rfl, q1⟩; have hb := HB.out w1 q1; have ⟨t0, t1, t2, t3, t4, t5, t6, t7, t8, t9, t10, t11⟩ := hb.cells; have HX := Lib.hid (hb.may a1); clear q1 hb))
  obtain ⟨f0, f1, f2, f3⟩ := HY.out
  exact bodyPost_ret (resSt Tryz.results83 _ (w.heap.size + 1) _ _ _ _ rfl f0 f1 f2) rfl ⟨rfl, f3⟩

theorem filter_none {l : List UInt8} (v : UInt8) (h : l = []) : l.filter (fun u => u != v) = [] := by rw [h]; rfl

/-- What is cleared, as the model's state. -/
theorem clear_cells {k : Kn} (hk : k.Wf) {v : UInt8} (hv : ltr v) : mayL (k.changed 0 (bitV v)) = (mayL k).filter (fun u => u != v) ∧ mustL (k.changed 0 (bitV v)) = (mustL k).filter (fun u => u != v) ∧ liveK (k.changed 0 (bitV v)) = liveK k := by
  by_cases hn : k = Kn.no
  · subst hn
    have e : Kn.no.changed 0 (bitV v) = Kn.no := by simp [Kn.changed]
    rw [e]
    refine ⟨by rw [mayL_no]; rfl, by rw [mustL_no]; rfl, rfl⟩
  · have hne := changed_live (f := 0) (e := bitV v) hk hn (by omega)
    have e := (val_clear hk hn v).symm
    refine ⟨?_, ?_, by rw [liveK_yes hn, liveK_yes hne]⟩
    · rw [e]; unfold mayL; rw [lets_strike _ hv]; rfl
    · rw [mustL_live hne, mustL_live hn, lets_strike _ hv, e]; rfl

set_option maxRecDepth 100000 in
set_option maxHeartbeats 4000000 in
theorem sclear_any (k : Kn) (hk : k.Wf) {v : UInt8} (hv : ltr v) (w : World) : Calls Tryz.prog 85 #[stV k, u8 v] w (fun e w' => e = .returned (stV (k.changed 0 (bitV v))) ∧ Keeps noB w w') := by
  have H1 := Lib.hid (fun w => (swithout_any (mayL k) (mayL_len k) v w).mono (fun e w' h => And.intro h.1 (show Keeps noB w w' by rw [h.2]; exact Keeps.refl _ _)))
  have H2 := Lib.hid (fun w => (swithout_any (mustL k) (mustL_len k) v w).mono (fun e w' h => And.intro h.1 (show Keeps noB w w' by rw [h.2]; exact Keeps.refl _ _)))
  obtain ⟨e1, e2, e3⟩ := clear_cells hk hv
  rw [← e1] at H1
  rw [← e2] at H2
  have hs : stV (k.changed 0 (bitV v)) = .agg #[str (mayL (k.changed 0 (bitV v))), str (mustL (k.changed 0 (bitV v))), .bool (liveK k)] := by rw [← e3]; rfl
  rw [hs]
  unfold stV
  clear hk hv e1 e2 e3 hs
  generalize k.changed 0 (bitV v) = k1 at *
  unfold str u8 at *
  generalize (⟨(mayL k).toArray⟩ : ByteArray) = a0 at *
  generalize (⟨(mustL k).toArray⟩ : ByteArray) = b0 at *
  generalize (⟨(mayL k1).toArray⟩ : ByteArray) = a1 at *
  generalize (⟨(mustL k1).toArray⟩ : ByteArray) = b1 at *
  generalize liveK k = c1 at *
  have HB := Lib.hid (fun w1 q => StBox.start (w := w) (w1 := w1) (a := a0) (b := b0) (c := c1) q)
  go_enter Tryz.func85, Tryz.ntmps85
  go_wp2_with (first
    | (go_at_call 110; have hgd := HX.out; refine (H2.out _).mono ?_; rintro e2 w2 ⟨rfl, q2⟩; have hb := HX.out.keeps q2; have ⟨s0, s1, s2, s3, s4, s5, s6, s7, s8, s9, s10, s11⟩ := hb.cells; have HY := Lib.hid ((hb.must b1).done (.string a1) (.string b1) (.bool c1)); clear q2 hb hgd)
    | (go_at_call 110; refine (H1.out _).mono ?_; rintro e1 w1 ⟨rfl, q1⟩; have hb := HB.out w1 q1; have ⟨t0, t1, t2, t3, t4, t5, t6, t7, t8, t9, t10, t11⟩ := hb.cells; have HX := Lib.hid (hb.may a1); clear q1 hb))
  obtain ⟨f0, f1, f2, f3⟩ := HY.out
  exact bodyPost_ret (resSt Tryz.results85 _ (w.heap.size + 1) _ _ _ _ rfl f0 f1 f2) rfl ⟨rfl, f3⟩

/-- What is known where a variable is needed, as the model has it. -/
def Kn.used (k : Kn) (v : UInt8) : Kn := (k.needs v).changed (bitV v) 0

set_option maxRecDepth 100000 in
set_option maxHeartbeats 4000000 in
theorem sneeds_any (k : Kn) (hk : k.Wf) {v : UInt8} (hv : ltr v) (w : World) : Calls Tryz.prog 84 #[stV k, u8 v] w (fun e w' => e = .returned (stV (k.used v)) ∧ Keeps noB w w') := by
  have HF := Lib.hid (fun w => find_any (mayB k) v w (by unfold mayB; rw [size_arr]; have := mayL_len k; omega))
  have hfl : (mayB k).data.toList = mayL k := by unfold mayB; rw [List.toList_toArray]
  by_cases hn : k = Kn.no
  · have hu : k.used v = Kn.no := by
      have : hasV k.may v = false := by rw [hn]; unfold hasV Kn.no; simp
      unfold Kn.used Kn.needs
      rw [this]
      simp [Kn.changed]
    have hl : liveK k = false := by rw [hn]; exact liveK_no
    rw [hu, stV_no, stV_eq, hl]
    generalize mayB k = a0 at *
    generalize mustB k = b0 at *
    have HB := Lib.hid (fun w1 q => StBox.start (w := w) (w1 := w1) (a := a0) (b := b0) (c := false) q)
    clear hu hl hfl hn hk
    unfold u8 at *
    go_enter Tryz.func84, Tryz.ntmps84
    go_wp2_with fail
    have hb := HB.out _ (Keeps.refl _ _)
    obtain ⟨_, _, _, f0, f1, f2, _⟩ := hb.cells
    exact bodyPost_ret (resSt Tryz.results84 _ (w.heap.size + 1) _ _ _ _ rfl f0 f1 f2) rfl ⟨rfl, hb.q⟩
  · have hl : liveK k = true := liveK_yes hn
    cases hh : hasV k.may v with
    | false =>
      have hu : k.used v = Kn.no := by
        unfold Kn.used Kn.needs
        rw [hh]
        simp [Kn.changed]
      have hf : findI (mayB k) v = -1 := findI_not (by
        rw [hfl]
        intro hm
        have := (mem_lets.1 hm).2
        rw [hh] at this; cases this)
      rw [hf] at HF
      rw [hu, stV_no, stV_eq, hl]
      generalize mayB k = a0 at *
      generalize mustB k = b0 at *
      have HB := Lib.hid (fun w1 q => StBox.start (w := w) (w1 := w1) (a := a0) (b := b0) (c := true) q)
      clear hu hl hfl hn hk hf hh
      unfold u8 at *
      go_enter Tryz.func84, Tryz.ntmps84
      go_wp2_with (go_at_call 40; refine (HF.out _).mono ?_; rintro e1 w1 ⟨rfl, rfl⟩)
      have hb := HB.out _ (Keeps.refl _ _)
      obtain ⟨_, _, _, f0, f1, f2, _⟩ := hb.cells
      exact bodyPost_ret (resSt Tryz.results84 _ (w.heap.size + 1) _ _ _ _ rfl f0 f1 f2) rfl ⟨rfl, hb.q⟩
    | true =>
      have hu : k.used v = k.need v := by
        unfold Kn.used Kn.needs
        rw [hh]
        exact (val_use hk hn hv hh).symm
      have hne : k.need v ≠ Kn.no := by
        rw [val_use hk hn hv hh]; exact changed_live hk hn (bitV_lt hv)
      have hf : 0 ≤ findI (mayB k) v := findI_mem (by rw [hfl]; exact mem_lets.2 ⟨hv, hh⟩)
      have e2 : stV (k.used v) = .agg #[.string (mayB k), str (lets (k.must ||| bitV v)), .bool true] := by
        rw [hu, stV_eq, liveK_yes hne]
        unfold mustB; rw [mustL_live hne]; rfl
      have H2 := Lib.hid (fun w => swith_any k.must hv w)
      have hmb : str (lets k.must) = .string (mustB k) := by unfold mustB; rw [mustL_live hn]; rfl
      rw [hmb] at H2
      rw [e2, stV_eq, hl]
      generalize findI (mayB k) v = fi at *
      generalize mayB k = a0 at *
      generalize mustB k = b0 at *
      unfold str u8 at *
      generalize (⟨(lets (k.must ||| bitV v)).toArray⟩ : ByteArray) = b1 at *
      have HB := Lib.hid (fun w1 q => StBox.start (w := w) (w1 := w1) (a := a0) (b := b0) (c := true) q)
      clear hu hl hfl hn hk hh hne e2 hmb
      go_enter Tryz.func84, Tryz.ntmps84
      go_wp2_with (first
        | (go_at_call 40; refine (HF.out _).mono ?_; rintro e1 w1 ⟨rfl, rfl⟩)
        | (go_at_call 109; refine (H2.out _).mono ?_; rintro e2 w2 ⟨rfl, q2⟩; have hb := HB.out w2 q2; have ⟨s0, s1, s2, s3, s4, s5, s6, s7, s8, s9, s10, s11⟩ := hb.cells; have HY := Lib.hid ((hb.must b1).done (.string a0) (.string b1) (.bool true)); clear q2 hb))
      obtain ⟨f0, f1, f2, f3⟩ := HY.out
      exact bodyPost_ret (resSt Tryz.results84 _ (w.heap.size + 1) _ _ _ _ rfl f0 f1 f2) rfl ⟨rfl, f3⟩

/-! ### two states compared -/
theorem st_same (a b : Kn) (ha : a.Wf) (hb : b.Wf) (w : World) : (Op.equalIn 10000 60 (stV a) (stV b)).run Tryz.prog w = .ok (decide (a = b)) w := by
  have hS : Tryz.prog.underlying 60 = some (.struct (Tryz.prog.fieldsOf 60)) := by kernel_rfl
  have hp : Tryz.prog.stoodInHeld 60 = false := by kernel_rfl
  rw [stV_eq, stV_eq, show (10000 : Nat) = 9999 + 1 from rfl, run_equalIn_agg w 9999 60 _ _ hS hp]
  have hT : ∀ l : List UInt8, (⟨l.toArray⟩ : ByteArray).toList = l := fun l => by rw [Go.ByteArray.toList_eq]
  simp [Program.fieldsOf, Tryz.underlying60, go_sem]
  unfold mayB mustB
  simp only [hT]
  by_cases e : a = b
  · subst e; simp
  · by_cases h1 : mayL a = mayL b
    · by_cases h2 : mustL a = mustL b
      · have h3 : ¬ liveK a = liveK b := fun h3 => e (stK_inj ha hb h1 h2 h3)
        simp [h1, h2, h3, e]
      · simp [h1, h2, e]
    · simp [h1, e]

theorem st_eql (a b : Kn) (ha : a.Wf) (hb : b.Wf) (w : World) : (binOp .eql 60 (stV a) (stV b)).run Tryz.prog w = .ok (.bool (decide (a = b))) w := by
  have h := st_same a b ha hb w
  rw [stV_eq, stV_eq] at *
  rw [run_eql_struct, h]
  simp [Result.andThen]

theorem st_guard (a b : Kn) (x y : Operand) (w : World) : (eqGuard .eql 60 x y (stV a) (stV b)).run Tryz.prog w = .ok () w := by
  rw [stV_eq, stV_eq]
  exact run_eqGuard_agg w _ _ x y _ _ (by kernel_rfl)

end Go.Proofs.YtkfcgamdlckncaaGreat

namespace Go.Proofs.YtkfcgamdlckncaaGreat
set_option linter.unusedVariables false
set_option linter.unusedSimpArgs false
open Go.RowKit

/-- A box of three cells. -/
def Box3 (W : World) (N : Nat) (a b : ByteArray) (c : Bool) : Prop := Blk W N #[.string a, .string b, .bool c] 60

theorem three_new (w : World) (a0 b0 a1 b1 : ByteArray) (c0 c1 : Bool) :
    Box3 (((w.alloc (.cells #[.string a0, .string b0, .bool c0] 60)).alloc (.cells #[.string a1, .string b1, .bool c1] 60)).alloc (.cells #[.string ⟨#[]⟩, .string ⟨#[]⟩, .bool false] 60)) w.heap.size a0 b0 c0 ∧
    Box3 (((w.alloc (.cells #[.string a0, .string b0, .bool c0] 60)).alloc (.cells #[.string a1, .string b1, .bool c1] 60)).alloc (.cells #[.string ⟨#[]⟩, .string ⟨#[]⟩, .bool false] 60)) (w.heap.size + 1) a1 b1 c1 ∧
    Box3 (((w.alloc (.cells #[.string a0, .string b0, .bool c0] 60)).alloc (.cells #[.string a1, .string b1, .bool c1] 60)).alloc (.cells #[.string ⟨#[]⟩, .string ⟨#[]⟩, .bool false] 60)) (w.heap.size + 1 + 1) ⟨#[]⟩ ⟨#[]⟩ false := by
  have hZ : (w.alloc (.cells #[.string a0, .string b0, .bool c0] 60)).heap.size = w.heap.size + 1 := by simp only [World.alloc, Array.size_push]
  have hZ2 : ((w.alloc (.cells #[.string a0, .string b0, .bool c0] 60)).alloc (.cells #[.string a1, .string b1, .bool c1] 60)).heap.size = w.heap.size + 1 + 1 := by simp only [World.alloc, Array.size_push]
  have hA := ((Blk.new w #[.string a0, .string b0, .bool c0] 60).alloc (.cells #[.string a1, .string b1, .bool c1] 60)).alloc (.cells #[.string ⟨#[]⟩, .string ⟨#[]⟩, .bool false] 60)
  have hB := (Blk.new (w.alloc (.cells #[.string a0, .string b0, .bool c0] 60)) #[.string a1, .string b1, .bool c1] 60).alloc (.cells #[.string ⟨#[]⟩, .string ⟨#[]⟩, .bool false] 60)
  have hC := Blk.new ((w.alloc (.cells #[.string a0, .string b0, .bool c0] 60)).alloc (.cells #[.string a1, .string b1, .bool c1] 60)) #[.string ⟨#[]⟩, .string ⟨#[]⟩, .bool false] 60
  rw [hZ] at hB
  rw [hZ2] at hC
  exact ⟨hA, hB, hC⟩

theorem third_new (w : World) (a0 b0 a1 b1 a2 b2 : ByteArray) (c0 c1 c2 : Bool) :
    Box3 (((w.alloc (.cells #[.string a0, .string b0, .bool c0] 60)).alloc (.cells #[.string a1, .string b1, .bool c1] 60)).alloc (.cells #[.string a2, .string b2, .bool c2] 60)) (w.heap.size + 1 + 1) a2 b2 c2 := by
  have hZ2 : ((w.alloc (.cells #[.string a0, .string b0, .bool c0] 60)).alloc (.cells #[.string a1, .string b1, .bool c1] 60)).heap.size = w.heap.size + 1 + 1 := by simp only [World.alloc, Array.size_push]
  have hC := Blk.new ((w.alloc (.cells #[.string a0, .string b0, .bool c0] 60)).alloc (.cells #[.string a1, .string b1, .bool c1] 60)) #[.string a2, .string b2, .bool c2] 60
  rw [hZ2] at hC
  exact hC

/-- The three boxes of l3Join. -/
structure JoBox (w w1 : World) (a0 b0 a1 b1 : ByteArray) (c0 c1 : Bool) : Prop where
  q : Keeps noB w w1
  bA : Box3 w1 w.heap.size a0 b0 c0
  bB : Box3 w1 (w.heap.size + 1) a1 b1 c1
  bC : Box3 w1 (w.heap.size + 1 + 1) ⟨#[]⟩ ⟨#[]⟩ false
theorem JoBox.start {w w1 : World} {a0 b0 a1 b1 : ByteArray} {c0 c1 : Bool} (q : Keeps noB (((w.alloc (.cells #[.string a0, .string b0, .bool c0] 60)).alloc (.cells #[.string a1, .string b1, .bool c1] 60)).alloc (.cells #[.string ⟨#[]⟩, .string ⟨#[]⟩, .bool false] 60)) w1) : JoBox w w1 a0 b0 a1 b1 c0 c1 := by
  obtain ⟨h1, h2, h3⟩ := three_new w a0 b0 a1 b1 c0 c1
  exact ⟨((((Keeps.refl _ w).alloc _).alloc _).alloc _).trans q, q.blk h1 id, q.blk h2 id, q.blk h3 id⟩
theorem JoBox.keeps {w w1 w2 : World} {a0 b0 a1 b1 : ByteArray} {c0 c1 : Bool} (h : JoBox w w1 a0 b0 a1 b1 c0 c1) (q : Keeps noB w1 w2) : JoBox w w2 a0 b0 a1 b1 c0 c1 := ⟨h.q.trans q, q.blk h.bA id, q.blk h.bB id, q.blk h.bC id⟩
def JoCells (w w1 : World) (a0 b0 a1 b1 : ByteArray) (c0 c1 : Bool) : Prop :=
  w1.cell? ⟨w.heap.size, 0, none⟩ = some (.string a0) ∧ w1.cell? ⟨w.heap.size, 1, none⟩ = some (.string b0) ∧ w1.cell? ⟨w.heap.size, 2, none⟩ = some (.bool c0) ∧
  w1.cell? ⟨w.heap.size + 1, 0, none⟩ = some (.string a1) ∧ w1.cell? ⟨w.heap.size + 1, 1, none⟩ = some (.string b1) ∧ w1.cell? ⟨w.heap.size + 1, 2, none⟩ = some (.bool c1) ∧
  w1.cell? ⟨w.heap.size + 1 + 1, 0, none⟩ = some (.string ⟨#[]⟩) ∧ w1.cell? ⟨w.heap.size + 1 + 1, 1, none⟩ = some (.string ⟨#[]⟩) ∧ w1.cell? ⟨w.heap.size + 1 + 1, 2, none⟩ = some (.bool false) ∧
  w1.frozen? ⟨w.heap.size + 1 + 1, 0, none⟩ = false ∧ w1.frozen? ⟨w.heap.size + 1 + 1, 1, none⟩ = false ∧ w1.frozen? ⟨w.heap.size + 1 + 1, 2, none⟩ = false
theorem JoBox.cells {w w1 : World} {a0 b0 a1 b1 : ByteArray} {c0 c1 : Bool} (h : JoBox w w1 a0 b0 a1 b1 c0 c1) : JoCells w w1 a0 b0 a1 b1 c0 c1 :=
  ⟨(Blk.cell h.bA 0).trans rfl, (Blk.cell h.bA 1).trans rfl, (Blk.cell h.bA 2).trans rfl, (Blk.cell h.bB 0).trans rfl, (Blk.cell h.bB 1).trans rfl, (Blk.cell h.bB 2).trans rfl, (Blk.cell h.bC 0).trans rfl, (Blk.cell h.bC 1).trans rfl, (Blk.cell h.bC 2).trans rfl, Blk.free h.bC 0, Blk.free h.bC 1, Blk.free h.bC 2⟩
theorem JoBox.done {w w1 : World} {a0 b0 a1 b1 : ByteArray} {c0 c1 : Bool} (h : JoBox w w1 a0 b0 a1 b1 c0 c1) (x y z : Value) :
    (((w1.setCell ⟨w.heap.size + 1 + 1, 0, none⟩ x).setCell ⟨w.heap.size + 1 + 1, 1, none⟩ y).setCell ⟨w.heap.size + 1 + 1, 2, none⟩ z).cell? ⟨w.heap.size + 1 + 1, 0, none⟩ = some x ∧
    (((w1.setCell ⟨w.heap.size + 1 + 1, 0, none⟩ x).setCell ⟨w.heap.size + 1 + 1, 1, none⟩ y).setCell ⟨w.heap.size + 1 + 1, 2, none⟩ z).cell? ⟨w.heap.size + 1 + 1, 1, none⟩ = some y ∧
    (((w1.setCell ⟨w.heap.size + 1 + 1, 0, none⟩ x).setCell ⟨w.heap.size + 1 + 1, 1, none⟩ y).setCell ⟨w.heap.size + 1 + 1, 2, none⟩ z).cell? ⟨w.heap.size + 1 + 1, 2, none⟩ = some z ∧
    Keeps noB w (((w1.setCell ⟨w.heap.size + 1 + 1, 0, none⟩ x).setCell ⟨w.heap.size + 1 + 1, 1, none⟩ y).setCell ⟨w.heap.size + 1 + 1, 2, none⟩ z) := by
  have b2 := ((Blk.set h.bC 0 x).set 1 y).set 2 z
  exact ⟨(b2.cell 0).trans rfl, (b2.cell 1).trans rfl, (b2.cell 2).trans rfl, ((h.q.setCell (p := ⟨w.heap.size + 1 + 1, 0, none⟩) (.inr (by show w.heap.size ≤ w.heap.size + 1 + 1; omega)) _).setCell (p := ⟨w.heap.size + 1 + 1, 1, none⟩) (.inr (by show w.heap.size ≤ w.heap.size + 1 + 1; omega)) _).setCell (p := ⟨w.heap.size + 1 + 1, 2, none⟩) (.inr (by show w.heap.size ≤ w.heap.size + 1 + 1; omega)) _⟩

/-- What the loop of l3Join holds. -/
def JoAt (w : World) (a0 b0 a1 b1 : ByteArray) (l b : List UInt8) (vo vi : Value) (wr : World) : Prop :=
  ∃ (i : Nat) (out : ByteArray), i ≤ l.length ∧ vi = .int .i64 (i : Int) ∧ vo = .string out ∧ out.data.toList = (l.take i).filter (fun v => b.contains v) ∧ JoBox w wr a0 b0 a1 b1 true true

set_option maxRecDepth 100000 in
set_option maxHeartbeats 4000000 in
theorem sjoin_left (a b : Kn) (ha : a.Wf) (hb : b.Wf) (hna : a = Kn.no) (w : World) : Calls Tryz.prog 82 #[stV a, stV b] w (fun e w' => e = .returned (stV (a.join b)) ∧ Keeps noB w w') := by
  have e1 : a.join b = b := by rw [hna]; exact join_no hb.must
  have e2 : liveK a = false := by rw [hna]; exact liveK_no
  rw [e1, stV_eq a, stV_eq b, e2]
  clear e1 e2 ha hb hna
  generalize mayB a = a0 at *
  generalize mustB a = b0 at *
  generalize mayB b = a1 at *
  generalize mustB b = b1 at *
  generalize liveK b = c1 at *
  go_enter Tryz.func82, Tryz.ntmps82
  go_wp2_with fail
  have h3 := third_new w a0 b0 a1 b1 a1 b1 false c1 c1
  exact bodyPost_ret (resSt Tryz.results82 _ (w.heap.size + 1 + 1) _ _ _ _ rfl ((Blk.cell h3 0).trans rfl) ((Blk.cell h3 1).trans rfl) ((Blk.cell h3 2).trans rfl)) rfl ⟨rfl, (((Keeps.refl _ _).alloc _).alloc _).alloc _⟩

set_option maxRecDepth 100000 in
set_option maxHeartbeats 4000000 in
theorem sjoin_right (a b : Kn) (ha : a.Wf) (hb : b.Wf) (hna : a ≠ Kn.no) (hnb : b = Kn.no) (w : World) : Calls Tryz.prog 82 #[stV a, stV b] w (fun e w' => e = .returned (stV (a.join b)) ∧ Keeps noB w w') := by
  have e1 : a.join b = a := by rw [hnb, join_comm]; exact join_no ha.must
  have e2 : liveK b = false := by rw [hnb]; exact liveK_no
  have e3 : liveK a = true := liveK_yes hna
  rw [e1, stV_eq a, stV_eq b, e2, e3]
  clear e1 e2 e3 ha hb hna hnb
  generalize mayB a = a0 at *
  generalize mustB a = b0 at *
  generalize mayB b = a1 at *
  generalize mustB b = b1 at *
  go_enter Tryz.func82, Tryz.ntmps82
  go_wp2_with fail
  have h3 := third_new w a0 b0 a1 b1 a0 b0 true false true
  exact bodyPost_ret (resSt Tryz.results82 _ (w.heap.size + 1 + 1) _ _ _ _ rfl ((Blk.cell h3 0).trans rfl) ((Blk.cell h3 1).trans rfl) ((Blk.cell h3 2).trans rfl)) rfl ⟨rfl, (((Keeps.refl _ _).alloc _).alloc _).alloc _⟩

set_option maxRecDepth 100000 in
set_option maxHeartbeats 4000000 in
theorem sjoin_live (a b : Kn) (ha : a.Wf) (hb : b.Wf) (hna : a ≠ Kn.no) (hnb : b ≠ Kn.no) (w : World) : Calls Tryz.prog 82 #[stV a, stV b] w (fun e w' => e = .returned (stV (a.join b)) ∧ Keeps noB w w') := by
  have hj : a.join b ≠ Kn.no := join_live ha hna
  have hml : (mustL a).length ≤ 6 := mustL_len a
  have hsv : (mustB a).size = (mustL a).length := by unfold mustB; exact size_arr _
  have hget : ∀ (i : Nat) (hi : i < (mustB a).size), (mustL a)[i]? = some (mustB a)[i] := by
    intro i hi
    rw [List.getElem?_eq_getElem (by omega)]
    rfl
  have hbl : (mustB b).data.toList = mustL b := by unfold mustB; rw [List.toList_toArray]
  have hfin : (mustL a).filter (fun v => (mustL b).contains v) = mustL (a.join b) := by
    rw [mustL_live hna, mustL_live hnb, mustL_live hj]; exact lets_and _ _
  have hsb : (mustB b).size ≤ 6 := by unfold mustB; rw [size_arr]; exact mustL_len b
  have hsa : (mayB a).size ≤ 6 := by unfold mayB; rw [size_arr]; exact mayL_len a
  have hsa1 : (mayB b).size ≤ 6 := by unfold mayB; rw [size_arr]; exact mayL_len b
  have HF := Lib.hid (fun c w => find_any (mustB b) c w (by omega))
  have HM : Hid (∀ c, c ∈ mustL b → 0 ≤ findI (mustB b) c) := fun c hc => findI_mem (by rw [hbl]; exact hc)
  have HO : Hid (∀ c, ¬ c ∈ mustL b → findI (mustB b) c = -1) := fun c hc => findI_not (by rw [hbl]; exact hc)
  have HX : Hid (∀ (i : Nat) (hi : i < (mustB a).size), ((mustL a).take (i + 1)).filter (fun v => (mustL b).contains v) = ((mustL a).take i).filter (fun v => (mustL b).contains v) ++ (if (mustB a)[i] ∈ mustL b then [(mustB a)[i]] else [])) := fun i hi => by
    rw [List.take_add_one, hget i hi, List.filter_append]
    congr 1
    by_cases h : (mustB a)[i] ∈ mustL b
    · simp [h]
    · simp [h]
  have HSO : Hid (∀ w, Calls Tryz.prog 108 #[.string (mayB a ++ mayB b)] w (fun e w' => e = .returned (.string (mayB (a.join b))) ∧ Keeps noB w w')) := fun w => by
    have := sorted_any (mayB a ++ mayB b) (by rw [ByteArray.size_append]; omega) w
    rw [ByteArray.data_append, Array.toList_append] at this
    have e : sortedOf ((mayB a).data.toList ++ (mayB b).data.toList) = mayL (a.join b) := by
      unfold mayB mayL; rw [List.toList_toArray, List.toList_toArray]; exact lets_or _ _
    rwa [e] at this
  have HMJ : Hid (∀ o : ByteArray, o.data.toList = mustL (a.join b) → Value.string o = .string (mustB (a.join b))) := fun o ho => str_eq ho
  have hlj : liveK (a.join b) = true := liveK_yes hj
  rw [stV_eq a, stV_eq b, stV_eq (a.join b), liveK_yes hna, liveK_yes hnb, hlj]
  generalize mayB (a.join b) = aj at *
  generalize mustB (a.join b) = bj at *
  generalize mayB a = a0 at *
  generalize mustB a = b0 at *
  generalize mayB b = a1 at *
  generalize mustB b = b1 at *
  generalize mustL (a.join b) = lj at *
  generalize mustL a = la at *
  generalize mustL b = lb at *
  have HS := Lib.hid (And.intro hsv (And.intro hml hfin))
  have HP : Hid (JoAt w a0 b0 a1 b1 la lb (.string ⟨#[]⟩) (.int .i64 0) (((w.alloc (.cells #[.string a0, .string b0, .bool true] 60)).alloc (.cells #[.string a1, .string b1, .bool true] 60)).alloc (.cells #[.string ⟨#[]⟩, .string ⟨#[]⟩, .bool false] 60))) := ⟨0, ⟨#[]⟩, Nat.zero_le _, rfl, rfl, rfl, JoBox.start (Keeps.refl _ _)⟩
  have hsz1 : (b0.size : Int) ≤ 6 := by omega
  have hos : a0.size + a1.size ≤ 9223372036854775807 := by omega
  clear hsv hget hbl hfin hsb ha hb hna hnb hj hml hlj
  go_enter Tryz.func82, Tryz.ntmps82
  go_wp2_with fail
  go_loopw [5, 20] (fun vo vi wr => JoAt w a0 b0 a1 b1 la lb vo vi wr) (fun _ vi _ => b0.size - (intOf vi).toNat)
  case atStart => exact HP.out
  case round =>
    clear HP
    obtain ⟨i, out, hil, rfl, rfl, hout, hbx⟩ := hrel
    by_cases hi : i < b0.size
    · have hnx := HX.out i hi
      have hoz : out.size ≤ 6 := by
        have e : out.size = ((la.take i).filter (fun v => lb.contains v)).length := by rw [← hout]; simp
        rw [e]
        refine Nat.le_trans (List.length_filter_le _ _) ?_
        rw [List.length_take]
        have := HS.out.2.1
        omega
      have hi0 : (0 : Int) ≤ (i : Int) := by omega
      have hi1 : (i : Int) < (b0.size : Int) := by omega
      have h3 : ((i : Int) + 1).toNat = i + 1 := by omega
      have h5 : (i : Int) + 1 ≤ (b0.size : Int) := by omega
      have h6 : (i : Int) ≤ (i : Int) + 1 := by omega
      have h7 : (0 : Int) ≤ (i : Int) + 1 := by omega
      have hxo := extract_one hi
      have hilt : i + 1 ≤ la.length := by have := HS.out.1; omega
      have HN : Hid (∀ (o : ByteArray) (W : World), o.data.toList = (la.take (i + 1)).filter (fun v => lb.contains v) → Keeps noB wr W → JoAt w a0 b0 a1 b1 la lb (.string o) (.int .i64 ((i : Int) + 1)) W) := fun o W ho q =>
        ⟨i + 1, o, hilt, by simp, rfl, ho, hbx.keeps q⟩
      have HBX := Lib.hid hbx
      have HFc := Lib.hid (fun w => HF.out b0[i] w)
      have hxz : (b0.extract i (i + 1)).size = 1 := by
        have e : (b0.extract i (i + 1)).size = (b0.extract i (i + 1)).data.toList.length := by rw [Array.length_toList]; rfl
        rw [e, hxo]; rfl
      have hcz : out.size + (b0.extract i (i + 1)).size ≤ 9223372036854775807 := by omega
      by_cases hm : b0[i] ∈ lb
      · rw [if_pos hm] at hnx
        have hf : 0 ≤ findI b1 b0[i] := HM.out _ hm
        have HY : Hid ((out ++ b0.extract i (i + 1)).data.toList = (la.take (i + 1)).filter (fun v => lb.contains v)) := Lib.hid (by rw [hnx, ByteArray.data_append, Array.toList_append, hout, hxo])
        generalize findI b1 b0[i] = fi at *
        obtain ⟨x1, hx1⟩ : ∃ x1 : Int, (b0[i].toNat : Int) = x1 := ⟨_, rfl⟩
        rw [hx1] at HFc
        clear hnx hout hxo hoz hm HX HM HO HF hxz hbx
        go_wp2_with fail
        refine wp_region_still_tail 7 (by kernel_rfl) (by kernel_rfl) ?_
        simp only [List.take_succ_cons, List.take_zero, List.drop_succ_cons, List.drop_zero]
        change wpStill _ _ (World.drew _) (fun a' => wpList _ _ _ _ a' (World.drew _)) _ _
        have HQ : Hid (Keeps noB wr (World.drew wr)) := (Keeps.refl _ _).drew
        generalize World.drew wr = w5 at *
        have ⟨t0, t1, t2, t3, t4, t5, t6, t7, t8, t9, t10, t11⟩ := (HBX.out.keeps HQ.out).cells
        still_step
        still_step
        still_step
        still_step
        still_step
        still_step
        still_call (HFc.out _)
        refine wpStill_nil ?_
        go_wp2_with fail
        exact ⟨HN.out _ _ HY.out HQ.out, by simp [intOf]; omega⟩
      · rw [if_neg hm, List.append_nil] at hnx
        have hf : findI b1 b0[i] = -1 := HO.out _ hm
        have hd1 : decide ((0 : Int) ≤ -1) = false := rfl
        rw [hf] at HFc
        have HY : Hid (out.data.toList = (la.take (i + 1)).filter (fun v => lb.contains v)) := Lib.hid (by rw [hnx, hout])
        obtain ⟨x1, hx1⟩ : ∃ x1 : Int, (b0[i].toNat : Int) = x1 := ⟨_, rfl⟩
        rw [hx1] at HFc
        clear hnx hout hxo hoz hm HX HM HO HF hxz hcz hbx hf
        go_wp2_with fail
        refine wp_region_still_tail 7 (by kernel_rfl) (by kernel_rfl) ?_
        simp only [List.take_succ_cons, List.take_zero, List.drop_succ_cons, List.drop_zero]
        change wpStill _ _ (World.drew _) (fun a' => wpList _ _ _ _ a' (World.drew _)) _ _
        have HQ : Hid (Keeps noB wr (World.drew wr)) := (Keeps.refl _ _).drew
        generalize World.drew wr = w5 at *
        have ⟨t0, t1, t2, t3, t4, t5, t6, t7, t8, t9, t10, t11⟩ := (HBX.out.keeps HQ.out).cells
        still_step
        still_step
        still_step
        still_step
        still_step
        still_step
        still_call (HFc.out _)
        refine wpStill_nil ?_
        go_wp2_with fail
        exact ⟨HN.out _ _ HY.out HQ.out, by simp [intOf]; omega⟩
    · have hie : i = la.length := by have := HS.out.1; omega
      have HE : Hid (Value.string out = .string bj) := HMJ.out out (by rw [hout, hie, List.take_length]; exact HS.out.2.2)
      have hi1 : ¬ (i : Int) < (b0.size : Int) := by omega
      have ⟨t0, t1, t2, t3, t4, t5, t6, t7, t8, t9, t10, t11⟩ := hbx.cells
      have HBX := Lib.hid hbx
      clear hout hie HX HF HM HO HMJ hbx
      go_wp2_with (go_at_call 108; refine (HSO.out _).mono ?_; rintro e6 w6 ⟨rfl, q6⟩; have hb := HBX.out.keeps q6; have ⟨s0, s1, s2, s3, s4, s5, s6, s7, s8, s9, s10, s11⟩ := hb.cells; have HY := Lib.hid (hb.done (.string aj) (.string out) (.bool true)); clear q6 hb)
      obtain ⟨f0, f1, f2, f3⟩ := HY.out
      refine bodyPost_ret (resSt Tryz.results82 _ (w.heap.size + 1 + 1) _ _ _ _ rfl f0 f1 f2) rfl ⟨?_, f3⟩
      rw [HE.out]

theorem sjoin_any (a b : Kn) (ha : a.Wf) (hb : b.Wf) (w : World) : Calls Tryz.prog 82 #[stV a, stV b] w (fun e w' => e = .returned (stV (a.join b)) ∧ Keeps noB w w') := by
  by_cases hna : a = Kn.no
  · exact sjoin_left a b ha hb hna w
  · by_cases hnb : b = Kn.no
    · exact sjoin_right a b ha hb hna hnb w
    · exact sjoin_live a b ha hb hna hnb w

end Go.Proofs.YtkfcgamdlckncaaGreat

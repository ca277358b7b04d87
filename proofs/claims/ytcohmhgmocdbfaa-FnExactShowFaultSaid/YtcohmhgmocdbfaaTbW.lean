/-
  Walks of the model's run: ends, event, destroy, clear, value.
  Walks of the model's run: destroy, clear, value.
  Walks of the model's run: take.
-/
import Derived.Test.YtcohmhgmocdbfaaTa
import Derived.Test.YtcohmhgmocdbfaaKs
import Derived.Deep.RegionWith
namespace Go.Proofs.Ytcohmhgmocdbfaa
set_option linter.unusedVariables false
set_option linter.unusedSimpArgs false
open Go.RowKit

theorem ends_any (b : Nat) (C : ByteArray) (s : St) (y : Option Why) (vv : Value) (own : Nat → Prop) (w : World) (h : RnAt w own b C s y vv) :
    Calls Try.prog 103 #[.pointer (some ⟨b, 0, none⟩)] w (fun e w' => e = .returned (.bool y.isSome) ∧ w' = w) := by
  have r10 := h.blk.cell 10
  have r12 := h.blk.cell 12
  simp [rnCells] at r10 r12
  clear h
  rcases y with _ | (_ | _ | k | br) <;> simp [exitM, stuckM] at r10 r12
  all_goals
    go_enter Try.func103, Try.ntmps103
    go_wp2_with fail
    go_ret
    exact ⟨rfl, rfl⟩

/-! ### event. -/
/-- What stands ahead of an event's word. -/
def evPre (t : List UInt8) : List UInt8 := if t = [] then [] else t ++ [32]
theorem addWord_eq (t w : List UInt8) : addWord t w = evPre t ++ w := rfl

theorem evText_happen (s : St) (c : UInt8) (k : Nat) : (⟨(evPre (evText s.ev)).toArray⟩ : ByteArray) ++ ⟨#[c]⟩ ++ ⟨(Lib.decDigits k).toArray⟩ = ⟨(evText (s.happen c k).ev).toArray⟩ := by
  show _ = (⟨(evText (s.ev ++ [(c, k)])).toArray⟩ : ByteArray)
  rw [evText_snoc, addWord_eq]
  apply ByteArray.ext
  apply Array.ext'
  simp [ByteArray.data_append, evWord]

theorem evText_len (s : St) (c : UInt8) (k : Nat) (hk : k ≤ 1000000) (h : (evText s.ev).length ≤ 20 * s.ev.length) : (evText (s.happen c k).ev).length ≤ 20 * (s.happen c k).ev.length := by
  show (evText (s.ev ++ [(c, k)])).length ≤ 20 * (s.ev ++ [(c, k)]).length
  rw [evText_snoc, addWord_eq]
  have h1 : (evPre (evText s.ev)).length ≤ (evText s.ev).length + 1 := by unfold evPre; split <;> simp
  have h2 := dec_len 6 k (by omega)
  simp only [List.length_append, evWord, List.length_cons, List.length_nil]
  omega

theorem event_done {w w1 : World} {own : Nat → Prop} {b : Nat} {C : ByteArray} {s : St} {y : Option Why} {vv : Value} (h : RnAt w own b C s y vv) (hlt : ∀ k, own k → k < w.heap.size) (c : UInt8) (k : Nat) (hk : k ≤ 1000000) (tx : ByteArray) (q : Keeps (oneB b) w w1) (ht : tx = ⟨(evText (s.happen c k).ev).toArray⟩)
    (hb : ∃ tp, Blk w1 b (rnCells C (C.size - s.ch.length) s.val s.made tp (exitM y) (whereM y) (stuckM y) (askM y s.ch) vv) 111) :
    RnRuns w own b C (s.happen c k) y (.tuple #[]) (.returned (.tuple #[])) (w1.setCell ⟨b, 9, none⟩ (.string tx)) := by
  obtain ⟨tp, hb⟩ := hb
  subst ht
  have q2 : Keeps (oneB b) w (w1.setCell ⟨b, 9, none⟩ (.string ⟨(evText (s.happen c k).ev).toArray⟩)) := q.setCell (.inl (show oneB b b from rfl)) _
  refine ⟨own, vv, rfl, ⟨fun k e => .inl e, fun k e => Nat.lt_of_lt_of_le (hlt k e) q2.size, q2.mono (fun i (e : i = b) => e ▸ h.mine)⟩, ⟨?_, h.few, h.rest, evText_len s c k hk h.txt, ?_, h.mine, h.ownV⟩⟩
  · exact hb.set 9 _
  · exact q2.ownsRow h.vis (fun g hg _ e => (h.ownV g hg).2 e)

set_option maxRecDepth 100000 in
set_option maxHeartbeats 2000000 in
theorem event_any (b : Nat) (C : ByteArray) (s : St) (y : Option Why) (vv : Value) (own : Nat → Prop) (w : World) (h : RnAt w own b C s y vv) (hlt : ∀ k, own k → k < w.heap.size) (c : UInt8) (k : Nat) (hk : k ≤ 1000000) (hn : s.ev.length ≤ 1000000) :
    Calls Try.prog 120 #[.pointer (some ⟨b, 0, none⟩), .string ⟨#[c]⟩, .int .i64 (k : Int)] w (RnRuns w own b C (s.happen c k) y (.tuple #[])) := by
  have HD := Lib.hid (fun w => dec_any k hk w)
  have hdz : (⟨(Lib.decDigits k).toArray⟩ : ByteArray).size ≤ 7 := dec_len 6 k (by omega)
  have htz : (⟨(evText s.ev).toArray⟩ : ByteArray).size ≤ 20000000 := by have := h.txt; show (evText s.ev).length ≤ _; omega
  have r9 := h.blk.cell 9
  have f9 := h.blk.free 9
  simp [rnCells] at r9
  have hbl := h.blk.lt
  have hH := evText_happen s c k
  have HF := Lib.hid (fun w1 => @event_done w w1 own b C s y vv h hlt c k hk)
  have HB := Lib.hid h.blk
  unfold str at HD
  obtain ⟨dg, hdg⟩ : ∃ dg : ByteArray, dg = ⟨(Lib.decDigits k).toArray⟩ := ⟨_, rfl⟩
  obtain ⟨cb, hcb⟩ : ∃ cb : ByteArray, cb = ⟨#[c]⟩ := ⟨_, rfl⟩
  obtain ⟨tx, htx⟩ : ∃ tx : ByteArray, tx = ⟨(evText s.ev).toArray⟩ := ⟨_, rfl⟩
  have hcz : cb.size = 1 := by rw [hcb]; rfl
  rw [← hdg] at HD hdz hH
  rw [← hcb] at hH ⊢
  rw [← htx] at htz r9
  have hem : tx.toList.isEmpty = (evText s.ev).isEmpty := by rw [htx]; exact isEmpty_arr _
  have hz3 : tx.size + cb.size ≤ 9223372036854775807 := by omega
  have hz4 : tx.size + cb.size + dg.size ≤ 9223372036854775807 := by omega
  by_cases ht : evText s.ev = []
  · rw [ht] at hem hH
    have hpre : (⟨(evPre []).toArray⟩ : ByteArray) = ⟨#[]⟩ := rfl
    have htx0 : tx = ⟨#[]⟩ := by rw [htx, ht]
    rw [hpre, ← htx0] at hH
    have hem' : tx.toList.isEmpty = true := hem
    have HX : Hid (∀ w1, Keeps noB w w1 → w1.cell? ⟨b, 9, none⟩ = some (.string tx) ∧ w1.frozen? ⟨b, 9, none⟩ = false ∧ RnRuns w own b C (s.happen c k) y (.tuple #[]) (.returned (.tuple #[])) (w1.setCell ⟨b, 9, none⟩ (.string (tx ++ cb ++ dg)))) := fun w1 q =>
      ⟨(q.cell (p := ⟨b, 9, none⟩) hbl id).trans r9, (q.frozen (p := ⟨b, 9, none⟩) hbl id).trans f9, HF.out w1 _ (q.mono (fun _ e => e.elim)) hH ⟨_, q.blk HB.out id⟩⟩
    obtain ⟨kv, hkv⟩ : ∃ kv : Int, (k : Int) = kv := ⟨_, rfl⟩
    rw [hkv] at HD ⊢
    clear HF HB hH ht hpre hdg hcb htx htx0 hem h hlt hkv hk hn htz hdz hcz hbl
    go_enter Try.func120, Try.ntmps120
    go_wp2_with fail
    go_region_with (go_at_call 130; refine (HD.out _).mono ?_; rintro e w2 ⟨rfl, q2⟩; have ⟨y9, z9, hE⟩ := HX.out _ (((Keeps.refl noB w).drew).trans q2); have HE := Lib.hid hE; clear hE q2)
    all_goals
      go_end0
      exact HE.out
  · obtain ⟨tp, htp⟩ : ∃ tp : ByteArray, tp = tx ++ ⟨#[32]⟩ := ⟨_, rfl⟩
    have hpre : (⟨(evPre (evText s.ev)).toArray⟩ : ByteArray) = tp := by
      rw [htp, htx]
      unfold evPre
      rw [if_neg ht]
      apply ByteArray.ext
      apply Array.ext'
      simp [ByteArray.data_append]
    rw [hpre] at hH
    have hem' : tx.toList.isEmpty = false := by rw [hem]; simpa using ht
    have hpz : tp.size = tx.size + 1 := by rw [htp, ByteArray.size_append]; rfl
    have hz5 : tp.size + cb.size ≤ 9223372036854775807 := by omega
    have hz6 : tp.size + cb.size + dg.size ≤ 9223372036854775807 := by omega
    have hz7 : tx.size + 1 ≤ 9223372036854775807 := by omega
    have HX : Hid (∀ w1, Keeps noB (w.setCell ⟨b, 9, none⟩ (.string tp)) w1 → w1.cell? ⟨b, 9, none⟩ = some (.string tp) ∧ w1.frozen? ⟨b, 9, none⟩ = false ∧ RnRuns w own b C (s.happen c k) y (.tuple #[]) (.returned (.tuple #[])) (w1.setCell ⟨b, 9, none⟩ (.string (tp ++ cb ++ dg)))) := fun w1 q => by
      have q0 : Keeps (oneB b) w (w.setCell ⟨b, 9, none⟩ (.string tp)) := (Keeps.refl _ w).setCell (.inl (show oneB b b from rfl)) _
      have b1 := q.blk (HB.out.set 9 (.string tp)) id
      exact ⟨b1.cell 9, b1.free 9, HF.out w1 _ (q0.trans (q.mono (fun _ e => e.elim))) hH ⟨_, b1⟩⟩
    obtain ⟨kv, hkv⟩ : ∃ kv : Int, (k : Int) = kv := ⟨_, rfl⟩
    rw [hkv] at HD ⊢
    have HTP := Lib.hid htp
    clear HF HB hH ht hpre hdg hcb htx hem h hlt hkv hk hn htz hdz hcz hbl htp hz3 hz4 hpz
    go_enter Try.func120, Try.ntmps120
    go_wp2_with fail
    rw [← HTP.out]
    go_region_with (go_at_call 130; refine (HD.out _).mono ?_; rintro e w2 ⟨rfl, q2⟩; have ⟨y9, z9, hE⟩ := HX.out _ (((Keeps.refl noB _).drew).trans q2); have HE := Lib.hid hE; clear hE q2)
    all_goals
      go_end0
      exact HE.out

end Go.Proofs.Ytcohmhgmocdbfaa

namespace Go.Proofs.Ytcohmhgmocdbfaa
set_option linter.unusedVariables false
set_option linter.unusedSimpArgs false
open Go.RowKit

theorem owns_setM {own : Nat → Prop} {w : World} {b : Nat} (hb : own b) (hlt : ∀ k, own k → k < w.heap.size) (j : Nat) (u : Value) : Owns own own w (w.setCell ⟨b, j, none⟩ u) := owns_set hb hlt j u

set_option maxRecDepth 100000 in
set_option maxHeartbeats 2000000 in
theorem destroyM_any (b : Nat) (C : ByteArray) (s : St) (y : Option Why) (vv : Value) (own : Nat → Prop) (w : World) (h : RnAt w own b C s y vv) (hlt : ∀ k, own k → k < w.heap.size) (v : UInt8) (hv : lett v) (hn : s.ev.length ≤ 1000000) (hm : s.val v ≤ 1000000) :
    Calls Try.prog 119 #[.pointer (some ⟨b, 0, none⟩), .int .u8 (v.toNat : Int)] w (RnRuns w own b C (s.destroy v) y (.tuple #[])) := by
  have r := (h.blk.cell (slot v)).trans (rn_get hv _ _ _ _ _ _ _ _ _ _)
  have HZ : Hid (s.val v = 0 → s.destroy v = s) := fun h0 => by unfold St.destroy; rw [if_pos h0]
  have HH := Lib.hid h
  have HL := Lib.hid hlt
  have HEV := Lib.hid (event_any b C s y vv own w h hlt 45 (s.val v) hm hn)
  have HF : Hid (s.val v ≠ 0 → ∀ own1 vv1 w1, Owns own own1 w w1 → RnAt w1 own1 b C (s.happen 45 (s.val v)) y vv1 →
      w1.frozen? ⟨b, slot v, none⟩ = false ∧ (∃ x, w1.cell? ⟨b, slot v, none⟩ = some x) ∧ RnRuns w own b C (s.destroy v) y (.tuple #[]) (.returned (.tuple #[])) (w1.setCell ⟨b, slot v, none⟩ (.int .i64 0))) := by
    intro h0 own1 vv1 w1 ho hr
    have e : s.destroy v = (s.happen 45 (s.val v)).put v 0 := by unfold St.destroy; rw [if_neg h0]; rfl
    rw [e]
    exact ⟨hr.blk.free _, ⟨_, (hr.blk.cell (slot v)).trans (rn_get hv _ _ _ _ _ _ _ _ _ _)⟩, own1, vv1, rfl, ho.trans (owns_set hr.mine ho.lt _ _), hr.put hv 0⟩
  generalize s.destroy v = t at *
  obtain ⟨k, hk⟩ : ∃ k, s.val v = k := ⟨_, rfl⟩
  rw [hk] at r HZ HEV HF
  unfold i64 at r
  have hv1 : (97 : Int) ≤ (v.toNat : Int) := by have := hv.1; omega
  have hv2 : (v.toNat : Int) ≤ 102 := by have := hv.2; omega
  unfold slot at r HF
  clear h hlt hv hk hm hn
  generalize (v.toNat : Int) = vi at *
  by_cases h0 : k = 0
  · subst h0
    go_enter Try.func119, Try.ntmps119
    go_wp2_with fail
    go_end0
    exact ⟨own, vv, rfl, Owns.refl HL.out, by rw [HZ.out trivial]; exact HH.out⟩
  · have hk0 : (0 : Int) < (k : Int) := by omega
    have HF' := Lib.hid (HF.out h0)
    clear HF HZ
    go_enter Try.func119, Try.ntmps119
    go_wp2_with (go_at_call 120; refine HEV.out.mono ?_; rintro e1 w1 ⟨own1, vv1, rfl, ho1, hr1⟩; have ⟨z, ⟨x, r1⟩, hE⟩ := HF'.out _ _ _ ho1 hr1; have HE := Lib.hid hE; clear ho1 hr1 hE)
    go_end0
    exact HE.out

/-! ### clear. -/
theorem destroyAll_drop (s : St) (l : List UInt8) (i : Nat) (v : UInt8) (h : l[i]? = some v) : s.destroyAll (l.drop i) = (s.destroyAll (l.drop (i + 1))).destroy v := by
  have hi : i < l.length := (List.getElem?_eq_some_iff.1 h).1
  have hv : l[i] = v := (List.getElem?_eq_some_iff.1 h).2
  rw [List.drop_eq_getElem_cons hi, hv]
  rfl

/-- No value is greater than what was made. -/
def Below0 (s : St) : Prop := ∀ v, s.val v ≤ s.made

theorem Below0.destroy {s : St} (h : Below0 s) (v : UInt8) : Below0 (s.destroy v) := fun u => by
  rw [destroy_val, (evs_destroy s v).made]
  split
  · exact Nat.zero_le _
  · exact h u
theorem Below0.destroyAll {s : St} (h : Below0 s) : ∀ l : List UInt8, Below0 (s.destroyAll l)
  | [] => h
  | v :: r => (Below0.destroyAll h r).destroy v

/-- What the loop of clear holds. -/
def ClearAt (w : World) (own : Nat → Prop) (b : Nat) (C : ByteArray) (s : St) (y : Option Why) (l : List UInt8) (v4 : Value) (wr : World) : Prop :=
  ∃ (i : Nat) (own1 : Nat → Prop) (vv1 : Value), i ≤ l.length ∧ v4 = .int .i64 ((i : Int) - 1) ∧ Owns own own1 w wr ∧ RnAt wr own1 b C (s.destroyAll (l.drop i)) y vv1

set_option maxRecDepth 100000 in
set_option maxHeartbeats 2000000 in
theorem clear_any (b : Nat) (C : ByteArray) (s : St) (y : Option Why) (vv : Value) (own : Nat → Prop) (w : World) (h : RnAt w own b C s y vv) (hlt : ∀ k, own k → k < w.heap.size) (l : List UInt8) (hl : ∀ v ∈ l, lett v) (hll : l.length ≤ 1000) (hn : s.ev.length ≤ 900000) (hm : s.made ≤ 1000000) (hb0 : Below0 s) :
    Calls Try.prog 122 #[.pointer (some ⟨b, 0, none⟩), .string ⟨l.toArray⟩] w (RnRuns w own b C (s.destroyAll l) y (.tuple #[])) := by
  obtain ⟨ls, hls⟩ : ∃ ls : ByteArray, ls = ⟨l.toArray⟩ := ⟨_, rfl⟩
  rw [← hls]
  have hlz : ls.size = l.length := by rw [hls]; simp [ByteArray.size]
  have HP : Hid (ClearAt w own b C s y l (.int .i64 ((ls.size : Int) - 1)) w) := ⟨l.length, own, vv, Nat.le_refl _, by rw [hlz], Owns.refl hlt, by rw [List.drop_length]; exact h⟩
  have HD : Hid (∀ (i : Nat) (hi : i < ls.size) (own1 : Nat → Prop) (vv1 : Value) (wr : World), Owns own own1 w wr → RnAt wr own1 b C (s.destroyAll (l.drop (i + 1))) y vv1 →
      Calls Try.prog 119 #[.pointer (some ⟨b, 0, none⟩), .int .u8 (ls[i].toNat : Int)] wr (fun e W => ∃ own2 vv2, e = .returned (.tuple #[]) ∧ Owns own own2 w W ∧ RnAt W own2 b C (s.destroyAll (l.drop i)) y vv2)) := by
    intro i hi own1 vv1 wr ho hr
    have hil : i < l.length := by omega
    have hg : l[i]? = some ls[i] := by
      subst hls
      rw [List.getElem?_eq_getElem hil]
      rfl
    have he := evs_destroyAll s (l.drop (i + 1))
    have hmem : ls[i] ∈ l := List.mem_of_getElem? hg
    have hle : (l.drop (i + 1)).length ≤ 1000 := by rw [List.length_drop]; omega
    have hval := (hb0.destroyAll (l.drop (i + 1))) ls[i]
    have hmm := he.made
    have hev := he.ev
    refine (destroyM_any b C _ y vv1 own1 wr hr ho.lt ls[i] (hl _ hmem) (by omega) (by omega)).mono ?_
    rintro e W ⟨own2, vv2, rfl, ho2, hr2⟩
    exact ⟨own2, vv2, rfl, ho.trans ho2, by rw [destroyAll_drop s l i _ hg]; exact hr2⟩
  have HZ := Lib.hid hlz
  have hz : (ls.size : Int) ≤ 1000 := by omega
  clear h hlt hl hls hn hm hb0 hlz
  go_enter Try.func122, Try.ntmps122
  go_wp2_with fail
  go_loopw [4] (fun v4 wr => ClearAt w own b C s y l v4 wr) (fun v4 _ => (intOf v4 + 1).toNat)
  case atStart => exact HP.out
  case round =>
    clear HP
    obtain ⟨i, own1, vv1, hi, rfl, ho, hr⟩ := hrel
    cases i with
    | zero =>
      have HE : Hid (RnRuns w own b C (s.destroyAll l) y (.tuple #[]) (.returned (.tuple #[])) wr) := ⟨own1, vv1, rfl, ho, hr⟩
      clear ho hr
      go_wp2_with fail
      go_end0
      exact HE.out
    | succ i =>
      have hil : i < ls.size := by have := HZ.out; omega
      have e1 : ((i + 1 : Nat) : Int) - 1 = (i : Int) := by omega
      rw [e1]
      have HC := Lib.hid (HD.out i hil own1 vv1 wr ho hr)
      have hi0 : (0 : Int) ≤ (i : Int) := by omega
      have hi1 : (i : Int) < (ls.size : Int) := by omega
      have hgi : ls[i].toNat < 256 := ls[i].toNat_lt
      clear ho hr e1
      go_wp2_with (go_at_call 119; refine HC.out.mono ?_; rintro e1 w1 ⟨own2, vv2, rfl, ho2, hr2⟩; have HE := Lib.hid (And.intro ho2 hr2); clear ho2 hr2)
      exact ⟨⟨i, own2, vv2, by omega, rfl, HE.out.1, HE.out.2⟩, by simp [intOf]⟩

/-! ### value. -/
theorem rn_fault {w : World} {own : Nat → Prop} {b : Nat} {C : ByteArray} {s : St} {vv : Value} (h : RnAt w own b C s none vv) (hlt : ∀ k, own k → k < w.heap.size) (k : Nat) :
    RnRuns w own b C s (some (.fault k)) (.int .i64 0) (.returned (.int .i64 0)) ((w.setCell ⟨b, 10, none⟩ (.int .i64 4)).setCell ⟨b, 11, none⟩ (.int .i64 (k : Int))) := by
  have kb : Keeps (oneB b) w ((w.setCell ⟨b, 10, none⟩ (.int .i64 4)).setCell ⟨b, 11, none⟩ (.int .i64 (k : Int))) := ((Keeps.refl _ _).setCell (.inl (show oneB b b from rfl)) _).setCell (.inl (show oneB b b from rfl)) _
  refine ⟨own, vv, rfl, ⟨fun k e => .inl e, fun k e => Nat.lt_of_lt_of_le (hlt k e) kb.size, kb.mono (fun i (e : i = b) => e ▸ h.mine)⟩, ⟨?_, h.few, h.rest, h.txt, ?_, h.mine, h.ownV⟩⟩
  · exact (h.blk.set 10 _).set 11 _
  · exact kb.ownsRow h.vis (fun g hg _ e => (h.ownV g hg).2 e)

def ValuePost (w : World) (own : Nat → Prop) (b : Nat) (C : ByteArray) (s : St) (k n : Nat) (e : Ending) (w' : World) : Prop :=
  (n = 0 → RnRuns w own b C s (some (.fault k)) (.int .i64 0) e w') ∧ (n ≠ 0 → e = .returned (.int .i64 (n : Int)) ∧ w' = w)

set_option maxRecDepth 100000 in
set_option maxHeartbeats 2000000 in
theorem valueM_any (b : Nat) (C : ByteArray) (s : St) (vv : Value) (own : Nat → Prop) (w : World) (h : RnAt w own b C s none vv) (hlt : ∀ k, own k → k < w.heap.size) (v : UInt8) (hv : lett v) (k : Nat) :
    Calls Try.prog 121 #[.pointer (some ⟨b, 0, none⟩), .int .u8 (v.toNat : Int), .int .i64 (k : Int)] w (ValuePost w own b C s k (s.val v)) := by
  have r := (h.blk.cell (slot v)).trans (rn_get hv _ _ _ _ _ _ _ _ _ _)
  have r10 := h.blk.cell 10
  have r11 := h.blk.cell 11
  have z10 := h.blk.free 10
  have z11 := h.blk.free 11
  simp [rnCells, exitM, whereM] at r10 r11
  have HF := Lib.hid (rn_fault h hlt k)
  have hs : slot v < 8 := slot_lt hv
  generalize s.val v = n at *
  unfold i64 at r
  have hv1 : (97 : Int) ≤ (v.toNat : Int) := by have := hv.1; omega
  have hv2 : (v.toNat : Int) ≤ 102 := by have := hv.2; omega
  unfold slot at r hs
  have hne1 : ¬ 2 + ((v.toNat : Int) - 97).toNat = 10 := by omega
  have hne2 : ¬ 2 + ((v.toNat : Int) - 97).toNat = 11 := by omega
  have hne3 : ¬ 10 = 2 + ((v.toNat : Int) - 97).toNat := by omega
  have hne4 : ¬ 11 = 2 + ((v.toNat : Int) - 97).toNat := by omega
  clear h hlt hv
  generalize (v.toNat : Int) = vi at *
  by_cases h0 : n = 0
  · subst h0
    obtain ⟨kv, hkv⟩ : ∃ kv : Int, (k : Int) = kv := ⟨_, rfl⟩
    rw [hkv] at HF ⊢
    clear hkv
    go_enter Try.func121, Try.ntmps121
    go_wp2_with fail
    go_ret
    exact ⟨fun _ => HF.out, fun e => absurd rfl e⟩
  · have hk0 : ((n : Int) == 0) = false := by rw [beq_eq_false_iff_ne]; omega
    have hk1 : ¬ (n : Int) = 0 := by omega
    have HN := Lib.hid h0
    clear h0
    obtain ⟨kv, hkv⟩ : ∃ kv : Int, (k : Int) = kv := ⟨_, rfl⟩
    rw [hkv]
    clear hkv
    obtain ⟨nv, hnv⟩ : ∃ nv : Int, (n : Int) = nv := ⟨_, rfl⟩
    have HNV := Lib.hid hnv
    rw [hnv] at hk0 hk1 r
    clear hnv
    go_enter Try.func121, Try.ntmps121
    go_wp2_with fail
    go_ret
    exact ⟨fun e => absurd e HN.out, fun _ => ⟨by rw [HNV.out]; rfl, rfl⟩⟩

end Go.Proofs.Ytcohmhgmocdbfaa

namespace Go.Proofs.Ytcohmhgmocdbfaa
set_option linter.unusedVariables false
set_option linter.unusedSimpArgs false
open Go.RowKit

theorem drop_cons {l : List UInt8} {k : Nat} {c : UInt8} {r : List UInt8} (h : c :: r = l.drop k) : ∃ hk : k < l.length, l[k] = c ∧ r = l.drop (k + 1) := by
  have hk : k < l.length := by
    rcases Nat.lt_or_ge k l.length with h1 | h1
    · exact h1
    · rw [List.drop_of_length_le h1] at h; cases h
  rw [List.drop_eq_getElem_cons hk] at h
  injection h with h1 h2
  exact ⟨hk, h1.symm, h2⟩

/-- Nothing is left to be chosen, or what is left is not of the two. -/
theorem rn_stuck {w : World} {own : Nat → Prop} {b : Nat} {C : ByteArray} {s : St} {vv : Value} (h : RnAt w own b C s none vv) (hlt : ∀ k, own k → k < w.heap.size) (br : Bool) (n m : Nat) :
    (s.ch ≠ [] → RnRuns w own b C s (some (.stuck br)) (.int .u8 0) (.returned (.int .u8 0)) (((w.drewN n).setCell ⟨b, 12, none⟩ (.bool true)).drewN m)) ∧
    (s.ch = [] → RnRuns w own b C s (some (.stuck br)) (.int .u8 0) (.returned (.int .u8 0)) ((((w.drewN n).setCell ⟨b, 12, none⟩ (.bool true)).drewN m).setCell ⟨b, 13, none⟩ (.string (betweenOf br)))) := by
  have q0 : Keeps noB w (w.drewN n) := (Keeps.refl noB w).drewN n
  constructor
  · intro hc
    have kb : Keeps (oneB b) w (((w.drewN n).setCell ⟨b, 12, none⟩ (.bool true)).drewN m) := ((q0.mono (fun _ e => e.elim)).setCell (.inl (show oneB b b from rfl)) _).drewN m
    refine ⟨own, vv, rfl, ⟨fun k e => .inl e, fun k e => Nat.lt_of_lt_of_le (hlt k e) kb.size, kb.mono (fun i (e : i = b) => e ▸ h.mine)⟩, ⟨?_, h.few, h.rest, h.txt, ?_, h.mine, h.ownV⟩⟩
    · have e : askM (some (.stuck br)) s.ch = ⟨#[]⟩ := by simp [askM, hc]
      rw [e]
      exact (show Blk (w.drewN n) b _ _ from h.blk).set 12 _
    · exact kb.ownsRow h.vis (fun g hg _ e => (h.ownV g hg).2 e)
  · intro hc
    have kb : Keeps (oneB b) w ((((w.drewN n).setCell ⟨b, 12, none⟩ (.bool true)).drewN m).setCell ⟨b, 13, none⟩ (.string (betweenOf br))) := (((q0.mono (fun _ e => e.elim)).setCell (.inl (show oneB b b from rfl)) _).drewN m).setCell (.inl (show oneB b b from rfl)) _
    refine ⟨own, vv, rfl, ⟨fun k e => .inl e, fun k e => Nat.lt_of_lt_of_le (hlt k e) kb.size, kb.mono (fun i (e : i = b) => e ▸ h.mine)⟩, ⟨?_, h.few, h.rest, h.txt, ?_, h.mine, h.ownV⟩⟩
    · have e : askM (some (.stuck br)) s.ch = betweenOf br := by simp [askM, hc]
      rw [e]
      exact (show Blk (((w.drewN n).setCell ⟨b, 12, none⟩ (.bool true)).drewN m) b _ _ from (show Blk (w.drewN n) b _ _ from h.blk).set 12 _).set 13 _
    · exact kb.ownsRow h.vis (fun g hg _ e => (h.ownV g hg).2 e)

/-- One choice is taken. -/
theorem rn_taken {w : World} {own : Nat → Prop} {b : Nat} {C : ByteArray} {s s' : St} {vv : Value} {c : UInt8} (h : RnAt w own b C s none vv) (hlt : ∀ k, own k → k < w.heap.size) (h1 : s.ch = c :: s'.ch) (h3 : s' = { s with ch := s'.ch }) :
    ∃ k, k < C.size ∧ C.size - s.ch.length = k ∧ (∀ hk : k < C.size, C[k] = c) ∧ ∀ n m, RnRuns w own b C s' none (.int .u8 (c.toNat : Int)) (.returned (.int .u8 (c.toNat : Int))) (((w.drewN n).setCell ⟨b, 1, none⟩ (.int .i64 ((k : Int) + 1))).drewN m) := by
  have hf := h.few
  have hl : s.ch.length = s'.ch.length + 1 := by rw [h1]; simp
  have hr := h.rest
  obtain ⟨k, hk⟩ : ∃ k, C.size - s.ch.length = k := ⟨_, rfl⟩
  rw [hk, h1] at hr
  obtain ⟨g1, g2, g3⟩ := drop_cons hr
  have g1' : k < C.size := by simpa using g1
  have e2 : C.size - s'.ch.length = k + 1 := by omega
  refine ⟨k, g1', hk, fun hk2 => by show C.data[k] = c; simpa using g2, fun n m => ?_⟩
  have hS : RnAt (w.setCell ⟨b, 1, none⟩ (i64 (k + 1))) own b C s' none vv := by
    refine h.stored 1 (i64 (k + 1)) ?_ (by omega) (by rw [e2]; exact g3) (by rw [h3]; exact h.txt) (by rw [h3])
    rw [hk, e2, h3]
    rfl
  have q : Keeps noB (w.setCell ⟨b, 1, none⟩ (i64 (k + 1))) (((w.drewN n).setCell ⟨b, 1, none⟩ (i64 (k + 1))).drewN m) := ⟨rfl, rfl, rfl, Nat.le_refl _, fun _ _ _ => rfl⟩
  refine ⟨own, vv, rfl, ?_, hS.keeps q (fun _ _ e => e)⟩
  exact (owns_set h.mine hlt 1 _).ahead q (fun _ e => e.elim)

theorem take_last (k : Nat) (hk : k ≤ 1000) : IntKind.i64.wrap ((k : Int) + 1 - 1) = (k : Int) := by rw [show (k : Int) + 1 - 1 = (k : Int) from by omega]; exact IntWalk.i64_in _ (by omega)

set_option maxRecDepth 100000 in
set_option maxHeartbeats 2000000 in
theorem takeM_ok (b : Nat) (C : ByteArray) (s s' : St) (vv : Value) (own : Nat → Prop) (w : World) (h : RnAt w own b C s none vv) (hlt : ∀ k, own k → k < w.heap.size) (hC : C.size ≤ 1000) (br : Bool) (c : UInt8) (hc : s.choose (firstOf br) (otherOf br) = some (c, s')) :
    Calls Try.prog 131 #[.pointer (some ⟨b, 0, none⟩), .string (betweenOf br)] w (RnRuns w own b C s' none (.int .u8 (c.toNat : Int))) := by
  obtain ⟨h1, h2, h3⟩ := choose_some hc
  obtain ⟨k, hk, hke, hkc, hW⟩ := rn_taken h hlt h1 h3
  have hkc := hkc hk
  have r0 := h.blk.cell 0
  have r1 := h.blk.cell 1
  have z1 := h.blk.free 1
  rw [hke] at r1
  simp [rnCells, i64] at r0 r1
  have hin : c ∈ (betweenOf br).data.toList := by simp [betweenOf]; exact h2
  have hfi : 0 ≤ findI (betweenOf br) c := findI_mem hin
  have hbs : (betweenOf br).size ≤ 1048576 := by cases br <;> decide
  have HI := Lib.hid (fun w => find_any (betweenOf br) c w hbs)
  have HW := Lib.hid hW
  have hd : decide (C.size ≤ k) = false := by simpa using hk
  have g1 := take_last k (by omega)
  have g1' : IntKind.i64.wrap ((k : Int)) = (k : Int) := IntWalk.i64_in _ (by omega)
  have g2 : (k : Int) + 1 - 1 = (k : Int) := by omega
  have hk1 : (k : Int) < (C.size : Int) := by omega
  have hk0 : (0 : Int) ≤ (k : Int) := by omega
  have hk2 : (k : Int) ≤ 1000 := by omega
  have hkz : (C.size : Int) ≤ 1000 := by omega
  clear h hc h1 h2 h3 hin hlt hke hbs hW
  generalize betweenOf br = bt at *
  go_enter Try.func131, Try.ntmps131
  go_wp2_with fail
  go_quiet ((go_at_call 37; exact Calls.quiet_of_same (HI.out _)))
  go_wp2_with fail
  go_quiet (fail)
  go_wp2_with fail
  go_ret
  exact HW.out _ _

set_option maxRecDepth 100000 in
set_option maxHeartbeats 2000000 in
theorem takeM_none (b : Nat) (C : ByteArray) (s : St) (vv : Value) (own : Nat → Prop) (w : World) (h : RnAt w own b C s none vv) (hlt : ∀ k, own k → k < w.heap.size) (hC : C.size ≤ 1000) (br : Bool) (hc : s.choose (firstOf br) (otherOf br) = none) :
    Calls Try.prog 131 #[.pointer (some ⟨b, 0, none⟩), .string (betweenOf br)] w (RnRuns w own b C s (some (.stuck br)) (.int .u8 0)) := by
  have r0 := h.blk.cell 0
  have r1 := h.blk.cell 1
  have r12 := h.blk.cell 12
  have r13 := h.blk.cell 13
  have z12 := h.blk.free 12
  have z13 := h.blk.free 13
  have hbs : (betweenOf br).size ≤ 1048576 := by cases br <;> decide
  have hW := fun n m => rn_stuck h hlt br n m
  have HW := Lib.hid hW
  have hf := h.few
  have hr := h.rest
  obtain ⟨k, hk⟩ : ∃ k, C.size - s.ch.length = k := ⟨_, rfl⟩
  rw [hk] at hr r1
  simp [rnCells, i64] at r0 r1 r12 r13
  have hk0 : (0 : Int) ≤ (k : Int) := by omega
  have hk2 : (k : Int) ≤ 1000 := by omega
  have hkz : (C.size : Int) ≤ 1000 := by omega
  cases hch : s.ch with
  | nil =>
    have hke : k = C.size := by rw [hch] at hk; simpa using hk.symm
    have HX := Lib.hid (fun n m => (HW.out n m).2 hch)
    subst hke
    clear h hlt hc hch hW HW hf hr hk hbs
    generalize betweenOf br = bt at *
    go_enter Try.func131, Try.ntmps131
    go_wp2_with fail
    go_quiet (fail)
    go_wp2_with fail
    go_quiet (fail)
    go_wp2_with fail
    go_ret
    exact HX.out _ _
  | cons c r =>
    rw [hch] at hr
    obtain ⟨g1, g2, _⟩ := drop_cons hr
    have g1' : k < C.size := by simpa using g1
    have hkc : C[k] = c := by show C.data[k] = c; simpa using g2
    have hno : ¬ c ∈ (betweenOf br).data.toList := by
      intro e
      simp [betweenOf] at e
      unfold St.choose at hc
      rw [hch] at hc
      simp only at hc
      rw [if_pos e] at hc
      cases hc
    have hfi : findI (betweenOf br) c = -1 := findI_not hno
    have HI := Lib.hid (fun w => find_any (betweenOf br) c w hbs)
    rw [hfi] at HI
    have HX := Lib.hid (fun n m => (HW.out n m).1 (by rw [hch]; simp))
    have hd : decide (C.size ≤ k) = false := by simpa using g1'
    have hk1 : (k : Int) < (C.size : Int) := by omega
    clear h hlt hc hch hW HW hf hr hk hno hfi g1 g2 hbs
    generalize betweenOf br = bt at *
    go_enter Try.func131, Try.ntmps131
    go_wp2_with fail
    go_quiet ((go_at_call 37; exact Calls.quiet_of_same (HI.out _)))
    go_wp2_with fail
    go_quiet (fail)
    go_wp2_with fail
    go_ret
    exact HX.out _ _

end Go.Proofs.Ytcohmhgmocdbfaa

/-
  The program's PointsOf: the keys of what is noted, sorted, are the points in ascending order.
-/
import Derived.Test.YtkfcgamdlckncaaVoW
import Derived.Test.YtkfcgamdlckncaaYpa
import Derived.Test.YtkfcgamdlckncaaWqV
import Derived.Test.YtkfcgamdlckncaaShelfI
import Derived.Shelf.SlIterI.Nil
import Derived.Shelf.SortM.Plain
import Derived.Shelf.SortM.SortNone
namespace Go.Proofs.Ytkfcgamdlckncaa
set_option linter.unusedVariables false
set_option linter.unusedSimpArgs false
open Go.RowKit Go.Shelf Go.Maps

/-- A program's points as numbers. -/
def ptsZ (x : Nd) : List Int := (x.pts.map Prod.fst).map (fun k : Nat => (k : Int))
def pointsP (s : ByteArray) : Option (List Nat) := (progP s).map (fun x => x.pts.map Prod.fst)

theorem pts_keys {s : ByteArray} {x : Nd} (hp : progP s = some x) {w : World} {m : Nat} {D : DataW Value} (hown : w.ownsMap Try.prog 3 knR m 81 D) (hh : Holds D (notesP x)) : (ptsZ x).Perm (intKeys D) := by
  obtain ⟨es, rfl, hpw, _⟩ := hown.entries (int_keyed Try.underlying3)
  have hf := progP_fit hp
  have hasc := pts_ascN (progP_sp hp) hf
  have hk : ∀ p ∈ es, ∃ j, j < 81 ∧ p.1 = keyL j := hh.keys es rfl
  refine perm_intKeys hpw (fun p hp' => by obtain ⟨j, _, e⟩ := hk p hp'; exact ⟨(j : Int), e⟩) ?_ (fun z => ?_)
  · unfold ptsZ
    have h1 : (x.pts.map Prod.fst).Nodup := hasc.imp (fun h => by omega)
    exact List.pairwise_map.2 (h1.imp (fun h e => h (by omega)))
  · unfold ptsZ
    constructor
    · intro h
      obtain ⟨k, hk1, rfl⟩ := List.mem_map.1 h
      obtain ⟨p, hpm, rfl⟩ := List.mem_map.1 hk1
      have h1 := hh.get p.1
      have h2 : (notesP x p.1).isSome = true := Nd.pts_noted x ⟨0, 0⟩ hf p hpm
      rw [h2] at h1
      exact h1
    · intro h
      have h0 := h
      rw [has_eq, List.any_eq_true] at h
      obtain ⟨q, hq, hs⟩ := h
      obtain ⟨j, _, e⟩ := hk q hq
      rw [e] at hs
      have hz : (j : Int) = z := by simpa [keyL, Lit.sameKey] using hs
      subst hz
      have h1 := hh.get j
      have h2 : (notesP x j).isSome = true := h1.symm.trans h0
      obtain ⟨p, hpm, e2⟩ := Nd.note_pts x ⟨0, 0⟩ j hf h2
      exact List.mem_map.2 ⟨j, List.mem_map.2 ⟨p, hpm, e2⟩, rfl⟩

theorem pts_sorted {s : ByteArray} {x : Nd} (hp : progP s = some x) {ss : List Int} {D : DataW Value} (h1 : ss.Perm (intKeys D)) (h2 : (ptsZ x).Perm (intKeys D)) : ss.mergeSort (fun x y => decide (x ≤ y)) = ptsZ x := by
  have h3 := mergeSort_of_perm_i (h1.trans h2.symm)
  refine h3.trans (List.mergeSort_of_pairwise ?_)
  have hasc := pts_ascN (progP_sp hp) (progP_fit hp)
  unfold ptsZ
  exact List.pairwise_map.2 (hasc.imp (fun h => by simp only [decide_eq_true_eq]; omega))

theorem resPoints (W : World) (v : Value) (b : Bool) (tmps : Array Value) (h2 : tmps.getD 2 undef = v) (h3 : tmps.getD 3 undef = .bool b) : (results Try.f34 tmps).run Try.prog W = .ok (.tuple #[v, .bool b]) W := by
  have h2' : tmps[2]?.getD undef = v := by simpa using h2
  have h3' : tmps[3]?.getD undef = .bool b := by simpa using h3
  simp [results, Try.results34, go_sem, h2', h3']

/-- slices.Sort's two contracts at this dump, at the fence that asks nothing. -/
theorem sortsI (m : Nat) : AnyZI.SortsIn Try.prog Try.sortedI_ren Fence.wide m :=
  ⟨fun blk off cap ss W hH hblk hsz => callsIn_wide.2 (AnyM.slices_Sort_int Try.sortI blk off cap ss W hH hblk hsz),
   fun p cap W => callsIn_wide.2 (AnyM.slices_Sort_int_none Try.sortI p cap W)⟩

theorem keepsBelow {B : Nat} {w w' : World} (hB : w.heap.size ≤ B) (h : Below B w w') : Keeps noB w w' := ⟨h.os, h.tape, h.output, h.size, fun k hk _ => h.block k (by omega)⟩

theorem own_size {w : World} {m : Nat} {D : DataW Value} (hown : w.ownsMap Try.prog 3 knR m 81 D) : Maps.size D ≤ 81 := hown.size_le

theorem sorted_any {w2 : World} {m : Nat} {D : DataW Value} (hown : w2.ownsMap Try.prog 3 knR m 81 D) (n : Nat) (hn : 4 ≤ n) :
    CallsIn Fence.wide n Try.prog 59 #[.func (.func 81) #[] #[.pointer (some ⟨w2.heap.size, 0, none⟩)]] (w2.alloc (.cells #[.map (some m)] 92)) (fun e w' => ∃ (v : Value) (ss : List Int), e = .returned v ∧ ss.Perm (intKeys D) ∧
      w'.ownsRow (w2.alloc (.cells #[.map (some m)] 92)).heap.size 3 1 v ss.length ((ss.mergeSort (fun x y => decide (x ≤ y))).map encZ) ∧ (v = .slice none 0 0 ↔ ss = []) ∧ Below (w2.alloc (.cells #[.map (some m)] 92)).heap.size (w2.alloc (.cells #[.map (some m)] 92)) w') := by
  have hbl := hown.lt
  have hsz := own_size hown
  have hseq : SeqGives Fence.wide (n - 1 - 1 - 1) Try.prog 81 #[.pointer (some ⟨w2.heap.size, 0, none⟩)] encZ (fun ss => ss.Perm (intKeys D)) (Maps.size D) (w2.alloc (.cells #[.map (some m)] 92)) :=
    AnyZI.keys_gives (ρ := Try.keysI_ren) { Try.keysI with } Fence.wide _ trivial rfl (by omega) w2.heap.size m 81 D _ (by simp) (by simp) (by
      obtain ⟨es, clock, hb, Ft, hs, hD⟩ := hown
      exact ⟨es, clock, (Below.heap_alloc _ _ m hbl).trans hb, Ft, hs, hD⟩)
  exact AnyZI.sorted_in Try.sortedI Fence.wide n trivial trivial trivial trivial rfl hn (sortsI _) (enters_of Try.func80 (by kernel_rfl) rfl) 81 #[.pointer (some ⟨w2.heap.size, 0, none⟩)] trivial (enters_of Try.func81 (by kernel_rfl) rfl) _ _ (by unfold maxLen; omega) (by omega) _ hseq

set_option maxRecDepth 100000 in
set_option maxHeartbeats 4000000 in
theorem points_any (s : ByteArray) (hs : s.size ≤ 1048576) (w : World) : Calls Try.prog 34 #[.string s] w (NumsPost w (pointsP s)) := by
  refine (callsIn_wide (n := 9)).1 ?_
  obtain ⟨F, hF⟩ : ∃ F, F = Fence.wide := ⟨_, rfl⟩
  have hFf : ∀ f, F.fn f := by subst hF; exact fun _ => trivial
  have hdd : ∀ k : Nat, (F.depth.isSome = true → 1 ≤ k) := by subst hF; intro k h; simp [Fence.wide] at h
  have hro : F.round = none := by subst hF; rfl
  have hds : F.depth.isSome = false := by subst hF; rfl
  have HR : Hid (∀ n' w, CallsIn F n' Try.prog 46 #[.string s] w (ReadPost w (progP s))) := Lib.hid (fun n' w => by rw [hF]; exact callsIn_wide.2 (read_any s hs w))
  have HK : Hid (∀ n' mb W, CallsIn F n' Try.prog 60 #[.map mb] W fun e w' => e = .returned (.func (.func 81) #[] #[.pointer (some ⟨W.heap.size, 0, none⟩)]) ∧ w' = W.alloc (.cells #[.map mb] 92)) := Lib.hid (fun n' mb W => by rw [hF]; exact AnyZI.keys_in Try.keysI Fence.wide n' trivial rfl mb W)
  have HSD : Hid (∀ n' (w2 : World) m D, w2.ownsMap Try.prog 3 knR m 81 D → 4 ≤ n' → CallsIn F n' Try.prog 59 #[.func (.func 81) #[] #[.pointer (some ⟨w2.heap.size, 0, none⟩)]] (w2.alloc (.cells #[.map (some m)] 92)) (fun e w' => ∃ (v : Value) (ss : List Int), e = .returned v ∧ ss.Perm (intKeys D) ∧
      w'.ownsRow (w2.alloc (.cells #[.map (some m)] 92)).heap.size 3 1 v ss.length ((ss.mergeSort (fun x y => decide (x ≤ y))).map encZ) ∧ (v = .slice none 0 0 ↔ ss = []) ∧ Below (w2.alloc (.cells #[.map (some m)] 92)).heap.size (w2.alloc (.cells #[.map (some m)] 92)) w')) := Lib.hid (fun n' w2 m D ho hn => by rw [hF]; exact sorted_any ho n' hn)
  unfold pointsP
  cases hp : progP s with
  | none =>
    rw [← hF]
    rw [hp] at HR
    clear hF hp
    simp only [Option.map_none]
    refine callsIn_of_wp_marks Try.func34 rfl (hFf _) ?_ hro
    simp only [Try.ntmps34, List.size_toArray, List.length_cons, List.length_nil, Nat.reduceAdd, Nat.reduceSub, Array.replicate_succ, Array.replicate_zero, List.push_toArray, List.append_toArray, List.nil_append, List.cons_append]
    gi_wp2
    refine (HR.out _ _).mono ?_
    rintro e w1 ⟨rfl, q1⟩
    have HQ := Lib.hid q1
    clear q1
    gi_wp2
    refine leaves_marks [] _ List.nodup_nil (fun _ h => by cases h) (fun W' q _ => ?_)
    refine ⟨_, resPoints W' (.slice none 0 0) false _ rfl rfl, ?_⟩
    exact ⟨_, _, [], rfl, ⟨⟨rfl, .inl ⟨rfl, rfl⟩⟩, fun g hg => by simp [Value.ownBlock] at hg⟩, HQ.out.trans (q.mono (fun _ e => by cases e)), rfl, rfl⟩
  | some x =>
    have HSU : Hid (∀ n' (w1 : World) B g, RepI w1 (fromB B) x (.iface 62 (ptr g)) → CallsIn F n' Try.prog 61 #[ptr g] w1 (fun e w' => ∃ m, e = .returned (.map (some m)) ∧ MapAt Try.prog 3 w' m (notesP x) ∧ Keeps noB w1 w' ∧ w1.heap.size ≤ m)) := Lib.hid (fun n' w1 B g hr => by rw [hF]; exact callsIn_wide.2 (surveyed_any hp w1 _ g hr))
    have HPP : Hid (∀ (w2 : World) m D (ss : List Int), w2.ownsMap Try.prog 3 knR m 81 D → Holds D (notesP x) → ss.Perm (intKeys D) → ss.mergeSort (fun x y => decide (x ≤ y)) = ptsZ x) := Lib.hid (fun w2 m D ss ho hh h1 => pts_sorted hp h1 (pts_keys hp ho hh))
    rw [← hF]
    rw [hp] at HR
    clear hF hp
    simp only [Option.map_some]
    refine callsIn_of_wp_marks Try.func34 rfl (hFf _) ?_ hro
    simp only [Try.ntmps34, List.size_toArray, List.length_cons, List.length_nil, Nat.reduceAdd, Nat.reduceSub, Array.replicate_succ, Array.replicate_zero, List.push_toArray, List.append_toArray, List.nil_append, List.cons_append]
    gi_wp2
    refine (HR.out _ _).mono ?_
    rintro e w1 ⟨g, rfl, hr, q1⟩
    have HC := Lib.hid (fun n' => HSU.out n' w1 _ g hr)
    have HQ := Lib.hid q1
    clear hr q1 HSU
    unfold ptr at *
    gi_wp2
    refine (HC.out _).mono ?_
    rintro e w2 ⟨m, rfl, ⟨D, ho, hh⟩, q2, hm⟩
    have HQ2 := Lib.hid (HQ.out.trans q2)
    have HSX := Lib.hid (fun n' hn => HSD.out n' w2 m D ho hn)
    have HPX := Lib.hid (fun ss h1 => HPP.out w2 m D ss ho hh h1)
    clear ho hh q2 hm HSD HPP HC
    gi_wp2
    refine (HK.out _ _ _).mono ?_
    rintro e w3 ⟨rfl, rfl⟩
    gi_wp2
    refine (HSX.out _ (by omega)).mono ?_
    rintro e w4 ⟨v, ss, rfl, hperm, hrow, hnil, hb⟩
    have hsort := HPX.out ss hperm
    rw [hsort] at hrow
    have hlen : ss.length = (ptsZ x).length := by rw [← hsort, List.length_mergeSort]
    rw [hlen] at hrow
    have HE := Lib.hid (And.intro hrow hb)
    clear hrow hb hperm hnil hsort hlen HSX HPX
    gi_wp2
    refine leaves_marks [] _ List.nodup_nil (fun _ h => by cases h) (fun W' q _ => ?_)
    refine ⟨_, resPoints W' v true _ rfl rfl, ?_⟩
    obtain ⟨hrow, hb⟩ := HE.out
    have hk : Keeps noB w w4 := (HQ2.out.alloc _).trans (keepsBelow (Nat.le_refl _) hb)
    have hx : (ptsZ x).map encZ = (x.pts.map Prod.fst).map (fun k => i64 k) := by unfold ptsZ; rw [List.map_map]; rfl
    have hq : Keeps noB w4 W' := q.mono (fun _ e => by cases e)
    refine ⟨v, true, (ptsZ x).map encZ, rfl, ⟨?_, fun g hg => ?_⟩, hk.trans hq, rfl, hx⟩
    · rw [List.length_map]
      exact hq.ownsRow (ownsRow_base_a hrow (Nat.zero_le _)) (fun _ _ _ => id)
    · have h1 := HQ2.out.size
      have h2 := (hrow.lt g hg).1
      rw [World.size_alloc] at h2
      show w.heap.size ≤ g
      omega

end Go.Proofs.Ytkfcgamdlckncaa

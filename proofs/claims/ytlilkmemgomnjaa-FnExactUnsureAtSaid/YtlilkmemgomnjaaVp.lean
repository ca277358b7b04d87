/-
  Walks of the program's survey: every step of a program; surveyed.
-/
import Derived.Test.YtlilkmemgomnjaaVo
import Derived.Test.YtlilkmemgomnjaaPp
import Derived.Test.YtlilkmemgomnjaaIfW
namespace Go.Proofs.Ytlilkmemgomnjaa
set_option linter.unusedVariables false
set_option linter.unusedSimpArgs false
open Go.RowKit

theorem Nds.Sp.mem : ∀ {x : Nds} {lo hi : Nat}, x.Sp lo hi → ∀ z ∈ x.list, z.Sp
  | .nil, _, _, _, z, hz => by simp [Nds.list] at hz
  | .cons x r, _, _, h, z, hz => by
    simp only [Nds.Sp] at h
    rcases List.mem_cons.1 hz with e | hz
    · rw [e]; exact h.2.1
    · exact Nds.Sp.mem h.2.2 z hz

theorem Nds.few1 : ∀ x : Nds, x.list.length ≤ x.pre.len
  | .nil => Nat.zero_le _
  | .cons x r => by
    have h1 : 1 ≤ x.pre.len := by cases x; simp [Nd.pre, Nds.len]
    have h2 := Nds.few1 r
    have e1 : (Nds.cons x r).pre.len = x.pre.len + r.pre.len := by simp [Nds.pre, Nds.len_app]
    rw [e1]
    simp only [Nds.list, List.length_cons]
    omega

/-- What a body's walk says. -/
theorem surBody {txt : ByteArray} (htxt : txt.size ≤ 80) (x : Nds) {lo hi : Nat} (hsp : x.Sp lo hi) (hc : ∀ z ∈ x.list, SurC z) {w w1 : World} {ok : Nat → Prop} {y m n : Nat} {v : Value} {xs : List Value} (hn : n ≤ 4000)
    (hrow : Row w ok 46 1 v n xs) (hrep : RepIL w ok x xs) (hok : ∀ g, ok g → g ≠ m) (kt : Kn) (Mt : Notes) (hk : kt.Wf) (q : Keeps (oneB m) w w1) (h : SurAt w1 y m Mt) :
    Calls Try.prog 120 #[.pointer (some ⟨y, 0, none⟩), v, knV kt] w1 (SurPost w1 m (Nds.know x kt) ((Nds.note x kt).over Mt)) := by
  have hh : Hands w w1 ok ok := Hands.of_keeps q (fun g hg _ => hok g hg) (fun g hg _ => hg)
  exact surSteps_any x kt Mt w1 ok y m n v xs (hh.row _ _ _ _ _ hrow) (Hands.repIL hh x xs hrep) hok h hk hn (fun z hz => ⟨hc z hz, Nd.steady z (hsp.mem z hz)⟩)

theorem body_few {w : World} {ok : Nat → Prop} {x : Nds} {n : Nat} {v : Value} {xs : List Value} (hrow : Row w ok 46 1 v n xs) (hrep : RepIL w ok x xs) (hf : x.list.length ≤ 4000) : n ≤ 4000 := by
  have h1 := (RepIL.nth hrep).1
  have h2 := hrow.1.1
  omega

theorem Nds.Sp.len : ∀ {x : Nds} {lo hi : Nat}, x.Sp lo hi → x.list.length ≤ hi - lo
  | .nil, _, _, _ => by simp [Nds.list]
  | .cons x r, lo, hi, h => by
    simp only [Nds.Sp] at h
    have h1 := h.2.1.lt
    have h2 := h.2.2.len
    have h3 := h.2.2.le
    simp only [Nds.list, List.length_cons]
    omega

mutual
theorem Nd.surC {txt : ByteArray} (htxt : txt.size ≤ 80) : ∀ (x : Nd) (d : Nat), x.Ok txt d → x.Sp → SurC x
  | .mk c k e vs ar .nil, d, hx, hsp => by
    intro kk M w ok y m v hrep hok h hkw
    have hgd := hx.good
    have hge := hgd.le
    simp only [Nd.fin] at hge
    simp only [Nd.Sp] at hsp
    obtain ⟨hbe, hl⟩ := hsp
    simp only [RepI] at hrep
    obtain ⟨g, hg, h1⟩ := hrep
    have hgm := hok g hg
    rcases h1 with ⟨hc, t, rfl, rfl, hb⟩ | ⟨rfl, t, u, rfl, rfl, hb⟩ | ⟨hc, rfl, rfl, hb⟩
    · have hkn : Nd.know (.mk c k e [t] ar .nil) kk = valK c [t] kk := by
        rw [Nd.know, if_neg (by rcases hc with rfl | rfl | rfl | rfl <;> decide)]
      rw [hkn]
      exact surV kk M w y m g k h (by omega) (fun w1 q => ((q.blk hb hgm).cell 0).trans rfl) _ _ rfl (fun w1 q => behind_any kk hkw c [t] hl g k e 0 w1 (.inl ⟨hc, t, rfl, q.blk hb hgm⟩))
    · exact surV kk M w y m g k h (by omega) (fun w1 q => ((q.blk hb hgm).cell 0).trans rfl) _ _ rfl (fun w1 q => behind_any kk hkw 61 [t, u] hl g k e 0 w1 (.inr ⟨rfl, t, u, rfl, q.blk hb hgm⟩))
    · have hkn : Nd.know (.mk c k e [] ar .nil) kk = Kn.no := by
        rw [Nd.know, if_pos hc]
      exact surL kk M w y m g k h (by omega) (fun w1 q => ((q.blk hb hgm).cell 0).trans rfl) _ _ rfl hkn trivial
  | .mk c k e vs ar (.cons x .nil), d, hx, hsp => by
    intro kk M w ok y m v hrep hok h hkw
    have hgd := hx.good
    have hgr := hgd.room
    have hge := hgd.le
    simp only [Nd.scope, Nd.vars, Nd.fin] at hgr hge
    have hx' := hx
    simp only [Nd.Ok, Bds.Ok] at hx'
    have hxx := hx'.2.2.2.2.2.2.2.2.1
    simp only [Nd.Sp] at hsp
    obtain ⟨hl, hbe, hsx⟩ := hsp
    have ih := Nds.surC htxt x _ _ hxx _ _ hsx
    have hlen := hsx.len
    simp only [RepI] at hrep
    obtain ⟨vx, n, xs, ⟨g, hg, h1⟩, hrow, hrepx⟩ := hrep
    have hgm := hok g hg
    have hvx : ∃ a n c, vx = .slice a n c := by obtain ⟨a, c, e⟩ := row_shape hrow; exact ⟨a, n, c, e⟩
    have hn4 := body_few hrow hrepx (by omega)
    rcases h1 with ⟨rfl, rfl, rfl, hb⟩ | ⟨rfl, rfl, hb⟩
    · refine surO kk M w y m g k h (by omega) (fun w1 q => ((q.blk hb hgm).cell 0).trans rfl) _ _ (fun w1 q hm => ?_)
      have hat : SurAt w1 y m ((point k kk).over M) := h.keeps q hm
      have hL := surLoop_any x kk ((point k kk).over M) w1 y m g k e vx hat (q.blk hb hgm) hgm hkw (Nds.steady x _ _ hsx) hvx (fun kt Mt w2 hkt q2 h2 => surBody htxt x hsx ih hn4 hrow hrepx hok kt Mt hkt (q.trans q2) h2)
      rw [← over_assoc] at hL
      exact hL
    · refine surS kk M w y m g k h (by omega) (fun w1 q => ((q.blk hb hgm).cell 0).trans rfl) _ _ (fun w1 q hm => ?_)
      have hat : SurAt w1 y m ((point k kk).over M) := h.keeps q hm
      have hL := surScope_any kk ((point k kk).over M) w1 y m g k e vs vx hat (q.blk hb hgm) hgm (by omega) (by omega) hl (by omega) hvx (Nds.know x kk) ((Nds.steady x _ _ hsx).wf kk hkw) ((Nds.note x kk).over ((point k kk).over M))
        (fun w2 q2 hm2 => surBody htxt x hsx ih hn4 hrow hrepx hok kk _ hkw (q.trans q2) (hat.keeps q2 hm2))
      rw [show (point (e - 1) (Nds.know x kk)).over ((Nds.note x kk).over ((point k kk).over M)) = ((point (e - 1) (Nds.know x kk)).over ((Nds.note x kk).over (point k kk))).over M from by simp only [over_assoc]] at hL
      exact hL
  | .mk c k e vs ar (.cons x (.cons z .nil)), d, hx, hsp => by
    intro kk M w ok y m v hrep hok h hkw
    have hgd := hx.good
    have hge := hgd.le
    simp only [Nd.fin] at hge
    have hx' := hx
    simp only [Nd.Ok, Bds.Ok] at hx'
    have hxx := hx'.2.2.2.2.2.2.2.2.1
    have hzz := hx'.2.2.2.2.2.2.2.2.2.1
    simp only [Nd.Sp] at hsp
    obtain ⟨m0, h1, h2, h3, hsx, hsz⟩ := hsp
    have ihx := Nds.surC htxt x _ _ hxx _ _ hsx
    have ihz := Nds.surC htxt z _ _ hzz _ _ hsz
    have hlx := hsx.len
    have hlz := hsz.len
    simp only [RepI] at hrep
    obtain ⟨vx, vz, n, xs, n2, zs, ⟨g, hg, rfl, rfl, rfl, hb⟩, ⟨hrx, hpx⟩, hrz, hpz⟩ := hrep
    have hgm := hok g hg
    obtain ⟨xa, xc, rfl⟩ := row_shape hrx
    obtain ⟨za, zc, rfl⟩ := row_shape hrz
    have hnx := body_few hrx hpx (by omega)
    have hnz := body_few hrz hpz (by omega)
    have hL := surB kk M w y m g k h (by omega) (fun w1 q => ((q.blk hb hgm).cell 0).trans rfl) ((Nds.know x kk).join (Nds.know z kk)) (Nds.know x kk) (Nds.know z kk) ((Nds.note x kk).over ((point k kk).over M)) ((Nds.note z kk).over ((Nds.note x kk).over ((point k kk).over M))) rfl
      ((Nds.steady x _ _ hsx).wf kk hkw) ((Nds.steady z _ _ hsz).wf kk hkw) hgm hb.lt xa za n xc n2 zc (fun w1 q => ⟨((q.blk hb hgm).cell 2).trans rfl, ((q.blk hb hgm).cell 3).trans rfl⟩)
      (fun w1 q hm => surBody htxt x hsx ihx hnx hrx hpx hok kk _ hkw q (h.keeps q hm)) (fun w1 q hm => surBody htxt z hsz ihz hnz hrz hpz hok kk _ hkw q (h.keeps q hm))
    rw [← over_assoc, ← over_assoc, over_assoc (Nds.note z kk)] at hL
    exact hL
  | .mk _ _ _ _ _ (.cons _ (.cons _ (.cons _ _))), _, _, _ => by
    intro kk M w ok y m v hrep
    simp only [RepI] at hrep
theorem Nds.surC {txt : ByteArray} (htxt : txt.size ≤ 80) : ∀ (x : Nds) (sc : List UInt8) (d : Nat), x.Ok txt sc d → ∀ (lo hi : Nat), x.Sp lo hi → ∀ z ∈ x.list, SurC z
  | .nil, _, _, _, _, _, _ => fun z hz => by cases hz
  | .cons x r, sc, d, hx, lo, hi, hsp => by
    simp only [Nds.Ok] at hx
    simp only [Nds.Sp] at hsp
    have h1 := Nd.surC htxt x d hx.2.1 hsp.2.1
    have h2 := Nds.surC htxt r sc d hx.2.2 _ _ hsp.2.2
    intro z hz
    rcases List.mem_cons.1 hz with e | hz
    · rw [e]; exact h1
    · exact h2 z hz
end

set_option maxRecDepth 100000 in
set_option maxHeartbeats 4000000 in
theorem surveyed_any {s : ByteArray} {x : Nd} (hp : progP s = some x) (w : World) (ok : Nat → Prop) (g : Nat) (hrep : RepI w ok x (.iface 57 (ptr g))) :
    Calls Try.prog 72 #[ptr g] w (fun e w' => ∃ m, e = .returned (.map (some m)) ∧ MapAt Try.prog 3 w' m (notesP x) ∧ Keeps noB w w' ∧ w.heap.size ≤ m) := by
  have hmm := @run_makeMap Try.prog
  unfold ptr at *
  obtain ⟨_, h2, _, _, _, h6⟩ := progP_ok hp
  have hsz : (w.alloc (.map #[] 0)).heap.size = w.heap.size + 1 := by simp only [World.alloc, Array.size_push]
  have hB := Blk.new (w.alloc (.map #[] 0)) #[.map (some w.heap.size)] 139
  rw [hsz] at hB
  have q0 : Keeps noB w ((w.alloc (.map #[] 0)).alloc (.cells #[.map (some w.heap.size)] 139)) := ((Keeps.refl _ _).alloc _).alloc _
  have hm0 : MapAt Try.prog 3 ((w.alloc (.map #[] 0)).alloc (.cells #[.map (some w.heap.size)] 139)) w.heap.size blank := (MapAt.made Try.prog 3 w).keeps ((Keeps.refl noB _).alloc _) id
  have hh : Hands w ((w.alloc (.map #[] 0)).alloc (.cells #[.map (some w.heap.size)] 139)) ok (fun i => i < w.heap.size) := Hands.of_keeps q0 (fun _ _ _ => id) (fun i _ hl => hl)
  have HS := Lib.hid (Nd.surC h6 x 0 h2 (progP_sp hp) ⟨0, 0⟩ blank _ (fun i => i < w.heap.size) (w.heap.size + 1) w.heap.size _ (hh.repI x _ hrep) (fun i hi => by omega) ⟨hB, by omega, hm0⟩ wf_start)
  have HX : Hid (∀ w3, MapAt Try.prog 3 w3 w.heap.size ((Nd.note x ⟨0, 0⟩).over blank) → Keeps (oneB w.heap.size) ((w.alloc (.map #[] 0)).alloc (.cells #[.map (some w.heap.size)] 139)) w3 →
      w3.cell? ⟨w.heap.size + 1, 0, none⟩ = some (.map (some w.heap.size)) ∧ MapAt Try.prog 3 w3 w.heap.size (notesP x) ∧ Keeps noB w w3) := fun w3 hm q => by
    rw [over_blank] at hm
    exact ⟨((q.blk hB (fun e => by have : w.heap.size + 1 = w.heap.size := e; omega)).cell 0).trans rfl, hm, q0.transNew q (fun i hi e => by have : i = w.heap.size := e; omega)⟩
  unfold knV at HS
  clear hp hrep h2 h6 hsz hB q0 hm0 hh
  go_enter Try.func72, Try.ntmps72
  go_wp2_with (go_at_call 99; refine HS.out.mono ?_; rintro e3 w3 ⟨rfl, hm3, q3⟩; have hh := HX.out w3 hm3 q3; have ⟨c0, hm4, q4⟩ := hh; have HF := Lib.hid (And.intro hm4 q4); clear hm3 q3 hh hm4 q4)
  go_ret
  exact ⟨w.heap.size, rfl, HF.out.1, HF.out.2, Nat.le_refl _⟩

end Go.Proofs.Ytlilkmemgomnjaa

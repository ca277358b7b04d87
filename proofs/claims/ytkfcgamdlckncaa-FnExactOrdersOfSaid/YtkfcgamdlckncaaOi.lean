/-
  The program's OrdersOf.
-/
import Derived.Test.YtkfcgamdlckncaaOh
namespace Go.Proofs.Ytkfcgamdlckncaa
set_option linter.unusedVariables false
set_option linter.unusedSimpArgs false
open Go.RowKit Go.Shelf

attribute [local go_sem] Oper.semAt_some

def TextsPost (w : World) (res : Option (List (List UInt8))) (e : Ending) (w' : World) : Prop :=
  ∃ v l, e = .returned (.tuple #[v, .bool res.isSome]) ∧ Row w' (fromB w.heap.size) 9 1 v l.length (strsC l) ∧ Keeps noB w w' ∧ l.length ≤ 1000 ∧ l = res.getD []

theorem resOrders (W : World) (v : Value) (b : Bool) (tmps : Array Value) (h2 : tmps.getD 2 undef = v) (h3 : tmps.getD 3 undef = .bool b) : (results Try.f29 tmps).run Try.prog W = .ok (.tuple #[v, .bool b]) W := by
  have h2' : tmps[2]?.getD undef = v := by simpa using h2
  have h3' : tmps[3]?.getD undef = .bool b := by simpa using h3
  simp [results, Try.results29, go_sem, h2', h3']

set_option maxRecDepth 100000 in
set_option maxHeartbeats 4000000 in
theorem orders_any (p : ByteArray) (hs : p.size ≤ 1048576) (w : World) : Calls Try.prog 29 #[.string p] w (TextsPost w (ordersP p)) := by
  refine (callsIn_wide (n := 9)).1 ?_
  obtain ⟨F, hF⟩ : ∃ F, F = Fence.wide := ⟨_, rfl⟩
  have hFf : ∀ f, F.fn f := by subst hF; exact fun _ => trivial
  have hdd : ∀ k : Nat, (F.depth.isSome = true → 1 ≤ k) := by subst hF; intro k h; simp [Fence.wide] at h
  have hro : F.round = none := by subst hF; rfl
  have hds : F.depth.isSome = false := by subst hF; rfl
  have HC : Hid (∀ m w, CallsIn F m Try.prog 56 #[.string p] w (InOrdPost w p (ordX p))) := Lib.hid (fun m w => by
    rw [hF]; exact callsIn_wide.2 (inOrder_any p hs w))
  rw [← hF]
  have HF := Lib.hid hF
  clear hF
  unfold ordersP
  generalize hx : ordX p = res at HC ⊢
  refine callsIn_of_wp_marks Try.func29 rfl (hFf _) ?_ hro
  simp only [Try.ntmps29, List.size_toArray, List.length_cons, List.length_nil, Nat.reduceAdd, Nat.reduceSub, Array.replicate_succ, Array.replicate_zero, List.push_toArray, List.append_toArray, List.nil_append, List.cons_append]
  gi_wp2
  refine (HC.out _ _).mono ?_
  cases res with
  | none =>
    rintro e w1 ⟨rfl, q1⟩
    have HQ := Lib.hid q1
    clear q1
    gi_wp2
    refine leaves_marks [] _ List.nodup_nil (fun _ h => by cases h) (fun W' q _ => ?_)
    refine ⟨_, resOrders W' (.slice none 0 0) false _ rfl rfl, ?_⟩
    exact ⟨_, [], rfl, ⟨⟨rfl, .inl ⟨rfl, rfl⟩⟩, fun g hg => by simp [Value.ownBlock] at hg⟩, HQ.out.trans (q.mono (fun _ e => by cases e)), Nat.zero_le _, rfl⟩
  | some x =>
    rintro e w1 ⟨RB, PB, g, rfl, ho, hRB, hPB, hg, q1⟩
    have hri := root_is (ordX_some hx).1
    have hfew := orders_few hx
    have HG := Lib.hid (And.intro hri hfew)
    have HQ := Lib.hid (And.intro q1 (And.intro hRB (And.intro hPB (And.intro hg ho))))
    have hRl := ho.root.lt
    have hPl := ho.text.lt
    have hgl := ho.lt
    clear q1 hri hfew hRB hPB hg ho hx
    gi_wp2
    have q2 : Keeps noB w1 (w1.alloc (.cells #[.slice none 0 0] 32)) := (Keeps.refl _ _).alloc _
    have bN := Blk.new w1 #[.slice none 0 0] 32
    have hs2 : (w1.alloc (.cells #[.slice none 0 0] 32)).heap.size = w1.heap.size + 1 := by simp
    generalize w1.alloc (.cells #[.slice none 0 0] 32) = w2 at q2 bN hs2 ⊢
    obtain ⟨N, hN⟩ : ∃ N, N = w1.heap.size := ⟨_, rfl⟩
    rw [← hN] at bN hs2 hRl hPl hgl ⊢
    have HH := Lib.hid hN
    have HQ2 := Lib.hid q2
    clear hN
    refine wp_range HF.out (gf := 76) (lb := #[.pointer (some ⟨RB, 0, none⟩), .pointer (some ⟨PB, 0, none⟩)]) (all := ordersL x) (enc := encO p) (prot := fun k => k = RB ∨ k = PB ∨ k = g) (own := oneB N)
      rfl (enters_of Try.func76 (by kernel_rfl) rfl) (fun W q => orders_iter p x HG.out.1 RB PB g W ((HQ.out.2.2.2.2.keeps q2 id id id).keeps q id id id)) (AllI N w2) (fun _ _ _ _ => False) ?hI ?hIx ?hown ?hprot ?hps ?h0 ?hround ?hdone ?hstop
    case hI => exact AllI.stab (by omega)
    case hIx => rintro c pre own W W' h q; exact h
    case hown => rintro k rfl; omega
    case hprot => rintro k (rfl | rfl | rfl) <;> exact ⟨fun e => by have : _ = N := e; omega, by omega⟩
    case hps => rintro y args rfl; rfl
    case h0 => exact ⟨Owns.refl (by rintro k rfl; omega), rfl, none, 0, bN, ⟨rfl, .inl ⟨rfl, rfl⟩⟩, fun g hg => by simp [Value.ownBlock] at hg⟩
    case hround =>
      rintro l m pre y post args own1 W1 hall henc hai hlt hl hnl hll
      have henc' : args = #[str y, .string (declB ⟨y.toArray⟩ p)] := henc
      subst henc'
      have hpre : pre.length ≤ 100000 := by
        have h1 := HG.out.2
        rw [hall] at h1
        simp at h1
        omega
      have HA := Lib.hid hai
      have HW := Lib.hid (And.intro hl (And.intro hnl hll))
      clear hall henc hai hl hnl hll
      obtain ⟨ps, hps⟩ : ∃ ps : ByteArray, ps = ⟨y.toArray⟩ := ⟨_, rfl⟩
      generalize declB ⟨y.toArray⟩ p = dv
      unfold str
      rw [← hps]
      have HPS := Lib.hid hps
      clear hps
      gi_wp2
      refine ⟨Keeps.refl _ _, fun W3 q3 hs3 => ?_⟩
      obtain ⟨hl, hnl, hll⟩ := HW.out
      obtain ⟨k3, hoN, a3, c3, d3, d4, d5⟩ := AllI.stab (N := N) (w2 := w2) (by omega) pre own1 W1 W3 HA.out (q3.mono (fun k e => by obtain rfl : k = l := e; exact ⟨hl, hnl⟩))
      obtain ⟨a', c', w', hr, z4, y5, hend⟩ := all_next (p := y) (by omega) k3 hoN d3 d4 d5 hpre
      have y4 := d3.cell 0
      simp at y4
      have y6 : (W3.alloc (.cells #[.string ps] 9)).cell? ⟨N, 0, none⟩ = some (.slice a3 pre.length c3) := ((d3.alloc _).cell 0).trans rfl
      rw [← HPS.out] at hr
      have HE := Lib.hid hend
      clear hend hl hnl hll q3 hs3 k3 hoN d3 d4 d5
      gi_wp2_with (gi_at_builtin; refine wpListIn_append_run _ rfl _ _ _ _ rfl _ _ rfl rfl _ _ hr ?_)
      exact HE.out
    case hdone =>
      rintro D own' W' hb ⟨h3, hoN, a, c, h4, h5, h6⟩
      have y4 := h4.cell 0
      simp at y4
      have HE : Hid (∀ W2, Keeps (fun k => k ∈ [D]) W' W2 → TextsPost w (some (ordersL x)) (.returned (.tuple #[.slice a (ordersL x).length c, .bool true])) W2) := Lib.hid (by
        intro W2 q
        have hs1 := HQ.out.1.size
        have hNw := HH.out
        have hnew := hb.new
        have k2 : Keeps noB w W' := (HQ.out.1.trans HQ2.out).transNew h3.keeps (fun i hi e => by have : i = N := e; omega)
        refine ⟨_, ordersL x, rfl, ⟨?_, fun g hg => ?_⟩, k2.transNew q (fun i hi e => by simp at e; omega), by have := HG.out.2; omega, rfl⟩
        · exact q.ownsRow h5 (fun g hg hl e => by simp at e; subst e; exact hb.free (h6 g hg).1)
        · have := (h6 g hg).2; show w.heap.size ≤ g; omega)
      obtain ⟨L, hL⟩ : ∃ L, L = (ordersL x).length := ⟨_, rfl⟩
      rw [← hL] at y4 HE
      have HD := Lib.hid hb.none
      clear h3 h4 h5 h6 hb hL
      dsimp only
      gi_wp2
      refine leaves_marks [D] _ (by simp) (fun D' hD' => by simp at hD'; subst hD'; exact HD.out) (fun W2 q _ => ?_)
      exact ⟨_, resOrders W2 _ _ _ rfl rfl, HE.out _ q⟩
    case hstop => intro D c pre post own' W' _ _ h; exact h.elim

end Go.Proofs.Ytkfcgamdlckncaa

/-
  The program's programs in order: the iterator; OrdersOf.
-/
import Derived.Test.YtkfcgamdlckncaaOd
import Derived.Test.YtkfcgamdlckncaaOf
import Derived.Test.YtkfcgamdlckncaaKva
namespace Go.Proofs.Ytkfcgamdlckncaa
set_option linter.unusedVariables false
set_option linter.unusedSimpArgs false
open Go.RowKit Go.Shelf

attribute [local go_sem] Oper.semAt_some

/-- What the iterator yields: an order, and what the program is with it. -/
def encO (p : ByteArray) (c : List UInt8) (args : Array Value) : Prop := args = #[str c, .string (declB ⟨c.toArray⟩ p)]

/-- What the iterator works over. -/
structure OrdAt (p : ByteArray) (x : Nd) (RB PB g : Nat) (W : World) : Prop where
  root : Blk W RB #[.pointer (some ⟨g, 0, none⟩)] 62
  text : Blk W PB #[.string p] 9
  vars : W.cell? ⟨g, 2, none⟩ = some (str x.vars)
  lt : g < W.heap.size

theorem OrdAt.keeps {p : ByteArray} {x : Nd} {RB PB g : Nat} {W W' : World} {may : Nat → Prop} (h : OrdAt p x RB PB g W) (q : Keeps may W W') (h1 : ¬ may RB) (h2 : ¬ may PB) (h3 : ¬ may g) : OrdAt p x RB PB g W' :=
  ⟨q.blk h.root h1, q.blk h.text h2, (q.cell (p := ⟨g, 2, none⟩) h.lt h3).trans h.vars, Nat.lt_of_lt_of_le h.lt q.size⟩

theorem bits_mem {l : List UInt8} (h : ∀ v ∈ l, ltr v) {v : UInt8} (hv : ltr v) : hasV (bitsV l) v = true ↔ v ∈ l := by
  induction l with
  | nil => simp [bitsV, hasV]
  | cons u r ih =>
    have h1 := ih (fun x hx => h x (by simp [hx]))
    have h2 := hasV_bit (h u (by simp)) hv
    rw [bitsV_cons]
    unfold hasV at *
    rw [Nat.testBit_or, Bool.or_eq_true, h1, h2]
    simp

theorem sorted_bits {l : List UInt8} (h : ∀ v ∈ l, ltr v) : sortedOf l = lets (bitsV l) := by
  unfold sortedOf lets
  refine filter_abc fun u hu => ?_
  rw [Bool.eq_iff_iff, bits_mem h hu]
  simp

/-- All orders of a program's outermost letters. -/
def ordersL (x : Nd) : List (List UInt8) := permsP [] (lets (bitsV x.vars))

theorem orders_size {p : ByteArray} {x : Nd} (h : RootIs p x) {c : List UInt8} (hc : c ∈ ordersL x) : c.length ≤ x.vars.length := by
  have := permsP_size hc
  simp at this
  rw [this]
  refine once_len _ _ (lets_once _) (fun v hv => ?_)
  have h1 := mem_lets.1 hv
  exact (bits_mem (fun u hu => (h.decl.each u hu).1) h1.1).1 h1.2

set_option maxRecDepth 100000 in
set_option maxHeartbeats 8000000 in
theorem orders_iter (p : ByteArray) (x : Nd) (hx : RootIs p x) (RB PB g : Nat) (W : World) (h : OrdAt p x RB PB g W) :
    IterAt Try.prog 76 #[.pointer (some ⟨RB, 0, none⟩), .pointer (some ⟨PB, 0, none⟩)] (ordersL x) (encO p) (fun k => k = RB ∨ k = PB ∨ k = g) W := by
  intro l J Jx own hJ hJx hown hprot hR h0 n
  obtain ⟨F, hF⟩ : ∃ F, F = Fence.wide := ⟨_, rfl⟩
  have hFf : ∀ f, F.fn f := by subst hF; exact fun _ => trivial
  have hdd : ∀ k : Nat, (F.depth.isSome = true → 1 ≤ k) := by subst hF; intro k h; simp [Fence.wide] at h
  have hro : F.round = none := by subst hF; rfl
  have hvl : ∀ v ∈ x.vars, ltr v := fun v hv => (hx.decl.each v hv).1
  have HSO : Hid (∀ n' w, CallsIn F n' Try.prog 78 #[str x.vars] w (fun e w' => e = .returned (.int .u8 (bitsV x.vars : Int)) ∧ Keeps noB w w')) := Lib.hid (fun n' w => by
    rw [hF]; exact callsIn_wide.2 (setOf_any x.vars hvl (by have := hx.six; omega) w))
  have HPM : Hid (∀ n' sv k w, CallsIn F n' Try.prog 77 #[.string sv, .int .u8 k] w (fun e w' => e = .returned (.func (.func 106) #[] #[.pointer (some ⟨w.heap.size + 1, 0, none⟩), .pointer (some ⟨w.heap.size, 0, none⟩)]) ∧ w' = (w.alloc (.cells #[.string sv] 9)).alloc (.cells #[.int .u8 k] 93))) := Lib.hid (fun n' sv k w => by
    rw [hF]; exact callsIn_wide.2 (permutations_any sv k w))
  have HDE : Hid (∀ n' (c : List UInt8) w, c.length ≤ x.vars.length → CallsIn F n' Try.prog 54 #[str c, .string p] w (fun e w' => e = .returned (.string (declB ⟨c.toArray⟩ p)) ∧ w' = w)) := Lib.hid (fun n' c w hc => by
    rw [hF]; exact callsIn_wide.2 (declaring_any ⟨c.toArray⟩ p hx.short (by have := hx.room; show 1 + c.length ≤ _; omega) w))
  rw [← hF]
  have HF := Lib.hid hF
  clear hF
  refine callsIn_of_wp_marks Try.func76 rfl (hFf _) ?_ hro
  simp only [Try.ntmps76, List.size_toArray, List.length_cons, List.length_nil, Nat.reduceAdd, Nat.reduceSub, Array.replicate_succ, Array.replicate_zero, List.push_toArray, List.append_toArray, List.nil_append, List.cons_append]
  obtain ⟨VS, hVS⟩ : ∃ VS : ByteArray, (⟨x.vars.toArray⟩ : ByteArray) = VS := ⟨_, rfl⟩
  have hvars := h.vars
  unfold str at hvars HSO
  rw [hVS] at hvars HSO
  have q0 : Keeps noB W (W.alloc (.cells #[.func (.yield l) #[] #[]] 35)) := (Keeps.refl _ _).alloc _
  have b1 : Blk (W.alloc (.cells #[.func (.yield l) #[] #[]] 35)) W.heap.size #[.func (.yield l) #[] #[]] 35 := Blk.new _ _ _
  have r0 := (h.root.alloc (.cells #[.func (.yield l) #[] #[]] 35)).cell 0
  have r1 := (q0.cell (p := ⟨g, 2, none⟩) h.lt id).trans hvars
  simp at r0 r1
  have HR := Lib.hid hR
  have HO := Lib.hid h
  have hRl := h.root.lt
  have hPl := h.text.lt
  have hgl := h.lt
  clear hR hVS hvars
  gi_wp2
  refine ⟨hdd _, (HSO.out _ _).mono ?_⟩
  rintro e W1 ⟨rfl, q1⟩
  gi_wp2
  refine ⟨hdd _, (HPM.out _ _ _ _).mono ?_⟩
  rintro e wq ⟨rfl, hwq⟩
  have q3 : Keeps noB W wq := by rw [hwq]; exact ((q0.trans q1).alloc _).alloc _
  have hbA : Blk wq W1.heap.size #[str []] 9 := by rw [hwq]; exact (Blk.new W1 _ _).alloc _
  have hbL : Blk wq (W1.heap.size + 1) #[.int .u8 ((bitsV x.vars : Nat) : Int)] 93 := by
    rw [hwq]; have := Blk.new (W1.alloc (.cells #[.string ⟨#[]⟩] 9)) #[.int .u8 ((bitsV x.vars : Nat) : Int)] 93; rwa [World.size_alloc] at this
  have hsq : wq.heap.size = W1.heap.size + 2 := by rw [hwq]; simp
  have hbY : Blk wq W.heap.size #[.func (.yield l) #[] #[]] 35 := by rw [hwq]; exact ((q1.blk b1 id).alloc _).alloc _
  have HSQ : Hid (wq.heap.size = W1.heap.size + 2 ∧ W.heap.size + 1 ≤ W1.heap.size) := Lib.hid ⟨hsq, by have := q1.size; simpa using this⟩
  clear hwq hsq r0 r1 q1
  generalize W1.heap.size = M at *
  have hmw := HSQ.out
  have hWq2 : W.heap.size ≤ wq.heap.size := q3.size
  gi_wp2
  refine wp_range HF.out (gf := 106) (lb := #[.pointer (some ⟨M + 1, 0, none⟩), .pointer (some ⟨M, 0, none⟩)]) (all := ordersL x) (enc := encT) (prot := fun k => k = M + 1 ∨ k = M) (own := own)
    rfl (enters_of Try.func106 (by kernel_rfl) rfl) ?hiter
    (fun pre own' W' => J pre own' W' ∧ Owns own own' wq W')
    (fun c pre own' W' => (c = .ret ∧ Jx pre own' W') ∧ Owns own own' wq W') ?hI ?hIx ?hown ?hprot ?hps ?h0 ?hround ?hdone ?hstop
  case hiter =>
    intro W' q
    exact perm_all _ [] (bitsV x.vars) W' (M + 1) M rfl (bitsV_lt hvl) (by have := lets_len (bitsV x.vars); simp; omega) (by omega) (q.blk hbL id) (q.blk hbA id)
  case hI => exact (hJ.mono hWq2).and Owns.stab
  case hIx =>
    intro c pre own W W' h q
    exact ⟨⟨h.1.1, (hJx.mono hWq2) _ _ _ _ h.1.2 q⟩, Owns.stab pre _ _ _ h.2 q⟩
  case hown => intro k hk; have := hown k hk; omega
  case hprot =>
    rintro k (rfl | rfl)
    · exact ⟨fun e => by have := hown _ e; omega, by omega⟩
    · exact ⟨fun e => by have := hown _ e; omega, by omega⟩
  case hps => rintro y args rfl; rfl
  case h0 => exact ⟨hJ _ _ _ _ h0 (q3.mono (fun _ e => e.elim)), Owns.refl (fun k hk => by have := hown k hk; omega)⟩
  case hround =>
    intro lq m pre y post args own3 W3 hall henc hI3 hlt3 hql hnl hll
    obtain ⟨hj3, ho3⟩ := hI3
    have hargs : args = #[str y] := henc
    subst hargs
    have hyl := orders_size hx (show y ∈ ordersL x by rw [hall]; simp)
    have hnown : ∀ k, k < wq.heap.size → ¬ own k → ¬ own3 k := fun k hk hn e => (ho3.more k e).elim hn (fun e2 => by omega)
    have b4 : Blk W3 W.heap.size #[.func (.yield l) #[] #[]] 35 := ho3.keeps.blk hbY (fun e => by have := hown _ e; omega)
    have o4 : OrdAt p x RB PB g W3 := (HO.out.keeps q3 id id id).keeps ho3.keeps (hprot _ (.inl rfl)) (hprot _ (.inr (.inl rfl))) (hprot _ (.inr (.inr rfl)))
    have HDY := Lib.hid (fun n' w => HDE.out n' y w hyl)
    obtain ⟨YV, hYV⟩ : ∃ YV : ByteArray, (⟨y.toArray⟩ : ByteArray) = YV := ⟨_, rfl⟩
    have hstr : str y = .string YV := by unfold str; rw [hYV]
    rw [hYV] at HDY
    rw [hstr] at henc HDY ⊢
    have HYV := Lib.hid hYV
    clear hYV
    gi_wp2
    refine ⟨Keeps.refl _ _, fun W5 q5 hs5 => ?_⟩
    have hq3 := ho3.keeps.size
    have hWM : W.heap.size < wq.heap.size := by omega
    have b5 : Blk W5 W.heap.size #[.func (.yield l) #[] #[]] 35 := q5.blk b4 (show W.heap.size ≠ lq by omega)
    have p5 : Blk W5 PB #[.string p] 9 := q5.blk o4.text (show PB ≠ lq by omega)
    have k35 : Keeps (fun k => wq.heap.size ≤ k ∧ ¬ own3 k) W3 W5 := q5.mono (fun k e => by obtain rfl : k = lq := e; exact ⟨hql, hnl⟩)
    have hj5 := hJ _ _ _ _ hj3 (k35.mono (fun k e => ⟨by omega, e.2⟩))
    have ho5 := ho3.ahead k35 (fun i hi => hi.1)
    obtain ⟨DV, hDV⟩ : ∃ DV : ByteArray, declB YV p = DV := ⟨_, rfl⟩
    have hencO : encO p y #[.string YV, .string DV] := by unfold encO; rw [hstr, HYV.out, hDV]
    rw [hDV] at HDY
    have HJ5 := Lib.hid (And.intro hj5 (And.intro ho5 hencO))
    have HLT : Hid (∀ k, own3 k → k < W5.heap.size) := Lib.hid (fun k hk => by have := hlt3 k hk; omega)
    have HCL : Hid (∀ W' : World, W'.heap[W.heap.size]? = W5.heap[W.heap.size]? → W'.heap[PB]? = W5.heap[PB]? → W'.cell? ⟨W.heap.size, 0, none⟩ = some (Value.func (.yield l) #[] #[]) ∧ W'.cell? ⟨PB, 0, none⟩ = some (Value.string p)) := Lib.hid (fun W' e1 e2 => ⟨((World.cell?_of_block (w := W5) (w' := W') (a := ⟨W.heap.size, 0, none⟩) e1).trans (b5.cell 0)).trans rfl, ((World.cell?_of_block (w := W5) (w' := W') (a := ⟨PB, 0, none⟩) e2).trans (p5.cell 0)).trans rfl⟩)
    have HST : Hid (∀ own6 W6, Owns own3 own6 W5.drew W6 → W6.heap[W.heap.size]? = W5.heap[W.heap.size]? ∧ W6.heap[PB]? = W5.heap[PB]?) := Lib.hid (fun own6 W6 ho => ⟨ho.keeps.block _ (show W.heap.size < W5.heap.size by omega) (hnown _ hWM (fun e => by have := hown _ e; omega)), ho.keeps.block _ (show PB < W5.heap.size by omega) (hnown _ (by omega) (hprot _ (.inr (.inl rfl))))⟩)
    have HCB : Hid (∀ W4, Keeps own3 W5 W4 → W4.cell? ⟨W.heap.size, 0, none⟩ = some (Value.func (.yield l) #[] #[]) ∧ W4.cell? ⟨PB, 0, none⟩ = some (Value.string p)) := Lib.hid (fun W4 q => HCL.out W4 (q.block _ (by show W.heap.size < W5.heap.size; omega) (hnown _ hWM (fun e => by have := hown W.heap.size e; omega))) (q.block _ (by show PB < W5.heap.size; omega) (hnown _ (by omega) (hprot _ (.inr (.inl rfl))))))
    clear henc hstr hDV b4 b5 p5 o4 hj3 hj5 ho3 ho5 k35 hencO q5
    gi_wp2
    refine wpIn_region_seqH_round (fun W4 => Keeps own3 W5 W4) [(0, true), (1, true), (2, true), (3, true), (4, false), (5, false), (6, true)] hro hFf (by kernel_rfl) (by kernel_rfl) (by kernel_rfl) rfl (by kernel_rfl) (fun _ _ _ _ h => h) ((Keeps.refl _ _).drew) ?_
    refine seqH_take (.func (.yield l) #[] #[]) rfl rfl (fun W4 q4 => by obtain ⟨f0, f1⟩ := HCB.out W4 q4; go_simp) (fun K hK => ?_)
    go_simp
    refine hK _ ?_
    clear hK K
    refine seqH_take (.string YV) rfl rfl (fun W4 q4 => by go_simp) (fun K hK => ?_)
    go_simp
    refine hK _ ?_
    clear hK K
    refine seqH_take (.string YV) rfl rfl (fun W4 q4 => by go_simp) (fun K hK => ?_)
    go_simp
    refine hK _ ?_
    clear hK K
    refine seqH_take (.string p) rfl rfl (fun W4 q4 => by obtain ⟨f0, f1⟩ := HCB.out W4 q4; go_simp) (fun K hK => ?_)
    go_simp
    refine hK _ ?_
    clear hK K
    refine seqH_loud rfl (fun K hK => ?_)
    gi_wp2
    refine ⟨hdd _, (HDY.out _ _).mono ?_⟩
    rintro e W6 ⟨rfl, rfl⟩
    gi_wp2
    refine hK _ _ ((Keeps.refl _ _).drew) ?_
    clear hK K
    refine seqH_loud rfl (fun K hK => ?_)
    obtain ⟨hj5, ho5, hencO⟩ := HJ5.out
    obtain ⟨fn2, tmps2, assign2, body2, hy2, hR2⟩ := HR.out (m - 1) pre y post #[.string YV, .string DV] own3 W5.drew hall hencO (hJ _ _ _ _ hj5 ((Keeps.refl noB _).drew.mono (fun _ e => e.elim))) (fun k hk => HLT.out k hk)
    rw [← HF.out] at hR2
    clear hj5 ho5 hencO
    gi_wp2
    refine ⟨hdd _, (show RoundIn F _ _ _ _ _ _ _ _ _ from hR2).mono ?_⟩
    clear hR2 hy2
    rintro e W8 ⟨own8, ho8, (⟨rfl, hj8⟩ | ⟨rfl, hj8⟩)⟩
    · have HE := Lib.hid (And.intro (Owns.behind (Keeps.refl noB W5).drew ho8) (And.intro hj8 ((HJ5.out.2.1.ahead (Keeps.refl noB W5).drew (fun _ e => e.elim)).trans ho8)))
      clear hj8 ho8
      gi_wp2
      refine hK _ _ HE.out.1.keeps ?_
      clear hK K
      refine seqH_take (.bool false) rfl rfl (fun W4 q4 => by go_simp) (fun K hK => ?_)
      go_simp
      refine hK _ ?_
      clear hK K
      simp only [wpSeqH]
      gi_wp2
      exact ⟨own8, HE.out.1, HE.out.2.1, HE.out.2.2⟩
    · have HE := Lib.hid (And.intro (Owns.behind (Keeps.refl noB W5).drew ho8) (And.intro hj8 ((HJ5.out.2.1.ahead (Keeps.refl noB W5).drew (fun _ e => e.elim)).trans ho8)))
      clear hj8 ho8
      gi_wp2
      refine hK _ _ HE.out.1.keeps ?_
      clear hK K
      refine seqH_take (.bool true) rfl rfl (fun W4 q4 => by go_simp) (fun K hK => ?_)
      go_simp
      refine hK _ ?_
      clear hK K
      simp only [wpSeqH]
      gi_wp2
      exact ⟨own8, HE.out.1, ⟨rfl, HE.out.2.1⟩, HE.out.2.2⟩
  case hdone =>
    rintro D own' W' hb ⟨hj', ho'⟩
    have hnew := hb.new
    have HD := Lib.hid hb.none
    have HE : Hid (∀ W2, Keeps (fun k => k ∈ [D]) W' W2 → Owns own own' W W2 ∧ J (ordersL x) own' W2) := Lib.hid (fun W2 q2 =>
      ⟨(Owns.behind q3 hb.owns).ahead q2 (fun i hi => by simp at hi; omega), hJ _ _ _ _ hj' (q2.mono (fun i hi => by simp at hi; subst hi; exact ⟨by omega, hb.free⟩))⟩)
    clear hb hj' ho'
    dsimp only
    gi_wp2
    refine leaves_marks [D] _ (by simp) (fun D' hD' => by simp at hD'; subst hD'; exact HD.out) (fun W2 q2 _ => ?_)
    exact ⟨_, results_none rfl _ _ _, _, own', rfl, (HE.out W2 q2).1, .inl (HE.out W2 q2).2⟩
  case hstop =>
    rintro D c pre post own' W' hb hall ⟨⟨rfl, hj'⟩, ho'⟩
    have hnew := hb.new
    have HD := Lib.hid hb.none
    have HE : Hid (∀ W2, Keeps (fun k => k ∈ [D]) W' W2 → Owns own own' W W2 ∧ Jx pre own' W2) := Lib.hid (fun W2 q2 =>
      ⟨(Owns.behind q3 hb.owns).ahead q2 (fun i hi => by simp at hi; omega), hJx _ _ _ _ hj' (q2.mono (fun i hi => by simp at hi; subst hi; exact ⟨by omega, hb.free⟩))⟩)
    clear hb hj' ho'
    dsimp only
    gi_wp2
    refine leaves_marks [D] _ (by simp) (fun D' hD' => by simp at hD'; subst hD'; exact HD.out) (fun W2 q2 _ => ?_)
    exact ⟨_, results_none rfl _ _ _, _, own', rfl, (HE.out W2 q2).1, .inr ⟨pre, post, hall, (HE.out W2 q2).2⟩⟩

end Go.Proofs.Ytkfcgamdlckncaa

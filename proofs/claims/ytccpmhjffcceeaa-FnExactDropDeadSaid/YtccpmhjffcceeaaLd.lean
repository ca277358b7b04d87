/-
  DropDead of the model.
-/
import Derived.Test.YtccpmhjffcceeaaLb
import Derived.Test.YtccpmhjffcceeaaLc
import Derived.Test.YtccpmhjffcceeaaHlW
namespace Go.Proofs.Ytccpmhjffcceeaa
set_option linter.unusedVariables false
set_option linter.unusedSimpArgs false
open Go.RowKit Go.Shelf

mutual
theorem Nd.aliveS {w0 : World} {ok : Nat → Prop} {h : Nat} {x0 : Nd} {own : Nat → Prop} {l : AL} {va' vs' : Value} (hold : HoldAt w0 own h l va' vs') (hll : lookL l = notesP x0) (hok : ∀ i, ok i → i < w0.heap.size) : ∀ (x : Nd), x.Fit → (∀ q ∈ x.pre.list, notesP x0 q.beg = some (knownJ x0 q.beg)) → x.pre.len ≤ 200 → AliveC w0 ok h (fun q => liveK (knownJ x0 q.beg)) x
  | .mk c k e vs ar .nil, hf, hn, hl => alive_any hold hll hok _ (fun y hy => by simp [Nd.bodies, Bds.lists] at hy) (by simp [Nd.bodies, Bds.lists])
  | .mk c k e vs ar (.cons y .nil), hf, hn, hl => by
    simp only [Nd.Fit] at hf
    have hly : y.pre.len ≤ 200 := by simp only [Nd.pre, Bds.pre, Nds.len, Nds.len_app] at hl; omega
    have hy := Nds.aliveS hold hll hok y hf.2 (fun q hq => hn q (by simp only [Nd.pre, Bds.pre, Nds.list, Nds.list_app]; simp [hq])) hly
    have h2 := list_pre y
    refine alive_any hold hll hok _ (fun y' hy' => ?_) (by simp [Nd.bodies, Bds.lists])
    simp only [Nd.bodies, Bds.lists, List.mem_singleton] at hy'
    subst hy'
    exact ⟨hy, by omega⟩
  | .mk c k e vs ar (.cons y (.cons u .nil)), hf, hn, hl => by
    simp only [Nd.Fit] at hf
    have hly : y.pre.len ≤ 200 := by simp only [Nd.pre, Bds.pre, Nds.len, Nds.len_app] at hl; omega
    have hlu : u.pre.len ≤ 200 := by simp only [Nd.pre, Bds.pre, Nds.len, Nds.len_app] at hl; omega
    have hy := Nds.aliveS hold hll hok y hf.2.2.1 (fun q hq => hn q (by simp only [Nd.pre, Bds.pre, Nds.list, Nds.list_app]; simp [hq])) hly
    have hu := Nds.aliveS hold hll hok u hf.2.2.2 (fun q hq => hn q (by simp only [Nd.pre, Bds.pre, Nds.list, Nds.list_app]; simp [hq])) hlu
    have h2 := list_pre y
    have h3 := list_pre u
    refine alive_any hold hll hok _ (fun y' hy' => ?_) (by simp [Nd.bodies, Bds.lists])
    simp only [Nd.bodies, Bds.lists, List.mem_cons, List.mem_singleton, List.not_mem_nil, or_false] at hy'
    rcases hy' with rfl | rfl
    · exact ⟨hy, by omega⟩
    · exact ⟨hu, by omega⟩
  | .mk _ _ _ _ _ (.cons _ (.cons _ (.cons _ _))), hf, hn, hl => by simp only [Nd.Fit] at hf
theorem Nds.aliveS {w0 : World} {ok : Nat → Prop} {h : Nat} {x0 : Nd} {own : Nat → Prop} {l : AL} {va' vs' : Value} (hold : HoldAt w0 own h l va' vs') (hll : lookL l = notesP x0) (hok : ∀ i, ok i → i < w0.heap.size) : ∀ (x : Nds), x.Fit → (∀ q ∈ x.pre.list, notesP x0 q.beg = some (knownJ x0 q.beg)) → x.pre.len ≤ 200 → ∀ z ∈ x.list, AliveC w0 ok h (fun q => liveK (knownJ x0 q.beg)) z ∧ notesP x0 z.beg = some (knownJ x0 z.beg)
  | .nil, hf, hn, hl => fun z hz => by cases hz
  | .cons x r, hf, hn, hl => by
    simp only [Nds.Fit] at hf
    have h1 := Nd.aliveS hold hll hok x hf.1 (fun q hq => hn q (by simp only [Nds.pre, Nds.list_app]; simp [hq])) (by simp only [Nds.pre, Nds.len_app] at hl; omega)
    have h2 := Nds.aliveS hold hll hok r hf.2 (fun q hq => hn q (by simp only [Nds.pre, Nds.list_app]; simp [hq])) (by simp only [Nds.pre, Nds.len_app] at hl; omega)
    intro z hz
    rcases List.mem_cons.1 hz with e | hz
    · rw [e]
      refine ⟨h1, hn x ?_⟩
      simp only [Nds.pre, Nds.list_app, List.mem_append]
      left
      cases x
      simp [Nd.pre, Nds.list]
    · exact h2 z hz
end

mutual
theorem Nd.al_gr (K : Nd → Bool) : ∀ (x : Nd) (ar : List UInt8) (d : Nat), x.Gr ar d → (x.al K).Gr ar d
  | .mk c k e vs sc .nil, ar, d, h => h
  | .mk c k e vs sc (.cons y .nil), ar, d, h => by
    simp only [Nd.Gr, Nd.al, Bds.al] at *
    refine ⟨h.1, ?_⟩
    rcases h.2 with ⟨h1, h2, h3⟩ | ⟨h1, h2, h3, h4⟩
    · exact .inl ⟨h1, h2, Nds.al_gr K y _ _ h3⟩
    · exact .inr ⟨h1, h2, h3, Nds.al_gr K y _ _ h4⟩
  | .mk c k e vs sc (.cons y (.cons u .nil)), ar, d, h => by
    simp only [Nd.Gr, Nd.al, Bds.al] at *
    exact ⟨h.1, h.2.1, h.2.2.1, Nds.al_gr K y _ _ h.2.2.2.1, Nds.al_gr K u _ _ h.2.2.2.2⟩
  | .mk _ _ _ _ _ (.cons _ (.cons _ (.cons _ _))), ar, d, h => by simp only [Nd.Gr] at h
theorem Nds.al_gr (K : Nd → Bool) : ∀ (x : Nds) (ar : List UInt8) (d : Nat), x.Gr ar d → (x.al K).Gr ar d
  | .nil, ar, d, h => h
  | .cons x r, ar, d, h => by
    simp only [Nds.Gr, Nds.al] at *
    split
    · exact ⟨Nd.al_gr K x _ _ h.1, Nds.al_gr K r _ _ h.2⟩
    · exact Nds.al_gr K r _ _ h.2
end

mutual
theorem Nd.al_len (K : Nd → Bool) : ∀ (x : Nd), (x.al K).pre.len ≤ x.pre.len
  | .mk c k e vs sc bs => by
    have := Bds.al_len K bs
    simp only [Nd.al, Nd.pre, Nds.len]
    omega
theorem Nds.al_len (K : Nd → Bool) : ∀ (x : Nds), (x.al K).pre.len ≤ x.pre.len
  | .nil => Nat.le_refl _
  | .cons x r => by
    have h1 := Nd.al_len K x
    have h2 := Nds.al_len K r
    simp only [Nds.al, Nds.pre, Nds.len_app]
    split
    · simp only [Nds.pre, Nds.len_app]; omega
    · omega
theorem Bds.al_len (K : Nd → Bool) : ∀ (x : Bds), (x.al K).pre.len ≤ x.pre.len
  | .nil => Nat.le_refl _
  | .cons x r => by
    have h1 := Nds.al_len K x
    have h2 := Bds.al_len K r
    simp only [Bds.al, Bds.pre, Nds.len_app]
    omega
end

theorem decl_few {ar vs : List UInt8} (h : DeclG ar vs) : vs.length ≤ 103 := by
  have h1 : (vs.map UInt8.toNat).Nodup := by
    refine List.Pairwise.map UInt8.toNat (fun a b (hab : a ≠ b) e => hab (UInt8.toNat_inj.1 e)) h.once
  have h2 := few_nat 103 (vs.map UInt8.toNat) h1 (fun v hv => by
    obtain ⟨u, hu, rfl⟩ := List.mem_map.1 hv
    have := (h.each u hu).1.2
    omega)
  simpa using h2

mutual
theorem Nd.Gr.few : ∀ (x : Nd) (ar : List UInt8) (d : Nat), x.Gr ar d → ∀ z ∈ x.pre.list, z.vars.length ≤ 103
  | .mk c k e vs sc .nil, ar, d, h, z, hz => by
    simp only [Nd.pre, Bds.pre, Nds.list, List.mem_singleton] at hz
    subst hz
    simp only [Nd.Gr] at h
    simp only [Nd.vars]
    rcases h.2 with ⟨_, v, h, _⟩ | ⟨_, v, u, h, _⟩ | ⟨_, h⟩ <;> rw [h] <;> simp
  | .mk c k e vs sc (.cons y .nil), ar, d, h, z, hz => by
    simp only [Nd.Gr] at h
    simp only [Nd.pre, Bds.pre, Nds.list, Nds.list_app, List.append_nil, List.mem_cons] at hz
    rcases hz with rfl | hz
    · rcases h.2 with ⟨_, h, _⟩ | ⟨_, _, h, _⟩
      · simp only [Nd.vars]; rw [h]; simp
      · exact decl_few h
    · rcases h.2 with ⟨_, _, h⟩ | ⟨_, _, _, h⟩
      · exact Nds.Gr.few y _ _ h z hz
      · exact Nds.Gr.few y _ _ h z hz
  | .mk c k e vs sc (.cons y (.cons u .nil)), ar, d, h, z, hz => by
    simp only [Nd.Gr] at h
    simp only [Nd.pre, Bds.pre, Nds.list, Nds.list_app, List.append_nil, List.mem_cons, List.mem_append] at hz
    rcases hz with rfl | hz | hz
    · simp only [Nd.vars]; rw [h.2.2.1]; simp
    · exact Nds.Gr.few y _ _ h.2.2.2.1 z hz
    · exact Nds.Gr.few u _ _ h.2.2.2.2 z hz
  | .mk _ _ _ _ _ (.cons _ (.cons _ (.cons _ _))), ar, d, h, z, hz => by simp only [Nd.Gr] at h
theorem Nds.Gr.few : ∀ (x : Nds) (ar : List UInt8) (d : Nat), x.Gr ar d → ∀ z ∈ x.pre.list, z.vars.length ≤ 103
  | .nil, ar, d, h, z, hz => by simp [Nds.pre, Nds.list] at hz
  | .cons x r, ar, d, h, z, hz => by
    simp only [Nds.Gr] at h
    simp only [Nds.pre, Nds.list_app, List.mem_append] at hz
    rcases hz with hz | hz
    · exact Nd.Gr.few x _ _ h.1 z hz
    · exact Nds.Gr.few r _ _ h.2 z hz
end

theorem keep_short {z : Nd} (h : z.vars.length ≤ 103) : ShortAt Nd.keepVis z :=
  ⟨by simp [Nd.keepVis], by show (z.kind :: z.vars).length ≤ 200; rw [List.length_cons]; omega, by show z.vars.length ≤ 200; omega, by simp [Nd.keepVis]⟩

theorem tbody_of {w0 : World} {ok : Nat → Prop} (hok : ∀ i, ok i → i < w0.heap.size) {y : Nds} {ar : List UInt8} {d : Nat} (hg : y.Gr ar d) (hl : y.pre.len ≤ 200) (hs : ∀ z ∈ y.list, TextC w0 ok z) : TBodyC w0 ok y ∧ (Nds.wr Nd.keepVis y).length ≤ 1000000 := by
  have h1 := Nds.wr_len Nd.keepVis y (fun z hz => keep_short (Nds.Gr.few y _ _ hg z hz))
  have h2 := list_pre y
  exact ⟨tbody_any w0 ok y hs (by omega) (by omega) hok, by omega⟩

mutual
theorem Nd.textS {w0 : World} {ok : Nat → Prop} (hok : ∀ i, ok i → i < w0.heap.size) : ∀ (x : Nd) (ar : List UInt8) (d : Nat), x.Gr ar d → x.pre.len ≤ 200 → TextC w0 ok x
  | .mk c k e vs sc .nil, ar, d, hg, hl => by
    have hv := Nd.Gr.few _ _ _ hg (.mk c k e vs sc .nil) (by simp [Nd.pre, Nds.list])
    simp only [Nd.vars] at hv
    simp only [Nd.Gr] at hg
    refine text_leaf c k e vs sc ⟨?_, ?_, ?_⟩ ?_ (by omega)
    · rcases hg.2 with ⟨h | h | h | h, _⟩ | ⟨h, _⟩ | ⟨h | h, _⟩ <;> rw [h] <;> decide
    · rcases hg.2 with ⟨h | h | h | h, _⟩ | ⟨h, _⟩ | ⟨h | h, _⟩ <;> rw [h] <;> decide
    · rcases hg.2 with ⟨h | h | h | h, _⟩ | ⟨h, _⟩ | ⟨h | h, _⟩ <;> rw [h] <;> decide
    · intro hh
      rcases hg.2 with ⟨h, _⟩ | ⟨h, _⟩ | ⟨_, h⟩
      · rcases hh with rfl | rfl <;> rcases h with h | h | h | h <;> exact absurd h (by decide)
      · rcases hh with rfl | rfl <;> exact absurd h (by decide)
      · exact h
  | .mk c k e vs sc (.cons y .nil), ar, d, hg, hl => by
    have hv := Nd.Gr.few _ _ _ hg (.mk c k e vs sc (.cons y .nil)) (by simp [Nd.pre, Nds.list])
    simp only [Nd.vars] at hv
    simp only [Nd.Gr] at hg
    have hly : y.pre.len ≤ 200 := by simp only [Nd.pre, Bds.pre, Nds.len, Nds.len_app] at hl; omega
    rcases hg.2 with ⟨hc, _, hy⟩ | ⟨hc, _, hd, hy⟩
    · obtain ⟨hB, hw⟩ := tbody_of hok hy hly (Nds.textS hok y _ _ hy hly)
      exact text_loop c k e vs sc hc y hB hw
    · obtain ⟨hB, hw⟩ := tbody_of hok hy hly (Nds.textS hok y _ _ hy hly)
      exact text_scope c k e vs sc hc y hd.some (by omega) hB hw
  | .mk c k e vs sc (.cons y (.cons u .nil)), ar, d, hg, hl => by
    simp only [Nd.Gr] at hg
    have hly : y.pre.len ≤ 200 := by simp only [Nd.pre, Bds.pre, Nds.len, Nds.len_app] at hl; omega
    have hlu : u.pre.len ≤ 200 := by simp only [Nd.pre, Bds.pre, Nds.len, Nds.len_app] at hl; omega
    obtain ⟨hB, hw⟩ := tbody_of hok hg.2.2.2.1 hly (Nds.textS hok y _ _ hg.2.2.2.1 hly)
    obtain ⟨hC, hx⟩ := tbody_of hok hg.2.2.2.2 hlu (Nds.textS hok u _ _ hg.2.2.2.2 hlu)
    exact text_branch c k e vs sc hg.2.1 y u hB hC hw hx
  | .mk _ _ _ _ _ (.cons _ (.cons _ (.cons _ _))), ar, d, hg, hl => by simp only [Nd.Gr] at hg
theorem Nds.textS {w0 : World} {ok : Nat → Prop} (hok : ∀ i, ok i → i < w0.heap.size) : ∀ (x : Nds) (ar : List UInt8) (d : Nat), x.Gr ar d → x.pre.len ≤ 200 → ∀ z ∈ x.list, TextC w0 ok z
  | .nil, ar, d, hg, hl => fun z hz => by cases hz
  | .cons x r, ar, d, hg, hl => by
    simp only [Nds.Gr] at hg
    have h1 := Nd.textS hok x _ _ hg.1 (by simp only [Nds.pre, Nds.len_app] at hl; omega)
    have h2 := Nds.textS hok r _ _ hg.2 (by simp only [Nds.pre, Nds.len_app] at hl; omega)
    intro z hz
    rcases List.mem_cons.1 hz with e | hz
    · rw [e]; exact h1
    · exact h2 z hz
end

/-- A run comes by where the program begins. -/
theorem root_live {s : ByteArray} {x : Nd} (hp : progP s = some x) : liveK (knownJ x x.beg) = true := by
  have hx : x ∈ x.pre.list := by cases x; simp [Nd.pre, Nds.list]
  have hn := (step_fit hp hx).noted
  have hs := progP_sp hp
  have hkd := (progP_ok hp).2.2.1
  have hf := progP_fit hp
  obtain ⟨c, b, e, vs, ar, bs⟩ := x
  simp only [Nd.kind] at hkd
  subst hkd
  have h0 : notesP (.mk 123 b e vs ar bs) b = some ⟨0, 0⟩ := by
    cases bs with
    | nil => simp only [Nd.Fit] at hf; rcases hf with ⟨h, _⟩ | ⟨h, _⟩ | ⟨h, _⟩ <;> exact absurd h (by decide)
    | cons y r =>
      cases r with
      | nil =>
        simp only [Nd.Sp] at hs
        unfold notesP
        rw [Nd.note, if_neg (by decide)]
        have h1 : point (e - 1) (Nds.know y ⟨0, 0⟩) b = none := by unfold point; rw [if_neg (by omega)]
        have h2 : Nds.note y ⟨0, 0⟩ b = none := by
          cases hh : Nds.note y ⟨0, 0⟩ b with
          | none => rfl
          | some t => have := Nds.note_in y _ _ _ t b hs.2.2 hh; omega
        rw [over_none h1, over_none h2]
        unfold point
        rw [if_pos rfl]
      | cons u r2 =>
        cases r2 with
        | nil => simp only [Nd.Fit] at hf; exact absurd hf.1 (by decide)
        | cons _ _ => simp only [Nd.Fit] at hf
  simp only [Nd.beg] at hn
  rw [h0] at hn
  have := Option.some.inj hn
  show liveK (knownJ (.mk 123 b e vs ar bs) b) = true
  rw [← this]
  decide

end Go.Proofs.Ytccpmhjffcceeaa

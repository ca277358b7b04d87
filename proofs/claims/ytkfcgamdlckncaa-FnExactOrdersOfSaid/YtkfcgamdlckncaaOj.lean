/-
  The model's OrdersOf.
-/
import Derived.Test.YtkfcgamdlckncaaOi
import Derived.Test.YtkfcgamdlckncaaOe
namespace Go.Proofs.Ytkfcgamdlckncaa
set_option linter.unusedVariables false
set_option linter.unusedSimpArgs false
open Go.RowKit Go.Shelf

theorem ba_ext {a b : ByteArray} (h : a.data.toList = b.data.toList) : a = b := ByteArray.ext (Array.toList_inj.1 h)

theorem cutM (l : List UInt8) (s : ByteArray) (h : s.data.toList = l) (i : Nat) (v : UInt8) (hv : l[i]? = some v) (wx : World) : (Instr.slice 9 (.string s) (some (.int .i64 (i : Int))) (some (.int .i64 ((i : Int) + 1))) none).run Try.prog wx = .ok (.string ⟨#[v]⟩) wx := by
  have hi : i < l.length := (List.getElem?_eq_some_iff.1 hv).1
  have hsz : s.size = l.length := by rw [← h, Array.length_toList]; rfl
  have := run_slice_string (P := Try.prog) wx 9 s .i64 .i64 (i : Int) ((i : Int) + 1) Try.underlying9 (by omega) (by omega) (by omega)
  have e : s.extract (i : Int).toNat ((i : Int) + 1).toNat = ⟨#[v]⟩ := by
    apply ba_ext
    rw [show ((i : Int) + 1).toNat = i + 1 by omega, show ((i : Int)).toNat = i by omega]
    simp only [ByteArray.data_extract, Array.toList_extract, List.extract, h]
    rw [show i + 1 - i = 1 by omega, List.take_one, List.head?_drop, hv]
    rfl
  rw [this, e]
theorem cutTo (l : List UInt8) (s : ByteArray) (h : s.data.toList = l) (i : Nat) (hi : i ≤ l.length) (wx : World) : (Instr.slice 9 (.string s) none (some (.int .i64 (i : Int))) none).run Try.prog wx = .ok (.string ⟨(l.take i).toArray⟩) wx := by
  have hsz : s.size = l.length := by rw [← h, Array.length_toList]; rfl
  have e : s.extract 0 (i : Int).toNat = ⟨(l.take i).toArray⟩ := by
    apply ba_ext
    rw [show ((i : Int)).toNat = i by omega]
    simp [ByteArray.data_extract, List.extract, h]
  rw [run_slice_string_h (P := Try.prog) wx 9 s Try.underlying9 .i64 (i : Int) (by omega) (by omega), e]
theorem cutFrom (l : List UInt8) (s : ByteArray) (h : s.data.toList = l) (i : Nat) (hi : i ≤ l.length) (wx : World) : (Instr.slice 9 (.string s) (some (.int .i64 (i : Int))) none none).run Try.prog wx = .ok (.string ⟨(l.drop i).toArray⟩) wx := by
  have hsz : s.size = l.length := by rw [← h, Array.length_toList]; rfl
  have e : s.extract (i : Int).toNat s.size = ⟨(l.drop i).toArray⟩ := by
    apply ba_ext
    rw [show ((i : Int)).toNat = i by omega]
    simp only [ByteArray.data_extract, Array.toList_extract, List.extract, h, hsz]
    exact List.take_of_length_le (by rw [List.length_drop]; omega)
  rw [run_slice_string_l (P := Try.prog) wx 9 s Try.underlying9 .i64 (i : Int) (by omega) (by omega), e]
theorem addL (a b : List UInt8) (sa sb : ByteArray) (ha : sa.data.toList = a) (hb : sb.data.toList = b) (h : a.length + b.length ≤ 1000) (wx : World) : (Op.stringOp .add sa sb).run Try.prog wx = .ok (.string ⟨(a ++ b).toArray⟩) wx := by
  have h1 : sa.size = a.length := by rw [← ha, Array.length_toList]; rfl
  have h2 : sb.size = b.length := by rw [← hb, Array.length_toList]; rfl
  have e : sa ++ sb = ⟨(a ++ b).toArray⟩ := by
    apply ba_ext
    simp [ha, hb]
  rw [run_string_add_sum wx sa sb (by omega), e]

theorem without_at {r : List UInt8} {i : Nat} {v : UInt8} (hn : r.Nodup) (hv : r[i]? = some v) : r.take i ++ r.drop (i + 1) = r.filter (fun u => u != v) := by
  induction r generalizing i with
  | nil => simp at hv
  | cons a r ih =>
    obtain ⟨h1, h2⟩ := List.nodup_cons.1 hn
    cases i with
    | zero =>
      have : a = v := by simpa using hv
      subst this
      rw [List.filter_cons_of_neg (by simp)]
      simp only [List.take_zero, List.nil_append, List.drop_succ_cons, List.drop_zero]
      exact (List.filter_eq_self.2 (fun b hb => by simp; intro e; exact h1 (e ▸ hb))).symm
    | succ i =>
      have hv' : r[i]? = some v := by simpa using hv
      have hne : a ≠ v := fun e => h1 (e ▸ List.mem_of_getElem? hv')
      rw [List.filter_cons_of_pos (by simpa using hne)]
      simp only [List.take_succ_cons, List.drop_succ_cons, List.cons_append]
      rw [ih h2 hv']

theorem perms_pos : ∀ (b r : List UInt8), r.Nodup → 0 < (permsP b r).length := by
  intro b r
  generalize hn : r.length = n
  induction n generalizing b r with
  | zero => intro _; rw [List.length_eq_zero_iff.1 hn, permsP_nil]; simp
  | succ n ih =>
    intro hd
    cases r with
    | nil => simp at hn
    | cons a r =>
      rw [permsP_cons hd (by simp), List.flatMap_cons, List.length_append]
      have ho := once_filter hd (show a ∈ a :: r by simp)
      have := ih (b ++ [a]) ((a :: r).filter (fun u => u != a)) (by omega) (hd.filter _)
      omega

def OListPost (w : World) (l : List (List UInt8)) (e : Ending) (w' : World) : Prop :=
  ∃ v, e = .returned v ∧ Row w' (fromB w.heap.size) 9 1 v l.length (strsC l) ∧ Keeps noB w w'

def SOrdOk (N : Nat) : Prop := ∀ (b r : List UInt8) (w : World), r.length = N → N ≤ 4 → b.length + N ≤ 10 → r.Nodup → Calls Try.prog 55 #[str b, str r] w (OListPost w (permsP b r))

/-- What the loop holds. -/
def SOrdAt (w : World) (b r : List UInt8) (v5 v14 : Value) (wr : World) : Prop :=
  ∃ (i : Nat) (L : List (List UInt8)), i ≤ r.length ∧ v14 = .int .i64 (i : Int) ∧ L = (r.take i).flatMap (fun v => permsP (b ++ [v]) (r.filter (fun u => u != v))) ∧ Row wr (fromB w.heap.size) 9 1 v5 L.length (strsC L) ∧ Keeps noB w wr

theorem perm_part {b r : List UInt8} (hn : r.Nodup) (h4 : r.length ≤ 4) (hr : r ≠ []) (i : Nat) : ((r.take i).flatMap (fun v => permsP (b ++ [v]) (r.filter (fun u => u != v)))).length ≤ 256 := by
  have h := permsP_len (b := b) h4
  rw [permsP_cons hn hr] at h
  have e : r = r.take i ++ r.drop i := (List.take_append_drop i r).symm
  have : r.flatMap (fun v => permsP (b ++ [v]) (r.filter (fun u => u != v))) = (r.take i).flatMap (fun v => permsP (b ++ [v]) (r.filter (fun u => u != v))) ++ (r.drop i).flatMap (fun v => permsP (b ++ [v]) (r.filter (fun u => u != v))) := by
    rw [← List.flatMap_append, ← e]
  rw [this, List.length_append] at h
  omega

theorem resSOrd (W : World) (v : Value) (tmps : Array Value) (h4 : tmps.getD 4 undef = v) : (results Try.f55 tmps).run Try.prog W = .ok v W := by
  have h4' : tmps[4]?.getD undef = v := by simpa using h4
  simp [results, Try.results55, go_sem, h4']

set_option maxRecDepth 100000 in
set_option maxHeartbeats 8000000 in
theorem sord_ok (N : Nat) (ih : ∀ m, m < N → SOrdOk m) : SOrdOk N := by
  intro b r w hlen hN hbN hnd
  obtain ⟨SB, hSB⟩ : ∃ SB : ByteArray, (⟨b.toArray⟩ : ByteArray) = SB := ⟨_, rfl⟩
  obtain ⟨SR, hSR⟩ : ∃ SR : ByteArray, (⟨r.toArray⟩ : ByteArray) = SR := ⟨_, rfl⟩
  have hBd : SB.data.toList = b := by rw [← hSB]
  have hRd : SR.data.toList = r := by rw [← hSR]
  have hRs : SR.size = r.length := by rw [← hSR]; rfl
  unfold str
  rw [hSB, hSR]
  have HS := Lib.hid (And.intro hSB (And.intro hSR (And.intro hBd (And.intro hRd hRs))))
  by_cases h0 : r = []
  · subst h0
    have hz3 : SR.toList = [] := by rw [Lib.toList_data, hRd]
    have hz : SR.toList.isEmpty = true := by rw [hz3]; rfl
    clear hz3
    clear hSB hSR hBd hRd hRs
    go_enter Try.func55, Try.ntmps55
    go_wp2_with fail
    go_ret
    rw [permsP_nil]
    have h1 : strsC [b] = [Value.string SB] := by unfold strsC str; rw [← HS.out.1]; rfl
    refine ⟨_, rfl, ⟨?_, fun g hg => ?_⟩, (Keeps.refl _ _).alloc _⟩
    · rw [h1]
      exact ⟨rfl, .inr ⟨_, 1, _, rfl, Nat.zero_le _, Blk.new w _ 9, Nat.le_refl _, by simp [maxLen], rfl, rfl⟩⟩
    · simp [Value.ownBlock] at hg
      show w.heap.size ≤ g
      omega
  · have hr0 : 0 < r.length := List.length_pos_iff.2 h0
    have hz : SR.toList.isEmpty = false := by rw [Lib.toList_data, hRd]; cases r with
      | nil => exact absurd rfl h0
      | cons _ _ => rfl
    have HP := Lib.hid (permsP_cons (b := b) hnd h0)
    have HN := Lib.hid (And.intro hnd (And.intro hlen (And.intro h0 (And.intro hN hbN))))
    have HIH := Lib.hid ih
    have HA : Hid (SOrdAt w b r (.slice (some ⟨w.heap.size, 0, none⟩) 0 0) (.int .i64 0) (w.alloc (.cells #[] 9))) := Lib.hid ⟨0, [], Nat.zero_le _, rfl, rfl, ⟨⟨rfl, .inr ⟨_, 0, _, rfl, Nat.zero_le _, Blk.new w _ 9, Nat.le_refl _, by simp [maxLen], rfl, rfl⟩⟩, fun g hg => by simp [Value.ownBlock] at hg; show w.heap.size ≤ g; omega⟩, (Keeps.refl _ _).alloc _⟩
    have hRz : (SR.size : Int) ≤ 4 := by omega
    refine (callsIn_wide (n := 9)).1 ?_
    obtain ⟨F, hF⟩ : ∃ F, F = Fence.wide := ⟨_, rfl⟩
    have hFf : ∀ f, F.fn f := by subst hF; exact fun _ => trivial
    have hdd : ∀ k : Nat, (F.depth.isSome = true → 1 ≤ k) := by subst hF; intro k h; simp [Fence.wide] at h
    have hro : F.round = none := by subst hF; rfl
    have hds : F.depth.isSome = false := by subst hF; rfl
    rw [← hF]
    have HF := Lib.hid hF
    clear hF hSB hSR hBd hRd hnd hlen h0 hN hbN ih
    refine callsIn_of_wp_marks Try.func55 rfl (hFf _) ?_ hro
    simp only [Try.ntmps55, List.size_toArray, List.length_cons, List.length_nil, Nat.reduceAdd, Nat.reduceSub, Array.replicate_succ, Array.replicate_zero, List.push_toArray, List.append_toArray, List.nil_append, List.cons_append]
    gi_wp2
    gi_loopw [5, 14] (fun v5 v14 wr => SOrdAt w b r v5 v14 wr) (fun _ v14 _ => r.length - (intOf v14).toNat)
    case atStart => exact HA.out
    case round =>
      clear HA
      obtain ⟨i, L, hi, rfl, hL, hrow, q⟩ := hrel
      obtain ⟨a5, c5, rfl⟩ := row_shape hrow
      have hL256 : L.length ≤ 256 := by rw [hL]; exact perm_part HN.out.1 (by have := HN.out; omega) HN.out.2.2.1 i
      have HL := Lib.hid (And.intro hL (And.intro hrow q))
      clear hL hrow q
      by_cases hlt : i < r.length
      · obtain ⟨v, hv⟩ : ∃ v, r[i]? = some v := ⟨_, List.getElem?_eq_getElem hlt⟩
        have e6 := fun wx => cutM r SR HS.out.2.2.2.1 i v hv wx
        have e10 := fun wx => cutTo r SR HS.out.2.2.2.1 i hi wx
        have e14 := fun wx => cutFrom r SR HS.out.2.2.2.1 (i + 1) hlt wx
        rw [show ((i + 1 : Nat) : Int) = (i : Int) + 1 by omega] at e14
        obtain ⟨LV, hLV⟩ : ∃ LV : ByteArray, LV = ⟨#[v]⟩ := ⟨_, rfl⟩
        obtain ⟨ST, hST⟩ : ∃ ST : ByteArray, ST = ⟨(r.take i).toArray⟩ := ⟨_, rfl⟩
        obtain ⟨SD, hSD⟩ : ∃ SD : ByteArray, SD = ⟨(r.drop (i + 1)).toArray⟩ := ⟨_, rfl⟩
        have e7 := fun wx => addL b [v] SB LV HS.out.2.2.1 (by rw [hLV]) (by have := HN.out; simp; omega) wx
        have e15 := fun wx => addL (r.take i) (r.drop (i + 1)) ST SD (by rw [hST]) (by rw [hSD]) (by have := HN.out; rw [List.length_take, List.length_drop]; omega) wx
        rw [without_at HN.out.1 hv] at e15
        rw [← hLV] at e6
        rw [← hST] at e10
        rw [← hSD] at e14
        have hvm : v ∈ r := List.mem_of_getElem? hv
        have HC : Hid (∀ n' W, CallsIn F n' Try.prog 55 #[.string ⟨(b ++ [v]).toArray⟩, .string ⟨(r.filter (fun u => u != v)).toArray⟩] W (OListPost W (permsP (b ++ [v]) (r.filter (fun u => u != v))))) := Lib.hid (fun n' W => by
          have hN := HN.out
          have ho := once_filter hN.1 hvm
          rw [HF.out]
          exact callsIn_wide.2 (HIH.out _ (by omega) (b ++ [v]) (r.filter (fun u => u != v)) W rfl (by omega) (by simp; omega) (hN.1.filter _)))
        have hnx : (r.take (i + 1)).flatMap (fun v => permsP (b ++ [v]) (r.filter (fun u => u != v))) = L ++ permsP (b ++ [v]) (r.filter (fun u => u != v)) := by
          rw [List.take_add_one, hv, List.flatMap_append, HL.out.1]
          simp
        have hP1 : 0 < (permsP (b ++ [v]) (r.filter (fun u => u != v))).length := perms_pos _ _ (HN.out.1.filter _)
        have hP2 : (permsP (b ++ [v]) (r.filter (fun u => u != v))).length ≤ 256 := permsP_len (Nat.le_trans (List.length_filter_le _ _) (by have := HN.out; omega))
        have HNX := Lib.hid (And.intro hnx (And.intro hP1 hP2))
        generalize permsP (b ++ [v]) (r.filter (fun u => u != v)) = M at HC HNX
        obtain ⟨SL, hSL⟩ : ∃ SL : ByteArray, SL = ⟨(b ++ [v]).toArray⟩ := ⟨_, rfl⟩
        obtain ⟨SW, hSW⟩ : ∃ SW : ByteArray, SW = ⟨(r.filter (fun u => u != v)).toArray⟩ := ⟨_, rfl⟩
        rw [← hSL] at e7 HC
        rw [← hSW] at e15 HC
        clear hLV hST hSD hv hvm hnx hP1 hP2 hSL hSW HIH HP HS
        have hi3 : (i : Int) ≤ 4 := by have := HN.out; omega
        have hi4 : (i : Int) < (r.length : Int) := by omega
        have hi0 : (0 : Int) ≤ (i : Int) := by omega
        have HW1 : Hid (IntKind.i64.wrap ((i : Int) + 1) = (i : Int) + 1) := Lib.hid (by rw [IntKind.wrap]; simp [IntKind.signed, IntKind.bits]; omega)
        gi_wp2
        refine wpIn_region_seqP (fun _ => True) [(0, true), (1, true), (2, true), (3, true), (4, true), (5, true), (6, true), (7, true), (8, true), (9, true), (10, true), (11, true), (12, true), (13, true), (14, true), (15, true), (16, false), (17, false), (18, true)] hro hFf (by kernel_rfl) (by kernel_rfl) (by kernel_rfl) rfl (by kernel_rfl) trivial ?_
        refine seqH_take (.slice a5 L.length c5) rfl rfl (fun W4 q4 => by go_simp) (fun K hK => ?_)
        go_simp
        refine hK _ ?_
        clear hK K
        refine seqH_take (.string SB) rfl rfl (fun W4 q4 => by go_simp) (fun K hK => ?_)
        go_simp
        refine hK _ ?_
        clear hK K
        refine seqH_take (.string SR) rfl rfl (fun W4 q4 => by go_simp) (fun K hK => ?_)
        go_simp
        refine hK _ ?_
        clear hK K
        refine seqH_take (.int .i64 (i : Int)) rfl rfl (fun W4 q4 => by go_simp) (fun K hK => ?_)
        go_simp
        refine hK _ ?_
        clear hK K
        refine seqH_take (.int .i64 (i : Int)) rfl rfl (fun W4 q4 => by go_simp) (fun K hK => ?_)
        go_simp
        refine hK _ ?_
        clear hK K
        refine seqH_take (.int .i64 ((i : Int) + 1)) rfl rfl (fun W4 q4 => by have f0 := HW1.out; go_simp) (fun K hK => ?_)
        go_simp
        refine hK _ ?_
        clear hK K
        refine seqH_take (.string LV) rfl rfl (fun W4 q4 => by have f0 := e6 W4; go_simp) (fun K hK => ?_)
        go_simp
        refine hK _ ?_
        clear hK K
        refine seqH_take (.string SL) rfl rfl (fun W4 q4 => by have f0 := e7 W4; go_simp) (fun K hK => ?_)
        go_simp
        refine hK _ ?_
        clear hK K
        refine seqH_take (.string SR) rfl rfl (fun W4 q4 => by go_simp) (fun K hK => ?_)
        go_simp
        refine hK _ ?_
        clear hK K
        refine seqH_take (.int .i64 (i : Int)) rfl rfl (fun W4 q4 => by go_simp) (fun K hK => ?_)
        go_simp
        refine hK _ ?_
        clear hK K
        refine seqH_take (.string ST) rfl rfl (fun W4 q4 => by have f0 := e10 W4; go_simp) (fun K hK => ?_)
        go_simp
        refine hK _ ?_
        clear hK K
        refine seqH_take (.string SR) rfl rfl (fun W4 q4 => by go_simp) (fun K hK => ?_)
        go_simp
        refine hK _ ?_
        clear hK K
        refine seqH_take (.int .i64 (i : Int)) rfl rfl (fun W4 q4 => by go_simp) (fun K hK => ?_)
        go_simp
        refine hK _ ?_
        clear hK K
        refine seqH_take (.int .i64 ((i : Int) + 1)) rfl rfl (fun W4 q4 => by have f0 := HW1.out; go_simp) (fun K hK => ?_)
        go_simp
        refine hK _ ?_
        clear hK K
        refine seqH_take (.string SD) rfl rfl (fun W4 q4 => by have f0 := e14 W4; go_simp) (fun K hK => ?_)
        go_simp
        refine hK _ ?_
        clear hK K
        refine seqH_take (.string SW) rfl rfl (fun W4 q4 => by have f0 := e15 W4; go_simp) (fun K hK => ?_)
        go_simp
        refine hK _ ?_
        clear hK K
        refine seqH_loud rfl (fun K hK => ?_)
        gi_wp2
        refine CallsIn.mono (HC.out _ _) ?_
        rintro e w3 ⟨v3, rfl, hrow3, q3⟩
        obtain ⟨g3, c3, rfl, hg3, hg3l, hcell3⟩ := row_get hrow3 HNX.out.2.1
        obtain ⟨i0, hif, hz0, hz1, hz2⟩ := info_parts Try.zeroK9
        have hq3 : Keeps noB wr w3 := ((Keeps.refl noB wr).drew).trans q3
        obtain ⟨v', w', hr, hown', hgrow, hfresh⟩ := run_append_fresh (P := Try.prog) w3 32 32 9 i0 (.string ⟨#[]⟩) 1 16 Try.underlying32 hif hz0 hz1 hz2 rfl (by omega)
          (.slice a5 L.length c5) L.length _ (hq3.ownsRow HL.out.2.1.1 (fun _ _ _ => id)) ⟨g3, 0, none⟩ M.length c3 (strsC M) (by rw [strsC_len]; omega) (fun j u hu => by
            have hadd : (⟨g3, 0, none⟩ : Addr).add j = ⟨g3, j, none⟩ := by unfold Addr.add; split <;> simp_all
            rw [hadd]; exact hcell3 j u hu) (fun u hu => by
            unfold strsC at hu
            obtain ⟨c, _, rfl⟩ := List.mem_map.1 hu; rfl) (by have := HNX.out.2.2; unfold maxLen; omega) (by have := HNX.out.2.2; omega)
        have HE : Hid (SOrdAt w b r v' (.int .i64 ((i : Int) + 1)) w') := Lib.hid (by
          have hlow := HL.out.2.1.2
          have hq := HL.out.2.2
          have hs1 := hq.size
          have hs3 := hq3.size
          have qa : Keeps (fun g => (Value.slice a5 L.length c5).ownBlock = some g) w3 w' := (Keeps.refl _ _).grown hgrow (fun g hg => .inl hg)
          refine ⟨i + 1, L ++ M, hlt, by go_num, HNX.out.1.symm, ⟨?_, fun g hg => ?_⟩, (hq.trans hq3).transNew qa (fun j hj e => by have : w.heap.size ≤ j := hlow j e; omega)⟩
          · rw [List.length_append]
            have e : strsC (L ++ M) = strsC L ++ strsC M := by unfold strsC; rw [List.map_append]
            rw [e]; exact hown'
          · rcases hfresh with h | h
            · exact hlow g (h ▸ hg)
            · have := h g hg; show w.heap.size ≤ g; omega)
        clear hrow3 q3 hcell3 hg3 hg3l hown' hgrow hfresh hif hz0 hz1 hz2 hq3
        gi_wp2
        refine hK _ _ trivial ?_
        clear hK K
        refine seqH_loud rfl (fun K hK => ?_)
        refine wpListIn_append_run _ rfl (.tmp 17) (.tmp 33) _ _ rfl _ _ rfl rfl _ _ hr ?_
        gi_wp2
        refine hK _ _ trivial ?_
        clear hK K
        refine seqH_take v' rfl rfl (fun W4 q4 => by go_simp) (fun K hK => ?_)
        go_simp
        refine hK _ ?_
        clear hK K
        simp only [wpSeqH, noPanic]
        clear hr
        gi_wp2
        go_roundw
        case rel => exact HE.out
        case measure => simp [intOf]; omega
      · have hie : i = r.length := by omega
        have hd : ¬ (i : Int) < (r.length : Int) := by omega
        gi_wp2
        refine leaves_marks [] _ List.nodup_nil (fun _ h => by cases h) (fun W' q _ => ?_)
        obtain ⟨hL, hrow, qq⟩ := HL.out
        have hfin : permsP b r = L := by rw [HP.out, hL, hie, List.take_length]
        rw [hfin]
        refine ⟨_, resSOrd W' (.slice a5 L.length c5) _ rfl, _, rfl, ⟨q.ownsRow hrow.1 (fun g hg hl e => by cases e), hrow.2⟩, qq.trans (q.mono (fun _ e => by cases e))⟩

theorem sord_all (N : Nat) : SOrdOk N := Nat.strongRecOn N (fun n ih => sord_ok n ih)

theorem empty_row {w W : World} (h : w.heap.size ≤ W.heap.size) : Row (W.alloc (.cells #[] 9)) (fromB w.heap.size) 9 1 (.slice (some ⟨W.heap.size, 0, none⟩) 0 0) 0 [] :=
  ⟨⟨rfl, .inr ⟨_, 0, _, rfl, Nat.zero_le _, Blk.new W _ 9, Nat.le_refl _, by simp [maxLen], rfl, rfl⟩⟩, fun g hg => by simp [Value.ownBlock] at hg; show w.heap.size ≤ g; omega⟩

set_option maxRecDepth 100000 in
set_option maxHeartbeats 4000000 in
theorem sorders_any (p : ByteArray) (hs : p.size ≤ 1048576) (w : World) : Calls Try.prog 28 #[.string p] w (TextsPost w (ordersP p)) := by
  have H := Lib.hid (sread_any p hs w)
  unfold ordersP ordX
  cases hp : progP p with
  | none =>
    rw [hp] at H
    simp only [Option.bind_none, Option.map_none]
    clear hp
    go_enter Try.func28, Try.ntmps28
    go_wp2_with fail
    refine H.out.mono ?_
    rintro e w1 ⟨⟨x0, x1, x2, x3, x4, x5, x6, x7, rfl⟩, q1⟩
    have hnv : nodeV x0 x1 x2 x3 x4 x5 x6 x7 = .agg #[.int .u8 x0, .int .i64 x1, .int .i64 x2, .string x3, .slice x4 x5 x6, .string x7] := rfl
    have HQ := Lib.hid (q1.alloc (.cells #[.int .u8 x0, .int .i64 x1, .int .i64 x2, .string x3, .slice x4 x5 x6, .string x7] 57))
    clear q1
    go_wp2_with fail
    go_ret2
    have hn : (w1.alloc (.cells #[.int .u8 x0, .int .i64 x1, .int .i64 x2, .string x3, .slice x4 x5 x6, .string x7] 57)).heap.size = w1.heap.size + 1 := by simp
    refine ⟨_, [], rfl, ?_, HQ.out.alloc _, Nat.zero_le _, rfl⟩
    have := empty_row HQ.out.size
    rw [hn] at this
    exact this
  | some x =>
    rw [hp] at H
    have hri := root_is hp
    simp only [Option.bind_some]
    by_cases h4 : x.vars.length ≤ 4
    · rw [if_pos h4]
      simp only [Option.map_some]
      have hlt : ∀ v ∈ x.vars, ltr v := fun v hv => (hri.decl.each v hv).1
      have hfew : (lets (bitsV x.vars)).length ≤ 4 := Nat.le_trans (once_len _ _ (lets_once _) (fun v hv => (bits_mem hlt (mem_lets.1 hv).1).1 (mem_lets.1 hv).2)) h4
      have HS : Hid (∀ w, Calls Try.prog 45 #[.string ⟨x.vars.toArray⟩] w (fun e w' => e = .returned (str (lets (bitsV x.vars))) ∧ Keeps noB w w')) := Lib.hid (fun w => by
        have h := sorted_any ⟨x.vars.toArray⟩ (by show x.vars.length ≤ _; omega) w
        rw [ba_toList, sorted_bits hlt] at h
        exact h)
      have HO : Hid (∀ w, Calls Try.prog 55 #[.string ⟨#[]⟩, str (lets (bitsV x.vars))] w (OListPost w (ordersL x))) := Lib.hid (fun w => sord_all _ [] _ w rfl hfew (by simp; omega) (lets_once _))
      have HF : Hid ((ordersL x).length ≤ 256) := Lib.hid (permsP_len hfew)
      have HX : Hid (∀ vs : ByteArray, vs = ⟨x.vars.toArray⟩ → vs.size = x.vars.length) := Lib.hid (fun vs h => by rw [h]; rfl)
      generalize ordersL x = L at *
      obtain ⟨SV, hSV⟩ : ∃ SV : ByteArray, str (lets (bitsV x.vars)) = .string SV := ⟨_, rfl⟩
      rw [hSV] at HS HO
      clear hp hri hlt hfew hSV
      go_enter Try.func28, Try.ntmps28
      go_wp2_with fail
      refine H.out.mono ?_
      rintro e w1 ⟨x0, x1, x2, x3, x4, x5, x6, x7, rfl, hx, q1⟩
      have hnv : nodeV x0 x1 x2 x3 x4 x5 x6 x7 = .agg #[.int .u8 x0, .int .i64 x1, .int .i64 x2, .string x3, .slice x4 x5 x6, .string x7] := rfl
      have HX3 := Lib.hid (root_vars hx)
      have hv4 : (x3.size : Int) ≤ 4 := by have := HX.out x3 HX3.out; omega
      have HQ := Lib.hid (q1.alloc (.cells #[.int .u8 x0, .int .i64 x1, .int .i64 x2, .string x3, .slice x4 x5 x6, .string x7] 57))
      rw [← HX3.out] at HS
      clear q1 hx h4
      go_wp2_with fail
      refine (HS.out _).mono ?_
      rintro e w2 ⟨rfl, q2⟩
      have HQ2 := Lib.hid (HQ.out.trans q2)
      clear q2
      go_wp2_with fail
      refine (HO.out _).mono ?_
      rintro e w3 ⟨v, rfl, hrow, q3⟩
      have HE := Lib.hid (And.intro hrow q3)
      clear hrow q3
      go_wp2_with fail
      go_ret2
      exact ⟨_, L, rfl, ⟨HE.out.1.1, fun g hg => Nat.le_trans HQ2.out.size (HE.out.1.2 g hg)⟩, HQ2.out.trans HE.out.2, by have := HF.out; omega, rfl⟩
    · rw [if_neg h4]
      simp only [Option.map_none]
      have HX : Hid (∀ vs : ByteArray, vs = ⟨x.vars.toArray⟩ → vs.size = x.vars.length) := Lib.hid (fun vs h => by rw [h]; rfl)
      clear hp hri
      go_enter Try.func28, Try.ntmps28
      go_wp2_with fail
      refine H.out.mono ?_
      rintro e w1 ⟨x0, x1, x2, x3, x4, x5, x6, x7, rfl, hx, q1⟩
      have hnv : nodeV x0 x1 x2 x3 x4 x5 x6 x7 = .agg #[.int .u8 x0, .int .i64 x1, .int .i64 x2, .string x3, .slice x4 x5 x6, .string x7] := rfl
      have HX3 := Lib.hid (root_vars hx)
      have hv4 : 4 < (x3.size : Int) := by have := HX.out x3 HX3.out; omega
      have HQ := Lib.hid (q1.alloc (.cells #[.int .u8 x0, .int .i64 x1, .int .i64 x2, .string x3, .slice x4 x5 x6, .string x7] 57))
      clear q1 hx h4
      go_wp2_with fail
      go_ret2
      have hn : (w1.alloc (.cells #[.int .u8 x0, .int .i64 x1, .int .i64 x2, .string x3, .slice x4 x5 x6, .string x7] 57)).heap.size = w1.heap.size + 1 := by simp
      refine ⟨_, [], rfl, ?_, HQ.out.alloc _, Nat.zero_le _, rfl⟩
      have := empty_row HQ.out.size
      rw [hn] at this
      exact this

end Go.Proofs.Ytkfcgamdlckncaa

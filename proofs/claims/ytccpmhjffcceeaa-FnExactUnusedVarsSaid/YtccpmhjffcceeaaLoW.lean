/-
  The model's l10Unused and UnusedVars.
  The model's UnusedVars.
-/
import Derived.Test.YtccpmhjffcceeaaLl
import Derived.Test.YtccpmhjffcceeaaTz
namespace Go.Proofs.Ytccpmhjffcceeaa
set_option linter.unusedVariables false
set_option linter.unusedSimpArgs false
open Go.RowKit

theorem resUn (W : World) (v : Value) (tmps : Array Value) (h2 : tmps.getD 2 undef = v) : (results Try.f61 tmps).run Try.prog W = .ok v W := by
  have h' : tmps[2]?.getD undef = v := by simpa using h2
  simp [results, Try.results61, go_sem, h']

set_option maxRecDepth 100000 in
set_option maxHeartbeats 2000000 in
theorem sunused_one {w0 : World} {ok : Nat → Prop} (c : UInt8) (k e : Nat) (vs ar : List UInt8) (y : Nds) (hc : c = 123) (hB : UsedC w0 ok y) (hyl : (Nds.lu y).length ≤ 100000) (hvl : vs.length ≤ 200) :
    ∀ a n m W, RepS w0 ok (.mk c k e vs ar (.cons y .nil)) (nodeCellsK (.mk c k e vs ar (.cons y .nil)) (.slice a n m)) → Keeps noB w0 W →
    Calls Try.prog 61 #[nodeA (.mk c k e vs ar (.cons y .nil)) a n m] W (fun e' w' => e' = .returned (.string ⟨(luN (.mk c k e vs ar (.cons y .nil))).toArray⟩) ∧ Keeps noB W w') := by
  intro a n m W hrep q
  obtain ⟨a', n', m', xs, hva, hrow, hb⟩ := node_slice hrep
  obtain ⟨rfl, rfl, rfl⟩ : a = a' ∧ n = n' ∧ m = m' := by simpa using hva
  simp only [RepSB] at hb
  obtain ⟨v0, vr, n1, cs, rfl, ⟨hr1, hr2⟩, rfl⟩ := hb
  obtain ⟨xa, xc, rfl⟩ := row_shape hr1
  have hlen := hrow.1.1
  simp at hlen
  obtain ⟨gB, cc, hv, hg1, hg2, hcell⟩ := row_get hrow (by omega)
  obtain ⟨rfl, rfl⟩ : a = some ⟨gB, 0, none⟩ ∧ m = cc := by simpa using hv
  have hgc := fun (W' : World) (q' : Keeps noB w0 W') => (q'.cell (p := ⟨gB, 0, none⟩) hg2 id).trans (hcell 0 _ rfl)
  obtain rfl : n = 1 := by omega
  obtain ⟨P, hP⟩ : ∃ P : UInt8 → Bool, (fun v => decide (v ∉ Nds.lu y)) = P := ⟨_, rfl⟩
  have hlu : luN (.mk c k e vs ar (.cons y .nil)) = vs.filter P := by simp only [luN]; rw [if_pos hc, hP]
  rw [hlu]
  obtain ⟨VS, hVS⟩ : ∃ VS : ByteArray, (⟨vs.toArray⟩ : ByteArray) = VS := ⟨_, rfl⟩
  obtain ⟨AR, hAR⟩ : ∃ AR : ByteArray, (⟨ar.toArray⟩ : ByteArray) = AR := ⟨_, rfl⟩
  obtain ⟨US, hUS⟩ : ∃ US : ByteArray, (⟨(Nds.lu y).toArray⟩ : ByteArray) = US := ⟨_, rfl⟩
  have hVSl : VS.data.toList = vs := by rw [← hVS]
  have hUSl : US.data.toList = Nds.lu y := by rw [← hUS]
  have hUSz : US.size ≤ 100000 := by rw [ba_len, hUSl]; exact hyl
  have hVSz : VS.size = vs.length := by rw [ba_len, hVSl]
  have hV2 : VS.size ≤ 200 := by omega
  obtain ⟨cv, hcv⟩ : ∃ cv : Int, (c.toNat : Int) = cv := ⟨_, rfl⟩
  have HU : Hid (∀ W', Keeps noB w0 W' → Calls Try.prog 94 #[.slice xa n1 xc] W' (fun e w' => e = .returned (.string US) ∧ Keeps noB W' w')) := fun W' q' => by
    rw [← hUS]; exact hB _ _ _ W' hr1 hr2 q'
  have HCELL : Hid (∀ W', Keeps noB (W.alloc (.cells #[.int .u8 cv, .int .i64 (k : Int), .int .i64 (e : Int), .string VS, .slice (some ⟨gB, 0, none⟩) 1 m, .string AR] 52)) W' → W'.cell? ⟨W.heap.size, 3, none⟩ = some (.string VS)) := fun W' q' => ((q'.blk (Blk.new _ _ _) id).cell 3).trans rfl
  have hgcA : (W.alloc (.cells #[.int .u8 cv, .int .i64 (k : Int), .int .i64 (e : Int), .string VS, .slice (some ⟨gB, 0, none⟩) 1 m, .string AR] 52)).cell? ⟨gB, 0, none⟩ = some (.slice xa n1 xc) := hgc _ (q.trans ((Keeps.refl _ _).alloc _))
  have HQ := Lib.hid q
  have HPP := Lib.hid hP
  have HL := Lib.hid (And.intro hVSl (And.intro hUSl hVSz))
  unfold nodeA
  simp only [Nd.kind, Nd.beg, Nd.fin, Nd.vars, Nd.scope]
  rw [hcv, hVS, hAR]
  clear hrep q hB hP hlu hVS hAR hUS hVSl hUSl hVSz hcv hc hvl hyl hgc hrow hr1 hr2 hcell hv hg1 hg2 hlen hva
  go_enter Try.func61, Try.ntmps61
  go_wp2_with fail
  refine (HU.out _ (HQ.out.trans ((Keeps.refl _ _).alloc _))).mono ?_
  rintro e1 w2 ⟨rfl, q2⟩
  have t3 := HCELL.out w2 q2
  have HQ2 := Lib.hid q2
  have HI : Hid (InU w2 vs P (vs.filter P) (.string ⟨#[]⟩) (.int .i64 0) w2) := ⟨0, ⟨#[]⟩, Nat.zero_le _, rfl, rfl, rfl, Keeps.refl _ _⟩
  clear q2
  go_wp2_with fail
  go_loopw [3, 14] (fun v3 v14 wr => InU w2 vs P (vs.filter P) v3 v14 wr) (fun _ v14 _ => VS.size - (intOf v14).toNat)
  case atStart => exact HI.out
  case round =>
    clear HI t3
    obtain ⟨wD, hwD⟩ : ∃ wD, wD = wr := ⟨_, rfl⟩
    subst hwD
    obtain ⟨j, T3, hj, rfl, rfl, hA3, q4⟩ := hrel
    have t3 := HCELL.out wD (HQ2.out.trans q4)
    by_cases hjn : j < vs.length
    · have hjs : j < VS.size := by rw [HL.out.2.2]; exact hjn
      have hd3 : (j : Int) < (VS.size : Int) := by omega
      have hsl := cut_at vs VS HL.out.1 j hjn
      have hdf := drop_filter (P := P) hjn
      have hgl : VS[j] = vs[j] := by simp [← HL.out.1]; rfl
      have hl3 : T3.size ≤ 200 := by
        have e := congrArg List.length hA3
        simp only [List.length_append] at e
        have h1 := List.length_filter_le P vs
        have h2 := HL.out.2.2
        rw [ba_len]
        omega
      rw [hdf] at hA3
      obtain ⟨u, hu⟩ : ∃ u, vs[j] = u := ⟨_, rfl⟩
      rw [hu] at hsl hA3 hgl
      have hov3 : ¬ 9223372036854775807 < T3.size + 1 := by omega
      have hsz1 : (⟨#[u]⟩ : ByteArray).size = 1 := rfl
      have hj5 : j ≤ 200 := by omega
      obtain ⟨FI, hFI⟩ : ∃ FI, findI US u = FI := ⟨_, rfl⟩
      have hfd := fun w => find_any US u w (by omega)
      rw [hFI] at hfd
      have HFD := Lib.hid hfd
      clear hfd
      by_cases hmv : u ∈ Nds.lu y
      · have HP1 : P u = false := by rw [← HPP.out]; simp [hmv]
        have HE3 : Hid (InU w2 vs P (vs.filter P) (.string T3) (.int .i64 ((j : Int) + 1)) wD) := by
          refine ⟨j + 1, T3, by omega, by simp, rfl, ?_, q4⟩
          rw [HP1] at hA3
          simpa using hA3
        have hfi : ¬ FI < 0 := by rw [← hFI]; have := findI_mem (a := US) (c := u) (by rw [HL.out.2.1]; exact hmv); omega
        clear hA3 q4 hdf hu HP1 hj hmv hFI
        go_wp2_with fail
        refine (HFD.out _).mono ?_
        rintro e3 w5 ⟨rfl, rfl⟩
        go_wp2_with fail
        go_roundw
        case rel => exact HE3.out
        case measure => simp [intOf]; omega
      · have HP1 : P u = true := by rw [← HPP.out]; simp [hmv]
        have HE3 : Hid (InU w2 vs P (vs.filter P) (.string (T3 ++ ⟨#[u]⟩)) (.int .i64 ((j : Int) + 1)) wD) := by
          refine ⟨j + 1, T3 ++ ⟨#[u]⟩, by omega, by simp, rfl, ?_, q4⟩
          rw [if_pos HP1] at hA3
          rw [ByteArray.data_append, Array.toList_append, ← hA3, List.append_assoc]
        have hfi : FI < 0 := by rw [← hFI, findI_not (by rw [HL.out.2.1]; exact hmv)]; omega
        clear hA3 q4 hdf hu HP1 hj hmv hFI
        go_wp2_with fail
        refine (HFD.out _).mono ?_
        rintro e3 w5 ⟨rfl, rfl⟩
        go_wp2_with fail
        go_roundw
        case rel => exact HE3.out
        case measure => simp [intOf]; omega
    · have hd3 : ¬ (j : Int) < (VS.size : Int) := by rw [HL.out.2.2]; omega
      have hj0 : vs.drop j = [] := List.drop_eq_nil_iff.2 (by omega)
      have HE3 : Hid (Value.string T3 = .string ⟨(vs.filter P).toArray⟩ ∧ Keeps noB W wD) := ⟨congrArg Value.string (ba_eq (by rw [← hA3, hj0]; simp)), (((Keeps.refl _ _).alloc _).trans HQ2.out).trans q4⟩
      clear hA3 q4 hj hj0
      go_wp2_with fail
      go_ret
      exact ⟨congrArg Ending.returned HE3.out.1, HE3.out.2⟩

end Go.Proofs.Ytccpmhjffcceeaa

namespace Go.Proofs.Ytccpmhjffcceeaa
set_option linter.unusedVariables false
set_option linter.unusedSimpArgs false
open Go.RowKit

theorem luN_ne {z : Nd} (h : z.kind ≠ 123) : luN z = [] := by
  obtain ⟨c, k, e, vs, ar, bs⟩ := z
  have h2 : c ≠ 123 := h
  cases bs with
  | nil => rfl
  | cons y r => cases r with
    | nil => simp only [luN]; rw [if_neg h2]
    | cons _ _ => rfl
theorem luN_len (z : Nd) : (luN z).length ≤ z.vars.length := by
  obtain ⟨c, k, e, vs, ar, bs⟩ := z
  cases bs with
  | nil => simp [luN]
  | cons y r => cases r with
    | nil =>
      simp only [luN, Nd.vars]
      split
      · exact List.length_filter_le _ _
      · simp
    | cons _ _ => simp [luN]
theorem flat_lu_len : ∀ (l : List Nd), (∀ z ∈ l, z.vars.length ≤ 80) → (l.flatMap luN).length ≤ 80 * l.length
  | [], _ => by simp
  | z :: r, h => by
    have h1 := luN_len z
    have h2 := h z (by simp)
    have h3 := flat_lu_len r (fun x hx => h x (by simp [hx]))
    simp only [List.flatMap_cons, List.length_append, List.length_cons]
    omega

theorem sunused_of {s : ByteArray} {x z : Nd} (hp : progP s = some x) (hz : z ∈ x.pre.list) (hk : z.kind = 123) {w2 : World} {ok : Nat → Prop} (hok : ∀ i, ok i → i < w2.heap.size) :
    ∀ a n m W, RepS w2 ok z (nodeCellsK z (.slice a n m)) → Keeps noB w2 W → Calls Try.prog 61 #[nodeA z a n m] W (fun e' w' => e' = .returned (.string ⟨(luN z).toArray⟩) ∧ Keeps noB W w') := by
  have hsub := Nd.pre_sub x z hz
  have hf := (step_fit hp hz).fit
  have hfew := progP_few hp
  have h6 := (progP_ok hp).2.2.2.2.2
  have hv := pre_vars hp hz
  have hu := Nd.usedS hok z hf (fun q hq => Nat.le_trans (pre_vars hp (hsub.1 q hq)) (by decide)) (by omega)
  obtain ⟨c, k, e, vs, ar, bs⟩ := z
  have hc : c = 123 := hk
  cases bs with
  | nil =>
    simp only [Nd.Fit] at hf
    rcases hf with ⟨h | h | h | h, _⟩ | ⟨h, _⟩ | ⟨h | h, _⟩ <;> rw [hc] at h <;> exact absurd h (by decide)
  | cons y r =>
    cases r with
    | nil =>
      obtain ⟨h1, h2⟩ := hu.1 y (by simp [Nd.bodies, Bds.lists])
      exact sunused_one c k e vs ar y hc h1 h2 (by simp only [Nd.vars] at hv; omega)
    | cons u r2 =>
      cases r2 with
      | nil => simp only [Nd.Fit] at hf; rw [hc] at hf; exact absurd hf.1 (by decide)
      | cons _ _ => simp only [Nd.Fit] at hf

/-- What the loop over the steps has gathered. -/
def UvI (w2 : World) (ok : Nat → Prop) (all : List Nd) (cs : List Value) (n : Nat) (v4 v19 : Value) (wr : World) : Prop :=
  ∃ (i : Nat) (rest : Nds) (T : ByteArray), i + rest.list.length = n ∧ v19 = .int .i64 (i : Int) ∧ v4 = .string T ∧ T.data.toList ++ rest.list.flatMap luN = all.flatMap luN ∧ RepSL w2 ok rest (cs.drop (i * 6)) ∧ (∀ z ∈ rest.list, z ∈ all) ∧ Keeps noB w2 wr

set_option maxRecDepth 100000 in
set_option maxHeartbeats 4000000 in
theorem sunused_any (s : ByteArray) (hs : s.size ≤ 1048576) (w : World) : Calls Try.prog 34 #[.string s] w (RewritePost w (unusedP s)) := by
  have HR := Lib.hid (sread_any s hs w)
  unfold unusedP
  cases hp : progP s with
  | none =>
    rw [hp] at HR
    clear hp
    go_enter Try.func34, Try.ntmps34
    go_wp2_with fail
    refine HR.out.mono ?_
    rintro e w1 ⟨⟨x0, x1, x2, x3, x4, x5, x6, x7, rfl⟩, q1⟩
    have hnv : nodeV x0 x1 x2 x3 x4 x5 x6 x7 = .agg #[.int .u8 x0, .int .i64 x1, .int .i64 x2, .string x3, .slice x4 x5 x6, .string x7] := rfl
    have HQ := Lib.hid q1
    clear q1
    go_wp2_with fail
    go_ret2
    exact ⟨rfl, HQ.out.alloc _⟩
  | some x =>
    rw [hp] at HR
    have h6 := (progP_ok hp).2.2.2.2.2
    have hfew := progP_few hp
    have hpl : x.pre.len ≤ 80 := by omega
    have HUN : Hid (∀ (w2 : World) (ok : Nat → Prop), (∀ i, ok i → i < w2.heap.size) → ∀ z ∈ x.pre.list, z.kind = 123 → ∀ a n m W, RepS w2 ok z (nodeCellsK z (.slice a n m)) → Keeps noB w2 W → Calls Try.prog 61 #[nodeA z a n m] W (fun e' w' => e' = .returned (.string ⟨(luN z).toArray⟩) ∧ Keeps noB W w')) := fun w2 ok hok z hz hk => sunused_of hp hz hk hok
    have hlen : (x.pre.list.flatMap luN).length ≤ 6400 := by
      have h1 := flat_lu_len x.pre.list (fun z hz => pre_vars hp hz)
      rw [Nds.list_len] at h1
      omega
    have HEQ : Hid (∀ w', Keeps noB w w' → RewritePost w (Option.map (fun x => lets (unuK x.pre.list)) (some x)) (.returned (.tuple #[str (sortedOf (x.pre.list.flatMap luN)), .bool true])) w') := fun w' q => ⟨by rw [unused_eq hp]; rfl, q⟩
    have HLEN := Lib.hid (And.intro hlen hpl)
    clear hp h6 hfew hlen hpl
    generalize RewritePost w (Option.map (fun x => lets (unuK x.pre.list)) (some x)) = POST at *
    go_enter Try.func34, Try.ntmps34
    go_wp2_with fail
    refine HR.out.mono ?_
    rintro e w1 ⟨x0, x1, x2, x3, x4, x5, x6, x7, rfl, hx, q1⟩
    have hnv : nodeV x0 x1 x2 x3 x4 x5 x6 x7 = .agg #[.int .u8 x0, .int .i64 x1, .int .i64 x2, .string x3, .slice x4 x5 x6, .string x7] := rfl
    have HE : Hid (∀ W, Keeps noB w1 W → Calls Try.prog 42 #[.agg #[.int .u8 x0, .int .i64 x1, .int .i64 x2, .string x3, .slice x4 x5 x6, .string x7]] W (EachPost W (fun g => g < w1.heap.size) x)) := fun W qW =>
      each_all x.pre.len x _ W (fun g => g < w1.heap.size) rfl (by have := HLEN.out.2; omega)
        ((Hands.of_keeps qW (fun g _ _ e => e) (fun g hg hl => hl)).repS x _ hx) (fun g hg => by have := qW.size; omega)
    have HQ1 := Lib.hid q1
    clear q1 hx
    go_wp2_with fail
    refine (HE.out _ ((Keeps.refl _ _).alloc _)).mono ?_
    rintro e w2 ⟨v, rfl, hout⟩
    obtain ⟨hp0, cs, hown, hrep, hfrom, q2⟩ := hout
    obtain ⟨a, c, rfl⟩ := row_shape (ok := fun _ => True) ⟨hown, fun _ _ => trivial⟩
    have k2 : Keeps noB w1 w2 := ((Keeps.refl _ _).alloc _).trans q2
    have hrow : Row w2 (fun g => g < w2.heap.size) 52 6 (.slice a x.pre.len c) x.pre.len cs := ⟨hown, fun g hg => (hown.lt g hg).2⟩
    have hrep2 : RepSL w2 (fun g => g < w2.heap.size) x.pre cs := (Hands.of_keeps (Keeps.refl noB w2) (fun _ _ _ e => e) (fun g hg _ => Nat.lt_of_lt_of_le hg k2.size)).repSL _ _ hrep
    obtain ⟨n, hn⟩ : ∃ n, x.pre.len = n := ⟨_, rfl⟩
    have hxl : x.pre.list.length = n := by rw [Nds.list_len]; exact hn
    rw [hn] at hrow hp0 ⊢
    have hn80 : n ≤ 80 := by have := HLEN.out.2; omega
    have HP : Hid (UvI w2 (fun g => g < w2.heap.size) x.pre.list cs n (.string ⟨#[]⟩) (.int .i64 0) w2) := ⟨0, x.pre, ⟨#[]⟩, by omega, rfl, rfl, rfl, by simpa using hrep2, fun z hz => hz, Keeps.refl _ _⟩
    have HG := Lib.hid hrow
    have HK := Lib.hid (HQ1.out.trans k2)
    clear hown hrep hfrom q2 k2 hrow hrep2 hn hxl HQ1
    go_wp2_with fail
    go_loopw [4, 19] (fun v4 v19 wr => UvI w2 (fun g => g < w2.heap.size) x.pre.list cs n v4 v19 wr) (fun _ v19 _ => n - (intOf v19).toNat)
    case atStart => exact HP.out
    case round =>
      clear HP
      obtain ⟨wO, hwO⟩ : ∃ wO, wO = wr := ⟨_, rfl⟩
      subst hwO
      obtain ⟨i, rest, T, hil, rfl, rfl, hT, hrep, hmem, qr⟩ := hrel
      have hTl : T.size ≤ 6400 := by
        have e := congrArg List.length hT
        have := HLEN.out.1
        rw [List.length_append] at e
        rw [ba_len]; omega
      cases rest with
      | nil =>
        have hd : ¬ (i : Int) < (n : Int) := by simp [Nds.list] at hil; omega
        have hTT : T.data.toList = x.pre.list.flatMap luN := by rw [← hT]; simp [Nds.list]
        have hso := fun w => sorted_any T (by omega) w
        rw [hTT] at hso
        have HSO := Lib.hid hso
        have HQ := Lib.hid (HK.out.trans qr)
        unfold str at HEQ HSO
        clear hil hT hrep hmem qr HG hso hTT
        go_wp2_with fail
        refine (HSO.out _).mono ?_
        rintro e5 w5 ⟨rfl, q5⟩
        have HQ5 := Lib.hid q5
        clear q5
        go_wp2_with fail
        exact HEQ.out _ (HQ.out.trans HQ5.out)
      | cons z r =>
        have hd : (i : Int) < (n : Int) := by simp [Nds.list] at hil; omega
        obtain ⟨na, nn, nm, hzrep, hzc, hrr⟩ := node_repK hrep
        have hrow := HG.out
        obtain ⟨g, cc, hv, hg1, hg2, hcell⟩ := row_get hrow hp0
        obtain ⟨rfl, rfl⟩ : a = some ⟨g, 0, none⟩ ∧ c = cc := by simpa using hv
        have hcw : ∀ i' u, (nodeCellsK z (.slice na nn nm))[i']? = some u → wO.cell? ⟨g, i * 6 + i', none⟩ = some u := fun i' u hu =>
          (qr.cell (p := ⟨g, i * 6 + i', none⟩) hg2 id).trans (hcell _ _ (hzc i' u hu))
        have s0 : wO.cell? ⟨g, i * 6, none⟩ = some (.int .u8 (z.kind.toNat : Int)) := hcw 0 _ rfl
        have s1 := hcw 1 _ rfl
        have s2 := hcw 2 _ rfl
        have s3 := hcw 3 _ rfl
        have s4 := hcw 4 _ rfl
        have s5 := hcw 5 _ rfl
        unfold i64 at s1 s2
        unfold str at s3 s5
        have hun := HUN.out w2 (fun g => g < w2.heap.size) (fun _ h => h) z (hmem z (by simp [Nds.list]))
        obtain ⟨kv, hkv⟩ : ∃ kv : Int, (z.kind.toNat : Int) = kv := ⟨_, rfl⟩
        obtain ⟨bv, hbv⟩ : ∃ bv : Int, (z.beg : Int) = bv := ⟨_, rfl⟩
        obtain ⟨ev, hev⟩ : ∃ ev : Int, (z.fin : Int) = ev := ⟨_, rfl⟩
        obtain ⟨VS, hVS⟩ : ∃ VS : ByteArray, (⟨z.vars.toArray⟩ : ByteArray) = VS := ⟨_, rfl⟩
        obtain ⟨AR, hAR⟩ : ∃ AR : ByteArray, (⟨z.scope.toArray⟩ : ByteArray) = AR := ⟨_, rfl⟩
        unfold nodeA at hun
        rw [hkv, hbv, hev, hVS, hAR] at hun
        rw [hkv] at s0
        rw [hbv] at s1
        rw [hev] at s2
        rw [hVS] at s3
        rw [hAR] at s5
        have qA : Keeps noB wO (wO.alloc (.cells #[.int .u8 kv, .int .i64 bv, .int .i64 ev, .string VS, .slice na nn nm, .string AR] 52)) := (Keeps.refl _ _).alloc _
        have hin : i < n := by omega
        have hT2 : T.data.toList ++ luN z ++ r.list.flatMap luN = x.pre.list.flatMap luN := by rw [← hT]; simp [Nds.list]
        have HE2 : Hid (∀ (A : ByteArray) (w3 : World), A.data.toList = T.data.toList ++ luN z → Keeps noB wO w3 → UvI w2 (fun g => g < w2.heap.size) x.pre.list cs n (.string A) (.int .i64 ((i : Int) + 1)) w3) := fun A w3 hA q3 =>
          ⟨i + 1, r, A, by simp [Nds.list] at hil; omega, by simp, rfl, by rw [hA]; exact hT2, hrr, fun x hx => hmem x (by simp [Nds.list, hx]), qr.trans q3⟩
        by_cases hk : z.kind = 123
        · have hk1 : (kv == 123) = true := by rw [← hkv, hk]; rfl
          obtain ⟨Z, hZ⟩ : ∃ Z : ByteArray, (⟨(luN z).toArray⟩ : ByteArray) = Z := ⟨_, rfl⟩
          have hZl : Z.data.toList = luN z := by rw [← hZ]
          have hcall := hun hk na nn nm _ hzrep (qr.trans qA)
          rw [hZ] at hcall
          have HC := Lib.hid hcall
          have hZs : Z.size ≤ 6400 := by
            have e := congrArg List.length hT2
            have := HLEN.out.1
            rw [List.length_append, List.length_append] at e
            rw [ba_len, hZl]; omega
          have hov : ¬ 9223372036854775807 < T.size + Z.size := by omega
          have HE3 : Hid (∀ w3, Keeps noB (wO.alloc (.cells #[.int .u8 kv, .int .i64 bv, .int .i64 ev, .string VS, .slice na nn nm, .string AR] 52)) w3 → UvI w2 (fun g => g < w2.heap.size) x.pre.list cs n (.string (T ++ Z)) (.int .i64 ((i : Int) + 1)) w3) := fun w3 q3 => HE2.out _ _ (by rw [ByteArray.data_append, Array.toList_append, hZl]) (qA.trans q3)
          clear hil hT hrep hmem qr hzrep hzc hrr hrow hcw hcell hv hg1 hg2 hun hT2 HE2 hk hZ hZl hcall HG hkv hbv hev hVS hAR qA
          go_wp2_with fail
          refine HC.out.mono ?_
          rintro e6 w6 ⟨rfl, q6⟩
          have HE4 := Lib.hid (HE3.out w6 q6)
          clear q6
          go_wp2_with fail
          go_roundw
          case rel => exact HE4.out
          case measure => simp [intOf]; omega
        · have hk1 : (kv == 123) = false := by rw [beq_eq_false_iff_ne]; intro e; exact hk (UInt8.toNat_inj.1 (by rw [← hkv] at e; exact Int.ofNat.inj e))
          have HE3 : Hid (UvI w2 (fun g => g < w2.heap.size) x.pre.list cs n (.string T) (.int .i64 ((i : Int) + 1)) (wO.alloc (.cells #[.int .u8 kv, .int .i64 bv, .int .i64 ev, .string VS, .slice na nn nm, .string AR] 52))) := HE2.out _ _ (by rw [luN_ne hk, List.append_nil]) qA
          clear hil hT hrep hmem qr hzrep hzc hrr hrow hcw hcell hv hg1 hg2 hun hT2 HE2 hk HG hkv hbv hev hVS hAR qA
          go_wp2_with fail
          go_roundw
          case rel => exact HE3.out
          case measure => simp [intOf]; omega

end Go.Proofs.Ytccpmhjffcceeaa

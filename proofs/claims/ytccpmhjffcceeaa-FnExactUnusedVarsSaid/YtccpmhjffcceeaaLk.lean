/-
  The model's l10Used: the letters in steps but those that are declared there.
-/
import Derived.Test.YtccpmhjffcceeaaHpa
import Derived.Test.YtccpmhjffcceeaaLa
namespace Go.Proofs.Ytccpmhjffcceeaa
set_option linter.unusedVariables false
set_option linter.unusedSimpArgs false
open Go.RowKit

mutual
/-- The letters in a step, those that are declared there not included. -/
def Nd.lu : Nd → List UInt8
  | .mk c k e vs ar bs => (if c = 123 then [] else vs) ++ bs.lu (fun v => decide (c ≠ 123) || decide (v ∉ vs))
def Nds.lu : Nds → List UInt8
  | .nil => []
  | .cons x r => x.lu ++ r.lu
def Bds.lu (P : UInt8 → Bool) : Bds → List UInt8
  | .nil => []
  | .cons x r => x.lu.filter P ++ r.lu P
end
theorem Bds.lu_lists (P : UInt8 → Bool) : ∀ b : Bds, b.lu P = b.lists.flatMap (fun y => (Nds.lu y).filter P)
  | .nil => rfl
  | .cons x r => by simp only [Bds.lu, Bds.lists, List.flatMap_cons, Bds.lu_lists P r]

/-- What l10Used says of some steps. -/
def UsedC (w0 : World) (ok : Nat → Prop) (y : Nds) : Prop :=
  ∀ v n cs W, Row w0 ok 52 6 v n cs → RepSL w0 ok y cs → Keeps noB w0 W →
    Calls Try.prog 94 #[v] W (fun e w' => e = .returned (.string ⟨(Nds.lu y).toArray⟩) ∧ Keeps noB W w')

/-- What the loop over the steps has gathered. -/
def LuI (w0 W : World) (ok : Nat → Prop) (y : Nds) (cs : List Value) (n : Nat) (v3 v12 : Value) (wr : World) : Prop :=
  ∃ (i : Nat) (rest : Nds) (T : ByteArray), i + rest.list.length = n ∧ v12 = .int .i64 (i : Int) ∧ v3 = .string T ∧ T.data.toList ++ Nds.lu rest = Nds.lu y ∧ RepSL w0 ok rest (cs.drop (i * 6)) ∧ (∀ z ∈ rest.list, z ∈ y.list) ∧ Keeps noB W wr
/-- .. over a step's bodies. -/
def MidU (wB : World) (bl : List Nds) (P : UInt8 → Bool) (A : List UInt8) (v3 v26 : Value) (wr : World) : Prop :=
  ∃ (i : Nat) (T : ByteArray), i ≤ bl.length ∧ v26 = .int .i64 (i : Int) ∧ v3 = .string T ∧ T.data.toList ++ (bl.drop i).flatMap (fun b => (Nds.lu b).filter P) = A ∧ Keeps noB wB wr
/-- .. over a body's letters. -/
def InU (wC : World) (L : List UInt8) (P : UInt8 → Bool) (A : List UInt8) (v3 v34 : Value) (wr : World) : Prop :=
  ∃ (j : Nat) (T : ByteArray), j ≤ L.length ∧ v34 = .int .i64 (j : Int) ∧ v3 = .string T ∧ T.data.toList ++ (L.drop j).filter P = A ∧ Keeps noB wC wr

theorem cut_at (L : List UInt8) (IN : ByteArray) (h : IN.data.toList = L) (j : Nat) (hj : j < L.length) : ∀ wx, (Instr.slice 9 (.string IN) (some (.int .i64 (j : Int))) (some (.int .i64 ((j : Int) + 1))) none).run Try.prog wx = .ok (.string ⟨#[L[j]]⟩) wx := fun wx => by
  have hsz : IN.size = L.length := by rw [ba_len, h]
  have := run_slice_string (P := Try.prog) wx 9 IN .i64 .i64 (j : Int) ((j : Int) + 1) Try.underlying9 (by omega) (by omega) (by omega)
  have hjs : j < IN.size := by omega
  have e : IN.extract j (j + 1) = ⟨[L[j]].toArray⟩ := ba_eq (by
    rw [extract_one hjs]
    have : IN[j] = L[j] := by simp [← h]; rfl
    rw [this])
  rw [← e]
  have e1 : ((j : Int)).toNat = j := by omega
  have e2 : ((j : Int) + 1).toNat = j + 1 := by omega
  rw [e1, e2] at this
  exact this

theorem drop_filter {L : List UInt8} {P : UInt8 → Bool} {j : Nat} (hj : j < L.length) : (L.drop j).filter P = (if P L[j] then [L[j]] else []) ++ (L.drop (j + 1)).filter P := by
  rw [List.drop_eq_getElem_cons hj, List.filter_cons]
  split <;> simp

theorem resLu (W : World) (v : Value) (tmps : Array Value) (h2 : tmps.getD 2 undef = v) : (results Try.f94 tmps).run Try.prog W = .ok v W := by
  have h' : tmps[2]?.getD undef = v := by simpa using h2
  simp [results, Try.results94, go_sem, h']

set_option maxRecDepth 100000 in
set_option maxHeartbeats 4000000 in
theorem sused_any (w0 : World) (ok : Nat → Prop) (y : Nds) (hs : ∀ z ∈ y.list, (∀ b ∈ z.bodies.lists, UsedC w0 ok b ∧ (Nds.lu b).length ≤ 100000) ∧ z.bodies.lists.length ≤ 10 ∧ z.vars.length ≤ 200) (hl : (Nds.lu y).length ≤ 100000) (hyl : y.list.length ≤ 1000) (hok : ∀ i, ok i → i < w0.heap.size) : UsedC w0 ok y := by
  intro v n cs W hrow hrep q
  obtain ⟨a, c, rfl⟩ := row_shape hrow
  have hn : n = y.list.length := by
    have h1 := repSL_len y cs hrep
    have h2 := hrow.1.1
    rw [len_list] at h1
    omega
  have HP : Hid (LuI w0 W ok y cs n (.string ⟨#[]⟩) (.int .i64 0) W) := ⟨0, y, ⟨#[]⟩, by omega, rfl, rfl, rfl, by simpa using hrep, fun z hz => hz, Keeps.refl _ _⟩
  have HG := Lib.hid (And.intro hrow (And.intro hs (And.intro hl (And.intro hok q))))
  have hn1 : n ≤ 1000 := by omega
  have HN := Lib.hid hn
  clear hrow hrep hs hl hok q hyl hn
  go_enter Try.func94, Try.ntmps94
  go_wp2_with fail
  go_loopw [3, 12] (fun v3 v12 wr => LuI w0 W ok y cs n v3 v12 wr) (fun _ v12 _ => n - (intOf v12).toNat)
  case atStart => exact HP.out
  case round =>
    clear HP
    obtain ⟨wO, hwO⟩ : ∃ wO, wO = wr := ⟨_, rfl⟩
    subst hwO
    obtain ⟨i, rest, T, hil, rfl, rfl, hT, hrep, hmem, qr⟩ := hrel
    cases rest with
    | nil =>
      have hd : ¬ (i : Int) < (n : Int) := by simp [Nds.list] at hil; omega
      have HE : Hid (Value.string T = .string ⟨(Nds.lu y).toArray⟩ ∧ Keeps noB W wO) := ⟨congrArg Value.string (ba_eq (by rw [← hT]; simp [Nds.lu])), qr⟩
      clear hil hT hrep hmem qr HG
      go_wp2_with fail
      go_ret
      exact ⟨congrArg Ending.returned HE.out.1, HE.out.2⟩
    | cons z r =>
      have hd : (i : Int) < (n : Int) := by simp [Nds.list] at hil; omega
      obtain ⟨na, nn, nm, hzrep, hzc, hrr⟩ := node_repK hrep
      obtain ⟨hrow, hs, hl, hok, q⟩ := HG.out
      obtain ⟨g, cc, hv, hg1, hg2, hcell⟩ := row_get hrow (by omega)
      obtain ⟨rfl, rfl⟩ : a = some ⟨g, 0, none⟩ ∧ c = cc := by simpa using hv
      have qw := q.trans qr
      have hcw : ∀ i' u, (nodeCellsK z (.slice na nn nm))[i']? = some u → wO.cell? ⟨g, i * 6 + i', none⟩ = some u := fun i' u hu =>
        (qw.cell (p := ⟨g, i * 6 + i', none⟩) hg2 id).trans (hcell _ _ (hzc i' u hu))
      have s0 : wO.cell? ⟨g, i * 6, none⟩ = some (.int .u8 (z.kind.toNat : Int)) := hcw 0 _ rfl
      have s1 := hcw 1 _ rfl
      have s2 := hcw 2 _ rfl
      have s3 := hcw 3 _ rfl
      have s4 := hcw 4 _ rfl
      have s5 := hcw 5 _ rfl
      unfold i64 at s1 s2
      unfold str at s3 s5
      obtain ⟨hzb, hzl, hzv⟩ := hs z (hmem z (by simp [Nds.list]))
      obtain ⟨a', n', m', xs, hva, hrowB, hb⟩ : ∃ a' n' m' xs, Value.slice na nn nm = .slice a' n' m' ∧ Row w0 ok 55 1 (.slice na nn nm) n' xs ∧ RepSB w0 ok z.bodies xs := by
        obtain ⟨c, k, e, vs, ar, bs⟩ := z
        exact node_slice hzrep
      obtain ⟨rfl, rfl, rfl⟩ : na = a' ∧ nn = n' ∧ nm = m' := by simpa using hva
      obtain ⟨hxl, hget⟩ := RepSB.get z.bodies xs hb
      have hnl : nn = z.bodies.lists.length := by have := hrowB.1.1; omega
      obtain ⟨bl, hbl⟩ : ∃ bl, z.bodies.lists = bl := ⟨_, rfl⟩
      obtain ⟨P, hP⟩ : ∃ P : UInt8 → Bool, (fun v => decide (z.kind ≠ 123) || decide (v ∉ z.vars)) = P := ⟨_, rfl⟩
      obtain ⟨VS, hVS⟩ : ∃ VS : ByteArray, (⟨z.vars.toArray⟩ : ByteArray) = VS := ⟨_, rfl⟩
      have hVSl : VS.data.toList = z.vars := by rw [← hVS]
      have hlz : z.lu = (if z.kind = 123 then [] else z.vars) ++ bl.flatMap (fun b => (Nds.lu b).filter P) := by
        rw [← hbl, ← hP, ← Bds.lu_lists]; obtain ⟨c, k, e, vs, ar, bs⟩ := z; rfl
      rw [hbl] at hzb hzl hget hnl
      have hT2 : T.data.toList ++ z.lu ++ Nds.lu r = Nds.lu y := by rw [← hT, Nds.lu, List.append_assoc]
      have hsum : T.data.toList.length + z.lu.length ≤ 100000 := by
        have e := congrArg List.length hT2
        rw [List.length_append, List.length_append] at e
        omega
      obtain ⟨kv, hkv⟩ : ∃ kv : Int, (z.kind.toNat : Int) = kv := ⟨_, rfl⟩
      obtain ⟨bv, hbv⟩ : ∃ bv : Int, (z.beg : Int) = bv := ⟨_, rfl⟩
      obtain ⟨ev, hev⟩ : ∃ ev : Int, (z.fin : Int) = ev := ⟨_, rfl⟩
      obtain ⟨AR, hAR⟩ : ∃ AR : ByteArray, (⟨z.scope.toArray⟩ : ByteArray) = AR := ⟨_, rfl⟩
      rw [hkv] at s0
      rw [hbv] at s1
      rw [hev] at s2
      rw [hVS] at s3
      rw [hAR] at s5
      obtain ⟨wB, hwB⟩ : ∃ wB, wB = wO.alloc (.cells #[.int .u8 kv, .int .i64 bv, .int .i64 ev, .string VS, .slice na nn nm, .string AR] 52) := ⟨_, rfl⟩
      have qA : Keeps noB wO wB := by rw [hwB]; exact (Keeps.refl _ _).alloc _
      have bB : Blk wB wO.heap.size #[.int .u8 kv, .int .i64 bv, .int .i64 ev, .string VS, .slice na nn nm, .string AR] 52 := by rw [hwB]; exact Blk.new _ _ _
      have HE : Hid (∀ (A : ByteArray) (w2 : World), A.data.toList = T.data.toList ++ z.lu → Keeps noB wB w2 → LuI w0 W ok y cs n (.string A) (.int .i64 ((i : Int) + 1)) w2) := fun A w2 hA q2 => by
        refine ⟨i + 1, r, A, by simp [Nds.list] at hil; omega, by simp, rfl, by rw [hA]; exact hT2, hrr, fun x hx => hmem x (by simp [Nds.list, hx]), (qr.trans qA).trans q2⟩
      have HCELL : Hid (∀ w2, Keeps noB wB w2 → w2.cell? ⟨wO.heap.size, 0, none⟩ = some (.int .u8 kv) ∧ w2.cell? ⟨wO.heap.size, 3, none⟩ = some (.string VS)) := fun w2 q2 => ⟨((q2.blk bB id).cell 0).trans rfl, ((q2.blk bB id).cell 3).trans rfl⟩
      have HROW := Lib.hid (And.intro hrowB (And.intro hget (And.intro hzb (And.intro (qw.trans qA) (And.intro hVSl (And.intro hlz hsum))))))
      have hin : i < n := by omega
      have hTs : T.data.toList.length = T.size := (ba_len T).symm
      have hVz : VS.size = z.vars.length := by rw [ba_len, hVSl]
      have hTl : T.size ≤ 100000 := by omega
      have hVl : VS.size ≤ 200 := by omega
      have hov : ¬ 9223372036854775807 < T.size + VS.size := by omega
      have hkd : (z.kind = 123 ∧ (kv != 123) = false) ∨ (z.kind ≠ 123 ∧ (kv != 123) = true) := by
        by_cases h : z.kind = 123
        · exact .inl ⟨h, by rw [← hkv, h]; rfl⟩
        · exact .inr ⟨h, by rw [bne_iff_ne]; intro e; exact h (UInt8.toNat_inj.1 (by rw [← hkv] at e; exact Int.ofNat.inj e))⟩
      have HT := Lib.hid hTs
      have HPP := Lib.hid hP
      have hnl10 : nn ≤ 10 := by omega
      clear hT hrep hmem qr hzrep hzc hrr hrow hs hl hok q qw hcw qA hil hv hcell HG hzb hzl hzv hva hrowB hb hxl hget hbl hVS hVSl hlz hT2 hsum hkv hbv hev hAR hg1 hg2 bB hTs hVz hP
      have HNL := Lib.hid hnl
      clear hnl
      rcases hkd with ⟨hz1, hk1⟩ | ⟨hz1, hk1⟩
      · have HI : Hid (MidU wB bl P (T.data.toList ++ z.lu) (.string T) (.int .i64 0) wB) := by
          obtain ⟨_, _, _, _, hVSl, hlz, _⟩ := HROW.out
          refine ⟨0, T, Nat.zero_le _, rfl, rfl, ?_, Keeps.refl _ _⟩
          rw [hlz, if_pos hz1, List.drop_zero]
          simp []
        have t0 := (HCELL.out wB (Keeps.refl _ _)).1
        have t3 := (HCELL.out wB (Keeps.refl _ _)).2
        have HZ := Lib.hid hz1
        have HWB := Lib.hid hwB
        clear hz1 hwB
        go_wp2_with fail
        rw [← HWB.out]
        go_loopw [3, 26] (fun v3 v26 wr => MidU wB bl P (T.data.toList ++ z.lu) v3 v26 wr) (fun _ v26 _ => nn - (intOf v26).toNat)
        case atStart => exact HI.out
        case round =>
          clear HI t0 t3
          obtain ⟨wC, hwC⟩ : ∃ wC, wC = wr := ⟨_, rfl⟩
          subst hwC
          obtain ⟨i2, T2, hi2, rfl, rfl, hA2, q2⟩ := hrel
          obtain ⟨t0, t3⟩ := HCELL.out wC q2
          by_cases hin2 : i2 < bl.length
          · obtain ⟨hrowB, hget, hzb, q0, hVSl, hlz, hsum⟩ := HROW.out
            obtain ⟨v, n1, cy, hxi, hrowy, hrepy⟩ := hget i2 bl[i2] (List.getElem?_eq_getElem hin2)
            obtain ⟨hbC, hbn⟩ := hzb bl[i2] (List.getElem_mem hin2)
            have hdr : (bl.drop i2).flatMap (fun b => (Nds.lu b).filter P) = (Nds.lu bl[i2]).filter P ++ (bl.drop (i2 + 1)).flatMap (fun b => (Nds.lu b).filter P) := by
              rw [List.drop_eq_getElem_cons hin2, List.flatMap_cons]
            rw [hdr] at hA2
            obtain ⟨b, hb⟩ : ∃ b, bl[i2] = b := ⟨_, rfl⟩
            rw [hb] at hrepy hbC hbn hA2
            obtain ⟨ya, yc, rfl⟩ := row_shape hrowy
            obtain ⟨gB, cc2, hv, hg1, hg2, hcell⟩ := row_get hrowB (show 0 < nn by have := HNL.out; omega)
            obtain ⟨rfl, rfl⟩ : na = some ⟨gB, 0, none⟩ ∧ nm = cc2 := by simpa using hv
            have s0 : wC.cell? ⟨gB, i2, none⟩ = some (.slice ya n1 yc) := ((q0.trans q2).cell (p := ⟨gB, i2, none⟩) hg2 id).trans (hcell i2 _ hxi)
            have hC := hbC _ n1 cy wC hrowy hrepy (q0.trans q2)
            obtain ⟨L, hL⟩ : ∃ L, Nds.lu b = L := ⟨_, rfl⟩
            rw [hL] at hC hbn hA2
            obtain ⟨IN, hIN⟩ : ∃ IN : ByteArray, (⟨L.toArray⟩ : ByteArray) = IN := ⟨_, rfl⟩
            have hINl : IN.data.toList = L := by rw [← hIN]
            rw [hIN] at hC
            have HC := Lib.hid hC
            have hINz : IN.size = L.length := by rw [ba_len, hINl]
            have hd2 : (i2 : Int) < (nn : Int) := by have := HNL.out; omega
            have hin3 : i2 < nn := by have := HNL.out; omega
            have hlen2 : T2.data.toList.length + (L.filter P).length ≤ 100000 := by
              have e := congrArg List.length hA2
              simp only [List.length_append] at e
              omega
            have HNXT : Hid (∀ (A : ByteArray) w3, A.data.toList = T2.data.toList ++ L.filter P → Keeps noB wC w3 → MidU wB bl P (T.data.toList ++ z.lu) (.string A) (.int .i64 ((i2 : Int) + 1)) w3) := fun A w3 hA q3 => ⟨i2 + 1, A, by omega, by simp, rfl, by rw [hA, List.append_assoc]; exact hA2, q2.trans q3⟩
            have HIN := Lib.hid (And.intro hINl (And.intro hVSl hlen2))
            have hIN5 : IN.size ≤ 100000 := by omega
            have HQ2 := Lib.hid q2
            have HLZ := Lib.hid hINz
            clear hrowB hget hzb q0 hVSl hlz hsum hxi hrowy hrepy hbC hbn hdr hb hv hg1 hg2 hcell hC hL hIN hINl hlen2 hA2 q2 hINz hi2
            go_wp2_with fail
            refine HC.out.mono ?_
            rintro e w3 ⟨rfl, q3⟩
            have HQ3 := Lib.hid q3
            have HI3 : Hid (InU w3 L P (T2.data.toList ++ L.filter P) (.string T2) (.int .i64 0) w3) := ⟨0, T2, Nat.zero_le _, rfl, rfl, rfl, Keeps.refl _ _⟩
            clear q3 t0 t3 s0
            go_wp2_with fail
            go_loopw [3, 34] (fun v3 v34 wr => InU w3 L P (T2.data.toList ++ L.filter P) v3 v34 wr) (fun _ v34 _ => IN.size - (intOf v34).toNat)
            case atStart => exact HI3.out
            case round =>
              clear HI3
              obtain ⟨wD, hwD⟩ : ∃ wD, wD = wr := ⟨_, rfl⟩
              subst hwD
              obtain ⟨j, T3, hj, rfl, rfl, hA3, q4⟩ := hrel
              obtain ⟨t0, t3⟩ := HCELL.out wD ((HQ2.out.trans HQ3.out).trans q4)
              by_cases hjn : j < L.length
              · have hjs : j < IN.size := by rw [HLZ.out]; exact hjn
                have hd3 : (j : Int) < (IN.size : Int) := by omega
                have hsl := cut_at L IN HIN.out.1 j hjn
                have hdf := drop_filter (P := P) hjn
                have hgl : IN[j] = L[j] := by simp [← HIN.out.1]; rfl
                have hl3 : T3.size ≤ 100000 := by
                  have e := congrArg List.length hA3
                  simp only [List.length_append] at e
                  have := HIN.out.2.2
                  rw [ba_len]
                  omega
                rw [hdf] at hA3
                obtain ⟨u, hu⟩ : ∃ u, L[j] = u := ⟨_, rfl⟩
                rw [hu] at hsl hA3 hgl
                have hov3 : ¬ 9223372036854775807 < T3.size + 1 := by omega
                have hsz1 : (⟨#[u]⟩ : ByteArray).size = 1 := rfl
                have hj5 : j ≤ 100000 := by omega
                · obtain ⟨FI, hFI⟩ : ∃ FI, findI VS u = FI := ⟨_, rfl⟩
                  have hfd := fun w => find_any VS u w (by omega)
                  rw [hFI] at hfd
                  have HFD : Hid (∀ w, Calls Try.prog 49 #[.string VS, .int .u8 (u.toNat : Int)] w (fun e w' => e = .returned (.int .i64 FI) ∧ w' = w)) := hfd
                  clear hfd
                  by_cases hmv : u ∈ z.vars
                  · have HP1 : P u = false := by rw [← HPP.out]; simp [HZ.out, hmv]
                    have HE3 : Hid (∀ k, InU w3 L P (T2.data.toList ++ L.filter P) (.string T3) (.int .i64 ((j : Int) + 1)) (wD.drewN k)) := fun k => by
                      refine ⟨j + 1, T3, by omega, by simp, rfl, ?_, q4.trans ((Keeps.refl _ _).drewN k)⟩
                      rw [HP1] at hA3
                      simpa using hA3
                    have hfi : ¬ FI < 0 := by rw [← hFI]; have := findI_mem (a := VS) (c := u) (by rw [HIN.out.2.1]; exact hmv); omega
                    clear hA3 q4 hdf hu HP1 hj hmv hFI
                    go_wp2_with fail
                    go_quiet ((go_at_call 49; exact Calls.quiet_of_same (HFD.out _)))
                    go_wp2_with fail
                    go_roundw
                    case rel => exact HE3.out _
                    case measure => simp [intOf]; omega
                  · have HP1 : P u = true := by rw [← HPP.out]; simp [HZ.out, hmv]
                    have HE3 : Hid (∀ k, InU w3 L P (T2.data.toList ++ L.filter P) (.string (T3 ++ ⟨#[u]⟩)) (.int .i64 ((j : Int) + 1)) (wD.drewN k)) := fun k => by
                      refine ⟨j + 1, T3 ++ ⟨#[u]⟩, by omega, by simp, rfl, ?_, q4.trans ((Keeps.refl _ _).drewN k)⟩
                      rw [if_pos HP1] at hA3
                      rw [ByteArray.data_append, Array.toList_append, ← hA3, List.append_assoc]
                    have hfi : FI < 0 := by rw [← hFI, findI_not (by rw [HIN.out.2.1]; exact hmv)]; omega
                    clear hA3 q4 hdf hu HP1 hj hmv hFI
                    go_wp2_with fail
                    go_quiet ((go_at_call 49; exact Calls.quiet_of_same (HFD.out _)))
                    go_wp2_with fail
                    go_roundw
                    case rel => exact HE3.out _
                    case measure => simp [intOf]; omega
              · have hd3 : ¬ (j : Int) < (IN.size : Int) := by rw [HLZ.out]; omega
                have hj0 : L.drop j = [] := List.drop_eq_nil_iff.2 (by omega)
                have HE3 : Hid (MidU wB bl P (T.data.toList ++ z.lu) (.string T3) (.int .i64 ((i2 : Int) + 1)) wD) := HNXT.out T3 wD (by rw [← hA3, hj0]; simp) (HQ3.out.trans q4)
                clear hA3 q4 hj hj0
                go_wp2_with fail
                go_roundw
                case rel => exact HE3.out
                case measure => simp [intOf]; omega
          · have hd2 : ¬ (i2 : Int) < (nn : Int) := by have := HNL.out; omega
            have hi0 : bl.drop i2 = [] := List.drop_eq_nil_iff.2 (by omega)
            have HE2 : Hid (LuI w0 W ok y cs n (.string T2) (.int .i64 ((i : Int) + 1)) wC) := HE.out T2 wC (by rw [← hA2, hi0]; simp) q2
            clear hA2 q2 hi2 hi0
            go_wp2_with fail
            go_roundw
            case rel => exact HE2.out
            case measure => simp [intOf]; omega
      · have HI : Hid (MidU wB bl P (T.data.toList ++ z.lu) (.string (T ++ VS)) (.int .i64 0) wB) := by
          obtain ⟨_, _, _, _, hVSl, hlz, _⟩ := HROW.out
          refine ⟨0, (T ++ VS), Nat.zero_le _, rfl, rfl, ?_, Keeps.refl _ _⟩
          rw [hlz, if_neg hz1, List.drop_zero]
          simp [ByteArray.data_append, Array.toList_append, hVSl]
        have t0 := (HCELL.out wB (Keeps.refl _ _)).1
        have t3 := (HCELL.out wB (Keeps.refl _ _)).2
        have HZ := Lib.hid hz1
        have HWB := Lib.hid hwB
        clear hz1 hwB
        go_wp2_with fail
        rw [← HWB.out]
        go_loopw [3, 26] (fun v3 v26 wr => MidU wB bl P (T.data.toList ++ z.lu) v3 v26 wr) (fun _ v26 _ => nn - (intOf v26).toNat)
        case atStart => exact HI.out
        case round =>
          clear HI t0 t3
          obtain ⟨wC, hwC⟩ : ∃ wC, wC = wr := ⟨_, rfl⟩
          subst hwC
          obtain ⟨i2, T2, hi2, rfl, rfl, hA2, q2⟩ := hrel
          obtain ⟨t0, t3⟩ := HCELL.out wC q2
          by_cases hin2 : i2 < bl.length
          · obtain ⟨hrowB, hget, hzb, q0, hVSl, hlz, hsum⟩ := HROW.out
            obtain ⟨v, n1, cy, hxi, hrowy, hrepy⟩ := hget i2 bl[i2] (List.getElem?_eq_getElem hin2)
            obtain ⟨hbC, hbn⟩ := hzb bl[i2] (List.getElem_mem hin2)
            have hdr : (bl.drop i2).flatMap (fun b => (Nds.lu b).filter P) = (Nds.lu bl[i2]).filter P ++ (bl.drop (i2 + 1)).flatMap (fun b => (Nds.lu b).filter P) := by
              rw [List.drop_eq_getElem_cons hin2, List.flatMap_cons]
            rw [hdr] at hA2
            obtain ⟨b, hb⟩ : ∃ b, bl[i2] = b := ⟨_, rfl⟩
            rw [hb] at hrepy hbC hbn hA2
            obtain ⟨ya, yc, rfl⟩ := row_shape hrowy
            obtain ⟨gB, cc2, hv, hg1, hg2, hcell⟩ := row_get hrowB (show 0 < nn by have := HNL.out; omega)
            obtain ⟨rfl, rfl⟩ : na = some ⟨gB, 0, none⟩ ∧ nm = cc2 := by simpa using hv
            have s0 : wC.cell? ⟨gB, i2, none⟩ = some (.slice ya n1 yc) := ((q0.trans q2).cell (p := ⟨gB, i2, none⟩) hg2 id).trans (hcell i2 _ hxi)
            have hC := hbC _ n1 cy wC hrowy hrepy (q0.trans q2)
            obtain ⟨L, hL⟩ : ∃ L, Nds.lu b = L := ⟨_, rfl⟩
            rw [hL] at hC hbn hA2
            obtain ⟨IN, hIN⟩ : ∃ IN : ByteArray, (⟨L.toArray⟩ : ByteArray) = IN := ⟨_, rfl⟩
            have hINl : IN.data.toList = L := by rw [← hIN]
            rw [hIN] at hC
            have HC := Lib.hid hC
            have hINz : IN.size = L.length := by rw [ba_len, hINl]
            have hd2 : (i2 : Int) < (nn : Int) := by have := HNL.out; omega
            have hin3 : i2 < nn := by have := HNL.out; omega
            have hlen2 : T2.data.toList.length + (L.filter P).length ≤ 100000 := by
              have e := congrArg List.length hA2
              simp only [List.length_append] at e
              omega
            have HNXT : Hid (∀ (A : ByteArray) w3, A.data.toList = T2.data.toList ++ L.filter P → Keeps noB wC w3 → MidU wB bl P (T.data.toList ++ z.lu) (.string A) (.int .i64 ((i2 : Int) + 1)) w3) := fun A w3 hA q3 => ⟨i2 + 1, A, by omega, by simp, rfl, by rw [hA, List.append_assoc]; exact hA2, q2.trans q3⟩
            have HIN := Lib.hid (And.intro hINl (And.intro hVSl hlen2))
            have hIN5 : IN.size ≤ 100000 := by omega
            have HQ2 := Lib.hid q2
            have HLZ := Lib.hid hINz
            clear hrowB hget hzb q0 hVSl hlz hsum hxi hrowy hrepy hbC hbn hdr hb hv hg1 hg2 hcell hC hL hIN hINl hlen2 hA2 q2 hINz hi2
            go_wp2_with fail
            refine HC.out.mono ?_
            rintro e w3 ⟨rfl, q3⟩
            have HQ3 := Lib.hid q3
            have HI3 : Hid (InU w3 L P (T2.data.toList ++ L.filter P) (.string T2) (.int .i64 0) w3) := ⟨0, T2, Nat.zero_le _, rfl, rfl, rfl, Keeps.refl _ _⟩
            clear q3 t0 t3 s0
            go_wp2_with fail
            go_loopw [3, 34] (fun v3 v34 wr => InU w3 L P (T2.data.toList ++ L.filter P) v3 v34 wr) (fun _ v34 _ => IN.size - (intOf v34).toNat)
            case atStart => exact HI3.out
            case round =>
              clear HI3
              obtain ⟨wD, hwD⟩ : ∃ wD, wD = wr := ⟨_, rfl⟩
              subst hwD
              obtain ⟨j, T3, hj, rfl, rfl, hA3, q4⟩ := hrel
              obtain ⟨t0, t3⟩ := HCELL.out wD ((HQ2.out.trans HQ3.out).trans q4)
              by_cases hjn : j < L.length
              · have hjs : j < IN.size := by rw [HLZ.out]; exact hjn
                have hd3 : (j : Int) < (IN.size : Int) := by omega
                have hsl := cut_at L IN HIN.out.1 j hjn
                have hdf := drop_filter (P := P) hjn
                have hgl : IN[j] = L[j] := by simp [← HIN.out.1]; rfl
                have hl3 : T3.size ≤ 100000 := by
                  have e := congrArg List.length hA3
                  simp only [List.length_append] at e
                  have := HIN.out.2.2
                  rw [ba_len]
                  omega
                rw [hdf] at hA3
                obtain ⟨u, hu⟩ : ∃ u, L[j] = u := ⟨_, rfl⟩
                rw [hu] at hsl hA3 hgl
                have hov3 : ¬ 9223372036854775807 < T3.size + 1 := by omega
                have hsz1 : (⟨#[u]⟩ : ByteArray).size = 1 := rfl
                have hj5 : j ≤ 100000 := by omega
                · have HP1 : P u = true := by rw [← HPP.out]; simp [HZ.out]
                  have HE3 : Hid (∀ k, InU w3 L P (T2.data.toList ++ L.filter P) (.string (T3 ++ ⟨#[u]⟩)) (.int .i64 ((j : Int) + 1)) (wD.drewN k)) := fun k => by
                    refine ⟨j + 1, T3 ++ ⟨#[u]⟩, by omega, by simp, rfl, ?_, q4.trans ((Keeps.refl _ _).drewN k)⟩
                    rw [if_pos HP1] at hA3
                    rw [ByteArray.data_append, Array.toList_append, ← hA3, List.append_assoc]
                  clear hA3 q4 hdf hu HP1 hj
                  go_wp2_with fail
                  go_quiet (fail)
                  go_wp2_with fail
                  go_roundw
                  case rel => exact HE3.out _
                  case measure => simp [intOf]; omega
              · have hd3 : ¬ (j : Int) < (IN.size : Int) := by rw [HLZ.out]; omega
                have hj0 : L.drop j = [] := List.drop_eq_nil_iff.2 (by omega)
                have HE3 : Hid (MidU wB bl P (T.data.toList ++ z.lu) (.string T3) (.int .i64 ((i2 : Int) + 1)) wD) := HNXT.out T3 wD (by rw [← hA3, hj0]; simp) (HQ3.out.trans q4)
                clear hA3 q4 hj hj0
                go_wp2_with fail
                go_roundw
                case rel => exact HE3.out
                case measure => simp [intOf]; omega
          · have hd2 : ¬ (i2 : Int) < (nn : Int) := by have := HNL.out; omega
            have hi0 : bl.drop i2 = [] := List.drop_eq_nil_iff.2 (by omega)
            have HE2 : Hid (LuI w0 W ok y cs n (.string T2) (.int .i64 ((i : Int) + 1)) wC) := HE.out T2 wC (by rw [← hA2, hi0]; simp) q2
            clear hA2 q2 hi2 hi0
            go_wp2_with fail
            go_roundw
            case rel => exact HE2.out
            case measure => simp [intOf]; omega

end Go.Proofs.Ytccpmhjffcceeaa

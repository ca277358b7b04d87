/-
  Walks of the program's run: choicesUpTo, an iterator over all choices of runs.
-/
import Derived.Test.YtcohmhgmocdbfaaKs
import Derived.Test.YtcohmhgmocdbfaaPc
import Derived.Test.YtcohmhgmocdbfaaRtW
import Derived.Test.YtcohmhgmocdbfaaMemW
import Derived.Test.YtcohmhgmocdbfaaSgW
namespace Go.Proofs.Ytcohmhgmocdbfaa
set_option linter.unusedVariables false
set_option linter.unusedSimpArgs false
open Go.RowKit

attribute [local go_sem] Oper.semAt_some

theorem Try.zeroK9 : (Try.prog.info? 9).map (fun i => (i.zero, i.size, i.bytes)) = some (some (.string ⟨#[]⟩), 1, 16) := by kernel_rfl

theorem upTo_any (g : Nat) (n : Int) (w : World) : Calls Try.prog 43 #[.pointer (some ⟨g, 0, none⟩), .int .i64 n] w
    fun e w' => e = .returned (.func (.func 60) #[] #[ptr (w.heap.size + 1), ptr w.heap.size]) ∧ w' = (w.alloc (.cells #[.pointer (some ⟨g, 0, none⟩)] 56)).alloc (.cells #[.int .i64 n] 3) := by
  go_enter Try.func43, Try.ntmps43
  go_wp2
  go_ret
  exact ⟨rfl, rfl⟩

/-- A byte that is chosen, as a text. -/
theorem conv_choice (w : World) (d : UInt8) (h : d = 108 ∨ d = 114 ∨ d = 101 ∨ d = 109) : (convert 5 9 (.int .u8 (d.toNat : Int))).run Try.prog w = .ok (.string ⟨#[d]⟩) w := by
  rcases h with rfl | rfl | rfl | rfl <;>
    simp [convert, go_sem, run_underlying Try.underlying5, run_underlying Try.underlying9] <;> rfl

theorem asks_in (o : Out) : ∀ d ∈ o.asks, d = 108 ∨ d = 114 ∨ d = 101 ∨ d = 109 := by
  intro d hd
  cases o with
  | go t => cases hd
  | stop y t =>
    cases y with
    | stuck br => cases br <;> simp [Out.asks, firstOf, otherOf] at hd <;> rcases hd with rfl | rfl <;> simp
    | ret => cases hd
    | fail => cases hd
    | fault k => cases hd

theorem endOf_asks (o : Out) : ∃ yi, endOf o = .agg #[.int .i64 o.exit, .int .i64 yi, .string ⟨o.asks.toArray⟩] := by
  cases o with
  | go t => exact ⟨_, rfl⟩
  | stop y t =>
    cases y with
    | ret => exact ⟨_, rfl⟩
    | fail => exact ⟨_, rfl⟩
    | fault k => exact ⟨_, rfl⟩
    | stuck br => cases br <;> exact ⟨_, rfl⟩

/-! ### A row of texts of the iterator's own. -/
def strsC (l : List (List UInt8)) : List Value := l.map str

/-- A row of texts, in a block from B on that is none of the rounds' own. -/
def StrRow (B : Nat) (own : Nat → Prop) (w : World) (v : Value) (l : List (List UInt8)) : Prop :=
  w.ownsRow 0 9 1 v l.length (strsC l) ∧ ∀ g, v.ownBlock = some g → B ≤ g ∧ ¬ own g

theorem StrRow.step {B : Nat} {own own' may : Nat → Prop} {w w' : World} {v : Value} {l : List (List UInt8)} (h : StrRow B own w v l) (q : Keeps may w w') (hm : ∀ g, v.ownBlock = some g → ¬ may g) (hn : ∀ g, own' g → own g ∨ w.heap.size ≤ g) : StrRow B own' w' v l :=
  ⟨q.ownsRow h.1 (fun g hg _ => hm g hg), fun g hg => ⟨(h.2 g hg).1, fun e => (hn g e).elim (h.2 g hg).2 (fun e2 => by have := (h.1.lt g hg).2; omega)⟩⟩

theorem strsC_len (l : List (List UInt8)) : (strsC l).length = l.length := by simp [strsC]
theorem strsC_snoc (l : List (List UInt8)) (c : List UInt8) : strsC (l ++ [c]) = strsC l ++ [str c] := by simp [strsC]

/-- The rounds' side. -/
structure Side {α : Type} (J : List α → (Nat → Prop) → World → Prop) (own : Nat → Prop) (W : World) (done : List α) (own' : Nat → Prop) (w : World) : Prop where
  said : J done own' w
  owns : Owns own own' W w

theorem Side.step {α : Type} {J : List α → (Nat → Prop) → World → Prop} {own own' : Nat → Prop} {W w w' : World} {done : List α} (h : Side J own W done own' w) (hJ : Stab W.heap.size J) (q : Keeps (fun k => W.heap.size ≤ k ∧ ¬ own' k) w w') : Side J own W done own' w' :=
  ⟨hJ _ _ _ _ h.said q, h.owns.ahead q (fun i e => e.1)⟩

/-- What the iterator works over. -/
structure UpAt (x : Nd) (n Bn Br g : Nat) (prot : Nat → Prop) (W : World) : Prop where
  num : Blk W Bn #[.int .i64 (n : Int)] 3
  root : Blk W Br #[.pointer (some ⟨g, 0, none⟩)] 56
  pn : prot Bn
  pr : prot Br
  runs : ∀ W', W.heap.size ≤ W'.heap.size → (∀ k, prot k → W'.heap[k]? = W.heap[k]?) → ∀ c : List UInt8, c.length ≤ 6 →
    Calls Try.prog 44 #[.pointer (some ⟨g, 0, none⟩), .string ⟨c.toArray⟩] W' (fun e w' => ∃ b ex yi, e = .returned (.tuple #[.pointer (some ⟨b, 0, none⟩), .agg #[.int .i64 ex, .int .i64 yi, .string ⟨(x.with c).asks.toArray⟩], .bool (x.with c).right]) ∧ Keeps noB W' w')

def encU (c : List UInt8) (args : Array Value) : Prop := args = #[.string ⟨c.toArray⟩]

theorem levels_snoc (x : Nd) : ∀ m k, x.levels k (m + 1) = x.levels k m ++ x.level (k + m)
  | 0, k => by simp [Nd.levels]
  | m + 1, k => by
    rw [Nd.levels, levels_snoc x m (k + 1), Nd.levels, List.append_assoc, show k + 1 + m = k + (m + 1) by omega]

def upDone (x : Nd) (k i : Nat) : List (List UInt8) := x.rights (x.levels 0 k ++ (x.level k).take i)

theorem upDone_level (x : Nd) (k : Nat) : upDone x k (x.level k).length = upDone x (k + 1) 0 := by
  unfold upDone
  rw [List.take_length, List.take_zero, List.append_nil, levels_snoc, Nat.zero_add]

theorem upDone_snoc (x : Nd) (k i : Nat) {c : List UInt8} (h : (x.level k)[i]? = some c) : upDone x k (i + 1) = upDone x k i ++ (if (x.with c).right then [c] else []) := by
  unfold upDone Nd.rights
  rw [List.take_add_one, h, ← List.append_assoc, List.filter_append]
  congr 1
  cases hr : (x.with c).right <;> simp [hr]

theorem longer_snoc (x : Nd) {l : List (List UInt8)} {i : Nat} {c : List UInt8} (h : l[i]? = some c) : (l.take (i + 1)).flatMap x.longer = (l.take i).flatMap x.longer ++ x.longer c := by
  rw [List.take_add_one, h, List.flatMap_append]
  simp

/-- The rights of what is behind. -/
def upRest (x : Nd) (n k i : Nat) : List (List UInt8) := x.rights ((x.level k).drop i ++ x.levels (k + 1) (n - k))

theorem up_all (x : Nd) (n k i : Nat) (hk : k ≤ n) : x.rights (x.upTo n) = upDone x k i ++ upRest x n k i := by
  unfold upDone upRest Nd.rights Nd.upTo
  rw [← List.filter_append, List.append_assoc, ← List.append_assoc (List.take i _), List.take_append_drop]
  congr 1
  have h : ∀ a b m : Nat, x.levels a (b + m) = x.levels a b ++ x.levels (a + b) m := by
    intro a b
    induction b generalizing a with
    | zero => intro m; simp [Nd.levels]
    | succ b ih =>
      intro m
      rw [show b + 1 + m = (b + m) + 1 by omega, Nd.levels, Nd.levels, ih (a + 1) m, List.append_assoc, show a + 1 + b = a + (b + 1) by omega]
  have e := h 0 k (n - k + 1)
  rw [show k + (n - k + 1) = n + 1 by omega, Nat.zero_add] at e
  rw [e, Nd.levels]

theorem upRest_cons (x : Nd) (n k i : Nat) {c : List UInt8} (h : (x.level k)[i]? = some c) (hr : (x.with c).right = true) : upRest x n k i = c :: upRest x n k (i + 1) := by
  unfold upRest Nd.rights
  have hl := (List.getElem?_eq_some_iff.1 h).1
  have e : (x.level k).drop i = c :: (x.level k).drop (i + 1) := by
    rw [List.drop_eq_getElem_cons hl]
    congr 1
    exact (List.getElem?_eq_some_iff.1 h).2
  rw [e, List.cons_append, List.filter_cons_of_pos (by simpa using hr)]

theorem row_capV {w : World} {ok : Nat → Prop} {e : TypeId} {size : Nat} {g n c : Nat} {xs : List Value} (h : Row w ok e size (.slice (some ⟨g, 0, none⟩) n c) n xs) : n ≤ c := by
  rcases h.1.2 with ⟨e1, _⟩ | ⟨g', c', cur, e1, _, hh, hnc, _⟩
  · cases e1
  · simp only [Value.slice.injEq, Option.some.injEq, Addr.mk.injEq, and_true, true_and] at e1
    obtain ⟨rfl, rfl⟩ := e1
    exact hnc

end Go.Proofs.Ytcohmhgmocdbfaa

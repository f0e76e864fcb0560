/-
  These texts, one behind the other: PRow, PMath, PMath2.
-/
import Derived.WalkKit
import Derived.Below
import Derived.Deep.AppendSrc
import Derived.Laws.CopyRow
import Derived.Lib.AppendZerosOnto
import Derived.Lib.Overlaps
/-
  Rows of cells that a program owns: copying, clearing and appending, whatever the number of cells of an element.
-/
namespace Go.PRow
open Go Go.RowKit
set_option linter.unusedVariables false

/-- the row cur with cs written from the place o on -/
def spl (cur : Array Value) (o : Nat) (cs : List Value) : Array Value := (cur.toList.take o ++ cs ++ cur.toList.drop (o + cs.length)).toArray
theorem spl_size (cur : Array Value) (o : Nat) (cs : List Value) (h : o + cs.length ≤ cur.size) : (spl cur o cs).size = cur.size := by
  simp [spl]; omega
theorem spl_nil (cur : Array Value) (o : Nat) : spl cur o [] = cur := by simp [spl]
theorem spl_toList (cur : Array Value) (o : Nat) (cs : List Value) : (spl cur o cs).toList = cur.toList.take o ++ cs ++ cur.toList.drop (o + cs.length) := by simp [spl]

theorem setRow_other (w : World) (g k : Nat) (cs : Array Value) (h : k ≠ g) : (w.setRow g cs).heap[k]? = w.heap[k]? := by
  simp only [World.setRow, Array.getElem?_modify]
  rw [if_neg (by omega)]
theorem setRow_size (w : World) (g : Nat) (cs : Array Value) : (w.setRow g cs).heap.size = w.heap.size := by simp [World.setRow]
theorem setRow_grown (w : World) (g : Nat) (cs : Array Value) : w.grownBy (w.setRow g cs) (some g) :=
  ⟨rfl, rfl, rfl, by rw [setRow_size]; exact Nat.le_refl _, fun k _ h => setRow_other w g k cs (fun e => h (by rw [e]))⟩

variable {P : Program}

theorem run_copyK (w : World) (dT sT ty elem : TypeId) (k g o dLen dCap : Nat) (a : Addr) (sLen sCap : Nat) (cur : Array Value) (t : TypeId) (cs : List Value)
    (hu : P.underlying dT = some (.slice elem)) (hs : (P.info? elem).map (·.size) = some k)
    (hg : w.heap[g]? = some (.cells cur t (0, 0))) (hn : cs.length = Nat.min sLen dLen * k)
    (hsrc : ∀ j v, cs[j]? = some v → w.cell? (a.add j) = some v) (hfit : o + cs.length ≤ cur.size) (h1 : ∀ v ∈ cs, v.oneCell' = true) :
    (Builtin.copy_ #[dT, sT] ty #[.slice (some ⟨g, o, none⟩) dLen dCap, .slice (some a) sLen sCap]).run P w =
      .ok (goInt (Nat.min sLen dLen)) (w.setRow g (spl cur o cs)) := by
  have hl := run_loadCells_list (P := P) w a cs hsrc
  rw [hn] at hl
  have hst := run_storeCells_at P g o t cs 0 cur w hg (by simpa using hfit) h1
  cases hq : P.info? elem with
  | none => simp [hq] at hs
  | some i =>
    have hi : i.size = k := by simpa [hq] using hs
    have e : Nat.min sLen dLen = min sLen dLen := rfl
    rw [e] at hl ⊢
    simp [Builtin.copy_, run_underlying hu, Builtin.lenOf, Builtin.firstCells, sizeOf, typeInfo, hq, hi, hl, hst, spl]

theorem run_copy_nilK (w : World) (dT sT ty elem : TypeId) (a : Addr) (dLen dCap c k : Nat) (hu : P.underlying dT = some (.slice elem)) (hs : (P.info? elem).map (·.size) = some k) :
    (Builtin.copy_ #[dT, sT] ty #[.slice (some a) dLen dCap, .slice none 0 c]).run P w = .ok (goInt 0) w := by
  cases hq : P.info? elem with
  | none => simp [hq] at hs
  | some i => simp [Builtin.copy_, run_underlying hu, Builtin.lenOf, Builtin.firstCells, sizeOf, typeInfo, hq, storeCells]

theorem run_copy_zeroK (w : World) (dT sT ty elem : TypeId) (a b : Option Addr) (dLen dCap sLen c k : Nat) (hz : Nat.min sLen dLen = 0) (hu : P.underlying dT = some (.slice elem)) (hs : (P.info? elem).map (·.size) = some k) :
    (Builtin.copy_ #[dT, sT] ty #[.slice a dLen dCap, .slice b sLen c]).run P w = .ok (goInt 0) w := by
  cases hq : P.info? elem with
  | none => simp [hq] at hs
  | some i =>
    have e : min sLen dLen = 0 := hz
    cases a <;> cases b <;> simp [Builtin.copy_, run_underlying hu, Builtin.lenOf, Builtin.firstCells, sizeOf, typeInfo, hq, storeCells, e, loadCells, loadCellsFrom]

/-- n zeroes of a type of k cells -/
def zs (z : Value) (n : Nat) : List Value := (Builtin.zeroCells z.cells n).toList
theorem zs_length (z : Value) (n : Nat) : (zs z n).length = n * z.cells.size := by simp [zs, Builtin.zeroCells]

theorem run_clearK (w : World) (t ty elem : TypeId) (i : TypeInfo) (z : Value) (g o n c : Nat) (cur : Array Value) (ct : TypeId)
    (hu : P.underlying t = some (.slice elem)) (hi : P.info? elem = some i) (hz : i.zero = some z) (hg : w.heap[g]? = some (.cells cur ct (0, 0))) (hfit : o + n * z.cells.size ≤ cur.size) (h1 : ∀ v ∈ zs z n, v.oneCell' = true) :
    (Builtin.clear_ #[t] ty #[.slice (some ⟨g, o, none⟩) n c]).run P w = .ok (.tuple #[]) (w.setRow g (spl cur o (zs z n))) := by
  have hst := run_storeCells_at P g o ct (zs z n) 0 cur w hg (by rw [zs_length]; simpa using hfit) h1
  cases n with
  | zero =>
    have e : zs z 0 = [] := by simp [zs, Builtin.zeroCells]
    rw [e, spl_nil, setRow_self w g cur ct (0, 0) hg]
    simp [Builtin.clear_, run_underlying hu]
  | succ n =>
    simp only [Nat.add_zero] at hst
    simp [Builtin.clear_, run_underlying hu, zeroValue, typeInfo, hi, hz]
    have e : (Builtin.zeroCells z.cells (n + 1)).toList = zs z (n + 1) := rfl
    rw [e, hst]
    rfl

theorem run_clear_zero (w : World) (t ty elem : TypeId) (a : Option Addr) (c : Nat) (hu : P.underlying t = some (.slice elem)) :
    (Builtin.clear_ #[t] ty #[.slice a 0 c]).run P w = .ok (.tuple #[]) w := by
  cases a <;> simp [Builtin.clear_, run_underlying hu]

/-- an append for which there is room, in an own row -/
theorem run_append_inK (w : World) (t tx ty e : TypeId) (i : TypeInfo) (ht : P.underlying t = some (.slice e)) (hi : P.info? e = some i) (g o sLen sCap : Nat) (cur : Array Value) (ct : TypeId) (x : Value) (n : Nat) (news : List Value) (hs : Src P i.size tx x n news w)
    (hroom : sLen + n ≤ sCap) (hg : w.heap[g]? = some (.cells cur ct (0, 0))) (hfit : o + sLen * i.size + news.length ≤ cur.size) :
    (Builtin.append_ #[t, tx] ty #[.slice (some ⟨g, o, none⟩) sLen sCap, x]).run P w = .ok (.slice (some ⟨g, o, none⟩) (sLen + n) sCap) (w.setRow g (spl cur (o + sLen * i.size) news)) := by
  have hst := run_storeCells_at P g (o + sLen * i.size) ct news 0 cur w hg (by simpa using hfit) hs.one
  simp only [Nat.add_zero] at hst
  rcases hs.kind with ⟨e', hk⟩ | hk <;> simp [Builtin.append_, run_underlying ht, run_underlying hk, sizeOf, typeInfo, hi, hs.len, hroom, hs.cells, Addr.add_lit, hst, spl]

theorem run_append_none (w : World) (t tx ty e : TypeId) (i : TypeInfo) (ht : P.underlying t = some (.slice e)) (hi : P.info? e = some i) (base : Option Addr) (sLen sCap : Nat) (x : Value) (hs : Src P i.size tx x 0 [] w) (hle : sLen ≤ sCap) :
    (Builtin.append_ #[t, tx] ty #[.slice base sLen sCap, x]).run P w = .ok (.slice base sLen sCap) w := by
  rcases hs.kind with ⟨e', hk⟩ | hk <;> cases base <;> simp [Builtin.append_, run_underlying ht, run_underlying hk, sizeOf, typeInfo, hi, hs.len, hle, hs.cells, storeCells]

/-- a slice of n elements of k cells each, of which the world holds the cells xs; B: from which block on its row lies -/
def RowV (W : World) (B : Nat) (T : TypeId) (k : Nat) (v : Value) (n : Nat) (xs : List Value) : Prop :=
  xs.length = n * k ∧ ((∃ a, v = .slice a 0 0 ∧ n = 0) ∨
    ∃ g cap cur, v = .slice (some ⟨g, 0, none⟩) n cap ∧ B ≤ g ∧ W.heap[g]? = some (.cells cur T (0, 0)) ∧ n ≤ cap ∧ cap ≤ maxLen ∧ cur.size = cap * k ∧ cur.toList.take (n * k) = xs)

/-- the block that a slice's cells lie in -/
def blk : Value → Option Nat
  | .slice (some a) _ (_ + 1) => some a.block
  | _ => none
theorem blk_zero (a : Option Addr) (n : Nat) : blk (.slice a n 0) = none := by cases a <;> rfl

theorem RowV.lt {W : World} {B : Nat} {T : TypeId} {k : Nat} {v : Value} {n : Nat} {xs : List Value} (h : RowV W B T k v n xs) : ∀ g, blk v = some g → B ≤ g ∧ g < W.heap.size := by
  intro g hg
  rcases h.2 with ⟨a, rfl, _⟩ | ⟨g', cap, cur, rfl, hb, hh, _⟩
  · rw [blk_zero] at hg; cases hg
  · cases cap with
    | zero => rw [blk_zero] at hg; cases hg
    | succ c => cases hg; exact ⟨hb, (Array.getElem?_eq_some_iff.1 hh).1⟩

theorem RowV.nil (W : World) (B : Nat) (T : TypeId) (k : Nat) (a : Option Addr) : RowV W B T k (.slice a 0 0) 0 [] := ⟨by simp, .inl ⟨a, rfl, rfl⟩⟩

/-- what changes other blocks leaves it -/
theorem RowV.kept {W W' : World} {B : Nat} {T : TypeId} {k : Nat} {v : Value} {n : Nat} {xs : List Value} (h : RowV W B T k v n xs) (hb : ∀ g, blk v = some g → W'.heap[g]? = W.heap[g]?) : RowV W' B T k v n xs := by
  refine ⟨h.1, ?_⟩
  rcases h.2 with ⟨a, rfl, rfl⟩ | ⟨g', cap, cur, rfl, h1, h2, h3, h4, h5, h6⟩
  · exact .inl ⟨a, rfl, rfl⟩
  · cases cap with
    | zero =>
      have e : n = 0 := by omega
      subst e
      exact .inl ⟨some ⟨g', 0, none⟩, rfl, rfl⟩
    | succ c => exact .inr ⟨g', c + 1, cur, rfl, h1, (hb g' rfl).trans h2, h3, h4, h5, h6⟩
theorem RowV.mono {W : World} {B B' : Nat} {T : TypeId} {k : Nat} {v : Value} {n : Nat} {xs : List Value} (h : RowV W B T k v n xs) (hb : B' ≤ B) : RowV W B' T k v n xs := by
  refine ⟨h.1, ?_⟩
  rcases h.2 with h | ⟨g', cap, cur, h0, h1, h2⟩
  · exact .inl h
  · exact .inr ⟨g', cap, cur, h0, by omega, h2⟩

theorem RowV.below {W W' : World} {B : Nat} {T : TypeId} {k : Nat} {v : Value} {n : Nat} {xs : List Value} (h : RowV W B T k v n xs) (hb : Below W.heap.size W W') : RowV W' B T k v n xs :=
  h.kept fun g hg => hb.block g (h.lt g hg).2

/-- its cells -/
theorem row_cell {W : World} {g : Nat} {T : TypeId} {cur : Array Value} (h : W.heap[g]? = some (.cells cur T (0, 0))) {xs : List Value} {m : Nat} (hx : cur.toList.take m = xs) (hm : m ≤ cur.size) (j : Nat) (v : Value) (hj : xs[j]? = some v) : W.cell? ⟨g, j, none⟩ = some v := by
  have h1 : j < m := by
    have := (List.getElem?_eq_some_iff.1 hj).1
    rw [← hx] at this; simp at this; omega
  rw [← hx, List.getElem?_take, if_pos h1] at hj
  have : cur[j]? = some v := by simpa using hj
  simp [World.cell?, h, this]

theorem src_of_row {W : World} {B : Nat} {T : TypeId} {k : Nat} {v : Value} {n : Nat} {xs : List Value} (h : RowV W B T k v n xs) {tx e' : TypeId} (hk : P.underlying tx = some (.slice e')) (h1 : ∀ u ∈ xs, u.oneCell' = true) : Src P k tx v n xs W := by
  rcases h.2 with ⟨a, rfl, rfl⟩ | ⟨g, cap, cur, rfl, _, hh, hn, hc, hs, ht⟩
  · have e : xs = [] := List.length_eq_zero_iff.1 (by simpa using h.1)
    subst e
    cases a with
    | none => exact Src.ofNil W hk 0
    | some a => exact Src.ofSlice W hk a 0 0 [] (by simp) (by simp) h1
  · exact Src.ofSlice W hk _ n cap xs h.1 (fun j u hj => by
      rw [Addr.add_lit, Nat.zero_add]
      exact row_cell hh ht (by rw [hs]; exact Nat.mul_le_mul_right _ hn) j u hj) h1

end Go.PRow
/-
  Maps by pieces: rising ranges with a value each; what is laid, cut and looked up, by numbers.
-/
namespace Go.Proofs.Ytnhcbcbceaeceaa
set_option linter.unusedVariables false

/-- a piece: its first and its last number, its value -/
structure Pc (α : Type) where
  lo : Int
  hi : Int
  val : α

variable {α : Type}

def OkP (ps : List (Pc α)) : Prop := ps.Pairwise (fun a b => a.hi < b.lo) ∧ ∀ p ∈ ps, 0 ≤ p.lo ∧ p.lo ≤ p.hi ∧ p.hi ≤ 1114111

/-- how many pieces lie ahead of lo; how many begin at hi or ahead of it -/
def frI (ps : List (Pc α)) (lo : Int) : Nat := ps.countP (fun p => decide (p.hi < lo))
def upI (ps : List (Pc α)) (hi : Int) : Nat := ps.countP (fun p => decide (p.lo ≤ hi))

theorem frI_le (ps : List (Pc α)) (lo : Int) : frI ps lo ≤ ps.length := List.countP_le_length
theorem upI_le (ps : List (Pc α)) (hi : Int) : upI ps hi ≤ ps.length := List.countP_le_length

theorem OkP.tail {p : Pc α} {ps : List (Pc α)} (h : OkP (p :: ps)) : OkP ps := ⟨(List.pairwise_cons.1 h.1).2, fun q hq => h.2 q (List.mem_cons_of_mem _ hq)⟩
theorem OkP.head {p : Pc α} {ps : List (Pc α)} (h : OkP (p :: ps)) : 0 ≤ p.lo ∧ p.lo ≤ p.hi ∧ p.hi ≤ 1114111 := h.2 p List.mem_cons_self
theorem OkP.next {p : Pc α} {ps : List (Pc α)} (h : OkP (p :: ps)) : ∀ q ∈ ps, p.hi < q.lo := (List.pairwise_cons.1 h.1).1
theorem noMem {β : Type} {Q : β → Prop} : ∀ p ∈ ([] : List β), Q p := by simp
theorem OkP.nil : OkP ([] : List (Pc α)) := ⟨List.Pairwise.nil, noMem⟩

/-- the pieces ahead of a range, those that meet it, those behind it -/
structure Cut3 (ps : List (Pc α)) (lo hi : Int) (A M C : List (Pc α)) : Prop where
  eq : ps = A ++ M ++ C
  fr : frI ps lo = A.length
  up : upI ps hi = A.length + M.length
  ha : ∀ p ∈ A, p.hi < lo
  hm : ∀ p ∈ M, lo ≤ p.hi ∧ p.lo ≤ hi
  hc : ∀ p ∈ C, hi < p.lo

theorem cut3 {ps : List (Pc α)} (h : OkP ps) {lo hi : Int} (hr : lo ≤ hi) : ∃ A M C, Cut3 ps lo hi A M C := by
  induction ps with
  | nil => exact ⟨[], [], [], rfl, rfl, rfl, noMem, noMem, noMem⟩
  | cons p ps ih =>
    obtain ⟨A, M, C, e, f, u, a, m, c⟩ := ih h.tail
    have k := h.head
    by_cases h1 : p.hi < lo
    · refine ⟨p :: A, M, C, by rw [e]; rfl, ?_, ?_, ?_, m, c⟩
      · simp [frI, h1] at f ⊢; omega
      · have : p.lo ≤ hi := by omega
        simp [upI, this] at u ⊢; omega
      · intro q hq
        rcases List.mem_cons.1 hq with rfl | hq
        · exact h1
        · exact a q hq
    · have hall : ∀ q ∈ ps, lo ≤ q.hi := fun q hq => by have := h.next q hq; have := (h.tail.2 q hq); omega
      have f0 : frI ps lo = 0 := by
        unfold frI
        rw [List.countP_eq_zero]
        intro q hq
        have := hall q hq
        simp; omega
      have hA : A = [] := List.length_eq_zero_iff.1 (by omega)
      subst hA
      by_cases h2 : p.lo ≤ hi
      · refine ⟨[], p :: M, C, by rw [e]; rfl, ?_, ?_, noMem, ?_, c⟩
        · simp [frI, h1] at f ⊢; omega
        · simp [upI, h2] at u ⊢; omega
        · intro q hq
          rcases List.mem_cons.1 hq with rfl | hq
          · exact ⟨by omega, h2⟩
          · exact m q hq
      · have hall2 : ∀ q ∈ ps, hi < q.lo := fun q hq => by have := h.next q hq; omega
        have u0 : upI ps hi = 0 := by
          unfold upI
          rw [List.countP_eq_zero]
          intro q hq
          have := hall2 q hq
          simp; omega
        refine ⟨[], [], p :: ps, rfl, ?_, ?_, noMem, noMem, ?_⟩
        · simp [frI, h1] at f0 ⊢; exact f0
        · simp [upI, h2] at u0 ⊢; exact u0
        · intro q hq
          rcases List.mem_cons.1 hq with rfl | hq
          · omega
          · exact hall2 q hq

/-- those that meet it -/
def midP (ps : List (Pc α)) (lo hi : Int) : List (Pc α) := (ps.take (upI ps hi)).drop (frI ps lo)
theorem Cut3.mid {ps A M C : List (Pc α)} {lo hi : Int} (h : Cut3 ps lo hi A M C) : midP ps lo hi = M := by
  unfold midP
  rw [h.fr, h.up]
  have e := h.eq
  rw [e, ← List.length_append, List.take_left' rfl, List.drop_left' rfl]
theorem Cut3.pre {ps A M C : List (Pc α)} {lo hi : Int} (h : Cut3 ps lo hi A M C) : ps.take (frI ps lo) = A := by
  rw [h.fr]
  have e := h.eq
  rw [e, List.append_assoc, List.take_left' rfl]
theorem Cut3.post {ps A M C : List (Pc α)} {lo hi : Int} (h : Cut3 ps lo hi A M C) : ps.drop (upI ps hi) = C := by
  rw [h.up]
  have e := h.eq
  rw [e, ← List.length_append, List.drop_left' rfl]

/-- what of the first one that meets a range lies ahead of it; what of the last one lies behind it -/
def aheadP (M : List (Pc α)) (lo : Int) : List (Pc α) := match M with | [] => [] | p :: _ => if p.lo < lo then [⟨p.lo, lo - 1, p.val⟩] else []
def behindP (M : List (Pc α)) (hi : Int) : List (Pc α) := match M.getLast? with | none => [] | some p => if hi < p.hi then [⟨hi + 1, p.hi, p.val⟩] else []

def repP (ps : List (Pc α)) (lo hi : Int) (wi : List (Pc α)) : List (Pc α) := ps.take (frI ps lo) ++ (aheadP (midP ps lo hi) lo ++ wi ++ behindP (midP ps lo hi) hi) ++ ps.drop (upI ps hi)

theorem Cut3.rep {ps A M C : List (Pc α)} {lo hi : Int} (h : Cut3 ps lo hi A M C) (wi : List (Pc α)) : repP ps lo hi wi = A ++ (aheadP M lo ++ wi ++ behindP M hi) ++ C := by
  unfold repP
  rw [h.mid, h.pre, h.post]

/-- the value of a number -/
def atP (ps : List (Pc α)) (x : Int) : Option α := (ps.find? (fun p => decide (p.lo ≤ x) && decide (x ≤ p.hi))).map (·.val)
theorem atP_nil (x : Int) : atP ([] : List (Pc α)) x = none := rfl
theorem atP_cons (p : Pc α) (ps : List (Pc α)) (x : Int) : atP (p :: ps) x = if p.lo ≤ x ∧ x ≤ p.hi then some p.val else atP ps x := by
  unfold atP
  rw [List.find?_cons]
  by_cases h : p.lo ≤ x ∧ x ≤ p.hi
  · simp [h]
  · rw [if_neg h]
    have : (decide (p.lo ≤ x) && decide (x ≤ p.hi)) = false := by simpa using h
    rw [this]
theorem atP_append (A B : List (Pc α)) (x : Int) : atP (A ++ B) x = (atP A x).or (atP B x) := by
  induction A with
  | nil => simp [atP_nil]
  | cons p A ih =>
    rw [List.cons_append, atP_cons, atP_cons, ih]
    split <;> simp
theorem atP_none {ps : List (Pc α)} {x : Int} (h : ∀ p ∈ ps, x < p.lo ∨ p.hi < x) : atP ps x = none := by
  induction ps with
  | nil => rfl
  | cons p ps ih =>
    rw [atP_cons, if_neg (by have := h p List.mem_cons_self; omega)]
    exact ih fun q hq => h q (List.mem_cons_of_mem _ hq)

theorem Cut3.okM {ps A M C : List (Pc α)} {lo hi : Int} (h : Cut3 ps lo hi A M C) (o : OkP ps) : OkP M := by
  have e := h.eq
  subst e
  exact ⟨(List.pairwise_append.1 (List.pairwise_append.1 o.1).1).2.1, fun p hp => o.2 p (by simp [hp])⟩

/-- at one number: the first of those that meet it -/
theorem at_mid {ps : List (Pc α)} (o : OkP ps) (x : Int) : atP ps x = (midP ps x x).head?.map (·.val) := by
  obtain ⟨A, M, C, h⟩ := cut3 o (Int.le_refl x)
  rw [h.mid, h.eq, atP_append, atP_append, atP_none (fun p hp => .inr (h.ha p hp)), atP_none (ps := C) (fun p hp => .inl (h.hc p hp))]
  cases M with
  | nil => rfl
  | cons p M =>
    have := h.hm p List.mem_cons_self
    rw [atP_cons, if_pos (by omega)]
    rfl

theorem aheadP_mem {M : List (Pc α)} {lo : Int} {q : Pc α} (h : q ∈ aheadP M lo) : ∃ p M', M = p :: M' ∧ p.lo < lo ∧ q = ⟨p.lo, lo - 1, p.val⟩ := by
  cases M with
  | nil => exact nomatch h
  | cons p M' =>
    unfold aheadP at h
    simp only at h
    split at h
    · exact ⟨p, M', rfl, by assumption, by simpa using h⟩
    · exact nomatch h
theorem behindP_mem {M : List (Pc α)} {hi : Int} {q : Pc α} (h : q ∈ behindP M hi) : ∃ p M', M = M' ++ [p] ∧ hi < p.hi ∧ q = ⟨hi + 1, p.hi, p.val⟩ := by
  unfold behindP at h
  split at h
  · exact nomatch h
  · rename_i p hp
    obtain ⟨M', e⟩ := List.getLast?_eq_some_iff.1 hp
    split at h
    · exact ⟨p, M', e, by assumption, by simpa using h⟩
    · exact nomatch h
theorem behindP_snoc (M : List (Pc α)) (p : Pc α) (hi : Int) : behindP (M ++ [p]) hi = if hi < p.hi then [⟨hi + 1, p.hi, p.val⟩] else [] := by
  unfold behindP
  rw [List.getLast?_concat]
theorem snoc_cases (M : List (Pc α)) : M = [] ∨ ∃ M' p, M = M' ++ [p] := by
  rcases List.eq_nil_or_concat M with h | ⟨M', p, h⟩
  · exact .inl h
  · exact .inr ⟨M', p, by simpa using h⟩

/-- what is new in a range: nothing, or one piece that fills it -/
def Fills (wi : List (Pc α)) (lo hi : Int) : Prop := wi = [] ∨ ∃ v, wi = [⟨lo, hi, v⟩]

theorem rep_ok {ps : List (Pc α)} (o : OkP ps) {lo hi : Int} (h0 : 0 ≤ lo) (h1 : lo ≤ hi) (h2 : hi ≤ 1114111) {wi : List (Pc α)} (hw : Fills wi lo hi) : OkP (repP ps lo hi wi) := by
  obtain ⟨A, M, C, h⟩ := cut3 o h1
  rw [h.rep]
  have e := h.eq
  subst e
  have p0 := List.pairwise_append.1 o.1
  have p1 := List.pairwise_append.1 p0.1
  have hA : ∀ p ∈ A, 0 ≤ p.lo ∧ p.lo ≤ p.hi ∧ p.hi < lo := fun p hp => ⟨(o.2 p (by simp [hp])).1, (o.2 p (by simp [hp])).2.1, h.ha p hp⟩
  have hC : ∀ p ∈ C, hi < p.lo ∧ p.lo ≤ p.hi ∧ p.hi ≤ 1114111 := fun p hp => ⟨h.hc p hp, (o.2 p (by simp [hp])).2⟩
  have hM : ∀ p ∈ M, 0 ≤ p.lo ∧ p.lo ≤ p.hi ∧ p.hi ≤ 1114111 := fun p hp => o.2 p (by simp [hp])
  have hah : ∀ q ∈ aheadP M lo, q.hi < lo ∧ 0 ≤ q.lo ∧ q.lo ≤ q.hi ∧ ∀ p ∈ A, p.hi < q.lo := fun q hq => by
    obtain ⟨p, M', e, k, rfl⟩ := aheadP_mem hq
    have hp : p ∈ M := by rw [e]; exact List.mem_cons_self
    exact ⟨by show lo - 1 < lo; omega, (hM p hp).1, by show p.lo ≤ lo - 1; omega, fun a ha => p1.2.2 a ha p hp⟩
  have hwi : ∀ q ∈ wi, q.lo = lo ∧ q.hi = hi := fun q hq => by
    rcases hw with rfl | ⟨v, rfl⟩
    · exact nomatch hq
    · rw [List.mem_singleton.1 hq]; exact ⟨rfl, rfl⟩
  have hbe : ∀ q ∈ behindP M hi, hi < q.lo ∧ q.lo ≤ q.hi ∧ q.hi ≤ 1114111 ∧ ∀ c ∈ C, q.hi < c.lo := fun q hq => by
    obtain ⟨p, M', e, k, rfl⟩ := behindP_mem hq
    have hp : p ∈ M := by rw [e]; simp
    exact ⟨by show hi < hi + 1; omega, by show hi + 1 ≤ p.hi; omega, (hM p hp).2.2, fun c hc => p0.2.2 p (by simp [hp]) c hc⟩
  have one1 : (aheadP M lo).Pairwise (fun a b => a.hi < b.lo) := by
    unfold aheadP
    split
    · exact List.Pairwise.nil
    · split
      · exact List.pairwise_singleton _ _
      · exact List.Pairwise.nil
  have one2 : (behindP M hi).Pairwise (fun a b => a.hi < b.lo) := by
    unfold behindP
    split
    · exact List.Pairwise.nil
    · split
      · exact List.pairwise_singleton _ _
      · exact List.Pairwise.nil
  have one3 : wi.Pairwise (fun a b => a.hi < b.lo) := by
    rcases hw with rfl | ⟨v, rfl⟩
    · exact List.Pairwise.nil
    · exact List.pairwise_singleton _ _
  refine ⟨List.pairwise_append.2 ⟨List.pairwise_append.2 ⟨p1.1, List.pairwise_append.2 ⟨List.pairwise_append.2 ⟨one1, one3, ?_⟩, one2, ?_⟩, ?_⟩, p0.2.1, ?_⟩, ?_⟩
  · intro a ha b hb
    have := hah a ha; have := hwi b hb; omega
  · intro a ha b hb
    have k := hbe b hb
    rcases List.mem_append.1 ha with ha | ha
    · have := hah a ha; omega
    · have := hwi a ha; omega
  · intro a ha b hb
    have k := hA a ha
    rcases List.mem_append.1 hb with hb | hb
    · rcases List.mem_append.1 hb with hb | hb
      · exact (hah b hb).2.2.2 a ha
      · have := hwi b hb; omega
    · have := hbe b hb; omega
  · intro a ha b hb
    have k := hC b hb
    rcases List.mem_append.1 ha with ha | ha
    · have := hA a ha; omega
    · rcases List.mem_append.1 ha with ha | ha
      · rcases List.mem_append.1 ha with ha | ha
        · have := hah a ha; omega
        · have := hwi a ha; omega
      · exact (hbe a ha).2.2.2 b hb
  · intro p hp
    rcases List.mem_append.1 hp with hp | hp
    · rcases List.mem_append.1 hp with hp | hp
      · have := hA p hp; omega
      · rcases List.mem_append.1 hp with hp | hp
        · rcases List.mem_append.1 hp with hp | hp
          · have := hah p hp; omega
          · have := hwi p hp; omega
        · have := hbe p hp; omega
    · have := hC p hp; omega

theorem at_rep {ps : List (Pc α)} (o : OkP ps) {lo hi : Int} (h1 : lo ≤ hi) {wi : List (Pc α)} (hw : Fills wi lo hi) (x : Int) :
    atP (repP ps lo hi wi) x = if lo ≤ x ∧ x ≤ hi then wi.head?.map (·.val) else atP ps x := by
  obtain ⟨A, M, C, h⟩ := cut3 o h1
  have oM := h.okM o
  rw [h.rep, h.eq]
  simp only [atP_append]
  have hwo : ¬ (lo ≤ x ∧ x ≤ hi) → atP wi x = none := fun hx => by
    rcases hw with rfl | ⟨v, rfl⟩
    · rfl
    · rw [atP_cons, if_neg hx]; rfl
  rcases Int.lt_or_le x lo with hx | hx
  · rw [if_neg (by omega), hwo (by omega), atP_none (ps := C) (fun p hp => .inl (by have := h.hc p hp; omega)), atP_none (ps := behindP M hi) (fun p hp => .inl (by
      obtain ⟨p, M', e, k, rfl⟩ := behindP_mem hp
      show x < hi + 1
      omega))]
    have : atP (aheadP M lo) x = atP M x := by
      cases M with
      | nil => rfl
      | cons p M' =>
        have k := h.hm p List.mem_cons_self
        have kn : atP M' x = none := atP_none fun q hq => .inl (by have := oM.next q hq; omega)
        unfold aheadP
        simp only
        split
        · rw [atP_cons, atP_cons, kn]
          simp only [atP_nil]
          by_cases hl : p.lo ≤ x
          · rw [if_pos (by omega), if_pos (by omega)]
          · rw [if_neg (by omega), if_neg (by omega)]
        · rw [atP_cons, kn, if_neg (by omega)]; rfl
    rw [this]
    simp
  · have kA : atP A x = none := atP_none fun p hp => .inr (by have := h.ha p hp; omega)
    have kh : atP (aheadP M lo) x = none := atP_none fun p hp => .inr (by
      obtain ⟨p, M', e, k, rfl⟩ := aheadP_mem hp
      show lo - 1 < x
      omega)
    rw [kA, kh]
    rcases Int.lt_or_le hi x with hy | hy
    · rw [if_neg (by omega), hwo (by omega)]
      have : atP (behindP M hi) x = atP M x := by
        rcases snoc_cases M with rfl | ⟨M', p, rfl⟩
        · rfl
        · have k := h.hm p (by simp)
          have kn : atP M' x = none := atP_none fun q hq => .inr (by
            have h5 := (List.pairwise_append.1 oM.1).2.2 q hq p (by simp)
            omega)
          rw [behindP_snoc, atP_append, kn]
          split
          · rw [atP_cons, atP_cons]
            simp only [atP_nil]
            by_cases hl : x ≤ p.hi
            · rw [if_pos (by omega), if_pos (by omega)]; rfl
            · rw [if_neg (by omega), if_neg (by omega)]; rfl
          · rw [atP_cons, if_neg (by omega)]; rfl
      rw [this]
      simp
    · rw [if_pos ⟨hx, hy⟩, atP_none (ps := C) (fun p hp => .inl (by have := h.hc p hp; omega)), atP_none (ps := behindP M hi) (fun p hp => .inl (by
        obtain ⟨p, M', e, k, rfl⟩ := behindP_mem hp
        show x < hi + 1
        omega))]
      rcases hw with rfl | ⟨v, rfl⟩
      · rfl
      · rw [atP_cons, if_pos ⟨hx, hy⟩]; rfl

end Go.Proofs.Ytnhcbcbceaeceaa
/-
  Stretches and gaps of pieces, by numbers.
-/
namespace Go.Proofs.Ytnhcbcbceaeceaa
set_option linter.unusedVariables false
variable {α : Type}

/-- the stretches of pieces: f: the one that has begun, l: its last piece's value -/
def strsGo (eqv : α → α → Bool) (f : Pc α) (l : α) : List (Pc α) → List (Pc α)
  | [] => [f]
  | q :: qs => if f.hi + 1 = q.lo ∧ eqv l q.val = true then strsGo eqv ⟨f.lo, q.hi, f.val⟩ q.val qs else f :: strsGo eqv q q.val qs
def strsP (eqv : α → α → Bool) : List (Pc α) → List (Pc α)
  | [] => []
  | p :: ps => strsGo eqv p p.val ps

/-- how many numbers the pieces have -/
def sizeP : List (Pc α) → Int
  | [] => 0
  | p :: ps => (p.hi - p.lo + 1) + sizeP ps
theorem sizeP_append (A B : List (Pc α)) : sizeP (A ++ B) = sizeP A + sizeP B := by
  induction A with
  | nil => simp [sizeP]
  | cons p A ih => simp only [List.cons_append, sizeP, ih]; omega

theorem strsGo_ok (eqv : α → α → Bool) (qs : List (Pc α)) : ∀ (f : Pc α) (l : α), OkP (f :: qs) → OkP (strsGo eqv f l qs) ∧ ∀ r ∈ strsGo eqv f l qs, f.lo ≤ r.lo := by
  induction qs with
  | nil => intro f l h; exact ⟨h, fun r hr => by rw [List.mem_singleton.1 hr]; exact Int.le_refl _⟩
  | cons q qs ih =>
    intro f l h
    have k1 := h.head; have k2 := h.tail.head; have k3 := h.next q List.mem_cons_self
    unfold strsGo
    split
    · exact ih ⟨f.lo, q.hi, f.val⟩ q.val ⟨List.pairwise_cons.2 ⟨fun b hb => h.tail.next b hb, h.tail.tail.1⟩, fun p hp => by
        rcases List.mem_cons.1 hp with rfl | hp
        · exact ⟨k1.1, by show f.lo ≤ q.hi; omega, k2.2.2⟩
        · exact h.tail.tail.2 p hp⟩
    · obtain ⟨o, g⟩ := ih q q.val h.tail
      refine ⟨⟨List.pairwise_cons.2 ⟨fun b hb => by have := g b hb; omega, o.1⟩, fun p hp => ?_⟩, fun r hr => ?_⟩
      · rcases List.mem_cons.1 hp with rfl | hp
        · exact k1
        · exact o.2 p hp
      · rcases List.mem_cons.1 hr with rfl | hr
        · exact Int.le_refl _
        · have := g r hr; omega
theorem strs_ok (eqv : α → α → Bool) {ps : List (Pc α)} (h : OkP ps) : OkP (strsP eqv ps) := by
  cases ps with
  | nil => exact h
  | cons p ps => exact (strsGo_ok eqv ps p p.val h).1

theorem strsGo_size (eqv : α → α → Bool) (qs : List (Pc α)) : ∀ (f : Pc α) (l : α), sizeP (strsGo eqv f l qs) = (f.hi - f.lo + 1) + sizeP qs := by
  induction qs with
  | nil => intro f l; simp [strsGo, sizeP]
  | cons q qs ih =>
    intro f l
    unfold strsGo
    split
    · rw [ih]; simp only [sizeP]; omega
    · simp only [sizeP, ih]
theorem strs_size (eqv : α → α → Bool) (ps : List (Pc α)) : sizeP (strsP eqv ps) = sizeP ps := by
  cases ps with
  | nil => rfl
  | cons p ps => exact strsGo_size eqv ps p p.val
theorem strsGo_len (eqv : α → α → Bool) (qs : List (Pc α)) : ∀ (f : Pc α) (l : α), (strsGo eqv f l qs).length ≤ qs.length + 1 := by
  induction qs with
  | nil => intro f l; simp [strsGo]
  | cons q qs ih =>
    intro f l
    unfold strsGo
    split
    · have := ih ⟨f.lo, q.hi, f.val⟩ q.val; simp; omega
    · have := ih q q.val; simp; omega
theorem strs_len (eqv : α → α → Bool) (ps : List (Pc α)) : (strsP eqv ps).length ≤ ps.length := by
  cases ps with
  | nil => exact Nat.le_refl _
  | cons p ps => exact strsGo_len eqv ps p p.val

theorem strsGo_at (eqv : α → α → Bool) (he : ∀ a b, eqv a b = true → a = b) (x : Int) (qs : List (Pc α)) : ∀ (f : Pc α), OkP (f :: qs) → atP (strsGo eqv f f.val qs) x = atP (f :: qs) x := by
  induction qs with
  | nil => intro f h; rfl
  | cons q qs ih =>
    intro f h
    have k1 := h.head; have k2 := h.tail.head; have k3 := h.next q List.mem_cons_self
    unfold strsGo
    split
    · rename_i hj
      have hv := he _ _ hj.2
      have o : OkP (⟨f.lo, q.hi, f.val⟩ :: qs) := ⟨List.pairwise_cons.2 ⟨fun b hb => h.tail.next b hb, h.tail.tail.1⟩, fun p hp => by
        rcases List.mem_cons.1 hp with rfl | hp
        · exact ⟨k1.1, by show f.lo ≤ q.hi; omega, k2.2.2⟩
        · exact h.tail.tail.2 p hp⟩
      have := ih ⟨f.lo, q.hi, f.val⟩ o
      rw [← hv]
      rw [this, atP_cons, atP_cons, atP_cons, ← hv]
      by_cases c1 : f.lo ≤ x ∧ x ≤ f.hi
      · rw [if_pos c1, if_pos ⟨c1.1, by show x ≤ q.hi; omega⟩]
      · rw [if_neg c1]
        by_cases c2 : q.lo ≤ x ∧ x ≤ q.hi
        · rw [if_pos c2, if_pos ⟨by show f.lo ≤ x; omega, c2.2⟩]
        · rw [if_neg c2, if_neg (by show ¬ (f.lo ≤ x ∧ x ≤ q.hi); omega)]
    · rw [atP_cons, atP_cons, ih q h.tail]
theorem strs_at (eqv : α → α → Bool) (he : ∀ a b, eqv a b = true → a = b) {ps : List (Pc α)} (h : OkP ps) (x : Int) : atP (strsP eqv ps) x = atP ps x := by
  cases ps with
  | nil => rfl
  | cons p ps => exact strsGo_at eqv he x ps p h

/-- none of them goes on as its neighbour -/
def SepP : List (Pc α) → Prop
  | [] => True
  | p :: ps => (∀ q, ps.head? = some q → ¬ (p.hi + 1 = q.lo ∧ p.val = q.val)) ∧ SepP ps

theorem strsGo_sep (eqv : α → α → Bool) (he : ∀ a b, eqv a b = true ↔ a = b) (qs : List (Pc α)) : ∀ (f : Pc α), SepP (strsGo eqv f f.val qs) ∧ ∃ r, (strsGo eqv f f.val qs).head? = some r ∧ r.lo = f.lo ∧ r.val = f.val := by
  induction qs with
  | nil => intro f; exact ⟨⟨fun q h => by simp at h, trivial⟩, f, rfl, rfl, rfl⟩
  | cons q qs ih =>
    intro f
    unfold strsGo
    split
    · rename_i hj
      have hv := (he _ _).1 hj.2
      have := ih ⟨f.lo, q.hi, f.val⟩
      rw [← hv]
      exact this
    · rename_i hj
      obtain ⟨s, r, hr, h1, h2⟩ := ih q
      refine ⟨⟨fun a ha => ?_, s⟩, f, rfl, rfl, rfl⟩
      rw [hr] at ha
      obtain rfl := Option.some.inj ha
      rw [h1, h2]
      intro c
      exact hj ⟨c.1, (he _ _).2 c.2⟩
theorem strs_sep (eqv : α → α → Bool) (he : ∀ a b, eqv a b = true ↔ a = b) (ps : List (Pc α)) : SepP (strsP eqv ps) := by
  cases ps with
  | nil => trivial
  | cons p ps => exact (strsGo_sep eqv he ps p).1

theorem at_head {p : Pc α} {ps : List (Pc α)} (h : OkP (p :: ps)) : atP (p :: ps) p.lo = some p.val := by
  rw [atP_cons, if_pos ⟨Int.le_refl _, h.head.2.1⟩]
theorem at_ge {p : Pc α} {ps : List (Pc α)} (h : OkP (p :: ps)) {x : Int} {v : α} (e : atP (p :: ps) x = some v) : p.lo ≤ x := by
  apply Decidable.byContradiction
  intro hx
  rw [atP_none (fun q hq => .inl (by
    have k := h.head
    rcases List.mem_cons.1 hq with rfl | hq
    · omega
    · have := h.next q hq; omega))] at e
  cases e

theorem sep_one : ∀ {xs ys : List (Pc α)}, OkP xs → OkP ys → SepP xs → SepP ys → (∀ x, atP xs x = atP ys x) → xs = ys := by
  intro xs
  induction xs with
  | nil =>
    intro ys _ oy _ _ h
    cases ys with
    | nil => rfl
    | cons q ys => have := h q.lo; rw [at_head oy] at this; cases this
  | cons p xs ih =>
    intro ys ox oy sx sy h
    cases ys with
    | nil => have := h p.lo; rw [at_head ox] at this; cases this
    | cons q ys =>
      have k1 := ox.head; have k2 := oy.head
      have e1 : p.lo = q.lo := by
        have a := at_ge oy ((h p.lo).symm.trans (at_head ox))
        have b := at_ge ox ((h q.lo).trans (at_head oy))
        omega
      have e2 : p.val = q.val := by
        have a := h p.lo
        rw [at_head ox, e1, at_head oy] at a
        exact Option.some.inj a
      have key : ∀ {p q : Pc α} {xs ys : List (Pc α)}, OkP (p :: xs) → OkP (q :: ys) → SepP (p :: xs) → p.lo = q.lo → p.val = q.val → (∀ x, atP (p :: xs) x = atP (q :: ys) x) → ¬ p.hi < q.hi := by
        intro p q xs ys ox oy sx e1 e2 h hlt
        have k1 := ox.head; have k2 := oy.head
        have a := h (p.hi + 1)
        rw [atP_cons, if_neg (by omega), atP_cons, if_pos (by omega)] at a
        cases xs with
        | nil => cases a
        | cons r xs =>
          have b := at_ge ox.tail a
          have c := ox.next r List.mem_cons_self
          have d : p.hi + 1 = r.lo := by omega
          rw [d, at_head ox.tail] at a
          exact sx.1 r rfl ⟨d, by rw [e2]; exact (Option.some.inj a).symm⟩
      have e3 : p.hi = q.hi := by
        have a := key ox oy sx e1 e2 h
        have b := key oy ox sy e1.symm e2.symm (fun x => (h x).symm)
        omega
      have e4 : xs = ys := by
        refine ih ox.tail oy.tail sx.2 sy.2 fun x => ?_
        rcases Int.lt_or_le p.hi x with hx | hx
        · have a := h x
          rw [atP_cons, if_neg (by omega), atP_cons, if_neg (by omega)] at a
          exact a
        · rw [atP_none (ps := xs) (fun r hr => .inl (by have := ox.next r hr; omega)), atP_none (ps := ys) (fun r hr => .inl (by have := oy.next r hr; omega))]
      obtain ⟨a, b, c⟩ := p
      obtain ⟨a', b', c'⟩ := q
      simp only at e1 e2 e3
      subst e1; subst e2; subst e3; subst e4
      rfl

/-- the gaps ahead of pieces' ends -/
def gapsPre (a : Int) : List (Pc α) → List (Int × Int)
  | [] => []
  | p :: ps => (if a ≤ p.lo - 1 then [(a, p.lo - 1)] else []) ++ gapsPre (p.hi + 1) ps
def endP (a : Int) : List (Pc α) → Int
  | [] => a
  | p :: ps => endP (p.hi + 1) ps
def lastGap (a : Int) : List (Int × Int) := if a ≤ 1114111 then [(a, 1114111)] else []
def gapsP (ps : List (Pc α)) : List (Int × Int) := gapsPre 0 ps ++ lastGap (endP 0 ps)

theorem gapsPre_append (A B : List (Pc α)) : ∀ a, gapsPre a (A ++ B) = gapsPre a A ++ gapsPre (endP a A) B := by
  induction A with
  | nil => intro a; rfl
  | cons p A ih => intro a; simp only [List.cons_append, gapsPre, endP, ih, List.append_assoc]
theorem endP_append (A B : List (Pc α)) : ∀ a, endP a (A ++ B) = endP (endP a A) B := by
  induction A with
  | nil => intro a; rfl
  | cons p A ih => intro a; exact ih _
theorem endP_snoc (A : List (Pc α)) (p : Pc α) (a : Int) : endP a (A ++ [p]) = p.hi + 1 := by rw [endP_append]; rfl
theorem gapsPre_snoc (A : List (Pc α)) (p : Pc α) (a : Int) : gapsPre a (A ++ [p]) = gapsPre a A ++ (if endP a A ≤ p.lo - 1 then [(endP a A, p.lo - 1)] else []) := by rw [gapsPre_append]; simp [gapsPre]
theorem gapsPre_len (A : List (Pc α)) : ∀ a, (gapsPre a A).length ≤ A.length := by
  induction A with
  | nil => intro a; simp [gapsPre]
  | cons p A ih =>
    intro a
    have := ih (p.hi + 1)
    simp only [gapsPre, List.length_append, List.length_cons]
    split <;> simp <;> omega

/-- the end of pieces that are in order -/
theorem endP_le {B : List (Pc α)} {p : Pc α} : ∀ {A : List (Pc α)}, OkP (A ++ p :: B) → ∀ a, a ≤ p.lo → 0 ≤ a → endP a A ≤ p.lo ∧ 0 ≤ endP a A := by
  intro A
  induction A with
  | nil => intro _ a h h0; exact ⟨h, h0⟩
  | cons q A ih =>
    intro o a _ _
    have k := o.head
    have := o.next p (by simp)
    exact ih o.tail (q.hi + 1) (by omega) (by omega)
theorem endP_max : ∀ {A : List (Pc α)}, OkP A → ∀ a, 0 ≤ a → a ≤ 1114112 → 0 ≤ endP a A ∧ endP a A ≤ 1114112 := by
  intro A
  induction A with
  | nil => intro _ a h h0; exact ⟨h, h0⟩
  | cons q A ih =>
    intro o a _ _
    have k := o.head
    exact ih o.tail (q.hi + 1) (by omega) (by omega)

/-- gaps from a on begin at a or behind it, and are none that are turned round -/
theorem gapsPre_ge : ∀ {B : List (Pc α)}, OkP B → ∀ a, (∀ p ∈ B, a ≤ p.lo) → ∀ g ∈ gapsPre a B, a ≤ g.1 ∧ g.1 ≤ g.2 := by
  intro B
  induction B with
  | nil => intro _ a _ g hg; simp [gapsPre] at hg
  | cons q B ih =>
    intro o a h g hg
    have k := o.head
    have k2 := h q List.mem_cons_self
    simp only [gapsPre, List.mem_append] at hg
    rcases hg with hg | hg
    · split at hg
      · rw [List.mem_singleton.1 hg]; exact ⟨Int.le_refl _, by assumption⟩
      · exact nomatch hg
    · have := ih o.tail (q.hi + 1) (fun p hp => by have := o.next p hp; omega) g hg
      omega

end Go.Proofs.Ytnhcbcbceaeceaa

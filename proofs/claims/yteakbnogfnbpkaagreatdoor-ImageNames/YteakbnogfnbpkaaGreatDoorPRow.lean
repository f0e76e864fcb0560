/-
  Rows of cells that a program owns: copying, clearing and appending, whatever the number of cells of an element.
-/
import Derived.WalkKit
import Derived.Below
import Derived.Deep.AppendSrc
import Derived.Laws.CopyRow
import Derived.Lib.AppendZerosOnto
import Derived.Lib.Overlaps
namespace Go.PRow
open Go Go.RowKit
set_option linter.unusedVariables false

/-- the row cur with cs written from the place o on -/
def spl (cur : Array Value) (o : Nat) (cs : List Value) : Array Value := (cur.toList.take o ++ cs ++ cur.toList.drop (o + cs.length)).toArray
theorem spl_size (cur : Array Value) (o : Nat) (cs : List Value) (h : o + cs.length ≤ cur.size) : (spl cur o cs).size = cur.size := by
  simp [spl]; omega
theorem spl_nil (cur : Array Value) (o : Nat) : spl cur o [] = cur := by simp [spl]
theorem spl_toList (cur : Array Value) (o : Nat) (cs : List Value) : (spl cur o cs).toList = cur.toList.take o ++ cs ++ cur.toList.drop (o + cs.length) := by simp [spl]

theorem setRow_other (w : World) (g k : Nat) (cs : Array Value) (h : k ≠ g) : (w.setRow g cs).heap[k]? = w.heap[k]? := by
  simp only [World.setRow, Array.getElem?_modify]
  rw [if_neg (by omega)]
theorem setRow_size (w : World) (g : Nat) (cs : Array Value) : (w.setRow g cs).heap.size = w.heap.size := by simp [World.setRow]
theorem setRow_grown (w : World) (g : Nat) (cs : Array Value) : w.grownBy (w.setRow g cs) (some g) :=
  ⟨rfl, rfl, rfl, by rw [setRow_size]; exact Nat.le_refl _, fun k _ h => setRow_other w g k cs (fun e => h (by rw [e]))⟩

variable {P : Program}

theorem run_copyK (w : World) (dT sT ty elem : TypeId) (k g o dLen dCap : Nat) (a : Addr) (sLen sCap : Nat) (cur : Array Value) (t : TypeId) (cs : List Value)
    (hu : P.underlying dT = some (.slice elem)) (hs : (P.info? elem).map (·.size) = some k)
    (hg : w.heap[g]? = some (.cells cur t (0, 0))) (hn : cs.length = Nat.min sLen dLen * k)
    (hsrc : ∀ j v, cs[j]? = some v → w.cell? (a.add j) = some v) (hfit : o + cs.length ≤ cur.size) (h1 : ∀ v ∈ cs, v.oneCell' = true) :
    (Builtin.copy_ #[dT, sT] ty #[.slice (some ⟨g, o, none⟩) dLen dCap, .slice (some a) sLen sCap]).run P w =
      .ok (goInt (Nat.min sLen dLen)) (w.setRow g (spl cur o cs)) := by
  have hl := run_loadCells_list (P := P) w a cs hsrc
  rw [hn] at hl
  have hst := run_storeCells_at P g o t cs 0 cur w hg (by simpa using hfit) h1
  cases hq : P.info? elem with
  | none => simp [hq] at hs
  | some i =>
    have hi : i.size = k := by simpa [hq] using hs
    have e : Nat.min sLen dLen = min sLen dLen := rfl
    rw [e] at hl ⊢
    simp [Builtin.copy_, run_underlying hu, Builtin.lenOf, Builtin.firstCells, sizeOf, typeInfo, hq, hi, hl, hst, spl]

theorem run_copy_nilK (w : World) (dT sT ty elem : TypeId) (a : Addr) (dLen dCap c k : Nat) (hu : P.underlying dT = some (.slice elem)) (hs : (P.info? elem).map (·.size) = some k) :
    (Builtin.copy_ #[dT, sT] ty #[.slice (some a) dLen dCap, .slice none 0 c]).run P w = .ok (goInt 0) w := by
  cases hq : P.info? elem with
  | none => simp [hq] at hs
  | some i => simp [Builtin.copy_, run_underlying hu, Builtin.lenOf, Builtin.firstCells, sizeOf, typeInfo, hq, storeCells]

theorem run_copy_zeroK (w : World) (dT sT ty elem : TypeId) (a b : Option Addr) (dLen dCap sLen c k : Nat) (hz : Nat.min sLen dLen = 0) (hu : P.underlying dT = some (.slice elem)) (hs : (P.info? elem).map (·.size) = some k) :
    (Builtin.copy_ #[dT, sT] ty #[.slice a dLen dCap, .slice b sLen c]).run P w = .ok (goInt 0) w := by
  cases hq : P.info? elem with
  | none => simp [hq] at hs
  | some i =>
    have e : min sLen dLen = 0 := hz
    cases a <;> cases b <;> simp [Builtin.copy_, run_underlying hu, Builtin.lenOf, Builtin.firstCells, sizeOf, typeInfo, hq, storeCells, e, loadCells, loadCellsFrom]

/-- n zeroes of a type of k cells -/
def zs (z : Value) (n : Nat) : List Value := (Builtin.zeroCells z.cells n).toList
theorem zs_length (z : Value) (n : Nat) : (zs z n).length = n * z.cells.size := by simp [zs, Builtin.zeroCells]

theorem run_clearK (w : World) (t ty elem : TypeId) (i : TypeInfo) (z : Value) (g o n c : Nat) (cur : Array Value) (ct : TypeId)
    (hu : P.underlying t = some (.slice elem)) (hi : P.info? elem = some i) (hz : i.zero = some z) (hg : w.heap[g]? = some (.cells cur ct (0, 0))) (hfit : o + n * z.cells.size ≤ cur.size) (h1 : ∀ v ∈ zs z n, v.oneCell' = true) :
    (Builtin.clear_ #[t] ty #[.slice (some ⟨g, o, none⟩) n c]).run P w = .ok (.tuple #[]) (w.setRow g (spl cur o (zs z n))) := by
  have hst := run_storeCells_at P g o ct (zs z n) 0 cur w hg (by rw [zs_length]; simpa using hfit) h1
  cases n with
  | zero =>
    have e : zs z 0 = [] := by simp [zs, Builtin.zeroCells]
    rw [e, spl_nil, setRow_self w g cur ct (0, 0) hg]
    simp [Builtin.clear_, run_underlying hu]
  | succ n =>
    simp only [Nat.add_zero] at hst
    simp [Builtin.clear_, run_underlying hu, zeroValue, typeInfo, hi, hz]
    have e : (Builtin.zeroCells z.cells (n + 1)).toList = zs z (n + 1) := rfl
    rw [e, hst]
    rfl

theorem run_clear_zero (w : World) (t ty elem : TypeId) (a : Option Addr) (c : Nat) (hu : P.underlying t = some (.slice elem)) :
    (Builtin.clear_ #[t] ty #[.slice a 0 c]).run P w = .ok (.tuple #[]) w := by
  cases a <;> simp [Builtin.clear_, run_underlying hu]

/-- an append for which there is room, in an own row -/
theorem run_append_inK (w : World) (t tx ty e : TypeId) (i : TypeInfo) (ht : P.underlying t = some (.slice e)) (hi : P.info? e = some i) (g o sLen sCap : Nat) (cur : Array Value) (ct : TypeId) (x : Value) (n : Nat) (news : List Value) (hs : Src P i.size tx x n news w)
    (hroom : sLen + n ≤ sCap) (hg : w.heap[g]? = some (.cells cur ct (0, 0))) (hfit : o + sLen * i.size + news.length ≤ cur.size) :
    (Builtin.append_ #[t, tx] ty #[.slice (some ⟨g, o, none⟩) sLen sCap, x]).run P w = .ok (.slice (some ⟨g, o, none⟩) (sLen + n) sCap) (w.setRow g (spl cur (o + sLen * i.size) news)) := by
  have hst := run_storeCells_at P g (o + sLen * i.size) ct news 0 cur w hg (by simpa using hfit) hs.one
  simp only [Nat.add_zero] at hst
  rcases hs.kind with ⟨e', hk⟩ | hk <;> simp [Builtin.append_, run_underlying ht, run_underlying hk, sizeOf, typeInfo, hi, hs.len, hroom, hs.cells, Addr.add_lit, hst, spl]

theorem run_append_none (w : World) (t tx ty e : TypeId) (i : TypeInfo) (ht : P.underlying t = some (.slice e)) (hi : P.info? e = some i) (base : Option Addr) (sLen sCap : Nat) (x : Value) (hs : Src P i.size tx x 0 [] w) (hle : sLen ≤ sCap) :
    (Builtin.append_ #[t, tx] ty #[.slice base sLen sCap, x]).run P w = .ok (.slice base sLen sCap) w := by
  rcases hs.kind with ⟨e', hk⟩ | hk <;> cases base <;> simp [Builtin.append_, run_underlying ht, run_underlying hk, sizeOf, typeInfo, hi, hs.len, hle, hs.cells, storeCells]

/-- a slice of n elements of k cells each, of which the world holds the cells xs; B: from which block on its row lies -/
def RowV (W : World) (B : Nat) (T : TypeId) (k : Nat) (v : Value) (n : Nat) (xs : List Value) : Prop :=
  xs.length = n * k ∧ ((∃ a, v = .slice a 0 0 ∧ n = 0) ∨
    ∃ g cap cur, v = .slice (some ⟨g, 0, none⟩) n cap ∧ B ≤ g ∧ W.heap[g]? = some (.cells cur T (0, 0)) ∧ n ≤ cap ∧ cap ≤ maxLen ∧ cur.size = cap * k ∧ cur.toList.take (n * k) = xs)

/-- the block that a slice's cells lie in -/
def blk : Value → Option Nat
  | .slice (some a) _ (_ + 1) => some a.block
  | _ => none
theorem blk_zero (a : Option Addr) (n : Nat) : blk (.slice a n 0) = none := by cases a <;> rfl

theorem RowV.lt {W : World} {B : Nat} {T : TypeId} {k : Nat} {v : Value} {n : Nat} {xs : List Value} (h : RowV W B T k v n xs) : ∀ g, blk v = some g → B ≤ g ∧ g < W.heap.size := by
  intro g hg
  rcases h.2 with ⟨a, rfl, _⟩ | ⟨g', cap, cur, rfl, hb, hh, _⟩
  · rw [blk_zero] at hg; cases hg
  · cases cap with
    | zero => rw [blk_zero] at hg; cases hg
    | succ c => cases hg; exact ⟨hb, (Array.getElem?_eq_some_iff.1 hh).1⟩

theorem RowV.nil (W : World) (B : Nat) (T : TypeId) (k : Nat) (a : Option Addr) : RowV W B T k (.slice a 0 0) 0 [] := ⟨by simp, .inl ⟨a, rfl, rfl⟩⟩

/-- what changes other blocks leaves it -/
theorem RowV.kept {W W' : World} {B : Nat} {T : TypeId} {k : Nat} {v : Value} {n : Nat} {xs : List Value} (h : RowV W B T k v n xs) (hb : ∀ g, blk v = some g → W'.heap[g]? = W.heap[g]?) : RowV W' B T k v n xs := by
  refine ⟨h.1, ?_⟩
  rcases h.2 with ⟨a, rfl, rfl⟩ | ⟨g', cap, cur, rfl, h1, h2, h3, h4, h5, h6⟩
  · exact .inl ⟨a, rfl, rfl⟩
  · cases cap with
    | zero =>
      have e : n = 0 := by omega
      subst e
      exact .inl ⟨some ⟨g', 0, none⟩, rfl, rfl⟩
    | succ c => exact .inr ⟨g', c + 1, cur, rfl, h1, (hb g' rfl).trans h2, h3, h4, h5, h6⟩
theorem RowV.mono {W : World} {B B' : Nat} {T : TypeId} {k : Nat} {v : Value} {n : Nat} {xs : List Value} (h : RowV W B T k v n xs) (hb : B' ≤ B) : RowV W B' T k v n xs := by
  refine ⟨h.1, ?_⟩
  rcases h.2 with h | ⟨g', cap, cur, h0, h1, h2⟩
  · exact .inl h
  · exact .inr ⟨g', cap, cur, h0, by omega, h2⟩

theorem RowV.below {W W' : World} {B : Nat} {T : TypeId} {k : Nat} {v : Value} {n : Nat} {xs : List Value} (h : RowV W B T k v n xs) (hb : Below W.heap.size W W') : RowV W' B T k v n xs :=
  h.kept fun g hg => hb.block g (h.lt g hg).2

/-- its cells -/
theorem row_cell {W : World} {g : Nat} {T : TypeId} {cur : Array Value} (h : W.heap[g]? = some (.cells cur T (0, 0))) {xs : List Value} {m : Nat} (hx : cur.toList.take m = xs) (hm : m ≤ cur.size) (j : Nat) (v : Value) (hj : xs[j]? = some v) : W.cell? ⟨g, j, none⟩ = some v := by
  have h1 : j < m := by
    have := (List.getElem?_eq_some_iff.1 hj).1
    rw [← hx] at this; simp at this; omega
  rw [← hx, List.getElem?_take, if_pos h1] at hj
  have : cur[j]? = some v := by simpa using hj
  simp [World.cell?, h, this]

theorem src_of_row {W : World} {B : Nat} {T : TypeId} {k : Nat} {v : Value} {n : Nat} {xs : List Value} (h : RowV W B T k v n xs) {tx e' : TypeId} (hk : P.underlying tx = some (.slice e')) (h1 : ∀ u ∈ xs, u.oneCell' = true) : Src P k tx v n xs W := by
  rcases h.2 with ⟨a, rfl, rfl⟩ | ⟨g, cap, cur, rfl, _, hh, hn, hc, hs, ht⟩
  · have e : xs = [] := List.length_eq_zero_iff.1 (by simpa using h.1)
    subst e
    cases a with
    | none => exact Src.ofNil W hk 0
    | some a => exact Src.ofSlice W hk a 0 0 [] (by simp) (by simp) h1
  · exact Src.ofSlice W hk _ n cap xs h.1 (fun j u hj => by
      rw [Addr.add_lit, Nat.zero_add]
      exact row_cell hh ht (by rw [hs]; exact Nat.mul_le_mul_right _ hn) j u hj) h1

end Go.PRow

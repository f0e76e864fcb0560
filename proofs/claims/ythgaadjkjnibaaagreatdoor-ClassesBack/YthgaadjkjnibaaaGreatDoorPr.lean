/-
  These texts, one behind the other: PRow, PRow2, PStep.
-/
import Derived.WalkKit
import Derived.Below
import Derived.Deep.AppendSrc
import Derived.Laws.CopyRow
import Derived.Lib.AppendZerosOnto
import Derived.Lib.Overlaps
import Derived.Deep.RegionHeld
import Derived.ControlIn
/-
  Rows of cells that a program owns: copying, clearing and appending, whatever the number of cells of an element.
-/
namespace Go.PRow
open Go Go.RowKit
set_option linter.unusedVariables false

/-- the row cur with cs written from the place o on -/
def spl (cur : Array Value) (o : Nat) (cs : List Value) : Array Value := (cur.toList.take o ++ cs ++ cur.toList.drop (o + cs.length)).toArray
theorem spl_size (cur : Array Value) (o : Nat) (cs : List Value) (h : o + cs.length ≤ cur.size) : (spl cur o cs).size = cur.size := by
  simp [spl]; omega
theorem spl_nil (cur : Array Value) (o : Nat) : spl cur o [] = cur := by simp [spl]
theorem spl_toList (cur : Array Value) (o : Nat) (cs : List Value) : (spl cur o cs).toList = cur.toList.take o ++ cs ++ cur.toList.drop (o + cs.length) := by simp [spl]

theorem setRow_other (w : World) (g k : Nat) (cs : Array Value) (h : k ≠ g) : (w.setRow g cs).heap[k]? = w.heap[k]? := by
  simp only [World.setRow, Array.getElem?_modify]
  rw [if_neg (by omega)]
theorem setRow_size (w : World) (g : Nat) (cs : Array Value) : (w.setRow g cs).heap.size = w.heap.size := by simp [World.setRow]
theorem setRow_grown (w : World) (g : Nat) (cs : Array Value) : w.grownBy (w.setRow g cs) (some g) :=
  ⟨rfl, rfl, rfl, by rw [setRow_size]; exact Nat.le_refl _, fun k _ h => setRow_other w g k cs (fun e => h (by rw [e]))⟩

variable {P : Program}

theorem run_copyK (w : World) (dT sT ty elem : TypeId) (k g o dLen dCap : Nat) (a : Addr) (sLen sCap : Nat) (cur : Array Value) (t : TypeId) (cs : List Value)
    (hu : P.underlying dT = some (.slice elem)) (hs : (P.info? elem).map (·.size) = some k)
    (hg : w.heap[g]? = some (.cells cur t (0, 0))) (hn : cs.length = Nat.min sLen dLen * k)
    (hsrc : ∀ j v, cs[j]? = some v → w.cell? (a.add j) = some v) (hfit : o + cs.length ≤ cur.size) (h1 : ∀ v ∈ cs, v.oneCell' = true) :
    (Builtin.copy_ #[dT, sT] ty #[.slice (some ⟨g, o, none⟩) dLen dCap, .slice (some a) sLen sCap]).run P w =
      .ok (goInt (Nat.min sLen dLen)) (w.setRow g (spl cur o cs)) := by
  have hl := run_loadCells_list (P := P) w a cs hsrc
  rw [hn] at hl
  have hst := run_storeCells_at P g o t cs 0 cur w hg (by simpa using hfit) h1
  cases hq : P.info? elem with
  | none => simp [hq] at hs
  | some i =>
    have hi : i.size = k := by simpa [hq] using hs
    have e : Nat.min sLen dLen = min sLen dLen := rfl
    rw [e] at hl ⊢
    simp [Builtin.copy_, run_underlying hu, Builtin.lenOf, Builtin.firstCells, sizeOf, typeInfo, hq, hi, hl, hst, spl]

theorem run_copy_nilK (w : World) (dT sT ty elem : TypeId) (a : Addr) (dLen dCap c k : Nat) (hu : P.underlying dT = some (.slice elem)) (hs : (P.info? elem).map (·.size) = some k) :
    (Builtin.copy_ #[dT, sT] ty #[.slice (some a) dLen dCap, .slice none 0 c]).run P w = .ok (goInt 0) w := by
  cases hq : P.info? elem with
  | none => simp [hq] at hs
  | some i => simp [Builtin.copy_, run_underlying hu, Builtin.lenOf, Builtin.firstCells, sizeOf, typeInfo, hq, storeCells]

theorem run_copy_zeroK (w : World) (dT sT ty elem : TypeId) (a b : Option Addr) (dLen dCap sLen c k : Nat) (hz : Nat.min sLen dLen = 0) (hu : P.underlying dT = some (.slice elem)) (hs : (P.info? elem).map (·.size) = some k) :
    (Builtin.copy_ #[dT, sT] ty #[.slice a dLen dCap, .slice b sLen c]).run P w = .ok (goInt 0) w := by
  cases hq : P.info? elem with
  | none => simp [hq] at hs
  | some i =>
    have e : min sLen dLen = 0 := hz
    cases a <;> cases b <;> simp [Builtin.copy_, run_underlying hu, Builtin.lenOf, Builtin.firstCells, sizeOf, typeInfo, hq, storeCells, e, loadCells, loadCellsFrom]

/-- n zeroes of a type of k cells -/
def zs (z : Value) (n : Nat) : List Value := (Builtin.zeroCells z.cells n).toList
theorem zs_length (z : Value) (n : Nat) : (zs z n).length = n * z.cells.size := by simp [zs, Builtin.zeroCells]

theorem run_clearK (w : World) (t ty elem : TypeId) (i : TypeInfo) (z : Value) (g o n c : Nat) (cur : Array Value) (ct : TypeId)
    (hu : P.underlying t = some (.slice elem)) (hi : P.info? elem = some i) (hz : i.zero = some z) (hg : w.heap[g]? = some (.cells cur ct (0, 0))) (hfit : o + n * z.cells.size ≤ cur.size) (h1 : ∀ v ∈ zs z n, v.oneCell' = true) :
    (Builtin.clear_ #[t] ty #[.slice (some ⟨g, o, none⟩) n c]).run P w = .ok (.tuple #[]) (w.setRow g (spl cur o (zs z n))) := by
  have hst := run_storeCells_at P g o ct (zs z n) 0 cur w hg (by rw [zs_length]; simpa using hfit) h1
  cases n with
  | zero =>
    have e : zs z 0 = [] := by simp [zs, Builtin.zeroCells]
    rw [e, spl_nil, setRow_self w g cur ct (0, 0) hg]
    simp [Builtin.clear_, run_underlying hu]
  | succ n =>
    simp only [Nat.add_zero] at hst
    simp [Builtin.clear_, run_underlying hu, zeroValue, typeInfo, hi, hz]
    have e : (Builtin.zeroCells z.cells (n + 1)).toList = zs z (n + 1) := rfl
    rw [e, hst]
    rfl

theorem run_clear_zero (w : World) (t ty elem : TypeId) (a : Option Addr) (c : Nat) (hu : P.underlying t = some (.slice elem)) :
    (Builtin.clear_ #[t] ty #[.slice a 0 c]).run P w = .ok (.tuple #[]) w := by
  cases a <;> simp [Builtin.clear_, run_underlying hu]

/-- an append for which there is room, in an own row -/
theorem run_append_inK (w : World) (t tx ty e : TypeId) (i : TypeInfo) (ht : P.underlying t = some (.slice e)) (hi : P.info? e = some i) (g o sLen sCap : Nat) (cur : Array Value) (ct : TypeId) (x : Value) (n : Nat) (news : List Value) (hs : Src P i.size tx x n news w)
    (hroom : sLen + n ≤ sCap) (hg : w.heap[g]? = some (.cells cur ct (0, 0))) (hfit : o + sLen * i.size + news.length ≤ cur.size) :
    (Builtin.append_ #[t, tx] ty #[.slice (some ⟨g, o, none⟩) sLen sCap, x]).run P w = .ok (.slice (some ⟨g, o, none⟩) (sLen + n) sCap) (w.setRow g (spl cur (o + sLen * i.size) news)) := by
  have hst := run_storeCells_at P g (o + sLen * i.size) ct news 0 cur w hg (by simpa using hfit) hs.one
  simp only [Nat.add_zero] at hst
  rcases hs.kind with ⟨e', hk⟩ | hk <;> simp [Builtin.append_, run_underlying ht, run_underlying hk, sizeOf, typeInfo, hi, hs.len, hroom, hs.cells, Addr.add_lit, hst, spl]

theorem run_append_none (w : World) (t tx ty e : TypeId) (i : TypeInfo) (ht : P.underlying t = some (.slice e)) (hi : P.info? e = some i) (base : Option Addr) (sLen sCap : Nat) (x : Value) (hs : Src P i.size tx x 0 [] w) (hle : sLen ≤ sCap) :
    (Builtin.append_ #[t, tx] ty #[.slice base sLen sCap, x]).run P w = .ok (.slice base sLen sCap) w := by
  rcases hs.kind with ⟨e', hk⟩ | hk <;> cases base <;> simp [Builtin.append_, run_underlying ht, run_underlying hk, sizeOf, typeInfo, hi, hs.len, hle, hs.cells, storeCells]

/-- a slice of n elements of k cells each, of which the world holds the cells xs; B: from which block on its row lies -/
def RowV (W : World) (B : Nat) (T : TypeId) (k : Nat) (v : Value) (n : Nat) (xs : List Value) : Prop :=
  xs.length = n * k ∧ ((∃ a, v = .slice a 0 0 ∧ n = 0) ∨
    ∃ g cap cur, v = .slice (some ⟨g, 0, none⟩) n cap ∧ B ≤ g ∧ W.heap[g]? = some (.cells cur T (0, 0)) ∧ n ≤ cap ∧ cap ≤ maxLen ∧ cur.size = cap * k ∧ cur.toList.take (n * k) = xs)

/-- the block that a slice's cells lie in -/
def blk : Value → Option Nat
  | .slice (some a) _ (_ + 1) => some a.block
  | _ => none
theorem blk_zero (a : Option Addr) (n : Nat) : blk (.slice a n 0) = none := by cases a <;> rfl

theorem RowV.lt {W : World} {B : Nat} {T : TypeId} {k : Nat} {v : Value} {n : Nat} {xs : List Value} (h : RowV W B T k v n xs) : ∀ g, blk v = some g → B ≤ g ∧ g < W.heap.size := by
  intro g hg
  rcases h.2 with ⟨a, rfl, _⟩ | ⟨g', cap, cur, rfl, hb, hh, _⟩
  · rw [blk_zero] at hg; cases hg
  · cases cap with
    | zero => rw [blk_zero] at hg; cases hg
    | succ c => cases hg; exact ⟨hb, (Array.getElem?_eq_some_iff.1 hh).1⟩

theorem RowV.nil (W : World) (B : Nat) (T : TypeId) (k : Nat) (a : Option Addr) : RowV W B T k (.slice a 0 0) 0 [] := ⟨by simp, .inl ⟨a, rfl, rfl⟩⟩

/-- what changes other blocks leaves it -/
theorem RowV.kept {W W' : World} {B : Nat} {T : TypeId} {k : Nat} {v : Value} {n : Nat} {xs : List Value} (h : RowV W B T k v n xs) (hb : ∀ g, blk v = some g → W'.heap[g]? = W.heap[g]?) : RowV W' B T k v n xs := by
  refine ⟨h.1, ?_⟩
  rcases h.2 with ⟨a, rfl, rfl⟩ | ⟨g', cap, cur, rfl, h1, h2, h3, h4, h5, h6⟩
  · exact .inl ⟨a, rfl, rfl⟩
  · cases cap with
    | zero =>
      have e : n = 0 := by omega
      subst e
      exact .inl ⟨some ⟨g', 0, none⟩, rfl, rfl⟩
    | succ c => exact .inr ⟨g', c + 1, cur, rfl, h1, (hb g' rfl).trans h2, h3, h4, h5, h6⟩
theorem RowV.mono {W : World} {B B' : Nat} {T : TypeId} {k : Nat} {v : Value} {n : Nat} {xs : List Value} (h : RowV W B T k v n xs) (hb : B' ≤ B) : RowV W B' T k v n xs := by
  refine ⟨h.1, ?_⟩
  rcases h.2 with h | ⟨g', cap, cur, h0, h1, h2⟩
  · exact .inl h
  · exact .inr ⟨g', cap, cur, h0, by omega, h2⟩

theorem RowV.below {W W' : World} {B : Nat} {T : TypeId} {k : Nat} {v : Value} {n : Nat} {xs : List Value} (h : RowV W B T k v n xs) (hb : Below W.heap.size W W') : RowV W' B T k v n xs :=
  h.kept fun g hg => hb.block g (h.lt g hg).2

/-- its cells -/
theorem row_cell {W : World} {g : Nat} {T : TypeId} {cur : Array Value} (h : W.heap[g]? = some (.cells cur T (0, 0))) {xs : List Value} {m : Nat} (hx : cur.toList.take m = xs) (hm : m ≤ cur.size) (j : Nat) (v : Value) (hj : xs[j]? = some v) : W.cell? ⟨g, j, none⟩ = some v := by
  have h1 : j < m := by
    have := (List.getElem?_eq_some_iff.1 hj).1
    rw [← hx] at this; simp at this; omega
  rw [← hx, List.getElem?_take, if_pos h1] at hj
  have : cur[j]? = some v := by simpa using hj
  simp [World.cell?, h, this]

theorem src_of_row {W : World} {B : Nat} {T : TypeId} {k : Nat} {v : Value} {n : Nat} {xs : List Value} (h : RowV W B T k v n xs) {tx e' : TypeId} (hk : P.underlying tx = some (.slice e')) (h1 : ∀ u ∈ xs, u.oneCell' = true) : Src P k tx v n xs W := by
  rcases h.2 with ⟨a, rfl, rfl⟩ | ⟨g, cap, cur, rfl, _, hh, hn, hc, hs, ht⟩
  · have e : xs = [] := List.length_eq_zero_iff.1 (by simpa using h.1)
    subst e
    cases a with
    | none => exact Src.ofNil W hk 0
    | some a => exact Src.ofSlice W hk a 0 0 [] (by simp) (by simp) h1
  · exact Src.ofSlice W hk _ n cap xs h.1 (fun j u hj => by
      rw [Addr.add_lit, Nat.zero_add]
      exact row_cell hh ht (by rw [hs]; exact Nat.mul_le_mul_right _ hn) j u hj) h1

end Go.PRow
/-
  What a row holds behind one or two copies.
-/
namespace Go.PRow
open Go Go.RowKit

theorem spl_end {cur : Array Value} {n m : Nat} {xs ys : List Value} (ht : cur.toList.take n = xs) (hl : xs.length = n) (hy : ys.length = m) : (spl cur n ys).toList.take (n + m) = xs ++ ys := by
  rw [spl_toList, ht, List.take_left' (by rw [List.length_append, hl, hy])]

theorem spl_fill {A : Array Value} {i m d : Nat} {ys D : List Value} (hi : i ≤ A.size) (hy : ys.length = m) (hD : D.length = d) : (spl (spl A i ys) (i + m) D).toList.take (i + m + d) = A.toList.take i ++ ys ++ D := by
  have h1 : (A.toList.take i).length = i := by rw [List.length_take, Array.length_toList]; omega
  have e1 : (spl A i ys).toList.take (i + m) = A.toList.take i ++ ys := by rw [spl_toList, List.take_left' (by rw [List.length_append, h1, hy])]
  rw [spl_toList, e1, List.take_left' (by rw [List.length_append, List.length_append, h1, hy, hD])]

theorem spl_shift {cur : Array Value} {n m i d : Nat} {xs ys D : List Value} (ht : cur.toList.take n = xs) (hi : i ≤ n) (hs : i + m ≤ cur.size) (hy : ys.length = m) (hD : D.length = d) : (spl (spl cur (i + m) D) i ys).toList.take (i + m + d) = xs.take i ++ ys ++ D := by
  have h1 : (cur.toList.take (i + m)).length = i + m := by rw [List.length_take, Array.length_toList]; omega
  have e1 : (spl cur (i + m) D).toList.take i = xs.take i := by
    rw [spl_toList, List.append_assoc, List.take_append_of_le_length (by omega), List.take_take, ← ht, List.take_take]
    congr 1
    omega
  have e2 : (spl cur (i + m) D).toList.drop (i + m) = D ++ cur.toList.drop (i + m + D.length) := by
    rw [spl_toList, List.append_assoc, List.drop_left' h1]
  have h2 : (xs.take i).length = i := by rw [← ht, List.take_take, List.length_take, Array.length_toList]; omega
  rw [spl_toList, e1, hy, e2, ← List.append_assoc, List.take_left' (by rw [List.length_append, List.length_append, h2, hy, hD])]

/-- copied in place, and what is left behind is cleared -/
theorem spl_fit {cur : Array Value} {n i d : Nat} {xs ys D Z : List Value} {m : Nat} (ht : cur.toList.take n = xs) (hi : i ≤ n) (hn : n ≤ cur.size) (hy : ys.length = m) (hD : D.length = d) (hZ : i + m + d + Z.length ≤ cur.size) : (spl (spl (spl cur i ys) (i + m) D) (i + m + d) Z).toList.take (i + m + d) = xs.take i ++ ys ++ D := by
  have h := spl_fill (A := cur) (i := i) (m := m) (d := d) (ys := ys) (D := D) (by omega) hy hD
  rw [spl_toList, List.append_assoc, List.take_append_of_le_length (by
    rw [List.length_take, Array.length_toList, spl_size, spl_size]
    · omega
    · rw [hy]; omega
    · rw [spl_size _ _ _ (by rw [hy]; omega), hD]; omega), List.take_take, Nat.min_self, h, ← ht, List.take_take]
  congr 3
  omega

/-- clear in a walk, where its run is known -/
theorem wpList_clear_run {P : Program} (w : World) {ops : Array Oper} {rest : List Oper} {o : Oper} {a : Act} {Q : Exit → Act → World → Prop} (hgd : o.guard = none) (x : Operand) (t : TypeId)
    (ho : o.op = .call { callee := .builtin .clear, args := #[x], argTypes := #[t] }) (v : Value) (hx : a.eval x = v) {v' : Value} {w' : World}
    (hr : (Builtin.clear_ #[t] o.type #[v]).run P w = .ok v' w') (h : wpList P ops Q rest (a.put o.dst v') w') : wpList P ops Q (o :: rest) a w :=
  wpList_plain hgd fun _ hK => by
    unfold Oper.wp execOp
    simp only [ho, resolve, invoke, builtin, Sem.run_bind, Sem.run_pure, Result.andThen_ok, List.map_toArray, List.map_cons, List.map_nil, hx, hr]
    exact hK _ _ h
end Go.PRow
/-
  One operation of a region that draws its order, where its run is known.
-/
namespace Go.PStep
open Go
variable {P : Program} {ops : Array Oper} {Q : Exit → Act → World → Prop}

theorem wpOp_value {i : Nat} {o : Oper} {a : Act} {w w' : World} {v : Value} {K : Act → World → Prop} (hi : ops[i]? = some o) (hg : o.guard = none) (d : Option Tmp) (hd : o.dst = d) (hr : (execOp a.eval o).run P w = .ok (.value v) w') (h : K (a.put d v) w') : wpOp P ops Q i K a w := by
  subst hd
  unfold wpOp
  simp only [hi]
  have hw : Region.wanted o (yielded ops a.tmps) = true := by simp [Region.wanted, hg]
  rw [if_pos hw]
  left
  unfold Oper.wp
  rw [hr]
  exact h
theorem wpOp_skip {i : Nat} {o : Oper} {a : Act} {w w' : World} {K : Act → World → Prop} (hi : ops[i]? = some o) (hg : o.guard = none) (d : Option Tmp) (hd : o.dst = d) (hr : (execOp a.eval o).run P w = .ok .skip w') (h : K (a.put d undef) w') : wpOp P ops Q i K a w := by
  subst hd
  unfold wpOp
  simp only [hi]
  have hw : Region.wanted o (yielded ops a.tmps) = true := by simp [Region.wanted, hg]
  rw [if_pos hw]
  left
  unfold Oper.wp
  rw [hr]
  exact h
theorem wpOp_call {i : Nat} {o : Oper} {a : Act} {w w' : World} {f : Nat} {args : Array Value} {K : Act → World → Prop} {R : Ending → World → Prop} (hi : ops[i]? = some o) (hg : o.guard = none) (d : Option Tmp) (hd : o.dst = d) (hr : (execOp a.eval o).run P w = .ok (.enter f args) w')
    (hc : Calls P f args w' R) (h : ∀ e w'', R e w'' → ∃ v, e = .returned v ∧ K (a.put d v) w'') : wpOp P ops Q i K a w := by
  subst hd
  unfold wpOp
  simp only [hi]
  have hw : Region.wanted o (yielded ops a.tmps) = true := by simp [Region.wanted, hg]
  rw [if_pos hw]
  left
  unfold Oper.wp
  rw [hr]
  refine hc.mono ?_
  intro e w'' he
  obtain ⟨v, rfl, hk⟩ := h e w'' he
  exact hk
theorem take {md : Region.Mode} {S : World → Prop} {i : Nat} {oi : Oper} {v : Value} {fuel : Nat} {listed : Array Bool} {a : Act} {w : World} (d : Option Tmp) (hi : ops[i]? = some oi) (hd : oi.dst = d)
    (hs : Region.noSelect ops = true) (hf : Region.free md ops listed i = true) (hr : (Region.ready md ops listed).contains i = true)
    (hQ : ∀ c a w, Q (.panic c) (a.put d v) w → Q (.panic c) a w) (hy : YieldsIf P ops S oi v a) (hS : S w)
    (h : wpAnyH P md ops Q S fuel (listed.setIfInBounds i true) (a.put d v) w) : wpAnyH P md ops Q S (fuel + 1) listed a w := by
  subst hd
  exact wpAnyH_take hi hs hf hr hQ hy hS h
theorem wpOp_valueG {i : Nat} {o : Oper} {a : Act} {w w' : World} {v : Value} {K : Act → World → Prop} (hi : ops[i]? = some o) (hw : Region.wanted o (yielded ops a.tmps) = true) (d : Option Tmp) (hd : o.dst = d) (hr : (execOp a.eval o).run P w = .ok (.value v) w') (h : K (a.put d v) w') : wpOp P ops Q i K a w := by
  subst hd
  unfold wpOp
  simp only [hi]
  rw [if_pos hw]
  left
  unfold Oper.wp
  rw [hr]
  exact h
theorem wpOp_callG {i : Nat} {o : Oper} {a : Act} {w w' : World} {f : Nat} {args : Array Value} {K : Act → World → Prop} {R : Ending → World → Prop} (hi : ops[i]? = some o) (hw : Region.wanted o (yielded ops a.tmps) = true) (d : Option Tmp) (hd : o.dst = d) (hr : (execOp a.eval o).run P w = .ok (.enter f args) w')
    (hc : Calls P f args w' R) (h : ∀ e w'', R e w'' → ∃ v, e = .returned v ∧ K (a.put d v) w'') : wpOp P ops Q i K a w := by
  subst hd
  unfold wpOp
  simp only [hi]
  rw [if_pos hw]
  left
  unfold Oper.wp
  rw [hr]
  refine hc.mono ?_
  intro e w'' he
  obtain ⟨v, rfl, hk⟩ := h e w'' he
  exact hk
theorem one {md : Region.Mode} {S : World → Prop} {fuel : Nat} {listed : Array Bool} {a : Act} {w : World} (i : Nat) (hr : Region.ready md ops listed = [i])
    (h : wpOp P ops Q i (fun a' w' => S w' ∧ wpAnyH P md ops Q S fuel (listed.setIfInBounds i true) a' w') a w) : wpAnyH P md ops Q S (fuel + 1) listed a w :=
  wpAnyH_all hr (by simp) fun j hj => by rw [List.mem_singleton.1 hj]; exact h
/-- only the ordinary end -/
def only (K : Act → World → Prop) : Exit → Act → World → Prop
  | .normal, a, w => K a w
  | .exit _, _, _ => False
  | .goto _, _, _ => False
  | .ret, _, _ => False
  | .panic _, _, _ => False
  | .outgrown, _, _ => False
theorem wp_only {c : Code} {a : Act} {w : World} (h : c.wp P (only (Q .normal)) a w) : c.wp P Q a w :=
  wp_mono h fun e a w h => by cases e <;> first | exact h | exact h.elim
/-- what is asked at the end, by a name -/
theorem wpIn_named {F : Fence} {n : Nat} {c : Code} {a : Act} {w : World} (h : ∀ Q0, RowKit.Hid (Q0 = Q) → c.wpIn F n P Q0 a w) : c.wpIn F n P Q a w := h Q rfl
theorem wp_named {c : Code} {a : Act} {w : World} (h : ∀ Q0, RowKit.Hid (Q0 = Q) → c.wp P Q0 a w) : c.wp P Q a w := h Q rfl
end Go.PStep

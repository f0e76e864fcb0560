/-
  What a row holds behind one or two copies.
-/
import Derived.Test.YtnhcbcbceaeceaaPoQa
namespace Go.PRow
open Go Go.RowKit

theorem spl_end {cur : Array Value} {n m : Nat} {xs ys : List Value} (ht : cur.toList.take n = xs) (hl : xs.length = n) (hy : ys.length = m) : (spl cur n ys).toList.take (n + m) = xs ++ ys := by
  rw [spl_toList, ht, List.take_left' (by rw [List.length_append, hl, hy])]

theorem spl_fill {A : Array Value} {i m d : Nat} {ys D : List Value} (hi : i ≤ A.size) (hy : ys.length = m) (hD : D.length = d) : (spl (spl A i ys) (i + m) D).toList.take (i + m + d) = A.toList.take i ++ ys ++ D := by
  have h1 : (A.toList.take i).length = i := by rw [List.length_take, Array.length_toList]; omega
  have e1 : (spl A i ys).toList.take (i + m) = A.toList.take i ++ ys := by rw [spl_toList, List.take_left' (by rw [List.length_append, h1, hy])]
  rw [spl_toList, e1, List.take_left' (by rw [List.length_append, List.length_append, h1, hy, hD])]

theorem spl_shift {cur : Array Value} {n m i d : Nat} {xs ys D : List Value} (ht : cur.toList.take n = xs) (hi : i ≤ n) (hs : i + m ≤ cur.size) (hy : ys.length = m) (hD : D.length = d) : (spl (spl cur (i + m) D) i ys).toList.take (i + m + d) = xs.take i ++ ys ++ D := by
  have h1 : (cur.toList.take (i + m)).length = i + m := by rw [List.length_take, Array.length_toList]; omega
  have e1 : (spl cur (i + m) D).toList.take i = xs.take i := by
    rw [spl_toList, List.append_assoc, List.take_append_of_le_length (by omega), List.take_take, ← ht, List.take_take]
    congr 1
    omega
  have e2 : (spl cur (i + m) D).toList.drop (i + m) = D ++ cur.toList.drop (i + m + D.length) := by
    rw [spl_toList, List.append_assoc, List.drop_left' h1]
  have h2 : (xs.take i).length = i := by rw [← ht, List.take_take, List.length_take, Array.length_toList]; omega
  rw [spl_toList, e1, hy, e2, ← List.append_assoc, List.take_left' (by rw [List.length_append, List.length_append, h2, hy, hD])]

/-- copied in place, and what is left behind is cleared -/
theorem spl_fit {cur : Array Value} {n i d : Nat} {xs ys D Z : List Value} {m : Nat} (ht : cur.toList.take n = xs) (hi : i ≤ n) (hn : n ≤ cur.size) (hy : ys.length = m) (hD : D.length = d) (hZ : i + m + d + Z.length ≤ cur.size) : (spl (spl (spl cur i ys) (i + m) D) (i + m + d) Z).toList.take (i + m + d) = xs.take i ++ ys ++ D := by
  have h := spl_fill (A := cur) (i := i) (m := m) (d := d) (ys := ys) (D := D) (by omega) hy hD
  rw [spl_toList, List.append_assoc, List.take_append_of_le_length (by
    rw [List.length_take, Array.length_toList, spl_size, spl_size]
    · omega
    · rw [hy]; omega
    · rw [spl_size _ _ _ (by rw [hy]; omega), hD]; omega), List.take_take, Nat.min_self, h, ← ht, List.take_take]
  congr 3
  omega

/-- clear in a walk, where its run is known -/
theorem wpList_clear_run {P : Program} (w : World) {ops : Array Oper} {rest : List Oper} {o : Oper} {a : Act} {Q : Exit → Act → World → Prop} (hgd : o.guard = none) (x : Operand) (t : TypeId)
    (ho : o.op = .call { callee := .builtin .clear, args := #[x], argTypes := #[t] }) (v : Value) (hx : a.eval x = v) {v' : Value} {w' : World}
    (hr : (Builtin.clear_ #[t] o.type #[v]).run P w = .ok v' w') (h : wpList P ops Q rest (a.put o.dst v') w') : wpList P ops Q (o :: rest) a w :=
  wpList_plain hgd fun _ hK => by
    unfold Oper.wp execOp
    simp only [ho, resolve, invoke, builtin, Sem.run_bind, Sem.run_pure, Result.andThen_ok, List.map_toArray, List.map_cons, List.map_nil, hx, hr]
    exact hK _ _ h
end Go.PRow

/-
  What an append or a store leaves as it was: each block's type and size.
-/
import Derived.Test.YtlaennakglhmjaaGreatDoorLBase
import Derived.Maps.AppendAt
import Derived.Laws.OwnMore
namespace Go.Proofs.YtlaennakglhmjaaGreatDoor
open Go.RowKit Go.PlainAid Go.Lib Go.Shelf
set_option linter.unusedVariables false

def Shapes (A B : World) : Prop := ∀ (j : Nat) (cur : Array Value) (t : TypeId), A.heap[j]? = some (.cells cur t (0, 0)) → ∃ cur' : Array Value, B.heap[j]? = some (.cells cur' t (0, 0)) ∧ cur'.size = cur.size
theorem Shapes.refl (A : World) : Shapes A A := fun j cur t h => ⟨cur, h, rfl⟩
theorem Shapes.trans {A B C : World} (h : Shapes A B) (k : Shapes B C) : Shapes A C := fun j cur t e => by
  obtain ⟨c1, e1, s1⟩ := h j cur t e
  obtain ⟨c2, e2, s2⟩ := k j c1 t e1
  exact ⟨c2, e2, s2.trans s1⟩
theorem Shapes.grown {A B : World} (h : A.grownBy B none) : Shapes A B := fun j cur t e => ⟨cur, (h.block j (Array.getElem?_eq_some_iff.1 e).1 (by simp)).trans e, rfl⟩
theorem Shapes.below {A B : World} (h : Below A.heap.size A B) : Shapes A B := fun j cur t e => ⟨cur, (h.block j (Array.getElem?_eq_some_iff.1 e).1).trans e, rfl⟩
theorem Shapes.setCell (A : World) (g j : Nat) (u : Value) : Shapes A (A.setCell ⟨g, j, none⟩ u) := fun k cur t e => by
  by_cases hk : k = g
  · subst hk; exact ⟨_, heap_setCell_same A k j cur t u e, by simp⟩
  · exact ⟨cur, (heap_setCell_other A ⟨g, j, none⟩ k u hk).trans e, rfl⟩
theorem Shapes.row {A B : World} {base : Nat} {e : TypeId} {size : Nat} {v : Value} {n : Nat} {xs : List Value} (h : Shapes A B) (hr : A.ownsRow base e size v n xs) : ∃ ys, B.ownsRow base e size v n ys := by
  rcases hr.2 with ⟨rfl, rfl⟩ | ⟨g, cap, cur, rfl, hb, hg, hn, hc, hs, ht⟩
  · exact ⟨[], by simp, .inl ⟨rfl, rfl⟩⟩
  · obtain ⟨cur', e1, e2⟩ := h g cur e hg
    refine ⟨cur'.toList.take (n * size), ?_, .inr ⟨g, cap, cur', rfl, hb, e1, hn, hc, e2.trans hs, rfl⟩⟩
    rw [List.length_take, Array.length_toList, e2, hs, Nat.min_eq_left (Nat.mul_le_mul_right _ hn)]

theorem append_shapes {P : Program} (w : World) (base : Nat) (t ty e : TypeId) (i : TypeInfo) (z : Value) (size bytes : Nat) (ht : P.underlying t = some (.slice e)) (hi : P.info? e = some i) (hz : i.zero = some z)
    (hsize : i.size = size) (hby : i.bytes = bytes) (hzs : z.cells.size = size) (hsz : 0 < size)
    (v : Value) (n : Nat) (xs : List Value) (hown : w.ownsRow base e size v n xs)
    (a : Addr) (m c : Nat) (news : List Value) (hl : news.length = m * size) (hnews : ∀ j u, news[j]? = some u → w.cell? (a.add j) = some u) (h1 : ∀ u ∈ news, u.oneCell' = true)
    (h63 : n + m ≤ maxLen) (hbytes : (n + m) * bytes ≤ 140737488355328) (hbase : base ≤ w.heap.size) :
    ∃ v' w', (Builtin.append_ #[t, t] ty #[v, .slice (some a) m c]).run P w = .ok v' w' ∧ w'.ownsRow base e size v' (n + m) (xs ++ news) ∧ w.grownBy w' v.ownBlock ∧ (v'.ownBlock = v.ownBlock ∨ v'.ownBlock = some w.heap.size) ∧ Shapes w w' := by
  obtain ⟨v', w', hr, h2, h3, h4, h5⟩ := run_append_own_at (P := P) w base t ty e i z size bytes ht hi hz hsize hby hzs hsz v n xs hown a m c news hl hnews h1 h63 hbytes hbase
  refine ⟨v', w', hr, h2, h3, h5, ?_⟩
  subst hsize
  subst hby
  have hsmall : n + m ≤ 9223372036854775807 := by simp only [maxLen] at h63; omega
  rcases hown.2 with ⟨rfl, rfl⟩ | ⟨g, cap, cur, rfl, hbg, hg, hnc, hcm, hcs, htake⟩
  · exact Shapes.grown h3
  · by_cases hroom : n + m ≤ cap
    · have hfit : n * i.size + news.length ≤ cur.size := by rw [hl, hcs, ← Nat.add_mul]; exact Nat.mul_le_mul_right _ hroom
      have hr' := run_append_room (P := P) w t ty e i ht hi g n cap cur hg a m c news hl hnews h1 hroom hfit
      rw [hr] at hr'
      simp only [Result.ok.injEq] at hr'
      obtain ⟨-, rfl⟩ := hr'
      intro k cur2 t2 e2
      by_cases hk : k = g
      · subst hk
        rw [hg] at e2
        simp only [Option.some.injEq, Obj.cells.injEq] at e2
        obtain ⟨rfl, rfl, -⟩ := e2
        refine ⟨_, setRow_heap w k cur _ e _ hg, ?_⟩
        simp only [List.size_toArray, List.length_append, List.length_take, List.length_drop, Array.length_toList]
        omega
      · exact ⟨cur2, (setRow_other w g k _ hk).trans e2, rfl⟩
    · have hr' := run_append_grow (P := P) w t ty e i z ht hi hz ⟨g, 0, none⟩ n cap xs hown.1 (hown.cells (g := g) rfl) a m c news hl hnews (by omega) (by omega) (growslice_fits (by omega) hbytes)
      rw [hr] at hr'
      simp only [Result.ok.injEq] at hr'
      obtain ⟨-, rfl⟩ := hr'
      intro k cur2 t2 e2
      refine ⟨cur2, Eq.trans ?_ e2, rfl⟩
      have hlt := (Array.getElem?_eq_some_iff.1 e2).1
      exact heap_alloc_old w.drew _ hlt

theorem wpList_append_shapes {P : Program} {w : World} {ops : Array Oper} {rest : List Oper} {o : Oper} {a : Act} {Q : Exit → Act → World → Prop} (hgd : o.guard = none) (s x : Operand) (t : TypeId)
    (ho : o.op = .call { callee := .builtin .append, args := #[s, x], argTypes := #[t, t] })
    (base : Nat) (e : TypeId) (i : TypeInfo) (z : Value) (size bytes : Nat) (ht : P.underlying t = some (.slice e)) (hi : P.info? e = some i) (hz : i.zero = some z)
    (hsize : i.size = size) (hby : i.bytes = bytes) (hzs : z.cells.size = size) (hsz : 0 < size)
    (v : Value) (n : Nat) (xs : List Value) (hs : a.eval s = v) (hown : w.ownsRow base e size v n xs)
    (ad : Addr) (m c : Nat) (news : List Value) (hx : a.eval x = .slice (some ad) m c) (hl : news.length = m * size) (hnews : ∀ j u, news[j]? = some u → w.cell? (ad.add j) = some u) (h1 : ∀ u ∈ news, u.oneCell' = true)
    (h63 : n + m ≤ maxLen) (hbytes : (n + m) * bytes ≤ 140737488355328) (hbase : base ≤ w.heap.size)
    (h : ∀ v' w', w'.ownsRow base e size v' (n + m) (xs ++ news) → w.grownBy w' v.ownBlock → (v'.ownBlock = v.ownBlock ∨ v'.ownBlock = some w.heap.size) → Shapes w w' → wpList P ops Q rest (a.put o.dst v') w') :
    wpList P ops Q (o :: rest) a w := by
  refine wpList_plain hgd fun K hK => ?_
  obtain ⟨v', w', hr, h2, h3, h4, h5⟩ := append_shapes (P := P) w base t o.type e i z size bytes ht hi hz hsize hby hzs hsz v n xs hown ad m c news hl hnews h1 h63 hbytes hbase
  unfold Oper.wp execOp
  simp only [ho, resolve, invoke, builtin, Sem.run_bind, Sem.run_pure, Result.andThen_ok, List.map_toArray, List.map_cons, List.map_nil, hs, hx, hr]
  exact hK _ _ (h v' w' h2 h3 h4 h5)
end Go.Proofs.YtlaennakglhmjaaGreatDoor

/-
  Rows in a list of their own, a mark behind them.
-/
import Derived.Test.YthjnkagepooeiaaGreatDoorRwA0
import Derived.Maps.AppendAt
import Derived.Deep.Upon
namespace Go.Proofs.YthjnkagepooeiaaGreatDoor
open Go.RowKit Go.PlainAid Go.Lib Go.PHexM Go.Shelf
set_option linter.unusedVariables false
set_option linter.unusedSimpArgs false

theorem rowsC_len9 (rs : List RowD) : (rowsC rs).length = rs.length * 9 := by
  induction rs with
  | nil => rfl
  | cons x rs ih => rw [show rowsC (x :: rs) = rowC x ++ rowsC rs from rfl, List.length_append, ih, List.length_cons]; simp; omega
theorem row_cap {w : World} {base : Nat} {e : TypeId} {size n g cap : Nat} {xs : List Value} (h : w.ownsRow base e size (.slice (some ⟨g, 0, none⟩) n cap) n xs) : n ≤ cap ∧ cap ≤ 9223372036854775807 ∧ base ≤ g := by
  rcases h.2 with ⟨he, _⟩ | ⟨_, _, _, he, k0, _, k1, k2, _⟩
  · cases he
  · simp at he
    obtain ⟨rfl, rfl⟩ := he
    exact ⟨k1, k2, k0⟩
theorem rwMem_flat {w : World} {a : Option Addr} {rs : List RowD} (h : RwMem w a rs) (h0 : 0 < rs.length) : ∃ g off, a = some ⟨g, off, none⟩ ∧ ∀ j u, (rowsC rs)[j]? = some u → w.cell? ⟨g, off + j, none⟩ = some u := by
  obtain ⟨g, off, rfl, _⟩ := h 0 rs[0] (List.getElem?_eq_getElem h0)
  refine ⟨g, off, rfl, fun j u hu => ?_⟩
  have hj : j < rs.length * 9 := by have := (List.getElem?_eq_some_iff.1 hu).1; rwa [rowsC_len9] at this
  have hi : j / 9 < rs.length := by omega
  obtain ⟨g', off', e, hc⟩ := h (j / 9) rs[j / 9] (List.getElem?_eq_getElem hi)
  simp only [Option.some.injEq, Addr.mk.injEq] at e
  obtain ⟨rfl, rfl, _⟩ := e
  have e1 : j / 9 * 9 + j % 9 = j := by omega
  have := rowsC_at (List.getElem?_eq_getElem hi) (j % 9) (by omega)
  rw [e1, hu] at this
  have h2 := hc (j % 9) u this.symm
  rwa [Nat.add_assoc, e1] at h2
theorem rowsC_one (rs : List RowD) : ∀ u ∈ rowsC rs, u.oneCell' = true := by
  intro u hu
  obtain ⟨x, _, hx⟩ := List.mem_flatMap.1 hu
  simp only [List.mem_cons, List.not_mem_nil, or_false] at hx
  rcases hx with rfl | rfl | rfl | rfl | rfl | rfl | rfl | rfl | rfl <;> rfl

theorem append_rw (w : World) (base : Nat) (ty : TypeId) (v : Value) (n : Nat) (xs : List Value) (hown : w.ownsRow base 29 9 v n xs) (a : Option Addr) (m c : Nat) (rs : List RowD) (hm : rs.length = m) (hc : m ≤ c) (h : RwMem w a rs)
    (h63 : n + m ≤ maxLen) (hbytes : (n + m) * 64 ≤ 140737488355328) (hbase : base ≤ w.heap.size) :
    ∃ v' w', (Builtin.append_ #[37, 37] ty #[v, .slice a m c]).run Tryz.prog w = .ok v' w' ∧ w'.ownsRow base 29 9 v' (n + m) (xs ++ rowsC rs) ∧ w.grownBy w' v.ownBlock := by
  obtain ⟨i0, hi0, hz0, hz1, hz2⟩ := info_parts infoRow
  by_cases h0 : m = 0
  · subst h0
    have : rs = [] := List.eq_nil_of_length_eq_zero hm
    subst this
    obtain ⟨b, c', rfl⟩ := row_slice2 hown
    have hle : n ≤ c' := by
      rcases hown.2 with ⟨he, h0⟩ | ⟨g, cap, cur, he, _, _, h1, _⟩
      · simp at he; omega
      · simp at he; obtain ⟨_, rfl⟩ := he; exact h1
    refine ⟨_, _, run_append_nothing w _ _ ty _ i0 Tryz.underlying37 hi0 b n c' hle _ ?_, ?_, World.grownBy.refl _ _⟩
    · cases a with
      | none => exact Src.ofNil w Tryz.underlying37 c
      | some a => exact Src.ofSlice w Tryz.underlying37 a 0 c [] (by simp) (fun j u hu => by simp at hu) (by simp)
    · simpa [rowsC] using hown
  · obtain ⟨g, o, rfl, hcl⟩ := rwMem_flat h (by omega)
    have hl : (rowsC rs).length = m * 9 := by rw [rowsC_len9, hm]
    obtain ⟨v', w', r1, r2, r3, _⟩ := run_append_own_at (P := Tryz.prog) (w := w) base _ ty _ i0 _ 9 64 Tryz.underlying37 hi0 hz0 hz1 hz2 rfl (by decide) v n xs hown ⟨g, o, none⟩ m c (rowsC rs) hl (fun j u hu => by
      rw [Go.WideShapes.add_plain]; exact hcl j u hu) (rowsC_one rs) h63 hbytes hbase
    exact ⟨v', w', r1, r2, r3⟩

theorem wpList_append_rw {w : World} {ops : Array Oper} {rest : List Oper} {o : Oper} {a : Act} {Q : Exit → Act → World → Prop} (hgd : Region.wanted o (yielded ops a.tmps) = true) (s x : Operand)
    (ho : o.op = .call { callee := .builtin .append, args := #[s, x], argTypes := #[37, 37] })
    (base : Nat) (v : Value) (n : Nat) (xs : List Value) (hs : a.eval s = v) (hown : w.ownsRow base 29 9 v n xs) (ad : Option Addr) (m c : Nat) (rs : List RowD) (hx : a.eval x = .slice ad m c) (hm : rs.length = m) (hc : m ≤ c) (hrw : RwMem w ad rs)
    (h63 : n + m ≤ maxLen) (hbytes : (n + m) * 64 ≤ 140737488355328) (hbase : base ≤ w.heap.size)
    (h : ∀ v' w', w'.ownsRow base 29 9 v' (n + m) (xs ++ rowsC rs) → w.grownBy w' v.ownBlock → wpList Tryz.prog ops Q rest (a.put o.dst v') w') :
    wpList Tryz.prog ops Q (o :: rest) a w := by
  obtain ⟨v', w', hr, h2, h3⟩ := append_rw w base o.type v n xs hown ad m c rs hm hc hrw h63 hbytes hbase
  show (if Region.wanted o (yielded ops a.tmps) then _ else _)
  rw [if_pos hgd]
  refine .inl ?_
  unfold Oper.wp execOp
  simp only [ho, resolve, invoke, builtin, Sem.run_bind, Sem.run_pure, Result.andThen_ok, List.map_toArray, List.map_cons, List.map_nil, hs, hx, hr]
  exact h v' w' h2 h3

abbrev markR : RowD := ⟨-77, 0, 0, [], [], 0, 0, 0, false⟩
/-- rows of their own, a mark behind them -/
def LentAt (w : World) (base : Nat) (v : Value) (n : Nat) (rs : List RowD) : Prop := ∃ g cap, v = .slice (some ⟨g, 0, none⟩) n cap ∧ n + 1 ≤ cap ∧ cap ≤ maxLen ∧ base ≤ g ∧ RwMem w (some ⟨g, 0, none⟩) (rs ++ [markR])

set_option maxRecDepth 100000 in
set_option maxHeartbeats 2000000 in
theorem lent_any (rs : List RowD) (a : Option Addr) (n c : Nat) (w : World) (hn : rs.length = n) (hc : n ≤ c) (hb : n ≤ 1099511627776) (h : RwMem w a rs) :
    Calls Tryz.prog 21 #[.slice a n c] w fun e w' => ∃ v, e = .returned v ∧ LentAt w' w.heap.size v n rs ∧ Below w.heap.size w w' := by
  obtain ⟨i0, hi0, hz0, hz1, hz2⟩ := info_parts infoRow
  have HRW := hide h
  have HN := hide hn
  clear h hn
  go_enter Tryz.func21, Tryz.ntmps21
  go_wp2_with (at_builtin; first | (refine wpList_append_rw rfl _ _ rfl w.heap.size _ 0 [] rfl (World.ownsRow_nil w _ _ _) _ _ _ rs rfl (unhide HN) hc (unhide HRW) (by unfold maxLen; omega) (by omega) (Nat.le_refl _) ?_; intro v' w4 hown hgrow; rw [Nat.zero_add, List.nil_append] at hown; obtain ⟨fa, fc, rfl⟩ := row_slice2 hown; replace hgrow : w.grownBy w4 none := hgrow; have hs4 : w.heap.size ≤ w4.heap.size := hgrow.size) | (refine wpList_append_own_at _ rfl _ _ 37 rfl w.heap.size 29 i0 _ 9 64 Tryz.underlying37 hi0 hz0 hz1 hz2 rfl (by decide) _ _ _ rfl (hown.alloc _) ⟨w4.heap.size, 0, none⟩ 1 1 (rowC markR) rfl rfl (cells_new _ _ _) (by simp [Value.oneCell']) (by unfold maxLen; omega) (by omega) (by simp; omega) ?_; intro v'' w5 hown5 hgrow5 _ _; replace hgrow5 : World.grownBy _ w5 (Value.slice fa n fc).ownBlock := hgrow5; obtain ⟨g', cap', rfl⟩ := ownsRow_succ hown5; obtain ⟨hcc1, hcc2, hcc3⟩ := row_cap hown5))
  have hB4 : Below w.heap.size w w4 := belowG (e := 29) (size := 9) (v := .slice none 0 0) (Below.refl _ w) (Nat.le_refl _) (World.ownsRow_nil w w.heap.size _ _) hgrow
  have hB5 : Below w.heap.size w w5 := belowG (hB4.alloc hB4.size _) (by have := hB4.size; simp; omega) (hown.alloc _) hgrow5
  go_ret
  refine ⟨_, rfl, ⟨g', cap', rfl, hcc1, hcc2, hcc3, ?_⟩, hB5⟩
  have hra : RowsAt w5 w.heap.size (.slice (some ⟨g', 0, none⟩) (n + 1) cap') (rs ++ [markR]) := by
    have e1 : (rs ++ [markR]).length = n + 1 := by rw [List.length_append, unhide HN]; rfl
    have e2 : rowsC (rs ++ [markR]) = rowsC rs ++ rowC markR := by simp [rowsC]
    unfold RowsAt
    rw [e1, e2]
    exact hown5
  obtain ⟨a', c', e, _, hm⟩ := rowsAt_mem hra
  simp only [Value.slice.injEq] at e
  obtain ⟨rfl, _, _⟩ := e
  exact hm
end Go.Proofs.YthjnkagepooeiaaGreatDoor

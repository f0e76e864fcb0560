/-
  Rows of values, one cell each: how they lie in memory; an append of a row to a row.
-/
import Derived.Test.YtokillomaemocaaPRow2
import Derived.Test.YtokillomaemocaaTrMapW
import Derived.WalkKit
import Derived.WalkLawsBesides
import Derived.Handy
import Derived.Deep.QuietTactic
namespace Go.Proofs.Ytokillomaemocaa.VW
open Go.RowKit Go.PlainAid Go.Lib Go.PRow Go.Maps Go.TrM
set_option linter.unusedVariables false
set_option linter.unusedSimpArgs false

theorem infoE : (Try.prog.info? 34).map (fun i => (i.zero, i.size, i.bytes)) = some (some zeroE, 1, 2) := by kernel_rfl
theorem cellsE_one (xs : List El) : ∀ v ∈ xs.map enc, v.oneCell' = true := by
  intro v hv
  obtain ⟨x, _, rfl⟩ := List.mem_map.1 hv
  rfl
/-- a slice of the values xs, from the block B on -/
def RowE (W : World) (B : Nat) (v : Value) (xs : List El) : Prop := RowV W B 34 1 v xs.length (xs.map enc)
theorem RowE.form {W : World} {B : Nat} {v : Value} {xs : List El} (h : RowE W B v xs) : ∃ a cap, v = .slice a xs.length cap ∧ xs.length ≤ cap ∧ cap ≤ maxLen ∧ (a = none → xs = []) := by
  rcases h.2 with ⟨a, rfl, hn⟩ | ⟨g, cap, cur, rfl, hb, hh, hc, hm, hs, ht⟩
  · exact ⟨a, 0, by rw [hn], by omega, by unfold maxLen; omega, fun _ => List.length_eq_zero_iff.1 hn⟩
  · exact ⟨_, cap, rfl, hc, hm, fun h => by cases h⟩
theorem RowE.of {W : World} {B g cap n : Nat} {cur : Array Value} {xs : List El} (hb : B ≤ g) (hh : W.heap[g]? = some (.cells cur 34 (0, 0))) (hn : xs.length = n) (hc : n ≤ cap) (hm : cap ≤ maxLen) (hs : cur.size = cap) (ht : cur.toList.take n = xs.map enc) :
    RowE W B (.slice (some ⟨g, 0, none⟩) n cap) xs := by
  subst hn
  exact ⟨by simp, .inr ⟨g, cap, cur, rfl, hb, hh, hc, hm, by omega, by rw [Nat.mul_one]; exact ht⟩⟩
theorem RowE.kept {W W' : World} {B : Nat} {v : Value} {xs : List El} (h : RowE W B v xs) (hb : ∀ g, blk v = some g → W'.heap[g]? = W.heap[g]?) : RowE W' B v xs := RowV.kept h hb
theorem RowE.below {W W' : World} {B : Nat} {v : Value} {xs : List El} (h : RowE W B v xs) (hb : Below W.heap.size W W') : RowE W' B v xs := RowV.below h hb
theorem RowE.mono {W : World} {B B' : Nat} {v : Value} {xs : List El} (h : RowE W B v xs) (hb : B' ≤ B) : RowE W B' v xs := RowV.mono h hb
theorem RowE.lt {W : World} {B : Nat} {v : Value} {xs : List El} (h : RowE W B v xs) : ∀ g, blk v = some g → B ≤ g ∧ g < W.heap.size := RowV.lt h
theorem blk_posE {a : Addr} {n c : Nat} (h : 0 < c) : blk (.slice (some a) n c) = some a.block := by
  cases c with
  | zero => omega
  | succ c => rfl
/-- its cells -/
theorem RowE.cell {W : World} {B : Nat} {v : Value} {xs : List El} (h : RowE W B v xs) {j : Nat} {x : El} (hx : xs[j]? = some x) : ∃ g cap, v = .slice (some ⟨g, 0, none⟩) xs.length cap ∧ xs.length ≤ cap ∧ B ≤ g ∧ W.cell? ⟨g, j, none⟩ = some (enc x) := by
  have hj := (List.getElem?_eq_some_iff.1 hx).1
  rcases h.2 with ⟨a, rfl, hn⟩ | ⟨g, cap, cur, rfl, hb, hh, hc, hm, hs, ht⟩
  · omega
  · exact ⟨g, cap, rfl, hc, hb, row_cell hh ht (by omega) j _ (by rw [List.getElem?_map, hx]; rfl)⟩
theorem RowE.block {W : World} {B : Nat} {v : Value} {xs : List El} (h : RowE W B v xs) (hx : xs ≠ []) : ∃ g cap cur, v = .slice (some ⟨g, 0, none⟩) xs.length cap ∧ B ≤ g ∧ xs.length ≤ cap ∧ W.heap[g]? = some (.cells cur 34 (0, 0)) ∧ cur.size = cap ∧ cur.toList.take xs.length = xs.map enc := by
  have hl := List.length_pos_iff.2 hx
  rcases h.2 with ⟨a, rfl, hn⟩ | ⟨g, cap, cur, rfl, hb, hh, hc, hm, hs, ht⟩
  · omega
  · exact ⟨g, cap, cur, rfl, hb, hc, hh, by omega, by rw [Nat.mul_one] at ht; exact ht⟩
/-- what becomes of a slice s: s' with the values xs', in its own block or in a new one -/
def TurnedE (w w' : World) (B : Nat) (s s' : Value) (xs' : List El) : Prop :=
  RowE w' B s' xs' ∧ w.grownBy w' (blk s) ∧ (blk s' = blk s ∨ ∀ g, blk s' = some g → w.heap.size ≤ g)
theorem grown_reflE (w : World) (row : Option Nat) : w.grownBy w row := ⟨rfl, rfl, rfl, Nat.le_refl _, fun _ _ _ => rfl⟩
theorem grown_newE (w : World) (o : Obj) (row : Option Nat) : w.grownBy (w.drew.alloc o) row :=
  ⟨rfl, rfl, rfl, by simp, fun k hk _ => Below.heap_alloc w.drew o k hk⟩
/-- an append of what is there as a source -/
theorem append_src (B : Nat) (s u : Value) (xs ys : List El) (w : World) (hB : B ≤ w.heap.size) (hr : RowE w B s xs) (hu : Src Try.prog 1 24 u ys.length (ys.map enc) w) (hbig : (xs.length + ys.length) * 2 ≤ 140737488355328) :
    ∃ s' w', (∀ ty, (Builtin.append_ #[24, 24] ty #[s, u]).run Try.prog w = .ok s' w') ∧ TurnedE w w' B s s' (xs ++ ys) := by
  obtain ⟨i0, hi0, hz0, hzs, hzb⟩ := info_parts infoE
  have hsrcs := src_of_row (P := Try.prog) hr Try.underlying24 (cellsE_one xs)
  obtain ⟨a, cap, rfl, hc1, hc2, _⟩ := hr.form
  by_cases hq : ys = []
  · subst hq
    refine ⟨_, _, fun ty => run_append_none w 24 24 ty 34 i0 Try.underlying24 hi0 a xs.length cap _ (by rw [hzs]; exact hu) hc1, ⟨by simpa using hr, grown_reflE _ _, .inl rfl⟩⟩
  have hm : 0 < ys.length := List.length_pos_iff.2 hq
  by_cases hroom : xs.length + ys.length ≤ cap
  · rcases hr.2 with ⟨a', e, e'⟩ | ⟨g, cap', cur, e, hg, hh, hn, hc, hs, ht⟩
    · injection e with e1 e2 e3
      omega
    · injection e with e1 e2 e3
      subst e1; subst e3
      rw [Nat.mul_one] at hs ht
      have hfit : xs.length + (ys.map enc).length ≤ cur.size := by rw [List.length_map, hs]; omega
      refine ⟨_, _, fun ty => by
        have := run_append_inK w 24 24 ty 34 i0 Try.underlying24 hi0 g 0 xs.length cap cur _ u ys.length (ys.map enc) (by rw [hzs]; exact hu) hroom hh (by rw [hzs]; omega)
        rw [hzs, Nat.zero_add, Nat.mul_one] at this
        exact this, ⟨RowE.of (cur := spl cur xs.length (ys.map enc)) hg ?_ (by simp) hroom hc2 (by rw [spl_size _ _ _ hfit, hs]) ?_, ?_, .inl ?_⟩⟩
      · simp only [World.setRow, Array.getElem?_modify, if_true, hh, Option.map_some]
      · rw [spl_end ht (by simp) (by simp), List.map_append]
      · rw [blk_posE (by omega)]; exact setRow_grown w g _
      · rw [blk_posE (by omega), blk_posE (by omega)]
  · have hG1 : xs.length + ys.length ≤ grownCap w (xs.length + ys.length) cap 34 := grownCap_ge w _ cap 34
    have hG2 := grownCap_le_maxLen w (xs.length + ys.length) cap 34 (by unfold maxLen; omega)
    refine ⟨_, _, fun ty => by
      have := run_append_grow_src w 24 24 ty 34 i0 zeroE Try.underlying24 hi0 hz0 a xs.length cap (xs.map enc) (by rw [hzs]; exact hsrcs.cellsD) u ys.length (ys.map enc) (by rw [hzs]; exact hu) (by omega) (by omega) (by rw [hzb]; exact growslice_fits (by omega) hbig)
      exact this, ⟨RowE.of (cur := (xs.map enc ++ ys.map enc).toArray ++ Builtin.zeroCells zeroE.cells (grownCap w (xs.length + ys.length) cap 34 - (xs.length + ys.length))) hB (heap_alloc_new w.drew _) (by simp) hG1 hG2 (by
        have := zs_length zeroE (grownCap w (xs.length + ys.length) cap 34 - (xs.length + ys.length))
        rw [zs, Array.length_toList] at this
        have hz : zeroE.cells.size = 1 := rfl
        rw [hz, Nat.mul_one] at this
        rw [Array.size_append, List.size_toArray, List.length_append, this]; simp; omega) ?_, grown_newE w _ _, .inr fun g hg => ?_⟩⟩
    · rw [Array.toList_append, List.take_left' (by simp), List.map_append]
    · rw [blk_posE (by omega)] at hg
      cases hg
      exact Nat.le_refl _
theorem append_es (B Bv : Nat) (s u : Value) (xs ys : List El) (w : World) (hB : B ≤ w.heap.size) (hr : RowE w B s xs) (hu : RowE w Bv u ys) (hbig : (xs.length + ys.length) * 2 ≤ 140737488355328) :
    ∃ s' w', (∀ ty, (Builtin.append_ #[24, 24] ty #[s, u]).run Try.prog w = .ok s' w') ∧ TurnedE w w' B s s' (xs ++ ys) :=
  append_src B s u xs ys w hB hr (src_of_row (P := Try.prog) hu Try.underlying24 (cellsE_one ys)) hbig
/-- an append in a walk, where there is such a run -/
theorem wpList_appendE {w : World} {ops : Array Oper} {rest : List Oper} {o : Oper} {a : Act} {Q : Exit → Act → World → Prop} (hgd : o.guard = none) (s x : Operand) (t tn : TypeId)
    (ho : o.op = .call { callee := .builtin .append, args := #[s, x], argTypes := #[t, tn] }) (vs vx : Value) (hs : a.eval s = vs) (hx : a.eval x = vx) {Post : Value → World → Prop}
    (hr : ∃ v' w', (∀ ty, (Builtin.append_ #[t, tn] ty #[vs, vx]).run Try.prog w = .ok v' w') ∧ Post v' w') (h : ∀ v' w', Post v' w' → wpList Try.prog ops Q rest (a.put o.dst v') w') : wpList Try.prog ops Q (o :: rest) a w := by
  obtain ⟨v', w', h1, h2⟩ := hr
  exact Lib.wpList_append_run w hgd s x t tn ho vs vx hs hx v' w' (h1 _) (h v' w' h2)
end Go.Proofs.Ytokillomaemocaa.VW

/-
  slices.Clone of those pieces that meet a range: a slice within a slice.
-/
import Derived.Test.YtompifmfgjenlaaGreatPoQi
import Derived.Test.YtompifmfgjenlaaGreatPoQk
namespace Go.Proofs.YtompifmfgjenlaaGreat.VI
open Go.RowKit Go.PlainAid Go.Lib Go.PRow Go.Shelf
set_option linter.unusedVariables false
set_option linter.unusedSimpArgs false

theorem cells_mid (ps : List (Pc Int)) (f u : Nat) : cellsP ((ps.take u).drop f) = ((cellsP ps).take (u * 3)).drop (f * 3) := by
  rw [cellsP_take, cellsP_drop]
theorem src_mid {W : World} {B : Nat} {v : Value} {ps : List (Pc Int)} (hr : RowP W B v ps) (f u : Nat) (hfu : f ≤ u) (hu : u ≤ ps.length) :
    Src Tryz.prog 3 55 (midV v f u) (u - f) (cellsP ((ps.take u).drop f)) W := by
  have h1 := cellsP_one ((ps.take u).drop f)
  have hl : (cellsP ((ps.take u).drop f)).length = (u - f) * 3 := by
    rw [cellsP_len, List.length_drop, List.length_take]
    congr 1
    omega
  rcases hr.2 with ⟨a, rfl, hn⟩ | ⟨g, cap, cur, rfl, _, hh, hn, hc, hs, ht⟩
  · have e0 : f = 0 := by omega
    have e1 : u = 0 := by omega
    subst e0; subst e1
    have e : cellsP ((ps.take 0).drop 0) = [] := by simp [cellsP]
    rw [e]
    simp only [midV, if_true, Nat.sub_self]
    cases a with
    | none => exact Src.ofNil W Tryz.underlying55 0
    | some a => exact Src.ofSlice W Tryz.underlying55 a 0 0 [] (by simp) (by simp) (by simp)
  · simp only [midV]
    split
    · have e0 : u - f = 0 := by omega
      have e : cellsP ((ps.take u).drop f) = [] := List.length_eq_zero_iff.1 (by rw [hl, e0])
      rw [e, e0]
      exact Src.ofSlice W Tryz.underlying55 _ 0 0 [] (by simp) (by simp) (by simp)
    · refine Src.ofSlice W Tryz.underlying55 _ (u - f) (cap - f) _ hl (fun j x hj => ?_) h1
      have hjl := (List.getElem?_eq_some_iff.1 hj).1
      rw [hl] at hjl
      rw [cells_mid, List.getElem?_drop, List.getElem?_take, if_pos (by omega)] at hj
      show W.cell? (((⟨g, 0, none⟩ : Addr).add (f * 3)).add j) = some x
      rw [Addr.add_lit, Addr.add_lit, Nat.zero_add]
      exact row_cell hh ht (by rw [hs]; exact Nat.mul_le_mul_right _ hn) _ x hj
theorem append_new (g : Nat) (u0 : Option Addr) (vc : Nat) (qs : List (Pc Int)) (w : World) (hsrcv : Src Tryz.prog 3 55 (.slice u0 qs.length vc) qs.length (cellsP qs) w) (hbig : qs.length * 16 ≤ 140737488355328) :
    ∃ s' w', (∀ ty, (Builtin.append_ #[55, 55] ty #[.slice (some ⟨g, 0, none⟩) 0 0, .slice u0 qs.length vc]).run Tryz.prog w = .ok s' w') ∧ RowP w' w.heap.size s' qs ∧ Below w.heap.size w w' := by
  obtain ⟨i0, hi0, hz0, hzs, hzb⟩ := info_parts infoP
  have hqc := cellsP_len qs
  by_cases hq : qs = []
  · subst hq
    exact ⟨_, _, fun ty => run_append_none w 55 55 ty 58 i0 Tryz.underlying55 hi0 (some ⟨g, 0, none⟩) 0 0 _ (by rw [hzs]; exact hsrcv) (Nat.le_refl _), RowV.nil _ _ _ _ _, Below.refl _ _⟩
  have hm : 0 < qs.length := List.length_pos_iff.2 hq
  have hsrcs : Src Tryz.prog 3 55 (.slice (some ⟨g, 0, none⟩) 0 0) 0 [] w := Src.ofSlice w Tryz.underlying55 _ 0 0 [] (by simp) (by simp) (by simp)
  have hG1 : 0 + qs.length ≤ grownCap w (0 + qs.length) 0 58 := grownCap_ge w _ 0 58
  have hG2 := grownCap_le_maxLen w (0 + qs.length) 0 58 (by unfold maxLen; omega)
  refine ⟨_, _, fun ty => by
    have := run_append_grow_src w 55 55 ty 58 i0 zP Tryz.underlying55 hi0 hz0 (some ⟨g, 0, none⟩) 0 0 [] (by rw [hzs]; exact hsrcs.cellsD) (.slice u0 qs.length vc) qs.length (cellsP qs) (by rw [hzs]; exact hsrcv) (by omega) (by omega) (by rw [hzb]; exact growslice_fits (by omega) (by omega))
    exact this, RowP.of (cur := ([] ++ cellsP qs).toArray ++ Builtin.zeroCells zP.cells (grownCap w (0 + qs.length) 0 58 - (0 + qs.length))) (Nat.le_refl _) (heap_alloc_new w.drew _) (by simp) hG1 hG2 (by
      have := zs_len (grownCap w (0 + qs.length) 0 58 - (0 + qs.length))
      rw [zs, Array.length_toList] at this
      rw [Array.size_append, List.size_toArray, List.length_append, hqc, this, List.length_nil]; omega) ?_, ?_⟩
  · rw [Array.toList_append, List.nil_append, List.take_left' (by simp [hqc])]
  · have gn := grown_new w (.cells (([] ++ cellsP qs).toArray ++ Builtin.zeroCells zP.cells (grownCap w (0 + qs.length) 0 58 - (0 + qs.length))) 58) none
    exact ⟨gn.os, gn.tape, gn.output, gn.size, fun k hk => gn.block k hk (by simp)⟩

set_option maxRecDepth 100000 in
set_option maxHeartbeats 2000000 in
theorem clone_mid (B : Nat) (v : Value) (ps : List (Pc Int)) (f u : Nat) (hfu : f ≤ u) (hu : u ≤ ps.length) (w : World) (hr : RowP w B v ps) (hbig : ps.length * 16 ≤ 140737488355328) :
    Calls Tryz.prog 27 #[midV v f u] w fun e w' => ∃ v', e = .returned v' ∧ RowP w' w.heap.size v' ((ps.take u).drop f) ∧ Below w.heap.size w w' := by
  have hln : ((ps.take u).drop f).length = u - f := by rw [List.length_drop, List.length_take]; omega
  obtain ⟨a', c', e, hnone⟩ : ∃ a' c', midV v f u = .slice a' (u - f) c' ∧ (a' = none → (ps.take u).drop f = []) := by
    rcases hr.2 with ⟨a, rfl, hn⟩ | ⟨g, cap, cur, rfl, _, hh, hn, hc, hs, ht⟩
    · simp only [midV]
      rw [if_pos (by omega)]
      exact ⟨a, 0, rfl, fun _ => List.length_eq_zero_iff.1 (by omega)⟩
    · simp only [midV]
      split
      · exact ⟨_, _, rfl, fun h => by cases h⟩
      · exact ⟨_, _, rfl, fun h => by cases h⟩
  rw [e]
  cases a' with
  | none =>
    have e2 := hnone rfl
    refine Calls.mono (R := fun e w' => e = .returned (.slice none 0 0) ∧ w' = w) ?_ ?_
    · have hqn := eqNil_none
      clear hr hln e hnone
      go_enter Tryz.func27, Tryz.ntmps27
      go_wp2
      all_goals go_ret
      all_goals exact ⟨rfl, rfl⟩
    · rintro e w' ⟨rfl, rfl⟩
      rw [e2]
      exact ⟨_, rfl, RowV.nil _ _ _ _ _, Below.refl _ _⟩
  | some a' =>
    have hB1 : Below w.heap.size w (w.alloc (.cells #[] 58)) := (Below.refl _ w).alloc (Nat.le_refl _) _
    have hs := src_mid (hr.below hB1) f u hfu hu
    rw [e, ← hln] at hs
    have HAP := hide (append_new w.heap.size (some a') c' ((ps.take u).drop f) (w.alloc (.cells #[] 58)) hs (by rw [hln]; exact Nat.le_trans (Nat.mul_le_mul_right _ (by omega)) hbig))
    rw [← hln]
    generalize (ps.take u).drop f = qs at *
    clear hs e hnone hr
    refine Calls.mono (R := fun e w' => Hid (∃ v', e = .returned v' ∧ RowP w' (w.alloc (.cells #[] 58)).heap.size v' qs ∧ Below (w.alloc (.cells #[] 58)).heap.size (w.alloc (.cells #[] 58)) w')) ?_ ?_
    · have hqn := eqNil_some
      go_enter Tryz.func27, Tryz.ntmps27
      go_wp2_with (at_builtin; refine wpList_append_ex rfl _ _ _ _ rfl _ _ rfl rfl (unhide HAP) ?_; rintro v' w' ⟨ht, hx⟩)
      all_goals go_ret
      all_goals exact hide ⟨_, rfl, ht, hx⟩
    · rintro e w' h
      obtain ⟨v', rfl, ht, hx⟩ := unhide h
      exact ⟨v', rfl, ht.mono (by simp), hB1.trans (hx.mono (by simp))⟩
end Go.Proofs.YtompifmfgjenlaaGreat.VI

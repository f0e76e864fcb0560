/-
  These texts, one behind the other: PCloI, PWitI.
-/
import Derived.Test.YtnhcbcbceaeceaaPoQi
import Derived.Test.YtnhcbcbceaeceaaPoQk
import Derived.Test.YtnhcbcbceaeceaaPoQo
/-
  slices.Clone of those pieces that meet a range: a slice within a slice.
-/
namespace Go.Proofs.Ytnhcbcbceaeceaa.VI
open Go.RowKit Go.PlainAid Go.Lib Go.PRow Go.Shelf
set_option linter.unusedVariables false
set_option linter.unusedSimpArgs false

theorem cells_mid (ps : List (Pc Int)) (f u : Nat) : cellsP ((ps.take u).drop f) = ((cellsP ps).take (u * 3)).drop (f * 3) := by
  rw [cellsP_take, cellsP_drop]
theorem src_mid {W : World} {B : Nat} {v : Value} {ps : List (Pc Int)} (hr : RowP W B v ps) (f u : Nat) (hfu : f ≤ u) (hu : u ≤ ps.length) :
    Src Try.prog 3 54 (midV v f u) (u - f) (cellsP ((ps.take u).drop f)) W := by
  have h1 := cellsP_one ((ps.take u).drop f)
  have hl : (cellsP ((ps.take u).drop f)).length = (u - f) * 3 := by
    rw [cellsP_len, List.length_drop, List.length_take]
    congr 1
    omega
  rcases hr.2 with ⟨a, rfl, hn⟩ | ⟨g, cap, cur, rfl, _, hh, hn, hc, hs, ht⟩
  · have e0 : f = 0 := by omega
    have e1 : u = 0 := by omega
    subst e0; subst e1
    have e : cellsP ((ps.take 0).drop 0) = [] := by simp [cellsP]
    rw [e]
    simp only [midV, if_true, Nat.sub_self]
    cases a with
    | none => exact Src.ofNil W Try.underlying54 0
    | some a => exact Src.ofSlice W Try.underlying54 a 0 0 [] (by simp) (by simp) (by simp)
  · simp only [midV]
    split
    · have e0 : u - f = 0 := by omega
      have e : cellsP ((ps.take u).drop f) = [] := List.length_eq_zero_iff.1 (by rw [hl, e0])
      rw [e, e0]
      exact Src.ofSlice W Try.underlying54 _ 0 0 [] (by simp) (by simp) (by simp)
    · refine Src.ofSlice W Try.underlying54 _ (u - f) (cap - f) _ hl (fun j x hj => ?_) h1
      have hjl := (List.getElem?_eq_some_iff.1 hj).1
      rw [hl] at hjl
      rw [cells_mid, List.getElem?_drop, List.getElem?_take, if_pos (by omega)] at hj
      show W.cell? (((⟨g, 0, none⟩ : Addr).add (f * 3)).add j) = some x
      rw [Addr.add_lit, Addr.add_lit, Nat.zero_add]
      exact row_cell hh ht (by rw [hs]; exact Nat.mul_le_mul_right _ hn) _ x hj
theorem append_new (g : Nat) (u0 : Option Addr) (vc : Nat) (qs : List (Pc Int)) (w : World) (hsrcv : Src Try.prog 3 54 (.slice u0 qs.length vc) qs.length (cellsP qs) w) (hbig : qs.length * 16 ≤ 140737488355328) :
    ∃ s' w', (∀ ty, (Builtin.append_ #[54, 54] ty #[.slice (some ⟨g, 0, none⟩) 0 0, .slice u0 qs.length vc]).run Try.prog w = .ok s' w') ∧ RowP w' w.heap.size s' qs ∧ Below w.heap.size w w' := by
  obtain ⟨i0, hi0, hz0, hzs, hzb⟩ := info_parts infoP
  have hqc := cellsP_len qs
  by_cases hq : qs = []
  · subst hq
    exact ⟨_, _, fun ty => run_append_none w 54 54 ty 60 i0 Try.underlying54 hi0 (some ⟨g, 0, none⟩) 0 0 _ (by rw [hzs]; exact hsrcv) (Nat.le_refl _), RowV.nil _ _ _ _ _, Below.refl _ _⟩
  have hm : 0 < qs.length := List.length_pos_iff.2 hq
  have hsrcs : Src Try.prog 3 54 (.slice (some ⟨g, 0, none⟩) 0 0) 0 [] w := Src.ofSlice w Try.underlying54 _ 0 0 [] (by simp) (by simp) (by simp)
  have hG1 : 0 + qs.length ≤ grownCap w (0 + qs.length) 0 60 := grownCap_ge w _ 0 60
  have hG2 := grownCap_le_maxLen w (0 + qs.length) 0 60 (by unfold maxLen; omega)
  refine ⟨_, _, fun ty => by
    have := run_append_grow_src w 54 54 ty 60 i0 zP Try.underlying54 hi0 hz0 (some ⟨g, 0, none⟩) 0 0 [] (by rw [hzs]; exact hsrcs.cellsD) (.slice u0 qs.length vc) qs.length (cellsP qs) (by rw [hzs]; exact hsrcv) (by omega) (by omega) (by rw [hzb]; exact growslice_fits (by omega) (by omega))
    exact this, RowP.of (cur := ([] ++ cellsP qs).toArray ++ Builtin.zeroCells zP.cells (grownCap w (0 + qs.length) 0 60 - (0 + qs.length))) (Nat.le_refl _) (heap_alloc_new w.drew _) (by simp) hG1 hG2 (by
      have := zs_len (grownCap w (0 + qs.length) 0 60 - (0 + qs.length))
      rw [zs, Array.length_toList] at this
      rw [Array.size_append, List.size_toArray, List.length_append, hqc, this, List.length_nil]; omega) ?_, ?_⟩
  · rw [Array.toList_append, List.nil_append, List.take_left' (by simp [hqc])]
  · have gn := grown_new w (.cells (([] ++ cellsP qs).toArray ++ Builtin.zeroCells zP.cells (grownCap w (0 + qs.length) 0 60 - (0 + qs.length))) 60) none
    exact ⟨gn.os, gn.tape, gn.output, gn.size, fun k hk => gn.block k hk (by simp)⟩

set_option maxRecDepth 100000 in
set_option maxHeartbeats 2000000 in
theorem clone_mid (B : Nat) (v : Value) (ps : List (Pc Int)) (f u : Nat) (hfu : f ≤ u) (hu : u ≤ ps.length) (w : World) (hr : RowP w B v ps) (hbig : ps.length * 16 ≤ 140737488355328) :
    Calls Try.prog 44 #[midV v f u] w fun e w' => ∃ v', e = .returned v' ∧ RowP w' w.heap.size v' ((ps.take u).drop f) ∧ Below w.heap.size w w' := by
  have hln : ((ps.take u).drop f).length = u - f := by rw [List.length_drop, List.length_take]; omega
  obtain ⟨a', c', e, hnone⟩ : ∃ a' c', midV v f u = .slice a' (u - f) c' ∧ (a' = none → (ps.take u).drop f = []) := by
    rcases hr.2 with ⟨a, rfl, hn⟩ | ⟨g, cap, cur, rfl, _, hh, hn, hc, hs, ht⟩
    · simp only [midV]
      rw [if_pos (by omega)]
      exact ⟨a, 0, rfl, fun _ => List.length_eq_zero_iff.1 (by omega)⟩
    · simp only [midV]
      split
      · exact ⟨_, _, rfl, fun h => by cases h⟩
      · exact ⟨_, _, rfl, fun h => by cases h⟩
  rw [e]
  cases a' with
  | none =>
    have e2 := hnone rfl
    refine Calls.mono (R := fun e w' => e = .returned (.slice none 0 0) ∧ w' = w) ?_ ?_
    · have hqn := eqNil_none
      clear hr hln e hnone
      go_enter Try.func44, Try.ntmps44
      go_wp2
      all_goals go_ret
      all_goals exact ⟨rfl, rfl⟩
    · rintro e w' ⟨rfl, rfl⟩
      rw [e2]
      exact ⟨_, rfl, RowV.nil _ _ _ _ _, Below.refl _ _⟩
  | some a' =>
    have hB1 : Below w.heap.size w (w.alloc (.cells #[] 60)) := (Below.refl _ w).alloc (Nat.le_refl _) _
    have hs := src_mid (hr.below hB1) f u hfu hu
    rw [e, ← hln] at hs
    have HAP := hide (append_new w.heap.size (some a') c' ((ps.take u).drop f) (w.alloc (.cells #[] 60)) hs (by rw [hln]; exact Nat.le_trans (Nat.mul_le_mul_right _ (by omega)) hbig))
    rw [← hln]
    generalize (ps.take u).drop f = qs at *
    clear hs e hnone hr
    refine Calls.mono (R := fun e w' => Hid (∃ v', e = .returned v' ∧ RowP w' (w.alloc (.cells #[] 60)).heap.size v' qs ∧ Below (w.alloc (.cells #[] 60)).heap.size (w.alloc (.cells #[] 60)) w')) ?_ ?_
    · have hqn := eqNil_some
      go_enter Try.func44, Try.ntmps44
      go_wp2_with (at_builtin; refine wpList_append_ex rfl _ _ _ _ rfl _ _ rfl rfl (unhide HAP) ?_; rintro v' w' ⟨ht, hx⟩)
      all_goals go_ret
      all_goals exact hide ⟨_, rfl, ht, hx⟩
    · rintro e w' h
      obtain ⟨v', rfl, ht, hx⟩ := unhide h
      exact ⟨v', rfl, ht.mono (by simp), hB1.trans (hx.mono (by simp))⟩
end Go.Proofs.Ytnhcbcbceaeceaa.VI
/-
  within: what of the pieces lies in a range, as a list of its own.
-/
namespace Go.Proofs.Ytnhcbcbceaeceaa.VI
open Go.RowKit Go.PlainAid Go.Lib Go.PRow Go.Shelf
set_option linter.unusedVariables false
set_option linter.unusedSimpArgs false

/-- what of a piece lies in a range -/
def clip1 (lo hi : Int) (p : Pc Int) : Pc Int := ⟨max p.lo lo, min p.hi hi, p.val⟩
theorem cellsP_set (ps : List (Pc Int)) : ∀ (i : Nat) (p : Pc Int) (x y : Int), ps[i]? = some p → ((cellsP ps).set (i * 3) (.int .i32 x)).set (i * 3 + 1) (.int .i32 y) = cellsP (ps.set i ⟨x, y, p.val⟩) := by
  induction ps with
  | nil => intro i p x y h; simp at h
  | cons q ps ih =>
    intro i p x y h
    cases i with
    | zero =>
      simp at h; subst h
      simp [cellsP]
    | succ i =>
      have := ih i p x y (by simpa using h)
      rw [show (i + 1) * 3 = i * 3 + 1 + 1 + 1 by omega]
      simp only [cellsP, List.flatMap_cons, List.set_cons_succ, List.cons_append, List.nil_append] at this ⊢
      rw [this]
theorem RowP.set {W : World} {B g n c : Nat} {ps : List (Pc Int)} (h : RowP W B (.slice (some ⟨g, 0, none⟩) n c) ps) {i : Nat} {p : Pc Int} (hp : ps[i]? = some p) (x y : Int) :
    RowP ((W.setCell ⟨g, i * 3, none⟩ (.int .i32 x)).setCell ⟨g, i * 3 + 1, none⟩ (.int .i32 y)) B (.slice (some ⟨g, 0, none⟩) n c) (ps.set i ⟨x, y, p.val⟩) := by
  have hi := (List.getElem?_eq_some_iff.1 hp).1
  rcases h.2 with ⟨a, e, hn⟩ | ⟨g', cap, cur, e, hb, hh, hn, hc, hs, ht⟩
  · omega
  · injection e with e1 e2 e3
    injection e1 with e1
    injection e1 with e1
    subst e1; subst e2; subst e3
    rw [setCell_eq_setRow W g (i * 3) _ _ _ _ hh]
    have h2 := setRow_heap W g cur (cur.setIfInBounds (i * 3) (.int .i32 x)) _ _ hh
    rw [setCell_eq_setRow _ g (i * 3 + 1) _ _ _ _ h2]
    have h3 := setRow_heap _ g _ ((cur.setIfInBounds (i * 3) (.int .i32 x)).setIfInBounds (i * 3 + 1) (.int .i32 y)) _ _ h2
    have := RowP.of (ps := ps.set i ⟨x, y, p.val⟩) hb h3 (by simp) hn hc (by simp [hs]) (by
      rw [Array.toList_setIfInBounds, Array.toList_setIfInBounds, List.take_set, List.take_set, ht]
      exact cellsP_set ps i p x y hp)
    simpa using this
theorem RowP.at {W : World} {B g n c : Nat} {ps : List (Pc Int)} (h : RowP W B (.slice (some ⟨g, 0, none⟩) n c) ps) {i : Nat} {p : Pc Int} (hp : ps[i]? = some p) :
    W.cell? ⟨g, i * 3, none⟩ = some (.int .i32 p.lo) ∧ W.cell? ⟨g, i * 3 + 1, none⟩ = some (.int .i32 p.hi) ∧ W.frozen? ⟨g, i * 3, none⟩ = false ∧ W.frozen? ⟨g, i * 3 + 1, none⟩ = false ∧ B ≤ g ∧ g < W.heap.size := by
  have hi := (List.getElem?_eq_some_iff.1 hp).1
  rcases h.2 with ⟨a, e, hn⟩ | ⟨g', cap, cur, e, hb, hh, hn, hc, hs, ht⟩
  · omega
  · injection e with e1 e2 e3
    injection e1 with e1
    injection e1 with e1
    subst e1; subst e2; subst e3
    obtain ⟨c1, c2, _⟩ := cellsP_at ps i p hp
    have hm2 : ps.length * 3 ≤ cur.size := by rw [hs]; exact Nat.mul_le_mul_right _ hn
    exact ⟨row_cell hh ht hm2 _ _ c1, row_cell hh ht hm2 _ _ c2, by simp [World.frozen?, hh], by simp [World.frozen?, hh], hb, (Array.getElem?_eq_some_iff.1 hh).1⟩
theorem mix_at {qs : List (Pc Int)} {i : Nat} {p : Pc Int} (f : Pc Int → Pc Int) (hp : qs[i]? = some p) : ((qs.take i).map f ++ qs.drop i)[i]? = some p := by
  have hi := (List.getElem?_eq_some_iff.1 hp).1
  have hl : ((qs.take i).map f).length = i := by rw [List.length_map, List.length_take]; omega
  rw [List.getElem?_append_right (by omega), hl, Nat.sub_self, List.getElem?_drop, Nat.add_zero, hp]
theorem mix_set {qs : List (Pc Int)} {i : Nat} {p : Pc Int} (f : Pc Int → Pc Int) (hp : qs[i]? = some p) : ((qs.take i).map f ++ qs.drop i).set i (f p) = (qs.take (i + 1)).map f ++ qs.drop (i + 1) := by
  obtain ⟨hi, he⟩ := List.getElem?_eq_some_iff.1 hp
  have hl : ((qs.take i).map f).length = i := by rw [List.length_map, List.length_take]; omega
  rw [List.set_append_right _ _ (by omega), hl, Nat.sub_self, List.drop_eq_getElem_cons hi, he, List.set_cons_zero, List.take_add_one, hp]
  simp

set_option maxRecDepth 100000 in
set_option maxHeartbeats 2000000 in
theorem within_any (B : Nat) (v : Value) (ps : List (Pc Int)) (o : OkP ps) (lo hi : Int) (hlh : lo ≤ hi) (w : World) (hr : RowP w B v ps) :
    Calls Try.prog 24 #[v, .agg #[.int .i32 lo, .int .i32 hi]] w fun e w' => ∃ v', e = .returned v' ∧ RowP w' w.heap.size v' ((midP ps lo hi).map (clip1 lo hi)) ∧ Below w.heap.size w w' := by
  have hlen := okP_len o
  obtain ⟨W1, hW1⟩ : ∃ W1, W1 = w.alloc (.cells #[.int .i32 lo, .int .i32 hi] 28) := ⟨_, rfl⟩
  have hB1 : Below w.heap.size w W1 := by rw [hW1]; exact (Below.refl _ w).alloc (Nat.le_refl _) _
  have hs1 : W1.heap.size = w.heap.size + 1 := by rw [hW1]; simp
  have b1 : W1.heap[w.heap.size]? = some (.cells #[.int .i32 lo, .int .i32 hi] 28 (0, 0)) := by rw [hW1]; exact heap_alloc_new w _
  have HM : Hid (Calls Try.prog 21 #[v, .agg #[.int .i32 lo, .int .i32 hi]] (w.alloc (.cells #[.int .i32 lo, .int .i32 hi] 28)) fun e w' => e = .returned (midV v (frI ps lo) (upI ps hi)) ∧ Below W1.heap.size W1 w') := by
    have := meeting_any B v ps o lo hi hlh W1 (hr.below hB1)
    rw [← hW1]
    exact this
  have hfu : frI ps lo ≤ upI ps hi := by
    obtain ⟨A, M, C, c⟩ := cut3 o hlh
    rw [c.fr, c.up]; omega
  have HC := hide (fun V (hV : Below W1.heap.size W1 V) => clone_mid B v ps _ _ hfu (upI_le ps hi) V ((hr.below hB1).below hV) (by omega))
  have hml : (midP ps lo hi).length ≤ ps.length := by unfold midP; rw [List.length_drop, List.length_take]; omega
  change Hid (∀ V, Below W1.heap.size W1 V → Calls Try.prog 44 #[midV v (frI ps lo) (upI ps hi)] V fun e w' => ∃ v', e = .returned v' ∧ RowP w' V.heap.size v' (midP ps lo hi) ∧ Below V.heap.size V w') at HC
  generalize midP ps lo hi = qs at *
  obtain ⟨a0, cap0, rfl, -, -, -, -⟩ := hr.form
  generalize midV (.slice a0 ps.length cap0) (frI ps lo) (upI ps hi) = mv at *
  clear hr hfu
  go_enter Try.func24, Try.ntmps24
  go_wp2_with (first | (go_at_call 21; refine (unhide HM).mono ?_; rintro e V1 ⟨rfl, hv1⟩) | (go_at_call 44; refine (unhide HC V1 hv1).mono ?_; rintro e V2 ⟨v2, rfl, hr2, hb2⟩; obtain ⟨a2, cap2, rfl, hc3, hc4, hn2, hg2⟩ := hr2.form))
  have hbw1 := hB1.trans (hv1.mono hB1.size)
  have hbw2 := hbw1.trans (hb2.mono hbw1.size)
  have hsv1 := hv1.size
  have bx2 := (hb2.block _ (by omega)).trans ((hv1.block _ (by omega)).trans b1)
  clear HM HC hW1 hB1 b1 hn2 hc3
  go_loopg [13] qs.length (fun kx s13 wr => ∃ i : Nat, s13 = .int .i64 i ∧ i ≤ qs.length ∧ kx = qs.length - i ∧ RowP wr V1.heap.size (.slice a2 qs.length cap2) ((qs.take i).map (clip1 lo hi) ++ qs.drop i) ∧ wr.heap[w.heap.size]? = some (.cells #[.int .i32 lo, .int .i32 hi] 28 (0, 0)) ∧ Below w.heap.size w wr)
  case atStart => exact ⟨0, rfl, Nat.zero_le _, by simp, by simpa using hr2, bx2, hbw2⟩
  case round =>
    obtain ⟨i, rfl, hi1, rfl, hrr, hbx, hbw⟩ := hrel
    by_cases hlt : i < qs.length
    · obtain ⟨⟨pl, ph, pv⟩, hp⟩ : ∃ p, qs[i]? = some p := ⟨_, List.getElem?_eq_getElem hlt⟩
      obtain ⟨g, rfl, -, -, -, -⟩ := hg2 (by intro e; subst e; simp at hp)
      obtain ⟨c1, c2, f1, f2, hgB, hgl⟩ := hrr.at (mix_at (clip1 lo hi) hp)
      have d1 : wr.cell? ⟨w.heap.size, 0, none⟩ = some (.int .i32 lo) := by simp [World.cell?, hbx]
      have d2 : wr.cell? ⟨w.heap.size, 1, none⟩ = some (.int .i32 hi) := by simp [World.cell?, hbx]
      have hlt' : (i : Int) < (qs.length : Int) := by omega
      have q6 : IntKind.i64.wrap ((i : Int) + 1) = (i : Int) + 1 := by rw [IntKind.wrap_i64]; omega
      simp only at c1 c2
      have hmx : ∀ (w : World) (ts : Array TypeId) (t : TypeId), (Builtin.max_ ts t #[.int .i32 pl, .int .i32 lo]).run Try.prog w = .ok (.int .i32 (max pl lo)) w := fun w ts t => by
        rw [run_max_int2]
        congr 2
        omega
      have hmn : ∀ (w : World) (ts : Array TypeId) (t : TypeId), (Builtin.min_ ts t #[.int .i32 ph, .int .i32 hi]).run Try.prog w = .ok (.int .i32 (min ph hi)) w := fun w ts t => by
        rw [run_min_int2]
        congr 2
        omega
      generalize hMx : max pl lo = mx at hmx
      generalize hMn : min ph hi = mn at hmn
      go_wp2_with fail
      refine MixW.start (by kernel_rfl) ?_
      refine MixW.seg (C := fun w' => ∃ n, w' = wr.drewN n) 0 10 3 (by kernel_rfl) ⟨1, rfl⟩ ?_
      simp only [Nat.reduceAdd, List.take_succ_cons, List.take_zero, List.drop_zero]
      repeat (go_big_quiet_step (fail))
      refine wpQuiet_nil ?_
      rintro _ ⟨q, rfl⟩
      have e1 : (wr.drewN q).cell? ⟨g, i * 3, none⟩ = some (.int .i32 pl) := c1
      have e2 : (wr.drewN q).frozen? ⟨g, i * 3, none⟩ = false := f1
      refine MixW.loud 3 10 0 _ _ (by decide) (by kernel_rfl) ?_
      simp only [Nat.reduceAdd, List.drop_succ_cons, List.drop_zero, List.take_succ_cons, List.take_zero]
      go_wp2_with fail
      obtain ⟨Y, hY⟩ : ∃ Y, (wr.drewN q).setCell ⟨g, i * 3, none⟩ (.int .i32 mx) = Y := ⟨_, rfl⟩
      rw [hY]
      refine ⟨by kernel_rfl, ?_⟩
      try simp only [Exit.then]
      have hgw : g ≠ w.heap.size := by omega
      have y2 : Y.cell? ⟨g, i * 3 + 1, none⟩ = some (.int .i32 ph) := by rw [← hY]; exact (World.cell?_setCell_other _ _ _ _ (by simp)).trans c2
      have z2 : Y.frozen? ⟨g, i * 3 + 1, none⟩ = false := by
        rw [← hY, World.frozen?_setCell]
        exact f2
      have x1 : Y.cell? ⟨w.heap.size, 0, none⟩ = some (.int .i32 lo) := by rw [← hY]; exact (World.cell?_setCell_other _ _ _ _ (by first | (simp; omega) | simp)).trans d1
      have x2 : Y.cell? ⟨w.heap.size, 1, none⟩ = some (.int .i32 hi) := by rw [← hY]; exact (World.cell?_setCell_other _ _ _ _ (by first | (simp; omega) | simp)).trans d2
      have HY := hide hY
      clear hY c1 c2 f1 f2 d1 d2 e1 e2 hmx
      go_wp2_with fail
      refine MixW.start (by kernel_rfl) ?_
      refine MixW.seg (C := fun w' => ∃ n, w' = Y.drewN n) 0 10 3 (by kernel_rfl) ⟨1, rfl⟩ ?_
      simp only [Nat.reduceAdd, List.take_succ_cons, List.take_zero, List.drop_zero]
      repeat (go_big_quiet_step (fail))
      refine wpQuiet_nil ?_
      rintro _ ⟨q2, rfl⟩
      have e1 : (Y.drewN q2).cell? ⟨g, i * 3 + 1, none⟩ = some (.int .i32 ph) := y2
      have e2 : (Y.drewN q2).frozen? ⟨g, i * 3 + 1, none⟩ = false := z2
      refine MixW.loud 3 10 0 _ _ (by decide) (by kernel_rfl) ?_
      simp only [Nat.reduceAdd, List.drop_succ_cons, List.drop_zero, List.take_succ_cons, List.take_zero]
      go_wp2_with fail
      obtain ⟨Z, hZ⟩ : ∃ Z, (Y.drewN q2).setCell ⟨g, i * 3 + 1, none⟩ (.int .i32 mn) = Z := ⟨_, rfl⟩
      rw [hZ]
      refine ⟨by kernel_rfl, ?_⟩
      try simp only [Exit.then]
      have HZ := hide hZ
      clear hZ e1 e2 y2 z2 x1 x2 hmn
      go_wp2
      go_roundg (qs.length - (i + 1))
      case measure => omega
      case rel =>
        have hset := hrr.set (mix_at (clip1 lo hi) hp) mx mn
        have e5 : ((qs.take i).map (clip1 lo hi) ++ qs.drop i).set i ⟨mx, mn, pv⟩ = (qs.take (i + 1)).map (clip1 lo hi) ++ qs.drop (i + 1) := by
          rw [← mix_set (clip1 lo hi) hp]
          congr 1
          simp only [clip1, hMx, hMn]
        have hrow : RowP Z V1.heap.size (.slice (some ⟨g, 0, none⟩) qs.length cap2) ((qs.take (i + 1)).map (clip1 lo hi) ++ qs.drop (i + 1)) := by
          rw [← e5]
          refine hset.kept fun k hk => ?_
          rw [← unhide HZ, ← unhide HY]
          rfl
        refine ⟨i + 1, by simp, by omega, rfl, hrow, ?_, ?_⟩
        · rw [← unhide HZ]
          refine (Below.heap_setCell _ _ _ _ (by show w.heap.size ≠ g; omega)).trans ?_
          show Y.heap[w.heap.size]? = _
          rw [← unhide HY]
          exact (Below.heap_setCell _ _ _ _ (by show w.heap.size ≠ g; omega)).trans hbx
        · have b1 : Below w.heap.size w Y := by
            rw [← unhide HY]
            exact Below.setCell (show Below w.heap.size w (wr.drewN q) from ⟨hbw.os, hbw.tape, hbw.output, hbw.size, hbw.block⟩) (by show w.heap.size ≤ g; omega) _
          rw [← unhide HZ]
          exact Below.setCell (show Below w.heap.size w (Y.drewN q2) from ⟨b1.os, b1.tape, b1.output, b1.size, b1.block⟩) (by show w.heap.size ≤ g; omega) _
    · have hin : i = qs.length := by omega
      have hlt' : ¬ ((i : Int) < (qs.length : Int)) := by omega
      rw [hin, List.take_length, List.drop_length, List.append_nil] at hrr
      go_wp2
      go_ret
      exact ⟨_, rfl, hrr.mono (by omega), hbw⟩
end Go.Proofs.Ytnhcbcbceaeceaa.VI

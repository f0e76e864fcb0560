/-
  These texts, one behind the other: PTuIB, PTuBS, PTuIS, PTuZ.
-/
import Derived.Test.YtompifmfgjenlaaGreatPTuM
import Derived.Test.YtompifmfgjenlaaGreatPStr2I
import Derived.Test.YtompifmfgjenlaaGreatPLayB
import Derived.OwnWalkIn
import Derived.BigFrameIn
import Derived.Test.YtompifmfgjenlaaGreatPStr2B
import Derived.Test.YtompifmfgjenlaaGreatPLayS
/-
  Turn, of int to bool: a map whose values are turned.
-/
namespace Go.Proofs.YtompifmfgjenlaaGreat
open Go.RowKit Go.PlainAid Go.Lib Go.PRow Go.Shelf Go.Seq4
attribute [local go_sem] Oper.semAt_some
set_option linter.unusedVariables false
set_option linter.unusedSimpArgs false

theorem fvPTuIB_any (x : Int) (w : World) :
    Calls Tryz.prog 9 #[Value.int .i64 x] w fun e w' => e = .returned (Value.bool (evB x)) ∧ w' = w := by
  unfold evB
  go_enter Tryz.func9, Tryz.ntmps9
  go_wp2
  go_ret
  exact ⟨rfl, rfl⟩

theorem own_PTuIB {β : Type} (B Bq b : Nat) (f : β → List (Pc Bool)) : OwnFrom B (fun x W => ∃ vs, VB.IsMap W b vs ∧ VB.RowP W Bq vs (f x)) := by
  rintro x W W' row ⟨vs, h1, h2⟩ hg hr
  have h1' : W.heap[b]? = some (.cells #[.bool true, vs] 122 (0, 0)) := h1
  refine ⟨vs, (grownBy_keeps_cells hg (fun r e => (hr r e).2) h1' rfl).trans h1', h2.kept fun g hgk => ?_⟩
  obtain ⟨cur, hc⟩ := rowV_blkT h2 hgk
  exact grownBy_keeps_cells hg (fun r e => (hr r e).2) hc rfl
theorem moved_PTuIB {W W' : World} {b B : Nat} {v v' : Value} {ps : List (Pc Bool)} (hm : VB.Moved W W' b v v') (hM : VB.IsMap W b v) (hr : VB.RowP W B v ps) : KeepsOthers W W' := by
  have hM' : W.heap[b]? = some (.cells #[.bool true, v] 122 (0, 0)) := hM
  refine ⟨hm.2.1.size, fun k ob hk ho => (hm.2.1.block k (Array.getElem?_eq_some_iff.1 hk).1 ?_).trans hk⟩
  rintro (e | e)
  · subst e; rw [hM'] at hk; cases hk; cases ho
  · obtain ⟨cur, hc⟩ := rowV_blkT hr e
    rw [hc] at hk; cases hk; cases ho

set_option maxRecDepth 100000 in
set_option maxHeartbeats 4000000 in
theorem turn_PTuIB (b : Nat) (v : Value) (B : Nat) (ps : List (Pc Int)) (o : OkP ps) (w : World) (h : VI.IsMap w b v) (hr : VI.RowP w B v ps) :
    Calls Tryz.prog 8 #[.pointer (some ⟨b, 0, none⟩), (.func (.func 9) #[] #[])] w fun e w' => ∃ bm u, e = .returned (.pointer (some ⟨bm, 0, none⟩)) ∧ VB.IsMap w' bm u ∧ VB.RowP w' w.heap.size u (turP evB (strsP VI.eqv ps)) ∧ w.heap.size ≤ bm ∧ Below w.heap.size w w' := by
  have hbl := h.lt
  refine (callsIn_wide (n := 8)).1 ?_
  refine callsIn_of_wp_marks Tryz.func8 rfl trivial ?_ rfl
  simp only [Tryz.ntmps8, List.size_toArray, List.length_cons, List.length_nil, Nat.reduceAdd, Nat.reduceSub, Array.replicate_succ, Array.replicate_zero, List.push_toArray, List.append_toArray, List.nil_append, List.cons_append]
  have hF : ∀ f, Fence.wide.fn f := fun _ => trivial
  gi_wp2_with (first | (gi_at_call 35; with_reducible refine CallsIn.mono (callsIn_wide.2 (VB.new_any _)) ?_; rintro e V6 ⟨rfl, rfl⟩) | (gi_at_call 36; with_reducible refine CallsIn.mono (callsIn_wide.2 (VI.all_in b _)) ?_; rintro e V7 ⟨rfl, rfl⟩))
  obtain ⟨W0, hW0⟩ : ∃ W0, (((w.alloc (.cells #[(.func (.func 9) #[] #[])] 32)).alloc (.cells #[.bool true, .slice none 0 0] 122)).alloc (.cells #[.pointer (some ⟨w.heap.size + 1, 0, none⟩)] 30)).alloc (.cells #[.pointer (some ⟨b, 0, none⟩)] 24) = W0 := ⟨_, rfl⟩
  have hsz : W0.heap.size = w.heap.size + 4 := by rw [← hW0]; simp
  have hB0 : Below w.heap.size w W0 := by rw [← hW0]; go_grown
  have b0 : W0.heap[w.heap.size]? = some (.cells #[(.func (.func 9) #[] #[])] 32 (0, 0)) := by
    rw [← hW0]
    rw [Below.heap_alloc _ _ _ (by simp; omega), Below.heap_alloc _ _ _ (by simp; omega), Below.heap_alloc _ _ _ (by simp)]
    exact heap_alloc_new w _
  have b1 : W0.heap[w.heap.size + 1]? = some (.cells #[.bool true, .slice none 0 0] 122 (0, 0)) := by
    rw [← hW0]
    rw [Below.heap_alloc _ _ _ (by simp), Below.heap_alloc _ _ _ (by simp)]
    have := heap_alloc_new (w.alloc (.cells #[(.func (.func 9) #[] #[])] 32)) (.cells #[.bool true, .slice none 0 0] 122)
    simpa using this
  have b2 : W0.heap[w.heap.size + 1 + 1]? = some (.cells #[.pointer (some ⟨w.heap.size + 1, 0, none⟩)] 30 (0, 0)) := by
    rw [← hW0]
    rw [Below.heap_alloc _ _ _ (by simp)]
    have := heap_alloc_new ((w.alloc (.cells #[(.func (.func 9) #[] #[])] 32)).alloc (.cells #[.bool true, .slice none 0 0] 122)) (.cells #[.pointer (some ⟨w.heap.size + 1, 0, none⟩)] 30)
    simpa using this
  have b3 : W0.heap[w.heap.size + 1 + 1 + 1]? = some (.cells #[.pointer (some ⟨b, 0, none⟩)] 24 (0, 0)) := by
    rw [← hW0]
    have := heap_alloc_new (((w.alloc (.cells #[(.func (.func 9) #[] #[])] 32)).alloc (.cells #[.bool true, .slice none 0 0] 122)).alloc (.cells #[.pointer (some ⟨w.heap.size + 1, 0, none⟩)] 30)) (.cells #[.pointer (some ⟨b, 0, none⟩)] 24)
    simpa using this
  have hr0 : VI.RowP W0 0 v ps := (hr.below hB0).mono (Nat.zero_le _)
  have hm0 := h.below hB0
  have hSO : OkP (strsP VI.eqv ps) := strs_ok VI.eqv o
  have fnil : ∀ W : World, (binOp .neq 32 (.func (.func 9) #[] #[]) .nilFunc).run Tryz.prog W = .ok (.bool true) W := fun _ => by kernel_rfl
  rw [hW0]
  clear hW0
  refine range4 (by omega) (gf := 72) (lb := #[.pointer (some ⟨w.heap.size + 1 + 1 + 1, 0, none⟩)]) rfl (enters_of Tryz.func72 (by kernel_rfl) rfl)
    (VI.all_gives ps o _ (w.heap.size + 1 + 1 + 1) b v (by omega) W0 b3 hm0 hr0) (Below.refl _ _) (fun _ => by rfl)
    (fun pre V => (∃ vs, VB.IsMap V (w.heap.size + 1) vs ∧ VB.RowP V (W0.heap.size + 2 + VI.T4) vs (turP evB pre)) ∧ V.heap[w.heap.size]? = some (.cells #[(.func (.func 9) #[] #[])] 32 (0, 0)) ∧ V.heap[w.heap.size + 1 + 1]? = some (.cells #[.pointer (some ⟨w.heap.size + 1, 0, none⟩)] 30 (0, 0)) ∧ Below w.heap.size w V ∧ W0.heap.size ≤ V.heap.size)
    (fun c pre V => False)
    ((own_PTuIB _ _ _ (fun pre : List (Pc Int) => turP evB pre)).and ((own_block _ _ _ rfl).and ((own_block _ _ _ rfl).and ((ownFrom_below (Nat.le_refl _) (by omega)).and (own_size _ _)))))
    (fun c => own_pure _ _) (CalmR.none _ _ _) ⟨⟨_, b1, RowV.nil _ _ _ _ _⟩, b0, b2, hB0, Nat.le_refl _⟩
    (fun x a' V => ∃ Bx, V.heap[Bx]? = some (.cells #[.int .i32 x.lo, .int .i32 x.hi] 41 (0, 0)) ∧ W0.heap.size ≤ Bx ∧ a' = { tmps := #[.pointer (some ⟨b, 0, none⟩), (.func (.func 9) #[] #[]), undef, .pointer (some ⟨w.heap.size, 0, none⟩), .pointer none, .pointer (some ⟨w.heap.size + 1 + 1, 0, none⟩), .pointer (some ⟨Bx, 0, none⟩), Value.int .i64 x.val, undef, .pointer (some ⟨w.heap.size + 1, 0, none⟩), .pointer (some ⟨b, 0, none⟩), .func (.func 72) #[] #[.pointer (some ⟨w.heap.size + 1 + 1 + 1, 0, none⟩)], .agg #[.int .i32 x.lo, .int .i32 x.hi], Value.int .i64 x.val, undef, undef, undef, undef, undef, undef, undef, undef, undef, undef], defers := [] })
    (fun x a' st A B row hx hg hr => by
        obtain ⟨Bx, h1, h2, h3⟩ := hx
        exact ⟨Bx, own_block (β := Unit) _ _ _ rfl () A B row h1 hg hr, h2, h3⟩) ?assign ?body ?done ?stop
  case assign =>
    rintro l2 pre x V K hsz2 ⟨⟨vs, h1, h2⟩, h3, h4, h5, h6⟩ hK
    gi_wp2
    obtain ⟨V1, hV1⟩ : ∃ V1, V.alloc (.cells #[.int .i32 x.lo, .int .i32 x.hi] 41) = V1 := ⟨_, rfl⟩
    rw [hV1]
    have hb1 : Below V.heap.size V V1 := by rw [← hV1]; exact (Below.refl _ V).alloc (Nat.le_refl _) _
    have hn1 : V1.heap[V.heap.size]? = some (.cells #[.int .i32 x.lo, .int .i32 x.hi] 41 (0, 0)) := by rw [← hV1]; exact heap_alloc_new V _
    have ko : KeepsOthers V V1 := by rw [← hV1]; exact KeepsOthers.alloc _ _
    have kb : ∀ k (ob : Obj), V.heap[k]? = some ob → V1.heap[k]? = some ob := fun k ob hk => (hb1.block k (Array.getElem?_eq_some_iff.1 hk).1).trans hk
    exact hK _ _ (ko.from _) ⟨ko.walks, fun k ob hk _ hx => kb k ob hx⟩ ⟨⟨vs, VB.IsMap.below h1 hb1, VB.RowP.below h2 hb1⟩, kb _ _ h3, kb _ _ h4, h5.trans (hb1.mono h5.size), Nat.le_trans h6 hb1.size⟩ ⟨V.heap.size, hn1, by omega, rfl⟩
  case body =>
    rintro l2 pre x a' V hl hsz2 ⟨r, hr⟩ ⟨⟨vs, h1, h2⟩, h3, h4, h5, h6⟩ ⟨Bx, hx1, hx2, rfl⟩ hSp
    have z0 : V.cell? ⟨Bx, 0, none⟩ = some (.int .i32 x.lo) := cellTu hx1 rfl
    have z1 : V.cell? ⟨Bx, 1, none⟩ = some (.int .i32 x.hi) := cellTu hx1 rfl
    have z4 : V.cell? ⟨w.heap.size, 0, none⟩ = some (.func (.func 9) #[] #[]) := cellTu h3 rfl
    have z5 : V.cell? ⟨w.heap.size + 1 + 1, 0, none⟩ = some (.pointer (some ⟨w.heap.size + 1, 0, none⟩)) := cellTu h4 rfl
    obtain ⟨tl, htl⟩ := hSp
    have hok : OkP ((pre ++ [x]) ++ tl) := by rw [htl]; exact hSO
    have hokp : OkP pre := ⟨hok.1.sublist ((List.sublist_append_left pre [x]).trans (List.sublist_append_left _ tl)), fun p hp => hok.2 p (by simp [hp])⟩
    have hx := hok.2 x (by simp)
    have hbh : ∀ p ∈ turP evB pre, p.hi < x.lo := fun p hp => by
      obtain ⟨y, hy, rfl⟩ := List.mem_map.1 hp
      have := List.pairwise_append.1 (List.pairwise_append.1 hok.1).1
      exact this.2.2 y hy x (by simp)
    have hLay := VB.lay_ok (w.heap.size + 1) vs (W0.heap.size + 2 + VI.T4) (turP evB pre) (turP_ok evB hokp) x.lo x.hi (mayB_iff.2 hx) (evB x.val) V h1 (by omega) h2
    rw [rep_snoc (turP_ok evB hokp) hx.2.1 hbh] at hLay
    have HLAY := hide (fun m => (callsIn_wide (n := m) |>.2 hLay).inRound l2)
    have HGV := hide (fun m V' => (callsIn_wide (n := m) |>.2 (fvPTuIB_any x.val V')).inRound l2)
    gi_wp2_with (first | (gi_at_call 9; with_reducible refine CallsIn.mono (unhide HGV _ _) ?_; rintro e w4 ⟨rfl, hv4⟩; obtain rfl : V = w4 := hv4.symm) | (gi_at_call 37; with_reducible refine CallsIn.mono (unhide HLAY _) ?_; rintro e w5 ⟨rfl, v5, hr5, hm5⟩))
    have ko : KeepsOthers V w5 := moved_PTuIB hm5 h1 h2
    have hfar : ∀ g, blk vs = some g → W0.heap.size + 2 + VI.T4 ≤ g := fun g hg => (RowV.lt h2 g hg).1
    have kb : ∀ k (ob : Obj), V.heap[k]? = some ob → k ≠ w.heap.size + 1 → blk vs ≠ some k → w5.heap[k]? = some ob := fun k ob hk h1 h2 => by
      have hlt := (Array.getElem?_eq_some_iff.1 hk).1
      refine (hm5.2.1.block k hlt (fun e => ?_)).trans hk
      rcases e with e | e
      · exact h1 e
      · exact h2 e
    refine ⟨ko.from _, ⟨ko.walks, fun k ob hk _ hx => ?_⟩, ⟨v5, hm5.1, ?_⟩, kb _ _ h3 (by omega) (fun e => by have := hfar _ e; omega), kb _ _ h4 (by omega) (fun e => by have := hfar _ e; omega), ?_, ?_⟩
    · rcases hk with hk | hk
      · exact kb k ob hx (by omega) (fun e => by have := hfar _ e; omega)
      · exact hk.elim
    · rw [turP_app]
      exact hr5
    · exact hm5.2.1.below h5 (by have := h5.size; omega) (fun k hk => by
        rcases hk with e | e
        · omega
        · have := hfar _ e; omega)
    · have := hm5.2.1.size; omega
  case done =>
    rintro D xs V hD hS ⟨⟨vs, h1, h2⟩, h3, h4, h5, h6⟩ hK
    subst hS
    have c0 : V.cell? ⟨w.heap.size + 1 + 1, 0, none⟩ = some (.pointer (some ⟨w.heap.size + 1, 0, none⟩)) := cellTu h4 rfl
    gi_wp2
    refine ⟨by simp, .inl ⟨_, _, rfl, run_takeDeferred hK, ?_⟩⟩
    have h1' : V.heap[w.heap.size + 1]? = some (.cells #[.bool true, vs] 122 (0, 0)) := h1
    refine ⟨_, results_tmp rfl _ _ _, _, vs, rfl, (World.putObj_heap_other (by omega)).trans h1', (VB.RowP.mono h2 (by omega)).kept fun g hg => World.putObj_heap_other ?_, by omega, below_put h5 (by omega) _⟩
    rintro rfl
    obtain ⟨cur, hc⟩ := rowV_blkT h2 hg
    rw [hc] at hK
    cases hK
  case stop =>
    rintro D c pre V hD hSp hx hK
    exact hx.elim
end Go.Proofs.YtompifmfgjenlaaGreat
/-
  Turn, of bool to string: a map whose values are turned.
-/
namespace Go.Proofs.YtompifmfgjenlaaGreat
open Go.RowKit Go.PlainAid Go.Lib Go.PRow Go.Shelf Go.Seq4
attribute [local go_sem] Oper.semAt_some
set_option linter.unusedVariables false
set_option linter.unusedSimpArgs false

theorem fvPTuBS_any (x : Bool) (w : World) :
    Calls Tryz.prog 10 #[Value.bool x] w fun e w' => e = .returned (Value.string (evS x)) ∧ w' = w := by
  unfold evS
  cases x
  all_goals
    go_enter Tryz.func10, Tryz.ntmps10
    go_wp2
    go_ret
    exact ⟨rfl, rfl⟩

theorem own_PTuBS {β : Type} (B Bq b : Nat) (f : β → List (Pc ByteArray)) : OwnFrom B (fun x W => ∃ vs, VS.IsMap W b vs ∧ VS.RowP W Bq vs (f x)) := by
  rintro x W W' row ⟨vs, h1, h2⟩ hg hr
  have h1' : W.heap[b]? = some (.cells #[.bool true, vs] 99 (0, 0)) := h1
  refine ⟨vs, (grownBy_keeps_cells hg (fun r e => (hr r e).2) h1' rfl).trans h1', h2.kept fun g hgk => ?_⟩
  obtain ⟨cur, hc⟩ := rowV_blkT h2 hgk
  exact grownBy_keeps_cells hg (fun r e => (hr r e).2) hc rfl
theorem moved_PTuBS {W W' : World} {b B : Nat} {v v' : Value} {ps : List (Pc ByteArray)} (hm : VS.Moved W W' b v v') (hM : VS.IsMap W b v) (hr : VS.RowP W B v ps) : KeepsOthers W W' := by
  have hM' : W.heap[b]? = some (.cells #[.bool true, v] 99 (0, 0)) := hM
  refine ⟨hm.2.1.size, fun k ob hk ho => (hm.2.1.block k (Array.getElem?_eq_some_iff.1 hk).1 ?_).trans hk⟩
  rintro (e | e)
  · subst e; rw [hM'] at hk; cases hk; cases ho
  · obtain ⟨cur, hc⟩ := rowV_blkT hr e
    rw [hc] at hk; cases hk; cases ho

set_option maxRecDepth 100000 in
set_option maxHeartbeats 4000000 in
theorem turn_PTuBS (b : Nat) (v : Value) (B : Nat) (ps : List (Pc Bool)) (o : OkP ps) (w : World) (h : VB.IsMap w b v) (hr : VB.RowP w B v ps) :
    Calls Tryz.prog 7 #[.pointer (some ⟨b, 0, none⟩), (.func (.func 10) #[] #[])] w fun e w' => ∃ bm u, e = .returned (.pointer (some ⟨bm, 0, none⟩)) ∧ VS.IsMap w' bm u ∧ VS.RowP w' w.heap.size u (turP evS (strsP VB.eqv ps)) ∧ w.heap.size ≤ bm ∧ Below w.heap.size w w' := by
  have hbl := h.lt
  refine (callsIn_wide (n := 8)).1 ?_
  refine callsIn_of_wp_marks Tryz.func7 rfl trivial ?_ rfl
  simp only [Tryz.ntmps7, List.size_toArray, List.length_cons, List.length_nil, Nat.reduceAdd, Nat.reduceSub, Array.replicate_succ, Array.replicate_zero, List.push_toArray, List.append_toArray, List.nil_append, List.cons_append]
  have hF : ∀ f, Fence.wide.fn f := fun _ => trivial
  gi_wp2_with (first | (gi_at_call 20; with_reducible refine CallsIn.mono (callsIn_wide.2 (VS.new_any _)) ?_; rintro e V6 ⟨rfl, rfl⟩) | (gi_at_call 34; with_reducible refine CallsIn.mono (callsIn_wide.2 (VB.all_in b _)) ?_; rintro e V7 ⟨rfl, rfl⟩))
  obtain ⟨W0, hW0⟩ : ∃ W0, (((w.alloc (.cells #[(.func (.func 10) #[] #[])] 33)).alloc (.cells #[.bool true, .slice none 0 0] 99)).alloc (.cells #[.pointer (some ⟨w.heap.size + 1, 0, none⟩)] 28)).alloc (.cells #[.pointer (some ⟨b, 0, none⟩)] 30) = W0 := ⟨_, rfl⟩
  have hsz : W0.heap.size = w.heap.size + 4 := by rw [← hW0]; simp
  have hB0 : Below w.heap.size w W0 := by rw [← hW0]; go_grown
  have b0 : W0.heap[w.heap.size]? = some (.cells #[(.func (.func 10) #[] #[])] 33 (0, 0)) := by
    rw [← hW0]
    rw [Below.heap_alloc _ _ _ (by simp; omega), Below.heap_alloc _ _ _ (by simp; omega), Below.heap_alloc _ _ _ (by simp)]
    exact heap_alloc_new w _
  have b1 : W0.heap[w.heap.size + 1]? = some (.cells #[.bool true, .slice none 0 0] 99 (0, 0)) := by
    rw [← hW0]
    rw [Below.heap_alloc _ _ _ (by simp), Below.heap_alloc _ _ _ (by simp)]
    have := heap_alloc_new (w.alloc (.cells #[(.func (.func 10) #[] #[])] 33)) (.cells #[.bool true, .slice none 0 0] 99)
    simpa using this
  have b2 : W0.heap[w.heap.size + 1 + 1]? = some (.cells #[.pointer (some ⟨w.heap.size + 1, 0, none⟩)] 28 (0, 0)) := by
    rw [← hW0]
    rw [Below.heap_alloc _ _ _ (by simp)]
    have := heap_alloc_new ((w.alloc (.cells #[(.func (.func 10) #[] #[])] 33)).alloc (.cells #[.bool true, .slice none 0 0] 99)) (.cells #[.pointer (some ⟨w.heap.size + 1, 0, none⟩)] 28)
    simpa using this
  have b3 : W0.heap[w.heap.size + 1 + 1 + 1]? = some (.cells #[.pointer (some ⟨b, 0, none⟩)] 30 (0, 0)) := by
    rw [← hW0]
    have := heap_alloc_new (((w.alloc (.cells #[(.func (.func 10) #[] #[])] 33)).alloc (.cells #[.bool true, .slice none 0 0] 99)).alloc (.cells #[.pointer (some ⟨w.heap.size + 1, 0, none⟩)] 28)) (.cells #[.pointer (some ⟨b, 0, none⟩)] 30)
    simpa using this
  have hr0 : VB.RowP W0 0 v ps := (hr.below hB0).mono (Nat.zero_le _)
  have hm0 := h.below hB0
  have hSO : OkP (strsP VB.eqv ps) := strs_ok VB.eqv o
  have fnil : ∀ W : World, (binOp .neq 33 (.func (.func 10) #[] #[]) .nilFunc).run Tryz.prog W = .ok (.bool true) W := fun _ => by kernel_rfl
  rw [hW0]
  clear hW0
  refine range4 (by omega) (gf := 67) (lb := #[.pointer (some ⟨w.heap.size + 1 + 1 + 1, 0, none⟩)]) rfl (enters_of Tryz.func67 (by kernel_rfl) rfl)
    (VB.all_gives ps o _ (w.heap.size + 1 + 1 + 1) b v (by omega) W0 b3 hm0 hr0) (Below.refl _ _) (fun _ => by rfl)
    (fun pre V => (∃ vs, VS.IsMap V (w.heap.size + 1) vs ∧ VS.RowP V (W0.heap.size + 2 + VB.T4) vs (turP evS pre)) ∧ V.heap[w.heap.size]? = some (.cells #[(.func (.func 10) #[] #[])] 33 (0, 0)) ∧ V.heap[w.heap.size + 1 + 1]? = some (.cells #[.pointer (some ⟨w.heap.size + 1, 0, none⟩)] 28 (0, 0)) ∧ Below w.heap.size w V ∧ W0.heap.size ≤ V.heap.size)
    (fun c pre V => False)
    ((own_PTuBS _ _ _ (fun pre : List (Pc Bool) => turP evS pre)).and ((own_block _ _ _ rfl).and ((own_block _ _ _ rfl).and ((ownFrom_below (Nat.le_refl _) (by omega)).and (own_size _ _)))))
    (fun c => own_pure _ _) (CalmR.none _ _ _) ⟨⟨_, b1, RowV.nil _ _ _ _ _⟩, b0, b2, hB0, Nat.le_refl _⟩
    (fun x a' V => ∃ Bx, V.heap[Bx]? = some (.cells #[.int .i32 x.lo, .int .i32 x.hi] 41 (0, 0)) ∧ W0.heap.size ≤ Bx ∧ a' = { tmps := #[.pointer (some ⟨b, 0, none⟩), (.func (.func 10) #[] #[]), undef, .pointer (some ⟨w.heap.size, 0, none⟩), .pointer none, .pointer (some ⟨w.heap.size + 1 + 1, 0, none⟩), .pointer (some ⟨Bx, 0, none⟩), Value.bool x.val, undef, .pointer (some ⟨w.heap.size + 1, 0, none⟩), .pointer (some ⟨b, 0, none⟩), .func (.func 67) #[] #[.pointer (some ⟨w.heap.size + 1 + 1 + 1, 0, none⟩)], .agg #[.int .i32 x.lo, .int .i32 x.hi], Value.bool x.val, undef, undef, undef, undef, undef, undef, undef, undef, undef, undef], defers := [] })
    (fun x a' st A B row hx hg hr => by
        obtain ⟨Bx, h1, h2, h3⟩ := hx
        exact ⟨Bx, own_block (β := Unit) _ _ _ rfl () A B row h1 hg hr, h2, h3⟩) ?assign ?body ?done ?stop
  case assign =>
    rintro l2 pre x V K hsz2 ⟨⟨vs, h1, h2⟩, h3, h4, h5, h6⟩ hK
    gi_wp2
    obtain ⟨V1, hV1⟩ : ∃ V1, V.alloc (.cells #[.int .i32 x.lo, .int .i32 x.hi] 41) = V1 := ⟨_, rfl⟩
    rw [hV1]
    have hb1 : Below V.heap.size V V1 := by rw [← hV1]; exact (Below.refl _ V).alloc (Nat.le_refl _) _
    have hn1 : V1.heap[V.heap.size]? = some (.cells #[.int .i32 x.lo, .int .i32 x.hi] 41 (0, 0)) := by rw [← hV1]; exact heap_alloc_new V _
    have ko : KeepsOthers V V1 := by rw [← hV1]; exact KeepsOthers.alloc _ _
    have kb : ∀ k (ob : Obj), V.heap[k]? = some ob → V1.heap[k]? = some ob := fun k ob hk => (hb1.block k (Array.getElem?_eq_some_iff.1 hk).1).trans hk
    exact hK _ _ (ko.from _) ⟨ko.walks, fun k ob hk _ hx => kb k ob hx⟩ ⟨⟨vs, VS.IsMap.below h1 hb1, VS.RowP.below h2 hb1⟩, kb _ _ h3, kb _ _ h4, h5.trans (hb1.mono h5.size), Nat.le_trans h6 hb1.size⟩ ⟨V.heap.size, hn1, by omega, rfl⟩
  case body =>
    rintro l2 pre x a' V hl hsz2 ⟨r, hr⟩ ⟨⟨vs, h1, h2⟩, h3, h4, h5, h6⟩ ⟨Bx, hx1, hx2, rfl⟩ hSp
    have z0 : V.cell? ⟨Bx, 0, none⟩ = some (.int .i32 x.lo) := cellTu hx1 rfl
    have z1 : V.cell? ⟨Bx, 1, none⟩ = some (.int .i32 x.hi) := cellTu hx1 rfl
    have z4 : V.cell? ⟨w.heap.size, 0, none⟩ = some (.func (.func 10) #[] #[]) := cellTu h3 rfl
    have z5 : V.cell? ⟨w.heap.size + 1 + 1, 0, none⟩ = some (.pointer (some ⟨w.heap.size + 1, 0, none⟩)) := cellTu h4 rfl
    obtain ⟨tl, htl⟩ := hSp
    have hok : OkP ((pre ++ [x]) ++ tl) := by rw [htl]; exact hSO
    have hokp : OkP pre := ⟨hok.1.sublist ((List.sublist_append_left pre [x]).trans (List.sublist_append_left _ tl)), fun p hp => hok.2 p (by simp [hp])⟩
    have hx := hok.2 x (by simp)
    have hbh : ∀ p ∈ turP evS pre, p.hi < x.lo := fun p hp => by
      obtain ⟨y, hy, rfl⟩ := List.mem_map.1 hp
      have := List.pairwise_append.1 (List.pairwise_append.1 hok.1).1
      exact this.2.2 y hy x (by simp)
    have hLay := VS.lay_ok (w.heap.size + 1) vs (W0.heap.size + 2 + VB.T4) (turP evS pre) (turP_ok evS hokp) x.lo x.hi (mayB_iff.2 hx) (evS x.val) V h1 (by omega) h2
    rw [rep_snoc (turP_ok evS hokp) hx.2.1 hbh] at hLay
    have HLAY := hide (fun m => (callsIn_wide (n := m) |>.2 hLay).inRound l2)
    have HGV := hide (fun m V' => (callsIn_wide (n := m) |>.2 (fvPTuBS_any x.val V')).inRound l2)
    gi_wp2_with (first | (gi_at_call 10; with_reducible refine CallsIn.mono (unhide HGV _ _) ?_; rintro e w4 ⟨rfl, hv4⟩; obtain rfl : V = w4 := hv4.symm) | (gi_at_call 22; with_reducible refine CallsIn.mono (unhide HLAY _) ?_; rintro e w5 ⟨rfl, v5, hr5, hm5⟩))
    have ko : KeepsOthers V w5 := moved_PTuBS hm5 h1 h2
    have hfar : ∀ g, blk vs = some g → W0.heap.size + 2 + VB.T4 ≤ g := fun g hg => (RowV.lt h2 g hg).1
    have kb : ∀ k (ob : Obj), V.heap[k]? = some ob → k ≠ w.heap.size + 1 → blk vs ≠ some k → w5.heap[k]? = some ob := fun k ob hk h1 h2 => by
      have hlt := (Array.getElem?_eq_some_iff.1 hk).1
      refine (hm5.2.1.block k hlt (fun e => ?_)).trans hk
      rcases e with e | e
      · exact h1 e
      · exact h2 e
    refine ⟨ko.from _, ⟨ko.walks, fun k ob hk _ hx => ?_⟩, ⟨v5, hm5.1, ?_⟩, kb _ _ h3 (by omega) (fun e => by have := hfar _ e; omega), kb _ _ h4 (by omega) (fun e => by have := hfar _ e; omega), ?_, ?_⟩
    · rcases hk with hk | hk
      · exact kb k ob hx (by omega) (fun e => by have := hfar _ e; omega)
      · exact hk.elim
    · rw [turP_app]
      exact hr5
    · exact hm5.2.1.below h5 (by have := h5.size; omega) (fun k hk => by
        rcases hk with e | e
        · omega
        · have := hfar _ e; omega)
    · have := hm5.2.1.size; omega
  case done =>
    rintro D xs V hD hS ⟨⟨vs, h1, h2⟩, h3, h4, h5, h6⟩ hK
    subst hS
    have c0 : V.cell? ⟨w.heap.size + 1 + 1, 0, none⟩ = some (.pointer (some ⟨w.heap.size + 1, 0, none⟩)) := cellTu h4 rfl
    gi_wp2
    refine ⟨by simp, .inl ⟨_, _, rfl, run_takeDeferred hK, ?_⟩⟩
    have h1' : V.heap[w.heap.size + 1]? = some (.cells #[.bool true, vs] 99 (0, 0)) := h1
    refine ⟨_, results_tmp rfl _ _ _, _, vs, rfl, (World.putObj_heap_other (by omega)).trans h1', (VS.RowP.mono h2 (by omega)).kept fun g hg => World.putObj_heap_other ?_, by omega, below_put h5 (by omega) _⟩
    rintro rfl
    obtain ⟨cur, hc⟩ := rowV_blkT h2 hg
    rw [hc] at hK
    cases hK
  case stop =>
    rintro D c pre V hD hSp hx hK
    exact hx.elim
end Go.Proofs.YtompifmfgjenlaaGreat
/-
  Turn, of int to string: a map whose values are turned.
-/
namespace Go.Proofs.YtompifmfgjenlaaGreat
open Go.RowKit Go.PlainAid Go.Lib Go.PRow Go.Shelf Go.Seq4
attribute [local go_sem] Oper.semAt_some
set_option linter.unusedVariables false
set_option linter.unusedSimpArgs false

theorem fvPTuIS_any (x : Int) (w : World) :
    Calls Tryz.prog 12 #[Value.int .i64 x] w fun e w' => e = .returned (Value.string (evI x)) ∧ w' = w := by
  unfold evI evS evB
  by_cases h : Int.tmod x 2 = 0
  · rw [decide_eq_true h]
    go_enter Tryz.func12, Tryz.ntmps12
    go_wp2
    go_ret
    exact ⟨rfl, rfl⟩
  · rw [decide_eq_false h]
    go_enter Tryz.func12, Tryz.ntmps12
    go_wp2
    go_ret
    exact ⟨rfl, rfl⟩

theorem own_PTuIS {β : Type} (B Bq b : Nat) (f : β → List (Pc ByteArray)) : OwnFrom B (fun x W => ∃ vs, VS.IsMap W b vs ∧ VS.RowP W Bq vs (f x)) := by
  rintro x W W' row ⟨vs, h1, h2⟩ hg hr
  have h1' : W.heap[b]? = some (.cells #[.bool true, vs] 99 (0, 0)) := h1
  refine ⟨vs, (grownBy_keeps_cells hg (fun r e => (hr r e).2) h1' rfl).trans h1', h2.kept fun g hgk => ?_⟩
  obtain ⟨cur, hc⟩ := rowV_blkT h2 hgk
  exact grownBy_keeps_cells hg (fun r e => (hr r e).2) hc rfl
theorem moved_PTuIS {W W' : World} {b B : Nat} {v v' : Value} {ps : List (Pc ByteArray)} (hm : VS.Moved W W' b v v') (hM : VS.IsMap W b v) (hr : VS.RowP W B v ps) : KeepsOthers W W' := by
  have hM' : W.heap[b]? = some (.cells #[.bool true, v] 99 (0, 0)) := hM
  refine ⟨hm.2.1.size, fun k ob hk ho => (hm.2.1.block k (Array.getElem?_eq_some_iff.1 hk).1 ?_).trans hk⟩
  rintro (e | e)
  · subst e; rw [hM'] at hk; cases hk; cases ho
  · obtain ⟨cur, hc⟩ := rowV_blkT hr e
    rw [hc] at hk; cases hk; cases ho

set_option maxRecDepth 100000 in
set_option maxHeartbeats 4000000 in
theorem turn_PTuIS (b : Nat) (v : Value) (B : Nat) (ps : List (Pc Int)) (o : OkP ps) (w : World) (h : VI.IsMap w b v) (hr : VI.RowP w B v ps) :
    Calls Tryz.prog 11 #[.pointer (some ⟨b, 0, none⟩), (.func (.func 12) #[] #[])] w fun e w' => ∃ bm u, e = .returned (.pointer (some ⟨bm, 0, none⟩)) ∧ VS.IsMap w' bm u ∧ VS.RowP w' w.heap.size u (turP evI (strsP VI.eqv ps)) ∧ w.heap.size ≤ bm ∧ Below w.heap.size w w' := by
  have hbl := h.lt
  refine (callsIn_wide (n := 8)).1 ?_
  refine callsIn_of_wp_marks Tryz.func11 rfl trivial ?_ rfl
  simp only [Tryz.ntmps11, List.size_toArray, List.length_cons, List.length_nil, Nat.reduceAdd, Nat.reduceSub, Array.replicate_succ, Array.replicate_zero, List.push_toArray, List.append_toArray, List.nil_append, List.cons_append]
  have hF : ∀ f, Fence.wide.fn f := fun _ => trivial
  gi_wp2_with (first | (gi_at_call 20; with_reducible refine CallsIn.mono (callsIn_wide.2 (VS.new_any _)) ?_; rintro e V6 ⟨rfl, rfl⟩) | (gi_at_call 36; with_reducible refine CallsIn.mono (callsIn_wide.2 (VI.all_in b _)) ?_; rintro e V7 ⟨rfl, rfl⟩))
  obtain ⟨W0, hW0⟩ : ∃ W0, (((w.alloc (.cells #[(.func (.func 12) #[] #[])] 35)).alloc (.cells #[.bool true, .slice none 0 0] 99)).alloc (.cells #[.pointer (some ⟨w.heap.size + 1, 0, none⟩)] 28)).alloc (.cells #[.pointer (some ⟨b, 0, none⟩)] 24) = W0 := ⟨_, rfl⟩
  have hsz : W0.heap.size = w.heap.size + 4 := by rw [← hW0]; simp
  have hB0 : Below w.heap.size w W0 := by rw [← hW0]; go_grown
  have b0 : W0.heap[w.heap.size]? = some (.cells #[(.func (.func 12) #[] #[])] 35 (0, 0)) := by
    rw [← hW0]
    rw [Below.heap_alloc _ _ _ (by simp; omega), Below.heap_alloc _ _ _ (by simp; omega), Below.heap_alloc _ _ _ (by simp)]
    exact heap_alloc_new w _
  have b1 : W0.heap[w.heap.size + 1]? = some (.cells #[.bool true, .slice none 0 0] 99 (0, 0)) := by
    rw [← hW0]
    rw [Below.heap_alloc _ _ _ (by simp), Below.heap_alloc _ _ _ (by simp)]
    have := heap_alloc_new (w.alloc (.cells #[(.func (.func 12) #[] #[])] 35)) (.cells #[.bool true, .slice none 0 0] 99)
    simpa using this
  have b2 : W0.heap[w.heap.size + 1 + 1]? = some (.cells #[.pointer (some ⟨w.heap.size + 1, 0, none⟩)] 28 (0, 0)) := by
    rw [← hW0]
    rw [Below.heap_alloc _ _ _ (by simp)]
    have := heap_alloc_new ((w.alloc (.cells #[(.func (.func 12) #[] #[])] 35)).alloc (.cells #[.bool true, .slice none 0 0] 99)) (.cells #[.pointer (some ⟨w.heap.size + 1, 0, none⟩)] 28)
    simpa using this
  have b3 : W0.heap[w.heap.size + 1 + 1 + 1]? = some (.cells #[.pointer (some ⟨b, 0, none⟩)] 24 (0, 0)) := by
    rw [← hW0]
    have := heap_alloc_new (((w.alloc (.cells #[(.func (.func 12) #[] #[])] 35)).alloc (.cells #[.bool true, .slice none 0 0] 99)).alloc (.cells #[.pointer (some ⟨w.heap.size + 1, 0, none⟩)] 28)) (.cells #[.pointer (some ⟨b, 0, none⟩)] 24)
    simpa using this
  have hr0 : VI.RowP W0 0 v ps := (hr.below hB0).mono (Nat.zero_le _)
  have hm0 := h.below hB0
  have hSO : OkP (strsP VI.eqv ps) := strs_ok VI.eqv o
  have fnil : ∀ W : World, (binOp .neq 35 (.func (.func 12) #[] #[]) .nilFunc).run Tryz.prog W = .ok (.bool true) W := fun _ => by kernel_rfl
  rw [hW0]
  clear hW0
  refine range4 (by omega) (gf := 72) (lb := #[.pointer (some ⟨w.heap.size + 1 + 1 + 1, 0, none⟩)]) rfl (enters_of Tryz.func72 (by kernel_rfl) rfl)
    (VI.all_gives ps o _ (w.heap.size + 1 + 1 + 1) b v (by omega) W0 b3 hm0 hr0) (Below.refl _ _) (fun _ => by rfl)
    (fun pre V => (∃ vs, VS.IsMap V (w.heap.size + 1) vs ∧ VS.RowP V (W0.heap.size + 2 + VI.T4) vs (turP evI pre)) ∧ V.heap[w.heap.size]? = some (.cells #[(.func (.func 12) #[] #[])] 35 (0, 0)) ∧ V.heap[w.heap.size + 1 + 1]? = some (.cells #[.pointer (some ⟨w.heap.size + 1, 0, none⟩)] 28 (0, 0)) ∧ Below w.heap.size w V ∧ W0.heap.size ≤ V.heap.size)
    (fun c pre V => False)
    ((own_PTuIS _ _ _ (fun pre : List (Pc Int) => turP evI pre)).and ((own_block _ _ _ rfl).and ((own_block _ _ _ rfl).and ((ownFrom_below (Nat.le_refl _) (by omega)).and (own_size _ _)))))
    (fun c => own_pure _ _) (CalmR.none _ _ _) ⟨⟨_, b1, RowV.nil _ _ _ _ _⟩, b0, b2, hB0, Nat.le_refl _⟩
    (fun x a' V => ∃ Bx, V.heap[Bx]? = some (.cells #[.int .i32 x.lo, .int .i32 x.hi] 41 (0, 0)) ∧ W0.heap.size ≤ Bx ∧ a' = { tmps := #[.pointer (some ⟨b, 0, none⟩), (.func (.func 12) #[] #[]), undef, .pointer (some ⟨w.heap.size, 0, none⟩), .pointer none, .pointer (some ⟨w.heap.size + 1 + 1, 0, none⟩), .pointer (some ⟨Bx, 0, none⟩), Value.int .i64 x.val, undef, .pointer (some ⟨w.heap.size + 1, 0, none⟩), .pointer (some ⟨b, 0, none⟩), .func (.func 72) #[] #[.pointer (some ⟨w.heap.size + 1 + 1 + 1, 0, none⟩)], .agg #[.int .i32 x.lo, .int .i32 x.hi], Value.int .i64 x.val, undef, undef, undef, undef, undef, undef, undef, undef, undef, undef], defers := [] })
    (fun x a' st A B row hx hg hr => by
        obtain ⟨Bx, h1, h2, h3⟩ := hx
        exact ⟨Bx, own_block (β := Unit) _ _ _ rfl () A B row h1 hg hr, h2, h3⟩) ?assign ?body ?done ?stop
  case assign =>
    rintro l2 pre x V K hsz2 ⟨⟨vs, h1, h2⟩, h3, h4, h5, h6⟩ hK
    gi_wp2
    obtain ⟨V1, hV1⟩ : ∃ V1, V.alloc (.cells #[.int .i32 x.lo, .int .i32 x.hi] 41) = V1 := ⟨_, rfl⟩
    rw [hV1]
    have hb1 : Below V.heap.size V V1 := by rw [← hV1]; exact (Below.refl _ V).alloc (Nat.le_refl _) _
    have hn1 : V1.heap[V.heap.size]? = some (.cells #[.int .i32 x.lo, .int .i32 x.hi] 41 (0, 0)) := by rw [← hV1]; exact heap_alloc_new V _
    have ko : KeepsOthers V V1 := by rw [← hV1]; exact KeepsOthers.alloc _ _
    have kb : ∀ k (ob : Obj), V.heap[k]? = some ob → V1.heap[k]? = some ob := fun k ob hk => (hb1.block k (Array.getElem?_eq_some_iff.1 hk).1).trans hk
    exact hK _ _ (ko.from _) ⟨ko.walks, fun k ob hk _ hx => kb k ob hx⟩ ⟨⟨vs, VS.IsMap.below h1 hb1, VS.RowP.below h2 hb1⟩, kb _ _ h3, kb _ _ h4, h5.trans (hb1.mono h5.size), Nat.le_trans h6 hb1.size⟩ ⟨V.heap.size, hn1, by omega, rfl⟩
  case body =>
    rintro l2 pre x a' V hl hsz2 ⟨r, hr⟩ ⟨⟨vs, h1, h2⟩, h3, h4, h5, h6⟩ ⟨Bx, hx1, hx2, rfl⟩ hSp
    have z0 : V.cell? ⟨Bx, 0, none⟩ = some (.int .i32 x.lo) := cellTu hx1 rfl
    have z1 : V.cell? ⟨Bx, 1, none⟩ = some (.int .i32 x.hi) := cellTu hx1 rfl
    have z4 : V.cell? ⟨w.heap.size, 0, none⟩ = some (.func (.func 12) #[] #[]) := cellTu h3 rfl
    have z5 : V.cell? ⟨w.heap.size + 1 + 1, 0, none⟩ = some (.pointer (some ⟨w.heap.size + 1, 0, none⟩)) := cellTu h4 rfl
    obtain ⟨tl, htl⟩ := hSp
    have hok : OkP ((pre ++ [x]) ++ tl) := by rw [htl]; exact hSO
    have hokp : OkP pre := ⟨hok.1.sublist ((List.sublist_append_left pre [x]).trans (List.sublist_append_left _ tl)), fun p hp => hok.2 p (by simp [hp])⟩
    have hx := hok.2 x (by simp)
    have hbh : ∀ p ∈ turP evI pre, p.hi < x.lo := fun p hp => by
      obtain ⟨y, hy, rfl⟩ := List.mem_map.1 hp
      have := List.pairwise_append.1 (List.pairwise_append.1 hok.1).1
      exact this.2.2 y hy x (by simp)
    have hLay := VS.lay_ok (w.heap.size + 1) vs (W0.heap.size + 2 + VI.T4) (turP evI pre) (turP_ok evI hokp) x.lo x.hi (mayB_iff.2 hx) (evI x.val) V h1 (by omega) h2
    rw [rep_snoc (turP_ok evI hokp) hx.2.1 hbh] at hLay
    have HLAY := hide (fun m => (callsIn_wide (n := m) |>.2 hLay).inRound l2)
    have HGV := hide (fun m V' => (callsIn_wide (n := m) |>.2 (fvPTuIS_any x.val V')).inRound l2)
    gi_wp2_with (first | (gi_at_call 12; with_reducible refine CallsIn.mono (unhide HGV _ _) ?_; rintro e w4 ⟨rfl, hv4⟩; obtain rfl : V = w4 := hv4.symm) | (gi_at_call 22; with_reducible refine CallsIn.mono (unhide HLAY _) ?_; rintro e w5 ⟨rfl, v5, hr5, hm5⟩))
    have ko : KeepsOthers V w5 := moved_PTuIS hm5 h1 h2
    have hfar : ∀ g, blk vs = some g → W0.heap.size + 2 + VI.T4 ≤ g := fun g hg => (RowV.lt h2 g hg).1
    have kb : ∀ k (ob : Obj), V.heap[k]? = some ob → k ≠ w.heap.size + 1 → blk vs ≠ some k → w5.heap[k]? = some ob := fun k ob hk h1 h2 => by
      have hlt := (Array.getElem?_eq_some_iff.1 hk).1
      refine (hm5.2.1.block k hlt (fun e => ?_)).trans hk
      rcases e with e | e
      · exact h1 e
      · exact h2 e
    refine ⟨ko.from _, ⟨ko.walks, fun k ob hk _ hx => ?_⟩, ⟨v5, hm5.1, ?_⟩, kb _ _ h3 (by omega) (fun e => by have := hfar _ e; omega), kb _ _ h4 (by omega) (fun e => by have := hfar _ e; omega), ?_, ?_⟩
    · rcases hk with hk | hk
      · exact kb k ob hx (by omega) (fun e => by have := hfar _ e; omega)
      · exact hk.elim
    · rw [turP_app]
      exact hr5
    · exact hm5.2.1.below h5 (by have := h5.size; omega) (fun k hk => by
        rcases hk with e | e
        · omega
        · have := hfar _ e; omega)
    · have := hm5.2.1.size; omega
  case done =>
    rintro D xs V hD hS ⟨⟨vs, h1, h2⟩, h3, h4, h5, h6⟩ hK
    subst hS
    have c0 : V.cell? ⟨w.heap.size + 1 + 1, 0, none⟩ = some (.pointer (some ⟨w.heap.size + 1, 0, none⟩)) := cellTu h4 rfl
    gi_wp2
    refine ⟨by simp, .inl ⟨_, _, rfl, run_takeDeferred hK, ?_⟩⟩
    have h1' : V.heap[w.heap.size + 1]? = some (.cells #[.bool true, vs] 99 (0, 0)) := h1
    refine ⟨_, results_tmp rfl _ _ _, _, vs, rfl, (World.putObj_heap_other (by omega)).trans h1', (VS.RowP.mono h2 (by omega)).kept fun g hg => World.putObj_heap_other ?_, by omega, below_put h5 (by omega) _⟩
    rintro rfl
    obtain ⟨cur, hc⟩ := rowV_blkT h2 hg
    rw [hc] at hK
    cases hK
  case stop =>
    rintro D c pre V hD hSp hx hK
    exact hx.elim
end Go.Proofs.YtompifmfgjenlaaGreat
/-
  Turn, of int to string: a map whose values are turned.
-/
namespace Go.Proofs.YtompifmfgjenlaaGreat
open Go.RowKit Go.PlainAid Go.Lib Go.PRow Go.Shelf Go.Seq4
attribute [local go_sem] Oper.semAt_some
set_option linter.unusedVariables false
set_option linter.unusedSimpArgs false


theorem own_PTuZ {β : Type} (B Bq b : Nat) (f : β → List (Pc ByteArray)) : OwnFrom B (fun x W => ∃ vs, VS.IsMap W b vs ∧ VS.RowP W Bq vs (f x)) := by
  rintro x W W' row ⟨vs, h1, h2⟩ hg hr
  have h1' : W.heap[b]? = some (.cells #[.bool true, vs] 99 (0, 0)) := h1
  refine ⟨vs, (grownBy_keeps_cells hg (fun r e => (hr r e).2) h1' rfl).trans h1', h2.kept fun g hgk => ?_⟩
  obtain ⟨cur, hc⟩ := rowV_blkT h2 hgk
  exact grownBy_keeps_cells hg (fun r e => (hr r e).2) hc rfl
theorem moved_PTuZ {W W' : World} {b B : Nat} {v v' : Value} {ps : List (Pc ByteArray)} (hm : VS.Moved W W' b v v') (hM : VS.IsMap W b v) (hr : VS.RowP W B v ps) : KeepsOthers W W' := by
  have hM' : W.heap[b]? = some (.cells #[.bool true, v] 99 (0, 0)) := hM
  refine ⟨hm.2.1.size, fun k ob hk ho => (hm.2.1.block k (Array.getElem?_eq_some_iff.1 hk).1 ?_).trans hk⟩
  rintro (e | e)
  · subst e; rw [hM'] at hk; cases hk; cases ho
  · obtain ⟨cur, hc⟩ := rowV_blkT hr e
    rw [hc] at hk; cases hk; cases ho

set_option maxRecDepth 100000 in
set_option maxHeartbeats 4000000 in
theorem turn_PTuZ (b : Nat) (v : Value) (B : Nat) (ps : List (Pc Int)) (o : OkP ps) (w : World) (h : VI.IsMap w b v) (hr : VI.RowP w B v ps) :
    Calls Tryz.prog 11 #[.pointer (some ⟨b, 0, none⟩), .nilFunc] w fun e w' => ∃ bm u, e = .returned (.pointer (some ⟨bm, 0, none⟩)) ∧ VS.IsMap w' bm u ∧ VS.RowP w' w.heap.size u (turP zeS (strsP VI.eqv ps)) ∧ w.heap.size ≤ bm ∧ Below w.heap.size w w' := by
  have hbl := h.lt
  refine (callsIn_wide (n := 8)).1 ?_
  refine callsIn_of_wp_marks Tryz.func11 rfl trivial ?_ rfl
  simp only [Tryz.ntmps11, List.size_toArray, List.length_cons, List.length_nil, Nat.reduceAdd, Nat.reduceSub, Array.replicate_succ, Array.replicate_zero, List.push_toArray, List.append_toArray, List.nil_append, List.cons_append]
  have hF : ∀ f, Fence.wide.fn f := fun _ => trivial
  gi_wp2_with (first | (gi_at_call 20; with_reducible refine CallsIn.mono (callsIn_wide.2 (VS.new_any _)) ?_; rintro e V6 ⟨rfl, rfl⟩) | (gi_at_call 36; with_reducible refine CallsIn.mono (callsIn_wide.2 (VI.all_in b _)) ?_; rintro e V7 ⟨rfl, rfl⟩))
  obtain ⟨W0, hW0⟩ : ∃ W0, (((w.alloc (.cells #[.nilFunc] 35)).alloc (.cells #[.bool true, .slice none 0 0] 99)).alloc (.cells #[.pointer (some ⟨w.heap.size + 1, 0, none⟩)] 28)).alloc (.cells #[.pointer (some ⟨b, 0, none⟩)] 24) = W0 := ⟨_, rfl⟩
  have hsz : W0.heap.size = w.heap.size + 4 := by rw [← hW0]; simp
  have hB0 : Below w.heap.size w W0 := by rw [← hW0]; go_grown
  have b0 : W0.heap[w.heap.size]? = some (.cells #[.nilFunc] 35 (0, 0)) := by
    rw [← hW0]
    rw [Below.heap_alloc _ _ _ (by simp; omega), Below.heap_alloc _ _ _ (by simp; omega), Below.heap_alloc _ _ _ (by simp)]
    exact heap_alloc_new w _
  have b1 : W0.heap[w.heap.size + 1]? = some (.cells #[.bool true, .slice none 0 0] 99 (0, 0)) := by
    rw [← hW0]
    rw [Below.heap_alloc _ _ _ (by simp), Below.heap_alloc _ _ _ (by simp)]
    have := heap_alloc_new (w.alloc (.cells #[.nilFunc] 35)) (.cells #[.bool true, .slice none 0 0] 99)
    simpa using this
  have b2 : W0.heap[w.heap.size + 1 + 1]? = some (.cells #[.pointer (some ⟨w.heap.size + 1, 0, none⟩)] 28 (0, 0)) := by
    rw [← hW0]
    rw [Below.heap_alloc _ _ _ (by simp)]
    have := heap_alloc_new ((w.alloc (.cells #[.nilFunc] 35)).alloc (.cells #[.bool true, .slice none 0 0] 99)) (.cells #[.pointer (some ⟨w.heap.size + 1, 0, none⟩)] 28)
    simpa using this
  have b3 : W0.heap[w.heap.size + 1 + 1 + 1]? = some (.cells #[.pointer (some ⟨b, 0, none⟩)] 24 (0, 0)) := by
    rw [← hW0]
    have := heap_alloc_new (((w.alloc (.cells #[.nilFunc] 35)).alloc (.cells #[.bool true, .slice none 0 0] 99)).alloc (.cells #[.pointer (some ⟨w.heap.size + 1, 0, none⟩)] 28)) (.cells #[.pointer (some ⟨b, 0, none⟩)] 24)
    simpa using this
  have hr0 : VI.RowP W0 0 v ps := (hr.below hB0).mono (Nat.zero_le _)
  have hm0 := h.below hB0
  have hSO : OkP (strsP VI.eqv ps) := strs_ok VI.eqv o
  have fnil : ∀ W : World, (binOp .neq 35 .nilFunc .nilFunc).run Tryz.prog W = .ok (.bool false) W := fun _ => by kernel_rfl
  rw [hW0]
  clear hW0
  refine range4 (by omega) (gf := 72) (lb := #[.pointer (some ⟨w.heap.size + 1 + 1 + 1, 0, none⟩)]) rfl (enters_of Tryz.func72 (by kernel_rfl) rfl)
    (VI.all_gives ps o _ (w.heap.size + 1 + 1 + 1) b v (by omega) W0 b3 hm0 hr0) (Below.refl _ _) (fun _ => by rfl)
    (fun pre V => (∃ vs, VS.IsMap V (w.heap.size + 1) vs ∧ VS.RowP V (W0.heap.size + 2 + VI.T4) vs (turP zeS pre)) ∧ V.heap[w.heap.size]? = some (.cells #[.nilFunc] 35 (0, 0)) ∧ V.heap[w.heap.size + 1 + 1]? = some (.cells #[.pointer (some ⟨w.heap.size + 1, 0, none⟩)] 28 (0, 0)) ∧ Below w.heap.size w V ∧ W0.heap.size ≤ V.heap.size)
    (fun c pre V => False)
    ((own_PTuZ _ _ _ (fun pre : List (Pc Int) => turP zeS pre)).and ((own_block _ _ _ rfl).and ((own_block _ _ _ rfl).and ((ownFrom_below (Nat.le_refl _) (by omega)).and (own_size _ _)))))
    (fun c => own_pure _ _) (CalmR.none _ _ _) ⟨⟨_, b1, RowV.nil _ _ _ _ _⟩, b0, b2, hB0, Nat.le_refl _⟩
    (fun x a' V => ∃ Bx, V.heap[Bx]? = some (.cells #[.int .i32 x.lo, .int .i32 x.hi] 41 (0, 0)) ∧ W0.heap.size ≤ Bx ∧ a' = { tmps := #[.pointer (some ⟨b, 0, none⟩), .nilFunc, undef, .pointer (some ⟨w.heap.size, 0, none⟩), .pointer none, .pointer (some ⟨w.heap.size + 1 + 1, 0, none⟩), .pointer (some ⟨Bx, 0, none⟩), Value.int .i64 x.val, undef, .pointer (some ⟨w.heap.size + 1, 0, none⟩), .pointer (some ⟨b, 0, none⟩), .func (.func 72) #[] #[.pointer (some ⟨w.heap.size + 1 + 1 + 1, 0, none⟩)], .agg #[.int .i32 x.lo, .int .i32 x.hi], Value.int .i64 x.val, undef, undef, undef, undef, undef, undef, undef, undef, undef, undef], defers := [] })
    (fun x a' st A B row hx hg hr => by
        obtain ⟨Bx, h1, h2, h3⟩ := hx
        exact ⟨Bx, own_block (β := Unit) _ _ _ rfl () A B row h1 hg hr, h2, h3⟩) ?assign ?body ?done ?stop
  case assign =>
    rintro l2 pre x V K hsz2 ⟨⟨vs, h1, h2⟩, h3, h4, h5, h6⟩ hK
    gi_wp2
    obtain ⟨V1, hV1⟩ : ∃ V1, V.alloc (.cells #[.int .i32 x.lo, .int .i32 x.hi] 41) = V1 := ⟨_, rfl⟩
    rw [hV1]
    have hb1 : Below V.heap.size V V1 := by rw [← hV1]; exact (Below.refl _ V).alloc (Nat.le_refl _) _
    have hn1 : V1.heap[V.heap.size]? = some (.cells #[.int .i32 x.lo, .int .i32 x.hi] 41 (0, 0)) := by rw [← hV1]; exact heap_alloc_new V _
    have ko : KeepsOthers V V1 := by rw [← hV1]; exact KeepsOthers.alloc _ _
    have kb : ∀ k (ob : Obj), V.heap[k]? = some ob → V1.heap[k]? = some ob := fun k ob hk => (hb1.block k (Array.getElem?_eq_some_iff.1 hk).1).trans hk
    exact hK _ _ (ko.from _) ⟨ko.walks, fun k ob hk _ hx => kb k ob hx⟩ ⟨⟨vs, VS.IsMap.below h1 hb1, VS.RowP.below h2 hb1⟩, kb _ _ h3, kb _ _ h4, h5.trans (hb1.mono h5.size), Nat.le_trans h6 hb1.size⟩ ⟨V.heap.size, hn1, by omega, rfl⟩
  case body =>
    rintro l2 pre x a' V hl hsz2 ⟨r, hr⟩ ⟨⟨vs, h1, h2⟩, h3, h4, h5, h6⟩ ⟨Bx, hx1, hx2, rfl⟩ hSp
    have z0 : V.cell? ⟨Bx, 0, none⟩ = some (.int .i32 x.lo) := cellTu hx1 rfl
    have z1 : V.cell? ⟨Bx, 1, none⟩ = some (.int .i32 x.hi) := cellTu hx1 rfl
    have z4 : V.cell? ⟨w.heap.size, 0, none⟩ = some .nilFunc := cellTu h3 rfl
    have z5 : V.cell? ⟨w.heap.size + 1 + 1, 0, none⟩ = some (.pointer (some ⟨w.heap.size + 1, 0, none⟩)) := cellTu h4 rfl
    obtain ⟨tl, htl⟩ := hSp
    have hok : OkP ((pre ++ [x]) ++ tl) := by rw [htl]; exact hSO
    have hokp : OkP pre := ⟨hok.1.sublist ((List.sublist_append_left pre [x]).trans (List.sublist_append_left _ tl)), fun p hp => hok.2 p (by simp [hp])⟩
    have hx := hok.2 x (by simp)
    have hbh : ∀ p ∈ turP zeS pre, p.hi < x.lo := fun p hp => by
      obtain ⟨y, hy, rfl⟩ := List.mem_map.1 hp
      have := List.pairwise_append.1 (List.pairwise_append.1 hok.1).1
      exact this.2.2 y hy x (by simp)
    have hLay := VS.lay_ok (w.heap.size + 1) vs (W0.heap.size + 2 + VI.T4) (turP zeS pre) (turP_ok zeS hokp) x.lo x.hi (mayB_iff.2 hx) (zeS x.val) V h1 (by omega) h2
    rw [rep_snoc (turP_ok zeS hokp) hx.2.1 hbh] at hLay
    have HLAY := hide (fun m => (callsIn_wide (n := m) |>.2 hLay).inRound l2)
    gi_wp2_with (first | (gi_at_call 22; with_reducible refine CallsIn.mono (unhide HLAY _) ?_; rintro e w5 ⟨rfl, v5, hr5, hm5⟩))
    have ko : KeepsOthers V w5 := moved_PTuZ hm5 h1 h2
    have hfar : ∀ g, blk vs = some g → W0.heap.size + 2 + VI.T4 ≤ g := fun g hg => (RowV.lt h2 g hg).1
    have kb : ∀ k (ob : Obj), V.heap[k]? = some ob → k ≠ w.heap.size + 1 → blk vs ≠ some k → w5.heap[k]? = some ob := fun k ob hk h1 h2 => by
      have hlt := (Array.getElem?_eq_some_iff.1 hk).1
      refine (hm5.2.1.block k hlt (fun e => ?_)).trans hk
      rcases e with e | e
      · exact h1 e
      · exact h2 e
    refine ⟨ko.from _, ⟨ko.walks, fun k ob hk _ hx => ?_⟩, ⟨v5, hm5.1, ?_⟩, kb _ _ h3 (by omega) (fun e => by have := hfar _ e; omega), kb _ _ h4 (by omega) (fun e => by have := hfar _ e; omega), ?_, ?_⟩
    · rcases hk with hk | hk
      · exact kb k ob hx (by omega) (fun e => by have := hfar _ e; omega)
      · exact hk.elim
    · rw [turP_app]
      exact hr5
    · exact hm5.2.1.below h5 (by have := h5.size; omega) (fun k hk => by
        rcases hk with e | e
        · omega
        · have := hfar _ e; omega)
    · have := hm5.2.1.size; omega
  case done =>
    rintro D xs V hD hS ⟨⟨vs, h1, h2⟩, h3, h4, h5, h6⟩ hK
    subst hS
    have c0 : V.cell? ⟨w.heap.size + 1 + 1, 0, none⟩ = some (.pointer (some ⟨w.heap.size + 1, 0, none⟩)) := cellTu h4 rfl
    gi_wp2
    refine ⟨by simp, .inl ⟨_, _, rfl, run_takeDeferred hK, ?_⟩⟩
    have h1' : V.heap[w.heap.size + 1]? = some (.cells #[.bool true, vs] 99 (0, 0)) := h1
    refine ⟨_, results_tmp rfl _ _ _, _, vs, rfl, (World.putObj_heap_other (by omega)).trans h1', (VS.RowP.mono h2 (by omega)).kept fun g hg => World.putObj_heap_other ?_, by omega, below_put h5 (by omega) _⟩
    rintro rfl
    obtain ⟨cur, hc⟩ := rowV_blkT h2 hg
    rw [hc] at hK
    cases hK
  case stop =>
    rintro D c pre V hD hSp hx hK
    exact hx.elim
end Go.Proofs.YtompifmfgjenlaaGreat

/-
  These texts, one behind the other: ClTu, Seq6, ClNm.
-/
import Derived.Test.YthgaadjkjnibaaaGreatDoorAl
import Derived.Test.YthgaadjkjnibaaaGreatDoorPStr2N
import Derived.Test.YthgaadjkjnibaaaGreatDoorPStr2C
import Derived.OwnWalkIn
import Derived.Test.YthgaadjkjnibaaaGreatDoorSd
/-
  Turn: the namings' classes as a map of their own.
-/
namespace Go.Proofs.YthgaadjkjnibaaaGreatDoor
open Go.RowKit Go.PlainAid Go.Lib Go.PHexM Go.Shelf Go.PRow Go.Seq4
attribute [local go_sem] Oper.semAt_some
set_option linter.unusedVariables false
set_option linter.unusedSimpArgs false

/-- a piece laid behind all others -/
theorem rep_snoc {α : Type} {ps : List (Pc α)} (o : OkP ps) {lo hi : Int} (h1 : lo ≤ hi) (h : ∀ p ∈ ps, p.hi < lo) (wi : List (Pc α)) : repP ps lo hi wi = ps ++ wi := by
  obtain ⟨A, M, C, c⟩ := cut3 o h1
  have hM : M = [] := by
    cases M with
    | nil => rfl
    | cons p M =>
      have a := (c.hm p List.mem_cons_self).1
      have b := h p (by rw [c.eq]; simp)
      omega
  have hC : C = [] := by
    cases C with
    | nil => rfl
    | cons p C =>
      have a := c.hc p List.mem_cons_self
      have b := h p (by rw [c.eq]; simp)
      have := o.2 p (by rw [c.eq]; simp)
      omega
  subst hM hC
  have e := c.eq
  simp at e
  rw [c.rep, ← e]
  simp [aheadP, behindP]
/-- the classes of namings -/
abbrev clsP (x : Pc (Int × Int)) : Pc Int := ⟨x.lo, x.hi, x.val.1⟩
theorem cls_ok {ps : List (Pc (Int × Int))} (o : OkP ps) : OkP (ps.map clsP) := by
  refine ⟨List.pairwise_map.2 o.1, fun p hp => ?_⟩
  obtain ⟨x, hx, rfl⟩ := List.mem_map.1 hp
  exact o.2 x hx

theorem gv1_any (x : Int × Int) (w : World) :
    Calls Tryz.prog 67 #[.agg #[.int .u8 x.1, .int .i64 x.2]] w fun e w' => e = .returned (.int .u8 x.1) ∧ w' = w.alloc (.cells #[.int .u8 x.1, .int .i64 x.2] 78) := by
  go_enter Tryz.func67, Tryz.ntmps67
  go_wp2
  go_ret
  exact ⟨rfl, rfl⟩

theorem own_mapC {β : Type} (B Bq b : Nat) (f : β → List (Pc Int)) : OwnFrom B (fun x W => ∃ vs, VC.IsMap W b vs ∧ VC.RowP W Bq vs (f x)) := by
  rintro x W W' row ⟨vs, h1, h2⟩ hg hr
  have h1' : W.heap[b]? = some (.cells #[.bool true, vs] 126 (0, 0)) := h1
  refine ⟨vs, (grownBy_keeps_cells hg (fun r e => (hr r e).2) h1' rfl).trans h1', h2.kept fun g hgk => ?_⟩
  obtain ⟨cur, hc⟩ := rowV_blk h2 hgk
  exact grownBy_keeps_cells hg (fun r e => (hr r e).2) hc rfl
theorem moved_others {W W' : World} {b B : Nat} {v v' : Value} {ps : List (Pc Int)} (hm : VC.Moved W W' b v v') (hM : VC.IsMap W b v) (hr : VC.RowP W B v ps) : KeepsOthers W W' := by
  have hM' : W.heap[b]? = some (.cells #[.bool true, v] 126 (0, 0)) := hM
  refine ⟨hm.2.1.size, fun k ob hk ho => (hm.2.1.block k (Array.getElem?_eq_some_iff.1 hk).1 ?_).trans hk⟩
  rintro (e | e)
  · subst e; rw [hM'] at hk; cases hk; cases ho
  · obtain ⟨cur, hc⟩ := rowV_blk hr e
    rw [hc] at hk; cases hk; cases ho

set_option maxRecDepth 100000 in
set_option maxHeartbeats 4000000 in
theorem turn_map (b : Nat) (v : Value) (B : Nat) (ps : List (Pc (Int × Int))) (o : OkP ps) (w : World) (h : VN.IsMap w b v) (hr : VN.RowP w B v ps) :
    Calls Tryz.prog 66 #[.pointer (some ⟨b, 0, none⟩), .func (.func 67) #[] #[]] w fun e w' => ∃ bm u, e = .returned (.pointer (some ⟨bm, 0, none⟩)) ∧ VC.IsMap w' bm u ∧ VC.RowP w' w.heap.size u ((strsP VN.eqv ps).map clsP) ∧ w.heap.size ≤ bm ∧ Below w.heap.size w w' := by
  have hbl := h.lt
  refine (callsIn_wide (n := 8)).1 ?_
  refine callsIn_of_wp_marks Tryz.func66 rfl trivial ?_ rfl
  simp only [Tryz.ntmps66, List.size_toArray, List.length_cons, List.length_nil, Nat.reduceAdd, Nat.reduceSub, Array.replicate_succ, Array.replicate_zero, List.push_toArray, List.append_toArray, List.nil_append, List.cons_append]
  have hF : ∀ f, Fence.wide.fn f := fun _ => trivial
  gi_wp2_with (first | (gi_at_call 31; with_reducible refine CallsIn.mono (callsIn_wide.2 (VC.new_any _)) ?_; rintro e V6 ⟨rfl, rfl⟩) | (gi_at_call 97; with_reducible refine CallsIn.mono (callsIn_wide.2 (VN.all_in b _)) ?_; rintro e V7 ⟨rfl, rfl⟩))
  obtain ⟨W0, hW0⟩ : ∃ W0, (((w.alloc (.cells #[.func (.func 67) #[] #[]] 135)).alloc (.cells #[.bool true, .slice none 0 0] 126)).alloc (.cells #[.pointer (some ⟨w.heap.size + 1, 0, none⟩)] 64)).alloc (.cells #[.pointer (some ⟨b, 0, none⟩)] 63) = W0 := ⟨_, rfl⟩
  have hsz : W0.heap.size = w.heap.size + 4 := by rw [← hW0]; simp
  have hB0 : Below w.heap.size w W0 := by rw [← hW0]; go_grown
  have b0 : W0.heap[w.heap.size]? = some (.cells #[.func (.func 67) #[] #[]] 135 (0, 0)) := by
    rw [← hW0]
    rw [Below.heap_alloc _ _ _ (by simp; omega), Below.heap_alloc _ _ _ (by simp; omega), Below.heap_alloc _ _ _ (by simp)]
    exact heap_alloc_new w _
  have b1 : W0.heap[w.heap.size + 1]? = some (.cells #[.bool true, .slice none 0 0] 126 (0, 0)) := by
    rw [← hW0]
    rw [Below.heap_alloc _ _ _ (by simp), Below.heap_alloc _ _ _ (by simp)]
    have := heap_alloc_new (w.alloc (.cells #[.func (.func 67) #[] #[]] 135)) (.cells #[.bool true, .slice none 0 0] 126)
    simpa using this
  have b2 : W0.heap[w.heap.size + 1 + 1]? = some (.cells #[.pointer (some ⟨w.heap.size + 1, 0, none⟩)] 64 (0, 0)) := by
    rw [← hW0]
    rw [Below.heap_alloc _ _ _ (by simp)]
    have := heap_alloc_new ((w.alloc (.cells #[.func (.func 67) #[] #[]] 135)).alloc (.cells #[.bool true, .slice none 0 0] 126)) (.cells #[.pointer (some ⟨w.heap.size + 1, 0, none⟩)] 64)
    simpa using this
  have b3 : W0.heap[w.heap.size + 1 + 1 + 1]? = some (.cells #[.pointer (some ⟨b, 0, none⟩)] 63 (0, 0)) := by
    rw [← hW0]
    have := heap_alloc_new (((w.alloc (.cells #[.func (.func 67) #[] #[]] 135)).alloc (.cells #[.bool true, .slice none 0 0] 126)).alloc (.cells #[.pointer (some ⟨w.heap.size + 1, 0, none⟩)] 64)) (.cells #[.pointer (some ⟨b, 0, none⟩)] 63)
    simpa using this
  have hr0 : VN.RowP W0 0 v ps := (hr.below hB0).mono (Nat.zero_le _)
  have hm0 := h.below hB0
  have hSO : OkP (strsP VN.eqv ps) := strs_ok VN.eqv o
  have fnil : ∀ W : World, (binOp .neq 135 (.func (.func 67) #[] #[]) .nilFunc).run Tryz.prog W = .ok (.bool true) W := fun _ => by kernel_rfl
  rw [hW0]
  clear hW0
  refine range4 (by omega) (gf := 138) (lb := #[.pointer (some ⟨w.heap.size + 1 + 1 + 1, 0, none⟩)]) rfl (enters_of Tryz.func138 (by kernel_rfl) rfl)
    (VN.all_gives ps o _ (w.heap.size + 1 + 1 + 1) b v (by omega) W0 b3 hm0 hr0) (Below.refl _ _) (fun _ => by rfl)
    (fun pre V => (∃ vs, VC.IsMap V (w.heap.size + 1) vs ∧ VC.RowP V (W0.heap.size + 2 + VN.T4) vs (pre.map clsP)) ∧ V.heap[w.heap.size]? = some (.cells #[.func (.func 67) #[] #[]] 135 (0, 0)) ∧ V.heap[w.heap.size + 1 + 1]? = some (.cells #[.pointer (some ⟨w.heap.size + 1, 0, none⟩)] 64 (0, 0)) ∧ Below w.heap.size w V ∧ W0.heap.size ≤ V.heap.size)
    (fun c pre V => False)
    ((own_mapC _ _ _ (fun pre : List (Pc (Int × Int)) => pre.map clsP)).and ((own_block _ _ _ rfl).and ((own_block _ _ _ rfl).and ((ownFrom_below (Nat.le_refl _) (by omega)).and (own_size _ _)))))
    (fun c => own_pure _ _) (CalmR.none _ _ _) ⟨⟨_, b1, RowV.nil _ _ _ _ _⟩, b0, b2, hB0, Nat.le_refl _⟩
    (fun x a' V => ∃ Bx By, V.heap[Bx]? = some (.cells #[.int .i32 x.lo, .int .i32 x.hi] 32 (0, 0)) ∧ V.heap[By]? = some (.cells #[.int .u8 x.val.1, .int .i64 x.val.2] 78 (0, 0)) ∧ W0.heap.size ≤ Bx ∧ W0.heap.size ≤ By ∧ a' = { tmps := #[.pointer (some ⟨b, 0, none⟩), .func (.func 67) #[] #[], undef, .pointer (some ⟨w.heap.size, 0, none⟩), .pointer none, .pointer (some ⟨w.heap.size + 1 + 1, 0, none⟩), .pointer (some ⟨Bx, 0, none⟩), .pointer (some ⟨By, 0, none⟩), undef, .pointer (some ⟨w.heap.size + 1, 0, none⟩), .pointer (some ⟨b, 0, none⟩), .func (.func 138) #[] #[.pointer (some ⟨w.heap.size + 1 + 1 + 1, 0, none⟩)], .agg #[.int .i32 x.lo, .int .i32 x.hi], .agg #[.int .u8 x.val.1, .int .i64 x.val.2], undef, undef, undef, undef, undef, undef, undef, undef, undef, undef], defers := [] })
    (fun x a' st A B row hx hg hr => by
        obtain ⟨Bx, By, h1, h1', h2, h2', h3⟩ := hx
        exact ⟨Bx, By, own_block (β := Unit) _ _ _ rfl () A B row h1 hg hr, own_block (β := Unit) _ _ _ rfl () A B row h1' hg hr, h2, h2', h3⟩) ?assign ?body ?done ?stop
  case assign =>
    rintro l2 pre x V K hsz2 ⟨⟨vs, h1, h2⟩, h3, h4, h5, h6⟩ hK
    gi_wp2
    obtain ⟨V1, hV1⟩ : ∃ V1, V.alloc (.cells #[.int .i32 x.lo, .int .i32 x.hi] 32) = V1 := ⟨_, rfl⟩
    rw [hV1]
    have hs1 : V1.heap.size = V.heap.size + 1 := by rw [← hV1]; simp
    have hb1 : Below V.heap.size V V1 := by rw [← hV1]; exact (Below.refl _ V).alloc (Nat.le_refl _) _
    obtain ⟨V2, hV2⟩ : ∃ V2, V1.alloc (.cells #[.int .u8 x.val.1, .int .i64 x.val.2] 78) = V2 := ⟨_, rfl⟩
    have hb2 : Below V1.heap.size V1 V2 := by rw [← hV2]; exact (Below.refl _ V1).alloc (Nat.le_refl _) _
    have hb : Below V.heap.size V V2 := hb1.trans (hb2.mono hb1.size)
    have hn1 : V1.heap[V.heap.size]? = some (.cells #[.int .i32 x.lo, .int .i32 x.hi] 32 (0, 0)) := by rw [← hV1]; exact heap_alloc_new V _
    have hn2 : V2.heap[V.heap.size + 1]? = some (.cells #[.int .u8 x.val.1, .int .i64 x.val.2] 78 (0, 0)) := by
      rw [← hV2, ← hs1]; exact heap_alloc_new V1 _
    have ko : KeepsOthers V V2 := by rw [← hV2, ← hV1]; exact (KeepsOthers.alloc _ _).trans (KeepsOthers.alloc _ _)
    rw [hV2]
    have kb : ∀ k (ob : Obj), V.heap[k]? = some ob → V2.heap[k]? = some ob := fun k ob hk => (hb.block k (Array.getElem?_eq_some_iff.1 hk).1).trans hk
    exact hK _ _ (ko.from _) ⟨ko.walks, fun k ob hk _ hx => kb k ob hx⟩ ⟨⟨vs, VC.IsMap.below h1 hb, VC.RowP.below h2 hb⟩, kb _ _ h3, kb _ _ h4, h5.trans (hb.mono h5.size), Nat.le_trans h6 hb.size⟩ ⟨V.heap.size, V.heap.size + 1, (hb2.block _ (by omega)).trans hn1, hn2, by omega, by omega, rfl⟩
  case body =>
    rintro l2 pre x a' V hl hsz2 ⟨r, hr⟩ ⟨⟨vs, h1, h2⟩, h3, h4, h5, h6⟩ ⟨Bx, By, hx1, hy1, hx2, hy2, rfl⟩ hSp
    have z0 : V.cell? ⟨Bx, 0, none⟩ = some (.int .i32 x.lo) := cellH hx1 rfl
    have z1 : V.cell? ⟨Bx, 1, none⟩ = some (.int .i32 x.hi) := cellH hx1 rfl
    have z2 : V.cell? ⟨By, 0, none⟩ = some (.int .u8 x.val.1) := cellH hy1 rfl
    have z3 : V.cell? ⟨By, 1, none⟩ = some (.int .i64 x.val.2) := cellH hy1 rfl
    have z4 : V.cell? ⟨w.heap.size, 0, none⟩ = some (.func (.func 67) #[] #[]) := cellH h3 rfl
    have z5 : V.cell? ⟨w.heap.size + 1 + 1, 0, none⟩ = some (.pointer (some ⟨w.heap.size + 1, 0, none⟩)) := cellH h4 rfl
    obtain ⟨tl, htl⟩ := hSp
    have hok : OkP ((pre ++ [x]) ++ tl) := by rw [htl]; exact hSO
    have hokp : OkP pre := ⟨hok.1.sublist ((List.sublist_append_left pre [x]).trans (List.sublist_append_left _ tl)), fun p hp => hok.2 p (by simp [hp])⟩
    have hx := hok.2 x (by simp)
    have hbh : ∀ p ∈ pre.map clsP, p.hi < x.lo := fun p hp => by
      obtain ⟨y, hy, rfl⟩ := List.mem_map.1 hp
      have := List.pairwise_append.1 (List.pairwise_append.1 hok.1).1
      exact this.2.2 y hy x (by simp)
    obtain ⟨V1, hV1⟩ : ∃ V1, V.alloc (.cells #[.int .u8 x.val.1, .int .i64 x.val.2] 78) = V1 := ⟨_, rfl⟩
    have hb1 : Below V.heap.size V V1 := by rw [← hV1]; exact (Below.refl _ V).alloc (Nat.le_refl _) _
    have ko1 : KeepsOthers V V1 := by rw [← hV1]; exact KeepsOthers.alloc _ _
    have y0 : V1.cell? ⟨Bx, 0, none⟩ = some (.int .i32 x.lo) := (hb1.cell (World.block_lt_of_cell? _ _ z0)).trans z0
    have y1 : V1.cell? ⟨Bx, 1, none⟩ = some (.int .i32 x.hi) := (hb1.cell (World.block_lt_of_cell? _ _ z1)).trans z1
    have y5 : V1.cell? ⟨w.heap.size + 1 + 1, 0, none⟩ = some (.pointer (some ⟨w.heap.size + 1, 0, none⟩)) := (hb1.cell (World.block_lt_of_cell? _ _ z5)).trans z5
    have hm1 := VC.IsMap.below h1 hb1
    have hr1 := VC.RowP.below h2 hb1
    have hLay := VC.lay_ok (w.heap.size + 1) vs (W0.heap.size + 2 + VN.T4) (pre.map clsP) (cls_ok hokp) x.lo x.hi (mayB_iff.2 hx) x.val.1 V1 hm1 (by have := hb1.size; omega) hr1
    rw [rep_snoc (cls_ok hokp) hx.2.1 hbh] at hLay
    have HLAY := hide (fun m => (callsIn_wide (n := m) |>.2 hLay).inRound l2)
    have HGV := hide (fun m => (callsIn_wide (n := m) |>.2 (gv1_any x.val V)).inRound l2)
    gi_wp2_with (first | (gi_at_call 67; with_reducible refine CallsIn.mono (unhide HGV _) ?_; rintro e w4 ⟨rfl, rfl⟩) | (gi_at_call 32; with_reducible refine CallsIn.mono (unhide HLAY _) ?_; rintro e w5 ⟨rfl, v5, hr5, hm5⟩))
    have ko : KeepsOthers V w5 := ko1.trans (moved_others hm5 hm1 hr1)
    have hfar : ∀ g, blk vs = some g → W0.heap.size + 2 + VN.T4 ≤ g := fun g hg => (RowV.lt h2 g hg).1
    have kb : ∀ k (ob : Obj), V.heap[k]? = some ob → k ≠ w.heap.size + 1 → blk vs ≠ some k → w5.heap[k]? = some ob := fun k ob hk h1 h2 => by
      have hlt := (Array.getElem?_eq_some_iff.1 hk).1
      refine (hm5.2.1.block k (by have := hb1.size; omega) (fun e => ?_)).trans ((hb1.block k hlt).trans hk)
      rcases e with e | e
      · exact h1 e
      · exact h2 e
    refine ⟨ko.from _, ⟨ko.walks, fun k ob hk _ hx => ?_⟩, ⟨v5, hm5.1, ?_⟩, kb _ _ h3 (by omega) (fun e => by have := hfar _ e; omega), kb _ _ h4 (by omega) (fun e => by have := hfar _ e; omega), ?_, ?_⟩
    · rcases hk with hk | hk
      · exact kb k ob hx (by omega) (fun e => by have := hfar _ e; omega)
      · exact hk.elim
    · rw [List.map_append]
      exact hr5
    · exact hm5.2.1.below (h5.trans (hb1.mono h5.size)) (by have := h5.size; have := hb1.size; omega) (fun k hk => by
        rcases hk with e | e
        · omega
        · have := hfar _ e; omega)
    · have := hm5.2.1.size; have := hb1.size; omega
  case done =>
    rintro D xs V hD hS ⟨⟨vs, h1, h2⟩, h3, h4, h5, h6⟩ hK
    subst hS
    have c0 : V.cell? ⟨w.heap.size + 1 + 1, 0, none⟩ = some (.pointer (some ⟨w.heap.size + 1, 0, none⟩)) := cellH h4 rfl
    gi_wp2
    refine ⟨by simp, .inl ⟨_, _, rfl, run_takeDeferred hK, ?_⟩⟩
    have h1' : V.heap[w.heap.size + 1]? = some (.cells #[.bool true, vs] 126 (0, 0)) := h1
    refine ⟨_, results_tmp rfl _ _ _, _, vs, rfl, (World.putObj_heap_other (by omega)).trans h1', (VC.RowP.mono h2 (by omega)).kept fun g hg => World.putObj_heap_other ?_, by omega, below_put h5 (by omega) _⟩
    rintro rfl
    obtain ⟨cur, hc⟩ := rowV_blk h2 hg
    rw [hc] at hK
    cases hK
  case stop =>
    rintro D c pre V hD hSp hx hK
    exact hx.elim
end Go.Proofs.YthgaadjkjnibaaaGreatDoor
/-
  A loop over an iterator that makes memory of its own before it tells anything, of which nobody knows how much: the loop's promise is given for every number m of blocks that it must leave as they are.
-/
namespace Go.Seq6
open Go Go.RowKit Go.Seq4

/-- what the iterator promises to every loop over it -/
def Gives6 {α : Type} (n : Nat) (P : Program) (g : Nat) (lb : Array Value) (encs : α → Array Value) (S Sp : List α → Prop) (w : World) : Prop :=
  ∀ (l : Nat) (J : Nat → List α → World → Prop) (Jx : List α → World → Prop) (W : World), Below w.heap.size w W → (∀ m, OwnFrom W.heap.size (J m)) → OwnFrom W.heap.size Jx →
    (∀ m pre x W1, J m pre W1 → Sp (pre ++ [x]) → W.heap.size + m ≤ W1.heap.size → YieldAt Fence.wide (n - 1) P l (encs x) W1 fun e W' =>
      (e = .returned (.bool true) ∧ J m (pre ++ [x]) W' ∧ Kp4 m (fun _ => False) W.heap.size W1 W') ∨ (e = .returned (.bool false) ∧ Jx (pre ++ [x]) W' ∧ KeepsFrom W.heap.size W1 W')) →
    (∀ m, J m [] W) →
    CallsIn Fence.wide n P g (#[.func (.yield l) #[] #[]] ++ lb) W fun e W' => (∃ v, e = .returned v) ∧ ((∃ m xs, S xs ∧ J m xs W') ∨ (∃ pre, Sp pre ∧ Jx pre W'))

theorem range6 {α : Type} {n : Nat} {P : Program} {g : Operand} {ps : Array Tmp} {assign body : Code} {Q : Exit → Act → World → Prop} {a : Act} {w : World}
    (h1 : 1 ≤ n) {gf : Nat} {lb : Array Value} (hg : a.eval g = .func (.func gf) #[] lb) (eg : ∀ args w, (callFunc gf args).run P w = .ok (.enter gf args) w)
    {encs : α → Array Value} {S Sp : List α → Prop} {w0 : World} (hseq : Gives6 (n - 1) P gf lb encs S Sp w0)
    (hb0 : Below w0.heap.size w0 w) (hps : ∀ x, (encs x).size = ps.size)
    (I : Nat → List α → World → Prop) (Ix : Code → List α → World → Prop) (hI : ∀ m, OwnFrom w.heap.size (I m)) (hIx : ∀ c, OwnFrom w.heap.size (Ix c)) (h0 : ∀ m, I m [] w) (Ax : Nat → α → Act → World → Prop) (hAx : ∀ m x a', OwnFrom w.heap.size (fun (_ : Unit) W => Ax m x a' W))
    (hassign : ∀ (m l : Nat) (pre : List α) (x : α) (W : World) (K : Act → World → Prop), w.heap.size + 2 + m ≤ W.heap.size → I m pre W → (∀ a' W', KeepsFrom w.heap.size W W' → KpR m (fun _ => False) (w.heap.size + 2) W W' → I m pre W' → Ax m x a' W' → K a' W') →
      assign.wpIn (Fence.wide.inRound l) (n - 1 - 1) P (Exit.then K (fun _ _ _ => False)) { tmps := (ps.zip (encs x)).foldl (fun t (p, v) => t.setIfInBounds p v) a.tmps, defers := [] } W)
    (hbody : ∀ (m l : Nat) (pre : List α) (x : α) (a' : Act) (W : World), w.heap.size ≤ l → w.heap.size + 2 + m ≤ W.heap.size → (∃ r, W.heap[l]? = some (.loop r)) → I m pre W → Ax m x a' W → Sp (pre ++ [x]) →
      body.wpIn (Fence.wide.inRound l) (n - 1 - 1) P (ownPostG w.heap.size (KpR m (fun _ => False) (w.heap.size + 2)) (I m) Ix (pre ++ [x]) W) a' W)
    (hdone : ∀ (D m : Nat) (xs : List α) (W : World), w.heap.size ≤ D → S xs → I m xs W → W.heap[D]? = some (.deferred (some [])) → Q .normal { a with defers := { target := .collected D, args := #[] } :: a.defers } W)
    (hstop : ∀ (D : Nat) (c : Code) (pre : List α) (W : World), w.heap.size ≤ D → Sp pre → Ix c pre W → W.heap[D]? = some (.deferred (some [])) → c.wpIn Fence.wide n P Q { a with defers := { target := .collected D, args := #[] } :: a.defers } W) :
    (Code.rangeFunc g ps assign body).wpIn Fence.wide n P Q a w := by
  refine wpIn_rangeFunc fun fn hfn => ?_
  obtain ⟨R, hR⟩ : ∃ R : LoopState → Option Code → Loop, R = fun st pe => { state := st, pending := pe, fn, tmps := a.tmps, params := ps, assign, body, defers := w.heap.size } := ⟨_, rfl⟩
  obtain ⟨V, hV⟩ : ∃ V, (w.alloc (.deferred (some []))).alloc (.loop (R .ready none)) = V := ⟨_, rfl⟩
  have hVs : V.heap.size = w.heap.size + 2 := by rw [← hV]; simp
  have hVL : V.heap[w.heap.size + 1]? = some (.loop (R .ready none)) := by
    have := World.alloc_heap_new (w.alloc (.deferred (some []))) (.loop (R .ready none))
    rw [World.size_alloc] at this; rw [← hV]; exact this
  have hVD : V.heap[w.heap.size]? = some (.deferred (some [])) := by
    rw [← hV]; exact (Below.heap_alloc _ _ _ (by simp)).trans (World.alloc_heap_new w _)
  have hVb : Below w0.heap.size w0 V := by
    rw [← hV]; exact hb0.trans ((((Below.refl _ w).alloc (Nat.le_refl _) _).alloc (by simp) _).mono hb0.size)
  have hVI : ∀ m, I m [] V := fun m => by rw [← hV]; exact (hI m).alloc _ ((hI m).alloc _ (h0 m))
  have ge : ∀ {row : Option Nat} {A : World}, (∀ r, row = some r → V.heap.size ≤ r ∧ ∃ o : Obj, A.heap[r]? = some o ∧ o.isCells = false) → ∀ r, row = some r → w.heap.size + 2 ≤ r := fun hr r e => by have := (hr r e).1; omega
  refine ⟨w.heap.size + 1, [{ target := .collected w.heap.size, args := #[] }], V, { target := .fn (.func gf) lb, args := #[.func (.yield (w.heap.size + 1)) #[] #[]] }, V, gf,
    #[.func (.yield (w.heap.size + 1)) #[] #[]] ++ lb, V, ?_, ?_, fun _ _ => trivial, ?_, fun _ => h1, ?_⟩
  · rw [← hV, hR]; exact run_enterLoop_outer _ _ _ _ _
  · simp only [resolve, hg]
    simp [go_sem]
  · simp [invoke, go_sem, eg]
  refine (hseq (w.heap.size + 1)
    (fun m pre W => I m pre W ∧ W.heap[w.heap.size + 1]? = some (.loop (R .ready none)) ∧ W.heap[w.heap.size]? = some (.deferred (some [])))
    (fun pre W => ∃ c, Ix c pre W ∧ W.heap[w.heap.size + 1]? = some (.loop (R .done (some c))) ∧ W.heap[w.heap.size]? = some (.deferred (some [])))
    V hVb ?_ ?_ ?_ (fun m => ⟨hVI m, hVL, hVD⟩)).mono ?_
  · rintro m s A B row ⟨x1, x2, x3⟩ hgr hr
    exact ⟨OwnFrom.le (hI m) (by omega) s A B row x1 hgr hr, keep_below (by omega) x2 hgr (ge hr), keep_below (by omega) x3 hgr (ge hr)⟩
  · rintro s A B row ⟨c, x1, x2, x3⟩ hgr hr
    exact ⟨c, OwnFrom.le (hIx c) (by omega) s A B row x1 hgr hr, keep_below (by omega) x2 hgr (ge hr), keep_below (by omega) x3 hgr (ge hr)⟩
  · rintro m pre x W ⟨x1, x2, x3⟩ hlen hmm
    rw [hVs] at hmm
    have hy := run_yield (P := P) (args := encs x) x2 (by rw [hR]; exact hps x)
    rw [hR] at hy
    have hlt : w.heap.size + 1 < W.heap.size := (Array.getElem?_eq_some_iff.1 x2).1
    refine ⟨fn, _, assign, body, hy, roundIn_of_wpIn hfn (hassign m _ pre x W _ hmm x1 ?_)⟩
    intro a' X kf kb xi xa
    have y2 := kf.same _ _ (by omega) x2 rfl
    have y3 := kf.same _ _ (Nat.le_refl _) x3 rfl
    have hltX : w.heap.size + 1 < X.heap.size := (Array.getElem?_eq_some_iff.1 y2).1
    refine ⟨_, run_beginRound y2 (by rw [hR]), ?_⟩
    obtain ⟨Y, hY⟩ : ∃ Y, X.putObj (w.heap.size + 1) (.loop { R .ready none with state := .busy }) = Y := ⟨_, rfl⟩
    have z2 : Y.heap[w.heap.size + 1]? = some (.loop { R .ready none with state := .busy }) := by rw [← hY]; exact World.putObj_heap_same hltX
    have z3 : Y.heap[w.heap.size]? = some (.deferred (some [])) := by rw [← hY]; exact (World.putObj_heap_other (by omega)).trans y3
    have zi : I m pre Y := by rw [← hY]; exact (hI m).putObj _ xi (by omega) y2 rfl
    have za : Ax m x a' Y := by rw [← hY]; exact (hAx m x a').putObj (s := ()) _ xa (by omega) y2 rfl
    have zb : KpR m (fun _ => False) (w.heap.size + 2) W Y := kb.trans (by rw [← hY]; exact KpR.put _ y2 rfl rfl)
    have zk : KeepsFrom (w.heap.size + 2) W Y := ⟨by rw [← hY]; simpa using kf.size, fun k o hB hk ho => by
      rw [← hY]; exact (World.putObj_heap_other (by omega)).trans (kf.same k o (by omega) hk ho)⟩
    have zl : w.heap.size + 2 + m ≤ Y.heap.size := by
      rw [← hY]; simp
      have := kf.size
      omega
    rw [hY]
    refine wpIn_mono (hbody m _ pre x a' Y (by omega) zl ⟨_, z2⟩ zi za hlen) ?_
    -- the end of a round
    have fin : ∀ (jump : Option Code) (Z : World), KeepsFrom w.heap.size Y Z → ∃ Z', (Instr.endRound (w.heap.size + 1) jump).run P Z = .ok (.bool jump.isNone) Z' ∧
        Z'.heap[w.heap.size + 1]? = some (.loop (R (if jump.isNone then .ready else .done) jump)) ∧ Z'.heap[w.heap.size]? = some (.deferred (some [])) ∧
        (∀ xs, I m xs Z → I m xs Z') ∧ (∀ c xs, Ix c xs Z → Ix c xs Z') ∧ KpR m (fun _ => False) (w.heap.size + 2) Z Z' ∧ KeepsFrom (w.heap.size + 2) Z Z' := by
      intro jump Z hk
      have q2 := hk.same _ _ (by omega) z2 rfl
      have q3 := hk.same _ _ (Nat.le_refl _) z3 rfl
      refine ⟨_, run_endRound (P := P) jump q2, ?_, (World.putObj_heap_other (by omega)).trans q3, fun xs hx => (hI m).putObj _ hx (by omega) q2 rfl, fun c xs hx => (hIx c).putObj _ hx (by omega) q2 rfl, KpR.put _ q2 rfl rfl, ?_⟩
      · rw [World.putObj_heap_same (Array.getElem?_eq_some_iff.1 q2).1, hR]
      · exact ⟨by simp, fun k o hB hk ho => (World.putObj_heap_other (by omega)).trans hk⟩
    rintro e a3 Z hp
    cases e with
    | normal =>
      obtain ⟨k1, k2, k3⟩ := hp
      obtain ⟨Z', e1, e2, e3, e4, _, e6, e7⟩ := fin none Z k1
      refine ⟨_, _, e1, .inl ⟨rfl, ⟨e4 _ k3, e2, e3⟩, ?_⟩⟩
      rw [hVs]
      exact ⟨(zk.trans ⟨k1.size, fun k o hB => k1.same k o (by omega)⟩).trans e7, (zb.trans k2).trans e6⟩
    | ret =>
      obtain ⟨k1, k3⟩ := hp
      obtain ⟨Z', e1, e2, e3, _, e5, _, e7⟩ := fin (some .ret) Z k1
      exact ⟨_, _, e1, .inr ⟨rfl, ⟨.ret, e5 _ _ k3, e2, e3⟩, by rw [hVs]; exact (zk.trans ⟨k1.size, fun k o hB => k1.same k o (by omega)⟩).trans e7⟩⟩
    | exit id =>
      obtain ⟨k1, k3⟩ := hp
      obtain ⟨Z', e1, e2, e3, _, e5, _, e7⟩ := fin (some (.exit id)) Z k1
      exact ⟨_, _, e1, .inr ⟨rfl, ⟨.exit id, e5 _ _ k3, e2, e3⟩, by rw [hVs]; exact (zk.trans ⟨k1.size, fun k o hB => k1.same k o (by omega)⟩).trans e7⟩⟩
    | goto t =>
      obtain ⟨k1, k3⟩ := hp
      obtain ⟨Z', e1, e2, e3, _, e5, _, e7⟩ := fin (some (.goto t)) Z k1
      exact ⟨_, _, e1, .inr ⟨rfl, ⟨.goto t, e5 _ _ k3, e2, e3⟩, by rw [hVs]; exact (zk.trans ⟨k1.size, fun k o hB => k1.same k o (by omega)⟩).trans e7⟩⟩
    | panic ch => exact hp.elim
    | outgrown => exact hp.elim
  · rintro e Z ⟨⟨v, rfl⟩, (⟨m, xs, hS, x1, x2, x3⟩ | ⟨pre, hSp, c, x1, x2, x3⟩)⟩
    · refine ⟨none, _, by have := run_endLoop (P := P) x2 (by rw [hR]; simp); rw [hR] at this; exact this, ?_⟩
      exact hdone _ m xs _ (Nat.le_refl _) hS ((hI m).putObj _ x1 (by omega) x2 rfl) ((World.putObj_heap_other (by omega)).trans x3)
    · refine ⟨some c, _, by have := run_endLoop (P := P) x2 (by rw [hR]; simp); rw [hR] at this; exact this, ?_⟩
      exact hstop _ c pre _ (Nat.le_refl _) hSp ((hIx c).putObj _ x1 (by omega) x2 rfl) ((World.putObj_heap_other (by omega)).trans x3)

/-- the same, where the loop's variable lies in a box of its own -/
theorem range6B {α : Type} {n : Nat} {P : Program} {g : Operand} {ps : Array Tmp} {assign body : Code} {Q : Exit → Act → World → Prop} {a : Act} {w : World}
    (h1 : 1 ≤ n) {gf : Nat} {lb : Array Value} (hg : a.eval g = .func (.func gf) #[] lb) (eg : ∀ args w, (callFunc gf args).run P w = .ok (.enter gf args) w)
    {encs : α → Array Value} {S Sp : List α → Prop} {w0 : World} (hseq : Gives6 (n - 1) P gf lb encs S Sp w0)
    (hb0 : Below w0.heap.size w0 w) (hps : ∀ x, (encs x).size = ps.size)
    (I : Nat → List α → World → Prop) (Ix : Code → List α → World → Prop) (hI : ∀ m, OwnFrom w.heap.size (I m)) (hIx : ∀ c, OwnFrom w.heap.size (Ix c)) (h0 : ∀ m, I m [] w) (o : α → Obj) (ho : ∀ x, (o x).isCells = true) (F : α → Nat → Act)
    (hassign : ∀ (l : Nat) (x : α) (W : World) (K : Act → World → Prop), (∀ Bx, Bx = W.heap.size → K (F x Bx) (W.alloc (o x))) →
      assign.wpIn (Fence.wide.inRound l) (n - 1 - 1) P (Exit.then K (fun _ _ _ => False)) { tmps := (ps.zip (encs x)).foldl (fun t (p, v) => t.setIfInBounds p v) a.tmps, defers := [] } W)
    (hbody : ∀ (m l : Nat) (pre : List α) (x : α) (Bx : Nat) (W : World), w.heap.size ≤ l → w.heap.size + 2 + m ≤ W.heap.size → (∃ r, W.heap[l]? = some (.loop r)) → I m pre W → W.heap[Bx]? = some (o x) → w.heap.size + 2 + m ≤ Bx → Sp (pre ++ [x]) →
      body.wpIn (Fence.wide.inRound l) (n - 1 - 1) P (ownPostG w.heap.size (KpR m (fun _ => False) (w.heap.size + 2)) (I m) Ix (pre ++ [x]) W) (F x Bx) W)
    (hdone : ∀ (D m : Nat) (xs : List α) (W : World), w.heap.size ≤ D → S xs → I m xs W → W.heap[D]? = some (.deferred (some [])) → Q .normal { a with defers := { target := .collected D, args := #[] } :: a.defers } W)
    (hstop : ∀ (D : Nat) (c : Code) (pre : List α) (W : World), w.heap.size ≤ D → Sp pre → Ix c pre W → W.heap[D]? = some (.deferred (some [])) → c.wpIn Fence.wide n P Q { a with defers := { target := .collected D, args := #[] } :: a.defers } W) :
    (Code.rangeFunc g ps assign body).wpIn Fence.wide n P Q a w :=
  range6 h1 hg eg hseq hb0 hps I Ix hI hIx h0 (fun m x a' W => ∃ Bx, W.heap[Bx]? = some (o x) ∧ w.heap.size + 2 + m ≤ Bx ∧ a' = F x Bx)
    (fun m x a' st A B row hx hg hr => by
      obtain ⟨Bx, h1, h2, h3⟩ := hx
      exact ⟨Bx, (grownBy_keeps_cells hg (fun r e => (hr r e).2) h1 (ho x)).trans h1, h2, h3⟩)
    (fun m l pre x W K hs hi hK => hassign l x W K fun Bx hBx => hK _ _ ((KeepsOthers.alloc _ _).from _) ⟨KeepsWalks.alloc _ _, fun k ob _ _ h => (Below.heap_alloc W _ _ (Array.getElem?_eq_some_iff.1 h).1).trans h⟩ ((hI m).alloc _ hi) ⟨Bx, by rw [hBx]; exact World.alloc_heap_new W _, by omega, rfl⟩)
    (fun m l pre x a' W hl hw hr hi hx hlen => by
      obtain ⟨Bx, q1, q2, rfl⟩ := hx
      exact hbody m l pre x Bx W hl hw hr hi q1 q2 hlen) hdone hstop
end Go.Seq6
/-
  given and Named: the greatest ranges of named code points that have one class.
-/
namespace Go.Proofs.YthgaadjkjnibaaaGreatDoor
open Go.RowKit Go.PlainAid Go.Lib Go.PHexM Go.Shelf Go.PRow Go.Seq4 Go.Seq6
attribute [local go_sem] Oper.semAt_some
set_option linter.unusedVariables false
set_option linter.unusedSimpArgs false

/-- the classes of what is named -/
def gvP (t : TabD) : List (Pc Int) := (strsP VN.eqv t.ns).map clsP
theorem gv_ok {t : TabD} (o : OkT t) : OkP (gvP t) := cls_ok (strs_ok VN.eqv o.1)
def namedP (t : TabD) : List (Pc Int) := strsP VC.eqv (gvP t)

theorem given_tab {W : World} {B bt bN bC : Nat} {vN vC vM : Value} {t : TabD} (h : TabP W B bt bN bC vN vC vM t) :
    Calls Tryz.prog 42 #[.pointer (some ⟨bt, 0, none⟩)] W fun e w' => ∃ bm u, e = .returned (.pointer (some ⟨bm, 0, none⟩)) ∧ VC.IsMap w' bm u ∧ VC.RowP w' W.heap.size u (gvP t) ∧ W.heap.size ≤ bm ∧ Below W.heap.size W w' := by
  have HH := hide (held7_tab h)
  have HT := hide (fun V (hV : Below W.heap.size W V) => turn_map bN vN B t.ns h.ok.1 V (h.mN.below hV) (h.rN.below hV))
  have fd := field7_0
  obtain ⟨Q, hQ⟩ : ∃ Q : Ending → World → Prop, (fun e w' => ∃ bm u, e = .returned (.pointer (some ⟨bm, 0, none⟩)) ∧ VC.IsMap w' bm u ∧ VC.RowP w' W.heap.size u (gvP t) ∧ W.heap.size ≤ bm ∧ Below W.heap.size W w') = Q := ⟨_, rfl⟩
  rw [hQ]
  have HQ := hide hQ
  clear h hQ
  go_enter Tryz.func42, Tryz.ntmps42
  go_wp2_with fail
  refine (unhide HH).mono ?_
  rintro e w1 ⟨rfl, hb1⟩
  go_wp2_with fail
  refine (unhide HT _ hb1).mono ?_
  rintro e w2 ⟨bm, u, rfl, h1, h2, h3, h4⟩
  have FIN : Hid (Q (.returned (.pointer (some ⟨bm, 0, none⟩))) w2) := by
    show Q _ _
    rw [← unhide HQ]
    exact ⟨bm, u, rfl, h1, VC.RowP.mono h2 hb1.size, Nat.le_trans hb1.size h3, hb1.trans (h4.mono hb1.size)⟩
  clear h1 h2 h3 h4 hb1
  go_wp2
  exact unhide FIN

theorem named_in (bt : Nat) (w : World) :
    Calls Tryz.prog 20 #[.pointer (some ⟨bt, 0, none⟩)] w fun e w' => e = .returned (.func (.func 41) #[] #[.pointer (some ⟨w.heap.size, 0, none⟩)]) ∧ w' = w.alloc (.cells #[.pointer (some ⟨bt, 0, none⟩)] 23) := by
  have hmf : ∀ (fn : Fn) (first cap : Array Value) (w : World), (Instr.makeFunc fn first cap).run Tryz.prog w = .ok (.func fn first cap) w := fun _ _ _ _ => rfl
  go_enter Tryz.func20, Tryz.ntmps20
  go_wp2
  go_ret
  exact ⟨rfl, rfl⟩

set_option maxRecDepth 100000 in
set_option maxHeartbeats 4000000 in
theorem named1_in {B bt bN bC : Nat} {vN vC vM : Value} {t : TabD} (n l Bm : Nat) (hn : 7 ≤ n) (J : Nat → List (Pc Int) → World → Prop) (Jx : List (Pc Int) → World → Prop) (W : World)
    (hY : ∀ m pre x W1, J m pre W1 → (pre ++ [x]) <+: namedP t → W.heap.size + m ≤ W1.heap.size → YieldAt Fence.wide (n - 1) Tryz.prog l (VC.strV x) W1 fun e W' =>
      (e = .returned (.bool true) ∧ J m (pre ++ [x]) W' ∧ Kp4 m (fun _ => False) W.heap.size W1 W') ∨ (e = .returned (.bool false) ∧ Jx (pre ++ [x]) W' ∧ KeepsFrom W.heap.size W1 W'))
    (hJ : ∀ m, OwnFrom W.heap.size (J m)) (hJx : OwnFrom W.heap.size Jx) (hBm : W.heap[Bm]? = some (.cells #[.pointer (some ⟨bt, 0, none⟩)] 23 (0, 0))) (hT : TabP W B bt bN bC vN vC vM t) (h0 : ∀ m, J m [] W) :
    CallsIn Fence.wide n Tryz.prog 41 #[.func (.yield l) #[] #[], .pointer (some ⟨Bm, 0, none⟩)] W fun e W' => (∃ v, e = .returned v) ∧
      ((∃ m xs, xs = namedP t ∧ J m xs W') ∨ (∃ pre, pre <+: namedP t ∧ Jx pre W')) := by
  obtain ⟨W1, hW1⟩ : ∃ W1, W1 = W.alloc (.cells #[.func (.yield l) #[] #[]] 95) := ⟨_, rfl⟩
  have hB1 : Below W.heap.size W W1 := by rw [hW1]; exact (Below.refl _ W).alloc (Nat.le_refl _) _
  have hs1 : W1.heap.size = W.heap.size + 1 := by rw [hW1]; simp
  have y1 : W1.heap[W.heap.size]? = some (.cells #[.func (.yield l) #[] #[]] 95 (0, 0)) := by rw [hW1]; exact heap_alloc_new W _
  have HG := hide (given_tab (hT.below hB1))
  have c1 : W1.cell? ⟨Bm, 0, none⟩ = some (.pointer (some ⟨bt, 0, none⟩)) := cellH ((hB1.block Bm (Array.getElem?_eq_some_iff.1 hBm).1).trans hBm) rfl
  have hok := gv_ok hT.ok
  refine callsIn_of_wp_marks Tryz.func41 rfl trivial ?_ rfl
  simp only [Tryz.ntmps41, List.size_toArray, List.length_cons, List.length_nil, Nat.reduceAdd, Nat.reduceSub, Array.replicate_succ, Array.replicate_zero, List.push_toArray, List.append_toArray, List.nil_append, List.cons_append]
  have hF : ∀ f, Fence.wide.fn f := fun _ => trivial
  have hn1 : 1 ≤ n := by omega
  have HYY := hide hY
  clear hY hT hBm
  have c1' := c1
  rw [hW1] at c1'
  gi_wp2_with fail
  rw [← hW1]
  clear hW1 c1'
  refine (callsIn_wide.2 (unhide HG)).mono ?_
  rintro e W2 ⟨bm, u, rfl, hm2, hr2, hbm2, hb2⟩
  gi_wp2_with fail
  refine (callsIn_wide.2 (VC.all_in bm _)).mono ?_
  rintro e w' ⟨rfl, rfl⟩
  gi_wp2
  obtain ⟨W0, hW0⟩ : ∃ W0, W2.alloc (.cells #[.pointer (some ⟨bm, 0, none⟩)] 64) = W0 := ⟨_, rfl⟩
  have hs2 := hb2.size
  have hsz : W0.heap.size = W2.heap.size + 1 := by rw [← hW0]; simp
  have hbx : W0.heap[W2.heap.size]? = some (.cells #[.pointer (some ⟨bm, 0, none⟩)] 64 (0, 0)) := by rw [← hW0]; exact heap_alloc_new W2 _
  have hb20 : Below W2.heap.size W2 W0 := by rw [← hW0]; exact (Below.refl _ W2).alloc (Nat.le_refl _) _
  have hr0 : VC.RowP W0 0 u (gvP t) := VC.RowP.mono (VC.RowP.below hr2 hb20) (Nat.zero_le _)
  have hm0 := VC.IsMap.below hm2 hb20
  have y0 : W0.heap[W.heap.size]? = some (.cells #[.func (.yield l) #[] #[]] 95 (0, 0)) := ((hb20.block _ (by omega)).trans (hb2.block _ (by omega))).trans y1
  have hJ0 : ∀ m, J m [] W0 := fun m => hJ m [] W W0 none (h0 m) ⟨(hb20.os.trans hb2.os).trans hB1.os, (hb20.tape.trans hb2.tape).trans hB1.tape, (hb20.output.trans hb2.output).trans hB1.output, by omega, fun k hk _ => ((hb20.block k (by omega)).trans (hb2.block k (by omega))).trans (hB1.block k hk)⟩ (fun r e => by cases e)
  obtain ⟨m, hm⟩ : ∃ m, W.heap.size + m = W0.heap.size + 2 + VC.T4 := ⟨W0.heap.size + 2 + VC.T4 - W.heap.size, by omega⟩
  rw [hW0]
  clear hW0 HG
  refine range4B (by omega) (gf := 68) (lb := #[.pointer (some ⟨W2.heap.size, 0, none⟩)]) rfl (enters_of Tryz.func68 (by kernel_rfl) rfl)
    (VC.all_gives (gvP t) hok _ W2.heap.size bm u (by omega) W0 hbx hm0 hr0) (Below.refl _ _) (fun _ => rfl)
    (fun pre V => J m pre V ∧ V.heap[W.heap.size]? = some (.cells #[.func (.yield l) #[] #[]] 95 (0, 0)) ∧ W0.heap.size ≤ V.heap.size)
    (fun c pre V => c = .ret ∧ Jx pre V)
    (OwnFrom.and (fun st A B row hx hg hr => OwnFrom.le (hJ m) (by omega) st A B row hx hg hr) ((own_block _ _ _ rfl).and (own_size _ _)))
    (fun c st A B row hx hg hr => ⟨hx.1, OwnFrom.le hJx (by omega) st A B row hx.2 hg hr⟩) (CalmR.none _ _ _)
    ⟨hJ0 m, y0, Nat.le_refl _⟩
    (fun x => .cells #[.int .i32 x.lo, .int .i32 x.hi] 32 (0, 0)) (fun _ => rfl) ?fr ?assign ?body ?done ?stop
  case assign =>
    intro l2 x V K hK
    gi_wp2
    generalize hBx : V.heap.size = Bx
    exact hK Bx hBx.symm
  case body =>
    rintro l2 pre x Bx V hl hsz2 ⟨r, hr⟩ ⟨h1, h2, h3⟩ hx1 hx2 hSp
    have z0 : V.cell? ⟨Bx, 0, none⟩ = some (.int .i32 x.lo) := cellH hx1 rfl
    have z1 : V.cell? ⟨Bx, 1, none⟩ = some (.int .i32 x.hi) := cellH hx1 rfl
    have z2 : V.cell? ⟨W.heap.size, 0, none⟩ = some (.func (.yield l) #[] #[]) := cellH h2 rfl
    have hn2 : 1 ≤ n - 1 - 1 := by omega
    obtain ⟨fn, tmps, assign, body, hy, hR⟩ := yieldIn (m := n - 1 - 1 - 1) (lr := l2) (unhide HYY m pre x V h1 hSp (by omega))
    dsimp only [VC.strV] at hy
    gi_wp2
    refine hR.mono ?_
    rintro e V5 (⟨rfl, hJ5, hk5⟩ | ⟨rfl, hJx5, hk5⟩)
    · gi_wp2
      have hKF := hk5.1
      have hKR := hk5.2.2
      refine ⟨⟨hKF.size, fun k ob hB => hKF.same k ob (by omega)⟩, ⟨hk5.2.1, fun k ob hk ho hx => ?_⟩, hJ5, hKR _ _ (.inl ⟨Nat.le_refl _, by omega⟩) rfl h2, ?_⟩
      · rcases hk with hk | hk
        · exact hKR _ _ (.inl ⟨by omega, by omega⟩) ho hx
        · exact hk.elim
      · have := hKF.size; omega
    · gi_wp2
      exact ⟨⟨hk5.size, fun k ob hB => hk5.same k ob (by omega)⟩, rfl, hJx5⟩
  case done =>
    rintro D xs V hD hS ⟨h1, h2, h3⟩ hK
    subst hS
    gi_wp2
    refine ⟨by simp, .inl ⟨_, _, rfl, run_takeDeferred hK, ?_⟩⟩
    refine ⟨_, results_none rfl _ _ _, ⟨_, rfl⟩, .inl ⟨m, _, rfl, ?_⟩⟩
    exact hJ m _ V _ (some D) h1 (grownBy_putObj' V D _) (fun r e => by cases e; exact ⟨by omega, _, hK, rfl⟩)
  case stop =>
    rintro D c pre V hD hSp ⟨rfl, hx⟩ hK
    gi_wp2
    refine ⟨by simp, .inl ⟨_, _, rfl, run_takeDeferred hK, ?_⟩⟩
    refine ⟨_, results_none rfl _ _ _, ⟨_, rfl⟩, .inr ⟨pre, hSp, ?_⟩⟩
    exact hJx _ V _ (some D) hx (grownBy_putObj' V D _) (fun r e => by cases e; exact ⟨by omega, _, hK, rfl⟩)

theorem named_gives {B bt bN bC : Nat} {vN vC vM : Value} {t : TabD} (n Bm : Nat) (hn : 7 ≤ n) (w : World) (hBm : w.heap[Bm]? = some (.cells #[.pointer (some ⟨bt, 0, none⟩)] 23 (0, 0))) (hT : TabP w B bt bN bC vN vC vM t) :
    Gives6 n Tryz.prog 41 #[.pointer (some ⟨Bm, 0, none⟩)] VC.strV (fun xs => xs = namedP t) (fun pre => pre <+: namedP t) w :=
  fun l J Jx W hW hJ hJx hY h0 => named1_in n l Bm hn J Jx W hY hJ hJx ((hW.block Bm (Array.getElem?_eq_some_iff.1 hBm).1).trans hBm) (hT.below hW) h0
end Go.Proofs.YthgaadjkjnibaaaGreatDoor

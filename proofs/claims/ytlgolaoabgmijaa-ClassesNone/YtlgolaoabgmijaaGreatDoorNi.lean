/-
  These texts, one behind the other: ClNi1, ClNi2.
-/
import Derived.Test.YtlgolaoabgmijaaGreatDoorCt
/-
  Maps that are nil: At, All, Turn.
-/
namespace Go.Proofs.YtlgolaoabgmijaaGreatDoor
open Go.RowKit Go.PlainAid Go.Lib Go.PHexM Go.Shelf Go.PRow Go.Seq4
attribute [local go_sem] Oper.semAt_some
set_option linter.unusedVariables false
set_option linter.unusedSimpArgs false

theorem VN.held_nil (w : World) : Calls Tryz.prog 71 #[.pointer none] w fun e w' => e = .returned (.slice none 0 0) ∧ w' = w := by
  go_enter Tryz.func71, Tryz.ntmps71
  go_wp2
  go_ret
  exact ⟨rfl, rfl⟩
theorem VC.held_nil (w : World) : Calls Tryz.prog 73 #[.pointer none] w fun e w' => e = .returned (.slice none 0 0) ∧ w' = w := by
  go_enter Tryz.func73, Tryz.ntmps73
  go_wp2
  go_ret
  exact ⟨rfl, rfl⟩
set_option maxHeartbeats 2000000 in
theorem VC.at_nil (x : Int) (w : World) :
    Calls Tryz.prog 38 #[.pointer none, .int .i32 x] w fun e w' => e = .returned (.tuple #[.int .u8 0, .bool false]) ∧ Below w.heap.size w w' := by
  have HH := hide (VC.held_nil w)
  have HMt := hide (VC.meeting_any 0 (.slice none 0 0) [] OkP.nil x x (Int.le_refl x) w (RowV.nil _ _ _ _ _))
  obtain ⟨a', c', hmv⟩ : ∃ a' c', VC.midV (.slice none 0 0) (frI ([] : List (Pc Int)) x) (upI ([] : List (Pc Int)) x) = .slice a' 0 c' := ⟨_, _, rfl⟩
  rw [hmv] at HMt
  clear hmv
  go_enter Tryz.func38, Tryz.ntmps38
  go_wp2_with (first | (go_at_call 73; refine (unhide HH).mono ?_; rintro e w1 ⟨rfl, rfl⟩) | (go_at_call 72; refine (unhide HMt).mono ?_; rintro e w2 ⟨rfl, hb⟩))
  go_loopg [16] 1 (fun kx s16 wr => s16 = .int .i64 0 ∧ wr = w2)
  case atStart => exact ⟨rfl, rfl⟩
  case round =>
    obtain ⟨rfl, rfl⟩ := hrel
    go_wp2
    go_ret2
    exact ⟨rfl, hb⟩
end Go.Proofs.YtlgolaoabgmijaaGreatDoor
namespace Go.Proofs.YtlgolaoabgmijaaGreatDoor.VN
open Go.RowKit Go.PlainAid Go.Lib Go.PRow Go.Shelf Go.Seq4
attribute [local go_sem] Oper.semAt_some
set_option linter.unusedVariables false
set_option linter.unusedSimpArgs false

set_option maxHeartbeats 2000000 in
theorem at_nil (x : Int) (w : World) :
    Calls Tryz.prog 35 #[.pointer none, .int .i32 x] w fun e w' => e = .returned (.tuple #[.agg #[.int .u8 0, .int .i64 0], .bool false]) ∧ Below w.heap.size w w' := by
  have hB0 : Below w.heap.size w (w.alloc zeroN) := (Below.refl _ w).alloc (Nat.le_refl _) _
  have HH := hide (VN.held_nil (w.alloc zeroN))
  have HMt := hide (VN.meeting_any 0 (.slice none 0 0) [] OkP.nil x x (Int.le_refl x) (w.alloc zeroN) (RowV.nil _ _ _ _ _))
  have hx0 : (w.alloc zeroN).heap[w.heap.size]? = some (.cells #[.int .u8 0, .int .i64 0] 85 (0, 0)) := heap_alloc_new w _
  obtain ⟨a', c', hmv⟩ : ∃ a' c', VN.midV (.slice none 0 0) (frI ([] : List (Pc (Int × Int))) x) (upI ([] : List (Pc (Int × Int))) x) = .slice a' 0 c' := ⟨_, _, rfl⟩
  rw [hmv] at HMt
  clear hmv
  go_enter Tryz.func35, Tryz.ntmps35
  go_wp2_with (first | (go_at_call 71; refine (unhide HH).mono ?_; rintro e w1 ⟨rfl, rfl⟩) | (go_at_call 70; refine (unhide HMt).mono ?_; rintro e w2 ⟨rfl, hb⟩))
  have hx2 := (hb.block w.heap.size (by simp)).trans hx0
  have hbw : Below w.heap.size w w2 := hB0.trans (hb.mono (by simp))
  obtain ⟨W3, hW3⟩ : ∃ W3, w2.alloc zeroN = W3 := ⟨_, rfl⟩
  have hx3 : W3.heap[w.heap.size]? = some (.cells #[.int .u8 0, .int .i64 0] 85 (0, 0)) := by
    rw [← hW3]; exact (Below.heap_alloc w2 _ w.heap.size (Array.getElem?_eq_some_iff.1 hx2).1).trans hx2
  have hb3 : Below w.heap.size w W3 := by rw [← hW3]; exact hbw.alloc hbw.size _
  have p3 : W3.heap[w2.heap.size]? = some (.cells #[.int .u8 0, .int .i64 0] 85 (0, 0)) := by rw [← hW3]; exact heap_alloc_new w2 _
  have y0 : W3.cell? ⟨w2.heap.size, 0, none⟩ = some (.int .u8 0) := by simp [World.cell?, p3]
  have y1 : W3.cell? ⟨w2.heap.size, 1, none⟩ = some (.int .i64 0) := by simp [World.cell?, p3]
  have z0 : W3.cell? ⟨w.heap.size, 0, none⟩ = some (.int .u8 0) := by simp [World.cell?, hx3]
  have z1 : W3.cell? ⟨w.heap.size, 1, none⟩ = some (.int .i64 0) := by simp [World.cell?, hx3]
  have f0 : W3.frozen? ⟨w.heap.size, 0, none⟩ = false := by simp [World.frozen?, hx3]
  have f1 : W3.frozen? ⟨w.heap.size, 1, none⟩ = false := by simp [World.frozen?, hx3]
  obtain ⟨k0, k1⟩ := nam_box 0 0 hx3
  have HBE := hide ((hb3.setCell (p := ⟨w.heap.size, 0, none⟩) (Nat.le_refl _) (.int .u8 0)).setCell (p := ⟨w.heap.size, 1, none⟩) (Nat.le_refl _) (.int .i64 0))
  have HK := hide (⟨k0, k1⟩ : _ ∧ _)
  clear k0 k1 hx3 hx2 hx0 p3 hb hbw hb3 hB0
  go_loopg [16] 1 (fun kx s16 wr => s16 = .int .i64 0 ∧ wr = w2)
  case atStart => exact ⟨rfl, rfl⟩
  case round =>
    obtain ⟨rfl, rfl⟩ := hrel
    go_wp2
    refine bodyPost_ret (v := .tuple #[.agg #[.int .u8 0, .int .i64 0], .bool false]) ?_ rfl ⟨rfl, unhide HBE⟩
    obtain ⟨k0, k1⟩ := unhide HK
    simp [results, Tryz.results35, go_sem, k0, k1]

theorem all_nil_in (w : World) :
    Calls Tryz.prog 153 #[.pointer none] w fun e w' => e = .returned (.func (.func 187) #[] #[.pointer (some ⟨w.heap.size, 0, none⟩)]) ∧ w' = w.alloc (.cells #[.pointer none] 87) := by
  have hmf : ∀ (fn : Fn) (first cap : Array Value) (w : World), (Instr.makeFunc fn first cap).run Tryz.prog w = .ok (.func fn first cap) w := fun _ _ _ _ => rfl
  go_enter Tryz.func153, Tryz.ntmps153
  go_wp2
  go_ret
  exact ⟨rfl, rfl⟩


set_option maxRecDepth 100000 in
set_option maxHeartbeats 4000000 in
theorem all1_nil (ps : List (Pc (Int × Int))) (hps : ps = []) (n l Bm : Nat) (v : Value) (hv : v = .slice none 0 0) (hn : 6 ≤ n) (J Jx : List (Pc (Int × Int)) → World → Prop) (W : World)
    (hY : ∀ pre x W1, J pre W1 → (pre ++ [x]) <+: strsP eqv ps → W.heap.size + T4 ≤ W1.heap.size → YieldAt Fence.wide (n - 1) Tryz.prog l (strV x) W1 fun e W' =>
      (e = .returned (.bool true) ∧ J (pre ++ [x]) W' ∧ Kp4 T4 (fun _ => False) W.heap.size W1 W') ∨ (e = .returned (.bool false) ∧ Jx (pre ++ [x]) W' ∧ KeepsFrom W.heap.size W1 W'))
    (hJ : OwnFrom W.heap.size J) (hJx : OwnFrom W.heap.size Jx) (hBm : W.heap[Bm]? = some (.cells #[.pointer none] 87 (0, 0))) (h0 : J [] W) :
    CallsIn Fence.wide n Tryz.prog 187 #[.func (.yield l) #[] #[], .pointer (some ⟨Bm, 0, none⟩)] W fun e W' => (∃ v, e = .returned v) ∧
      ((∃ xs, xs = strsP eqv ps ∧ J xs W') ∨ (∃ pre, pre <+: strsP eqv ps ∧ Jx pre W')) := by
  have o : OkP ps := by rw [hps]; exact OkP.nil
  have hr : RowP W 0 v ps := by rw [hps, hv]; exact RowV.nil _ _ _ _ _
  have hlen := okP_len o
  obtain ⟨W1, hW1⟩ : ∃ W1, W1 = W.alloc (.cells #[.func (.yield l) #[] #[]] 272) := ⟨_, rfl⟩
  have hB1 : Below W.heap.size W W1 := by rw [hW1]; exact (Below.refl _ W).alloc (Nat.le_refl _) _
  have hs1 : W1.heap.size = W.heap.size + 1 := by rw [hW1]; simp
  have y1 : W1.heap[W.heap.size]? = some (.cells #[.func (.yield l) #[] #[]] 272 (0, 0)) := by rw [hW1]; exact heap_alloc_new W _
  have HH : Hid (Calls Tryz.prog 71 #[.pointer none] W1 fun e w' => e = .returned v ∧ w' = W1) := by rw [hv]; exact held_nil W1
  clear hv
  have HC := hide (VN.clone_any 0 v ps W1 (hr.below hB1) (by omega))
  have c1 : W1.cell? ⟨Bm, 0, none⟩ = some (.pointer none) := by
    have e : W1.heap[Bm]? = _ := (hB1.block Bm (Array.getElem?_eq_some_iff.1 hBm).1).trans hBm
    simp [World.cell?, e]
  obtain ⟨a, cap, rfl, hc1, hc2, -, -⟩ := hr.form
  refine callsIn_of_wp_marks Tryz.func187 rfl trivial ?_ rfl
  simp only [Tryz.ntmps187, List.size_toArray, List.length_cons, List.length_nil, Nat.reduceAdd, Nat.reduceSub, Array.replicate_succ, Array.replicate_zero, List.push_toArray, List.append_toArray, List.nil_append, List.cons_append]
  have hF : ∀ f, Fence.wide.fn f := fun _ => trivial
  have hn1 : 1 ≤ n := by omega
  have HYY := hide hY
  clear hY hr hps
  have c1' := c1
  rw [hW1] at c1'
  gi_wp2_with fail
  rw [← hW1]
  clear hW1 c1'
  refine (callsIn_wide.2 (unhide HH)).mono ?_
  rintro e w' ⟨rfl, h⟩
  obtain rfl : W1 = w' := h.symm
  gi_wp2_with fail
  refine (callsIn_wide.2 (unhide HC)).mono ?_
  rintro e W2 ⟨v2, rfl, hr2, hb2, hx2⟩
  obtain ⟨a2, cap2, rfl, hc3, hc4, -, -⟩ := hr2.form
  gi_wp2_with fail
  refine (callsIn_wide.2 (str_in a2 ps.length cap2 _)).mono ?_
  rintro e w' ⟨rfl, rfl⟩
  gi_wp2
  obtain ⟨W0, hW0⟩ : ∃ W0, W2.alloc (.cells #[.slice a2 ps.length cap2] 141) = W0 := ⟨_, rfl⟩
  have hs2 := hb2.size
  have hsz : W0.heap.size = W2.heap.size + 1 := by rw [← hW0]; simp
  have hbx : W0.heap[W2.heap.size]? = some (.cells #[.slice a2 ps.length cap2] 141 (0, 0)) := by rw [← hW0]; exact heap_alloc_new W2 _
  have hb20 : Below W2.heap.size W2 W0 := by rw [← hW0]; exact (Below.refl _ W2).alloc (Nat.le_refl _) _
  have hr0 : RowP W0 W1.heap.size (.slice a2 ps.length cap2) ps := hr2.below hb20
  have y0 : W0.heap[W.heap.size]? = some (.cells #[.func (.yield l) #[] #[]] 272 (0, 0)) := ((hb20.block _ (by omega)).trans (hb2.block _ (by omega))).trans y1
  have hJ0 : J [] W0 := hJ [] W W0 none h0 ⟨(hb20.os.trans hb2.os).trans hB1.os, (hb20.tape.trans hb2.tape).trans hB1.tape, (hb20.output.trans hb2.output).trans hB1.output, by omega, fun k hk _ => ((hb20.block k (by omega)).trans (hb2.block k (by omega))).trans (hB1.block k hk)⟩ (fun r e => by cases e)
  have hrow : ∀ g, blk (.slice a2 ps.length cap2) = some g → ∃ o : Obj, W0.heap[g]? = some o ∧ o.isCells = true ∧ W1.heap.size ≤ g ∧ g < W2.heap.size := fun g hg => by
    have hl := RowV.lt hr2 g hg
    rcases hr0.2 with ⟨a', e, _⟩ | ⟨g', cp, cur, e, _, hh, _⟩
    · injection e with e1 e2 e3
      rw [e3, blk_zero] at hg; cases hg
    · injection e with e1 e2 e3
      subst e1
      cases cap2 with
      | zero => rw [blk_zero] at hg; cases hg
      | succ c => cases hg; exact ⟨_, hh, rfl, hl.1, hl.2⟩
  have hne : ∀ pre (x : Pc (Int × Int)), (pre ++ [x]) <+: strsP eqv ps → W2.heap.size = W.heap.size + 3 := fun pre x h => by
    have : ps ≠ [] := by
      intro e
      subst e
      obtain ⟨t, ht⟩ := h
      simp [strsP] at ht
    have := (hx2 this).1
    omega
  rw [hW0]
  clear hW0 HH HC
  refine range4 (by omega) (gf := 226) (lb := #[.pointer (some ⟨W2.heap.size, 0, none⟩)]) rfl (enters_of Tryz.func226 (by kernel_rfl) rfl)
    (str_gives ps o _ W2.heap.size (.slice a2 ps.length cap2) (by omega) W0 hbx (hr0.mono (Nat.zero_le _))) (Below.refl _ _) (fun _ => by rfl)
    (fun pre V => J pre V ∧ V.heap[W.heap.size]? = some (.cells #[.func (.yield l) #[] #[]] 272 (0, 0)) ∧ V.heap[W2.heap.size]? = some (.cells #[.slice a2 ps.length cap2] 141 (0, 0)) ∧ (∀ g o, blk (.slice a2 ps.length cap2) = some g → W0.heap[g]? = some o → V.heap[g]? = some o) ∧ W0.heap.size ≤ V.heap.size)
    (fun c pre V => c = .ret ∧ Jx pre V)
    (OwnFrom.and (fun st A B row hx hg hr => OwnFrom.le hJ (by omega) st A B row hx hg hr) ((own_block _ _ _ rfl).and ((own_block _ _ _ rfl).and (OwnFrom.and (fun st A B row hx hg hr g o h1 h2 => by
      obtain ⟨o', ho', hc', _⟩ := hrow g h1
      rw [h2] at ho'
      cases ho'
      exact (grownBy_keeps_cells hg (fun r e => (hr r e).2) (hx g o h1 h2) hc').trans (hx g o h1 h2)) (own_size _ _)))))
    (fun c st A B row hx hg hr => ⟨hx.1, OwnFrom.le hJx (by omega) st A B row hx.2 hg hr⟩) (CalmR.none _ _ _)
    ⟨hJ0, y0, hbx, fun _ _ _ h => h, Nat.le_refl _⟩
    (fun x a' V => ∃ Bx By, V.heap[Bx]? = some (.cells #[.int .i32 x.lo, .int .i32 x.hi] 45 (0, 0)) ∧ V.heap[By]? = some (.cells #[.int .u8 x.val.1, .int .i64 x.val.2] 85 (0, 0)) ∧ W0.heap.size ≤ Bx ∧ a' = { tmps := #[.func (.yield l) #[] #[], .pointer (some ⟨Bm, 0, none⟩), .pointer (some ⟨W.heap.size, 0, none⟩), .slice a2 ps.length cap2, .pointer (some ⟨Bx, 0, none⟩), .pointer (some ⟨By, 0, none⟩), .pointer none, .slice a ps.length cap, .slice a2 ps.length cap2, .slice a2 ps.length cap2, .func (.func 226) #[] #[.pointer (some ⟨W2.heap.size, 0, none⟩)], .agg #[.int .i32 x.lo, .int .i32 x.hi], encN x.val, undef, undef, undef, undef, undef], defers := [] })
    (fun x a' st A B row hx hg hr => by
        obtain ⟨Bx, By, h1, h1', h2, h3⟩ := hx
        exact ⟨Bx, By, own_block (β := Unit) _ _ _ rfl () A B row h1 hg hr, own_block (β := Unit) _ _ _ rfl () A B row h1' hg hr, h2, h3⟩) ?assign ?body ?done ?stop
  case assign =>
    rintro l2 pre x V K hsz2 ⟨h1, h2, h3, h4, h5⟩ hK
    gi_wp2
    obtain ⟨V1, hV1⟩ : ∃ V1, V.alloc (.cells #[.int .i32 x.lo, .int .i32 x.hi] 45) = V1 := ⟨_, rfl⟩
    rw [hV1]
    have hs1 : V1.heap.size = V.heap.size + 1 := by rw [← hV1]; simp
    have hb : ∀ k (ob : Obj), V.heap[k]? = some ob → (V1.alloc (.cells #[.int .u8 x.val.1, .int .i64 x.val.2] 85)).heap[k]? = some ob := fun k ob h => by
      have hlt := (Array.getElem?_eq_some_iff.1 h).1
      rw [Below.heap_alloc V1 _ k (by omega), ← hV1]
      exact (Below.heap_alloc V _ k hlt).trans h
    have hn1 : V1.heap[V.heap.size]? = some (.cells #[.int .i32 x.lo, .int .i32 x.hi] 45 (0, 0)) := by rw [← hV1]; exact heap_alloc_new V _
    have hn2 := heap_alloc_new V1 (.cells #[.int .u8 x.val.1, .int .i64 x.val.2] 85)
    rw [hs1] at hn2
    have hJ1 : J pre V1 := by rw [← hV1]; exact hJ.alloc _ h1
    exact hK _ _ ((by rw [← hV1]; exact (KeepsOthers.alloc _ _).trans (KeepsOthers.alloc _ _) : KeepsOthers V _).from _) ⟨(by rw [← hV1]; exact (KeepsWalks.alloc _ _).trans (KeepsWalks.alloc _ _)), fun k ob hk _ h => hb k ob h⟩ ⟨hJ.alloc _ hJ1, hb _ _ h2, hb _ _ h3, fun g o e1 e2 => hb _ _ (h4 g o e1 e2), by simp; omega⟩ ⟨V.heap.size, V.heap.size + 1, (Below.heap_alloc V1 _ _ (by omega)).trans hn1, hn2, by omega, rfl⟩
  case body =>
    rintro l2 pre x a' V hl hsz2 ⟨r, hr⟩ ⟨h1, h2, h3, h4, h5⟩ ⟨Bx, By, hx1, hy1, hx2', rfl⟩ hSp
    have z3 : V.cell? ⟨By, 0, none⟩ = some (.int .u8 x.val.1) := by simp [World.cell?, hy1]
    have z4 : V.cell? ⟨By, 1, none⟩ = some (.int .i64 x.val.2) := by simp [World.cell?, hy1]
    have z0 : V.cell? ⟨Bx, 0, none⟩ = some (.int .i32 x.lo) := by simp [World.cell?, hx1]
    have z1 : V.cell? ⟨Bx, 1, none⟩ = some (.int .i32 x.hi) := by simp [World.cell?, hx1]
    have z2 : V.cell? ⟨W.heap.size, 0, none⟩ = some (.func (.yield l) #[] #[]) := by simp [World.cell?, h2]
    have hw2 := hne pre x hSp
    have hn2 : 1 ≤ n - 1 - 1 := by omega
    obtain ⟨fn, tmps, assign, body, hy, hR⟩ := yieldIn (m := n - 1 - 1 - 1) (lr := l2) (unhide HYY pre x V h1 hSp (by unfold T4; omega))
    dsimp only [strV] at hy
    gi_wp2
    refine hR.mono ?_
    rintro e V5 (⟨rfl, hJ5, hk5⟩ | ⟨rfl, hJx5, hk5⟩)
    · gi_wp2
      have hKF := hk5.1
      have hKR := hk5.2.2
      refine ⟨⟨hKF.size, fun k ob hB => hKF.same k ob (by omega)⟩, ⟨hk5.2.1, fun k ob hk ho hx => ?_⟩, hJ5, hKR _ _ (.inl ⟨Nat.le_refl _, by unfold T4; omega⟩) rfl h2, hKR _ _ (.inl ⟨by omega, by unfold T4; omega⟩) rfl h3, fun g ob e1 e2 => ?_, ?_⟩
      · rcases hk with hk | hk | hk
        · omega
        · subst hk
          exact hKR _ _ (.inl ⟨by omega, by unfold T4; omega⟩) ho hx
        · obtain ⟨o', _, _, q1, q2⟩ := hrow k hk
          exact hKR _ _ (.inl ⟨by omega, by unfold T4; omega⟩) ho hx
      · obtain ⟨o', ho', hc', q1, q2⟩ := hrow g e1
        have := h4 g ob e1 e2
        rw [e2] at ho'
        cases ho'
        exact hKR _ _ (.inl ⟨by omega, by unfold T4; omega⟩) hc' this
      · have := hKF.size; omega
    · gi_wp2
      exact ⟨⟨hk5.size, fun k ob hB => hk5.same k ob (by omega)⟩, rfl, hJx5⟩
  case done =>
    rintro D xs V hD hS ⟨h1, h2, h3, h4, h5⟩ hK
    subst hS
    gi_wp2
    refine ⟨by simp, .inl ⟨_, _, rfl, run_takeDeferred hK, ?_⟩⟩
    refine ⟨_, results_none rfl _ _ _, ⟨_, rfl⟩, .inl ⟨_, rfl, ?_⟩⟩
    exact hJ _ V _ (some D) h1 (grownBy_putObj' V D _) (fun r e => by cases e; exact ⟨by omega, _, hK, rfl⟩)
  case stop =>
    rintro D c pre V hD hSp ⟨rfl, hx⟩ hK
    gi_wp2
    refine ⟨by simp, .inl ⟨_, _, rfl, run_takeDeferred hK, ?_⟩⟩
    refine ⟨_, results_none rfl _ _ _, ⟨_, rfl⟩, .inr ⟨pre, hSp, ?_⟩⟩
    exact hJx _ V _ (some D) hx (grownBy_putObj' V D _) (fun r e => by cases e; exact ⟨by omega, _, hK, rfl⟩)

theorem all_gives_nil (ps : List (Pc (Int × Int))) (hps : ps = []) (n Bm : Nat) (hn : 6 ≤ n) (w : World) (hBm : w.heap[Bm]? = some (.cells #[.pointer none] 87 (0, 0))) :
    Gives4 n Tryz.prog 187 #[.pointer (some ⟨Bm, 0, none⟩)] strV T4 (fun _ => False) 0 0 (fun xs => xs = strsP eqv ps) (fun pre => pre <+: strsP eqv ps) w :=
  fun l J Jx W hW hJ hJx _ hY h0 => all1_nil ps hps n l Bm _ rfl hn J Jx W hY hJ hJx ((hW.block Bm (Array.getElem?_eq_some_iff.1 hBm).1).trans hBm) h0
end Go.Proofs.YtlgolaoabgmijaaGreatDoor.VN
namespace Go.Proofs.YtlgolaoabgmijaaGreatDoor
open Go.RowKit Go.PlainAid Go.Lib Go.PHexM Go.Shelf Go.PRow Go.Seq4
attribute [local go_sem] Oper.semAt_some
set_option linter.unusedVariables false
set_option linter.unusedSimpArgs false
set_option maxRecDepth 100000 in
set_option maxHeartbeats 4000000 in
theorem turn_nil (ps : List (Pc (Int × Int))) (hps : ps = []) (w : World) :
    Calls Tryz.prog 112 #[.pointer none, .func (.func 113) #[] #[]] w fun e w' => ∃ bm u, e = .returned (.pointer (some ⟨bm, 0, none⟩)) ∧ VC.IsMap w' bm u ∧ VC.RowP w' w.heap.size u ((strsP VN.eqv ps).map clsP) ∧ w.heap.size ≤ bm ∧ Below w.heap.size w w' := by
  have o : OkP ps := by rw [hps]; exact OkP.nil
  refine (callsIn_wide (n := 8)).1 ?_
  refine callsIn_of_wp_marks Tryz.func112 rfl trivial ?_ rfl
  simp only [Tryz.ntmps112, List.size_toArray, List.length_cons, List.length_nil, Nat.reduceAdd, Nat.reduceSub, Array.replicate_succ, Array.replicate_zero, List.push_toArray, List.append_toArray, List.nil_append, List.cons_append]
  have hF : ∀ f, Fence.wide.fn f := fun _ => trivial
  gi_wp2_with (first | (gi_at_call 54; with_reducible refine CallsIn.mono (callsIn_wide.2 (VC.new_any _)) ?_; rintro e V6 ⟨rfl, rfl⟩) | (gi_at_call 153; with_reducible refine CallsIn.mono (callsIn_wide.2 (VN.all_nil_in _)) ?_; rintro e V7 ⟨rfl, rfl⟩))
  obtain ⟨W0, hW0⟩ : ∃ W0, (((w.alloc (.cells #[.func (.func 113) #[] #[]] 212)).alloc (.cells #[.bool true, .slice none 0 0] 178)).alloc (.cells #[.pointer (some ⟨w.heap.size + 1, 0, none⟩)] 88)).alloc (.cells #[.pointer none] 87) = W0 := ⟨_, rfl⟩
  have hsz : W0.heap.size = w.heap.size + 4 := by rw [← hW0]; simp
  have hB0 : Below w.heap.size w W0 := by rw [← hW0]; go_grown
  have b0 : W0.heap[w.heap.size]? = some (.cells #[.func (.func 113) #[] #[]] 212 (0, 0)) := by
    rw [← hW0]
    rw [Below.heap_alloc _ _ _ (by simp; omega), Below.heap_alloc _ _ _ (by simp; omega), Below.heap_alloc _ _ _ (by simp)]
    exact heap_alloc_new w _
  have b1 : W0.heap[w.heap.size + 1]? = some (.cells #[.bool true, .slice none 0 0] 178 (0, 0)) := by
    rw [← hW0]
    rw [Below.heap_alloc _ _ _ (by simp), Below.heap_alloc _ _ _ (by simp)]
    have := heap_alloc_new (w.alloc (.cells #[.func (.func 113) #[] #[]] 212)) (.cells #[.bool true, .slice none 0 0] 178)
    simpa using this
  have b2 : W0.heap[w.heap.size + 1 + 1]? = some (.cells #[.pointer (some ⟨w.heap.size + 1, 0, none⟩)] 88 (0, 0)) := by
    rw [← hW0]
    rw [Below.heap_alloc _ _ _ (by simp)]
    have := heap_alloc_new ((w.alloc (.cells #[.func (.func 113) #[] #[]] 212)).alloc (.cells #[.bool true, .slice none 0 0] 178)) (.cells #[.pointer (some ⟨w.heap.size + 1, 0, none⟩)] 88)
    simpa using this
  have b3 : W0.heap[w.heap.size + 1 + 1 + 1]? = some (.cells #[.pointer none] 87 (0, 0)) := by
    rw [← hW0]
    have := heap_alloc_new (((w.alloc (.cells #[.func (.func 113) #[] #[]] 212)).alloc (.cells #[.bool true, .slice none 0 0] 178)).alloc (.cells #[.pointer (some ⟨w.heap.size + 1, 0, none⟩)] 88)) (.cells #[.pointer none] 87)
    simpa using this
  have hSO : OkP (strsP VN.eqv ps) := strs_ok VN.eqv o
  have fnil : ∀ W : World, (binOp .neq 212 (.func (.func 113) #[] #[]) .nilFunc).run Tryz.prog W = .ok (.bool true) W := fun _ => by kernel_rfl
  rw [hW0]
  clear hW0
  refine range4 (by omega) (gf := 187) (lb := #[.pointer (some ⟨w.heap.size + 1 + 1 + 1, 0, none⟩)]) rfl (enters_of Tryz.func187 (by kernel_rfl) rfl)
    (VN.all_gives_nil ps hps _ (w.heap.size + 1 + 1 + 1) (by omega) W0 b3) (Below.refl _ _) (fun _ => by rfl)
    (fun pre V => (∃ vs, VC.IsMap V (w.heap.size + 1) vs ∧ VC.RowP V (W0.heap.size + 2 + VN.T4) vs (pre.map clsP)) ∧ V.heap[w.heap.size]? = some (.cells #[.func (.func 113) #[] #[]] 212 (0, 0)) ∧ V.heap[w.heap.size + 1 + 1]? = some (.cells #[.pointer (some ⟨w.heap.size + 1, 0, none⟩)] 88 (0, 0)) ∧ Below w.heap.size w V ∧ W0.heap.size ≤ V.heap.size)
    (fun c pre V => False)
    ((own_mapC _ _ _ (fun pre : List (Pc (Int × Int)) => pre.map clsP)).and ((own_block _ _ _ rfl).and ((own_block _ _ _ rfl).and ((ownFrom_below (Nat.le_refl _) (by omega)).and (own_size _ _)))))
    (fun c => own_pure _ _) (CalmR.none _ _ _) ⟨⟨_, b1, RowV.nil _ _ _ _ _⟩, b0, b2, hB0, Nat.le_refl _⟩
    (fun x a' V => ∃ Bx By, V.heap[Bx]? = some (.cells #[.int .i32 x.lo, .int .i32 x.hi] 45 (0, 0)) ∧ V.heap[By]? = some (.cells #[.int .u8 x.val.1, .int .i64 x.val.2] 85 (0, 0)) ∧ W0.heap.size ≤ Bx ∧ W0.heap.size ≤ By ∧ a' = { tmps := #[.pointer none, .func (.func 113) #[] #[], undef, .pointer (some ⟨w.heap.size, 0, none⟩), .pointer none, .pointer (some ⟨w.heap.size + 1 + 1, 0, none⟩), .pointer (some ⟨Bx, 0, none⟩), .pointer (some ⟨By, 0, none⟩), undef, .pointer (some ⟨w.heap.size + 1, 0, none⟩), .pointer none, .func (.func 187) #[] #[.pointer (some ⟨w.heap.size + 1 + 1 + 1, 0, none⟩)], .agg #[.int .i32 x.lo, .int .i32 x.hi], .agg #[.int .u8 x.val.1, .int .i64 x.val.2], undef, undef, undef, undef, undef, undef, undef, undef, undef, undef], defers := [] })
    (fun x a' st A B row hx hg hr => by
        obtain ⟨Bx, By, h1, h1', h2, h2', h3⟩ := hx
        exact ⟨Bx, By, own_block (β := Unit) _ _ _ rfl () A B row h1 hg hr, own_block (β := Unit) _ _ _ rfl () A B row h1' hg hr, h2, h2', h3⟩) ?assign ?body ?done ?stop
  case assign =>
    rintro l2 pre x V K hsz2 ⟨⟨vs, h1, h2⟩, h3, h4, h5, h6⟩ hK
    gi_wp2
    obtain ⟨V1, hV1⟩ : ∃ V1, V.alloc (.cells #[.int .i32 x.lo, .int .i32 x.hi] 45) = V1 := ⟨_, rfl⟩
    rw [hV1]
    have hs1 : V1.heap.size = V.heap.size + 1 := by rw [← hV1]; simp
    have hb1 : Below V.heap.size V V1 := by rw [← hV1]; exact (Below.refl _ V).alloc (Nat.le_refl _) _
    obtain ⟨V2, hV2⟩ : ∃ V2, V1.alloc (.cells #[.int .u8 x.val.1, .int .i64 x.val.2] 85) = V2 := ⟨_, rfl⟩
    have hb2 : Below V1.heap.size V1 V2 := by rw [← hV2]; exact (Below.refl _ V1).alloc (Nat.le_refl _) _
    have hb : Below V.heap.size V V2 := hb1.trans (hb2.mono hb1.size)
    have hn1 : V1.heap[V.heap.size]? = some (.cells #[.int .i32 x.lo, .int .i32 x.hi] 45 (0, 0)) := by rw [← hV1]; exact heap_alloc_new V _
    have hn2 : V2.heap[V.heap.size + 1]? = some (.cells #[.int .u8 x.val.1, .int .i64 x.val.2] 85 (0, 0)) := by
      rw [← hV2, ← hs1]; exact heap_alloc_new V1 _
    have ko : KeepsOthers V V2 := by rw [← hV2, ← hV1]; exact (KeepsOthers.alloc _ _).trans (KeepsOthers.alloc _ _)
    rw [hV2]
    have kb : ∀ k (ob : Obj), V.heap[k]? = some ob → V2.heap[k]? = some ob := fun k ob hk => (hb.block k (Array.getElem?_eq_some_iff.1 hk).1).trans hk
    exact hK _ _ (ko.from _) ⟨ko.walks, fun k ob hk _ hx => kb k ob hx⟩ ⟨⟨vs, VC.IsMap.below h1 hb, VC.RowP.below h2 hb⟩, kb _ _ h3, kb _ _ h4, h5.trans (hb.mono h5.size), Nat.le_trans h6 hb.size⟩ ⟨V.heap.size, V.heap.size + 1, (hb2.block _ (by omega)).trans hn1, hn2, by omega, by omega, rfl⟩
  case body =>
    rintro l2 pre x a' V hl hsz2 ⟨r, hr⟩ ⟨⟨vs, h1, h2⟩, h3, h4, h5, h6⟩ ⟨Bx, By, hx1, hy1, hx2, hy2, rfl⟩ hSp
    have z0 : V.cell? ⟨Bx, 0, none⟩ = some (.int .i32 x.lo) := cellH hx1 rfl
    have z1 : V.cell? ⟨Bx, 1, none⟩ = some (.int .i32 x.hi) := cellH hx1 rfl
    have z2 : V.cell? ⟨By, 0, none⟩ = some (.int .u8 x.val.1) := cellH hy1 rfl
    have z3 : V.cell? ⟨By, 1, none⟩ = some (.int .i64 x.val.2) := cellH hy1 rfl
    have z4 : V.cell? ⟨w.heap.size, 0, none⟩ = some (.func (.func 113) #[] #[]) := cellH h3 rfl
    have z5 : V.cell? ⟨w.heap.size + 1 + 1, 0, none⟩ = some (.pointer (some ⟨w.heap.size + 1, 0, none⟩)) := cellH h4 rfl
    obtain ⟨tl, htl⟩ := hSp
    have hok : OkP ((pre ++ [x]) ++ tl) := by rw [htl]; exact hSO
    have hokp : OkP pre := ⟨hok.1.sublist ((List.sublist_append_left pre [x]).trans (List.sublist_append_left _ tl)), fun p hp => hok.2 p (by simp [hp])⟩
    have hx := hok.2 x (by simp)
    have hbh : ∀ p ∈ pre.map clsP, p.hi < x.lo := fun p hp => by
      obtain ⟨y, hy, rfl⟩ := List.mem_map.1 hp
      have := List.pairwise_append.1 (List.pairwise_append.1 hok.1).1
      exact this.2.2 y hy x (by simp)
    obtain ⟨V1, hV1⟩ : ∃ V1, V.alloc (.cells #[.int .u8 x.val.1, .int .i64 x.val.2] 85) = V1 := ⟨_, rfl⟩
    have hb1 : Below V.heap.size V V1 := by rw [← hV1]; exact (Below.refl _ V).alloc (Nat.le_refl _) _
    have ko1 : KeepsOthers V V1 := by rw [← hV1]; exact KeepsOthers.alloc _ _
    have y0 : V1.cell? ⟨Bx, 0, none⟩ = some (.int .i32 x.lo) := (hb1.cell (World.block_lt_of_cell? _ _ z0)).trans z0
    have y1 : V1.cell? ⟨Bx, 1, none⟩ = some (.int .i32 x.hi) := (hb1.cell (World.block_lt_of_cell? _ _ z1)).trans z1
    have y5 : V1.cell? ⟨w.heap.size + 1 + 1, 0, none⟩ = some (.pointer (some ⟨w.heap.size + 1, 0, none⟩)) := (hb1.cell (World.block_lt_of_cell? _ _ z5)).trans z5
    have hm1 := VC.IsMap.below h1 hb1
    have hr1 := VC.RowP.below h2 hb1
    have hLay := VC.lay_ok (w.heap.size + 1) vs (W0.heap.size + 2 + VN.T4) (pre.map clsP) (cls_ok hokp) x.lo x.hi (mayB_iff.2 hx) x.val.1 V1 hm1 (by have := hb1.size; omega) hr1
    rw [rep_snoc (cls_ok hokp) hx.2.1 hbh] at hLay
    have HLAY := hide (fun m => (callsIn_wide (n := m) |>.2 hLay).inRound l2)
    have HGV := hide (fun m => (callsIn_wide (n := m) |>.2 (gv1_any x.val V)).inRound l2)
    gi_wp2_with (first | (gi_at_call 113; with_reducible refine CallsIn.mono (unhide HGV _) ?_; rintro e w4 ⟨rfl, rfl⟩) | (gi_at_call 55; with_reducible refine CallsIn.mono (unhide HLAY _) ?_; rintro e w5 ⟨rfl, v5, hr5, hm5⟩))
    have ko : KeepsOthers V w5 := ko1.trans (moved_others hm5 hm1 hr1)
    have hfar : ∀ g, blk vs = some g → W0.heap.size + 2 + VN.T4 ≤ g := fun g hg => (RowV.lt h2 g hg).1
    have kb : ∀ k (ob : Obj), V.heap[k]? = some ob → k ≠ w.heap.size + 1 → blk vs ≠ some k → w5.heap[k]? = some ob := fun k ob hk h1 h2 => by
      have hlt := (Array.getElem?_eq_some_iff.1 hk).1
      refine (hm5.2.1.block k (by have := hb1.size; omega) (fun e => ?_)).trans ((hb1.block k hlt).trans hk)
      rcases e with e | e
      · exact h1 e
      · exact h2 e
    refine ⟨ko.from _, ⟨ko.walks, fun k ob hk _ hx => ?_⟩, ⟨v5, hm5.1, ?_⟩, kb _ _ h3 (by omega) (fun e => by have := hfar _ e; omega), kb _ _ h4 (by omega) (fun e => by have := hfar _ e; omega), ?_, ?_⟩
    · rcases hk with hk | hk
      · exact kb k ob hx (by omega) (fun e => by have := hfar _ e; omega)
      · exact hk.elim
    · rw [List.map_append]
      exact hr5
    · exact hm5.2.1.below (h5.trans (hb1.mono h5.size)) (by have := h5.size; have := hb1.size; omega) (fun k hk => by
        rcases hk with e | e
        · omega
        · have := hfar _ e; omega)
    · have := hm5.2.1.size; have := hb1.size; omega
  case done =>
    rintro D xs V hD hS ⟨⟨vs, h1, h2⟩, h3, h4, h5, h6⟩ hK
    subst hS
    have c0 : V.cell? ⟨w.heap.size + 1 + 1, 0, none⟩ = some (.pointer (some ⟨w.heap.size + 1, 0, none⟩)) := cellH h4 rfl
    gi_wp2
    refine ⟨by simp, .inl ⟨_, _, rfl, run_takeDeferred hK, ?_⟩⟩
    have h1' : V.heap[w.heap.size + 1]? = some (.cells #[.bool true, vs] 178 (0, 0)) := h1
    refine ⟨_, results_tmp rfl _ _ _, _, vs, rfl, (World.putObj_heap_other (by omega)).trans h1', (VC.RowP.mono h2 (by omega)).kept fun g hg => World.putObj_heap_other ?_, by omega, below_put h5 (by omega) _⟩
    rintro rfl
    obtain ⟨cur, hc⟩ := rowV_blk h2 hg
    rw [hc] at hK
    cases hK
  case stop =>
    rintro D c pre V hD hSp hx hK
    exact hx.elim
end Go.Proofs.YtlgolaoabgmijaaGreatDoor
/-
  A table that is nil: Named, Whole, the law's told.
-/
namespace Go.Proofs.YtlgolaoabgmijaaGreatDoor
open Go.RowKit Go.PlainAid Go.Lib Go.PHexM Go.Shelf Go.PRow Go.Seq4 Go.Seq6
attribute [local go_sem] Oper.semAt_some
set_option linter.unusedVariables false
set_option linter.unusedSimpArgs false

def gvN : List (Pc Int) := (strsP VN.eqv ([] : List (Pc (Int × Int)))).map clsP
theorem gvN_nil : gvN = [] := rfl
theorem gvN_ok : OkP gvN := OkP.nil
def namedN : List (Pc Int) := strsP VC.eqv gvN
def allN : List (Pc Int) := overP VC.eqv gvN []
def wholeN : List (Pc Int) := strsP VC.eqv allN
theorem allN_ok : OkP allN := over_ok VC.eqv (fun a b h => (eqC_iff a b).1 h) gvN_ok OkP.nil
theorem at_len {l : List (Pc Int)} (o : OkP l) (h : ∀ x, atP l x = none) : l = [] := by
  cases l with
  | nil => rfl
  | cons p ps => have := h p.lo; rw [at_head o] at this; cases this
theorem allN_nil : allN = [] := at_len allN_ok fun x => by
  unfold allN
  rw [at_overP VC.eqv (fun a b h => (eqC_iff a b).1 h) gvN_ok OkP.nil]
  rfl
theorem wholeN_nil : wholeN = [] := by unfold wholeN; rw [allN_nil]; rfl
theorem namedN_nil : namedN = [] := rfl
theorem given_nil (W : World) :
    Calls Tryz.prog 75 #[.pointer none] W fun e w' => ∃ bm u, e = .returned (.pointer (some ⟨bm, 0, none⟩)) ∧ VC.IsMap w' bm u ∧ VC.RowP w' W.heap.size u (gvN) ∧ W.heap.size ≤ bm ∧ Below W.heap.size W w' := by
  have HH := hide (held7_nil W)
  have HT := hide (fun V (hV : Below W.heap.size W V) => turn_nil [] rfl V)
  have fd := field7_0
  obtain ⟨Q, hQ⟩ : ∃ Q : Ending → World → Prop, (fun e w' => ∃ bm u, e = .returned (.pointer (some ⟨bm, 0, none⟩)) ∧ VC.IsMap w' bm u ∧ VC.RowP w' W.heap.size u (gvN) ∧ W.heap.size ≤ bm ∧ Below W.heap.size W w') = Q := ⟨_, rfl⟩
  rw [hQ]
  have HQ := hide hQ
  clear hQ
  go_enter Tryz.func75, Tryz.ntmps75
  go_wp2_with fail
  refine (unhide HH).mono ?_
  rintro e w1 ⟨rfl, hb1⟩
  go_wp2_with fail
  refine (unhide HT _ hb1).mono ?_
  rintro e w2 ⟨bm, u, rfl, h1, h2, h3, h4⟩
  have FIN : Hid (Q (.returned (.pointer (some ⟨bm, 0, none⟩))) w2) := by
    show Q _ _
    rw [← unhide HQ]
    exact ⟨bm, u, rfl, h1, VC.RowP.mono h2 hb1.size, Nat.le_trans hb1.size h3, hb1.trans (h4.mono hb1.size)⟩
  clear h1 h2 h3 h4 hb1
  go_wp2
  exact unhide FIN

theorem named_nil_in (w : World) :
    Calls Tryz.prog 40 #[.pointer none] w fun e w' => e = .returned (.func (.func 74) #[] #[.pointer (some ⟨w.heap.size, 0, none⟩)]) ∧ w' = w.alloc (.cells #[.pointer none] 25) := by
  have hmf : ∀ (fn : Fn) (first cap : Array Value) (w : World), (Instr.makeFunc fn first cap).run Tryz.prog w = .ok (.func fn first cap) w := fun _ _ _ _ => rfl
  go_enter Tryz.func40, Tryz.ntmps40
  go_wp2
  go_ret
  exact ⟨rfl, rfl⟩

set_option maxRecDepth 100000 in
set_option maxHeartbeats 4000000 in
theorem named1_nil (n l Bm : Nat) (hn : 7 ≤ n) (J : Nat → List (Pc Int) → World → Prop) (Jx : List (Pc Int) → World → Prop) (W : World)
    (hY : ∀ m pre x W1, J m pre W1 → (pre ++ [x]) <+: namedN → W.heap.size + m ≤ W1.heap.size → YieldAt Fence.wide (n - 1) Tryz.prog l (VC.strV x) W1 fun e W' =>
      (e = .returned (.bool true) ∧ J m (pre ++ [x]) W' ∧ Kp4 m (fun _ => False) W.heap.size W1 W') ∨ (e = .returned (.bool false) ∧ Jx (pre ++ [x]) W' ∧ KeepsFrom W.heap.size W1 W'))
    (hJ : ∀ m, OwnFrom W.heap.size (J m)) (hJx : OwnFrom W.heap.size Jx) (hBm : W.heap[Bm]? = some (.cells #[.pointer none] 25 (0, 0))) (h0 : ∀ m, J m [] W) :
    CallsIn Fence.wide n Tryz.prog 74 #[.func (.yield l) #[] #[], .pointer (some ⟨Bm, 0, none⟩)] W fun e W' => (∃ v, e = .returned v) ∧
      ((∃ m xs, xs = namedN ∧ J m xs W') ∨ (∃ pre, pre <+: namedN ∧ Jx pre W')) := by
  obtain ⟨W1, hW1⟩ : ∃ W1, W1 = W.alloc (.cells #[.func (.yield l) #[] #[]] 151) := ⟨_, rfl⟩
  have hB1 : Below W.heap.size W W1 := by rw [hW1]; exact (Below.refl _ W).alloc (Nat.le_refl _) _
  have hs1 : W1.heap.size = W.heap.size + 1 := by rw [hW1]; simp
  have y1 : W1.heap[W.heap.size]? = some (.cells #[.func (.yield l) #[] #[]] 151 (0, 0)) := by rw [hW1]; exact heap_alloc_new W _
  have HG := hide (given_nil W1)
  have c1 : W1.cell? ⟨Bm, 0, none⟩ = some (.pointer none) := cellH ((hB1.block Bm (Array.getElem?_eq_some_iff.1 hBm).1).trans hBm) rfl
  have hok := gvN_ok
  refine callsIn_of_wp_marks Tryz.func74 rfl trivial ?_ rfl
  simp only [Tryz.ntmps74, List.size_toArray, List.length_cons, List.length_nil, Nat.reduceAdd, Nat.reduceSub, Array.replicate_succ, Array.replicate_zero, List.push_toArray, List.append_toArray, List.nil_append, List.cons_append]
  have hF : ∀ f, Fence.wide.fn f := fun _ => trivial
  have hn1 : 1 ≤ n := by omega
  have HYY := hide hY
  clear hY hBm
  have c1' := c1
  rw [hW1] at c1'
  gi_wp2_with fail
  rw [← hW1]
  clear hW1 c1'
  refine (callsIn_wide.2 (unhide HG)).mono ?_
  rintro e W2 ⟨bm, u, rfl, hm2, hr2, hbm2, hb2⟩
  gi_wp2_with fail
  refine (callsIn_wide.2 (VC.all_in bm _)).mono ?_
  rintro e w' ⟨rfl, rfl⟩
  gi_wp2
  obtain ⟨W0, hW0⟩ : ∃ W0, W2.alloc (.cells #[.pointer (some ⟨bm, 0, none⟩)] 88) = W0 := ⟨_, rfl⟩
  have hs2 := hb2.size
  have hsz : W0.heap.size = W2.heap.size + 1 := by rw [← hW0]; simp
  have hbx : W0.heap[W2.heap.size]? = some (.cells #[.pointer (some ⟨bm, 0, none⟩)] 88 (0, 0)) := by rw [← hW0]; exact heap_alloc_new W2 _
  have hb20 : Below W2.heap.size W2 W0 := by rw [← hW0]; exact (Below.refl _ W2).alloc (Nat.le_refl _) _
  have hr0 : VC.RowP W0 0 u (gvN) := VC.RowP.mono (VC.RowP.below hr2 hb20) (Nat.zero_le _)
  have hm0 := VC.IsMap.below hm2 hb20
  have y0 : W0.heap[W.heap.size]? = some (.cells #[.func (.yield l) #[] #[]] 151 (0, 0)) := ((hb20.block _ (by omega)).trans (hb2.block _ (by omega))).trans y1
  have hJ0 : ∀ m, J m [] W0 := fun m => hJ m [] W W0 none (h0 m) ⟨(hb20.os.trans hb2.os).trans hB1.os, (hb20.tape.trans hb2.tape).trans hB1.tape, (hb20.output.trans hb2.output).trans hB1.output, by omega, fun k hk _ => ((hb20.block k (by omega)).trans (hb2.block k (by omega))).trans (hB1.block k hk)⟩ (fun r e => by cases e)
  obtain ⟨m, hm⟩ : ∃ m, W.heap.size + m = W0.heap.size + 2 + VC.T4 := ⟨W0.heap.size + 2 + VC.T4 - W.heap.size, by omega⟩
  rw [hW0]
  clear hW0 HG
  refine range4B (by omega) (gf := 114) (lb := #[.pointer (some ⟨W2.heap.size, 0, none⟩)]) rfl (enters_of Tryz.func114 (by kernel_rfl) rfl)
    (VC.all_gives (gvN) hok _ W2.heap.size bm u (by omega) W0 hbx hm0 hr0) (Below.refl _ _) (fun _ => rfl)
    (fun pre V => J m pre V ∧ V.heap[W.heap.size]? = some (.cells #[.func (.yield l) #[] #[]] 151 (0, 0)) ∧ W0.heap.size ≤ V.heap.size)
    (fun c pre V => c = .ret ∧ Jx pre V)
    (OwnFrom.and (fun st A B row hx hg hr => OwnFrom.le (hJ m) (by omega) st A B row hx hg hr) ((own_block _ _ _ rfl).and (own_size _ _)))
    (fun c st A B row hx hg hr => ⟨hx.1, OwnFrom.le hJx (by omega) st A B row hx.2 hg hr⟩) (CalmR.none _ _ _)
    ⟨hJ0 m, y0, Nat.le_refl _⟩
    (fun x => .cells #[.int .i32 x.lo, .int .i32 x.hi] 45 (0, 0)) (fun _ => rfl) ?fr ?assign ?body ?done ?stop
  case assign =>
    intro l2 x V K hK
    gi_wp2
    generalize hBx : V.heap.size = Bx
    exact hK Bx hBx.symm
  case body =>
    rintro l2 pre x Bx V hl hsz2 ⟨r, hr⟩ ⟨h1, h2, h3⟩ hx1 hx2 hSp
    have z0 : V.cell? ⟨Bx, 0, none⟩ = some (.int .i32 x.lo) := cellH hx1 rfl
    have z1 : V.cell? ⟨Bx, 1, none⟩ = some (.int .i32 x.hi) := cellH hx1 rfl
    have z2 : V.cell? ⟨W.heap.size, 0, none⟩ = some (.func (.yield l) #[] #[]) := cellH h2 rfl
    have hn2 : 1 ≤ n - 1 - 1 := by omega
    obtain ⟨fn, tmps, assign, body, hy, hR⟩ := yieldIn (m := n - 1 - 1 - 1) (lr := l2) (unhide HYY m pre x V h1 hSp (by omega))
    dsimp only [VC.strV] at hy
    gi_wp2
    refine hR.mono ?_
    rintro e V5 (⟨rfl, hJ5, hk5⟩ | ⟨rfl, hJx5, hk5⟩)
    · gi_wp2
      have hKF := hk5.1
      have hKR := hk5.2.2
      refine ⟨⟨hKF.size, fun k ob hB => hKF.same k ob (by omega)⟩, ⟨hk5.2.1, fun k ob hk ho hx => ?_⟩, hJ5, hKR _ _ (.inl ⟨Nat.le_refl _, by omega⟩) rfl h2, ?_⟩
      · rcases hk with hk | hk
        · exact hKR _ _ (.inl ⟨by omega, by omega⟩) ho hx
        · exact hk.elim
      · have := hKF.size; omega
    · gi_wp2
      exact ⟨⟨hk5.size, fun k ob hB => hk5.same k ob (by omega)⟩, rfl, hJx5⟩
  case done =>
    rintro D xs V hD hS ⟨h1, h2, h3⟩ hK
    subst hS
    gi_wp2
    refine ⟨by simp, .inl ⟨_, _, rfl, run_takeDeferred hK, ?_⟩⟩
    refine ⟨_, results_none rfl _ _ _, ⟨_, rfl⟩, .inl ⟨m, _, rfl, ?_⟩⟩
    exact hJ m _ V _ (some D) h1 (grownBy_putObj' V D _) (fun r e => by cases e; exact ⟨by omega, _, hK, rfl⟩)
  case stop =>
    rintro D c pre V hD hSp ⟨rfl, hx⟩ hK
    gi_wp2
    refine ⟨by simp, .inl ⟨_, _, rfl, run_takeDeferred hK, ?_⟩⟩
    refine ⟨_, results_none rfl _ _ _, ⟨_, rfl⟩, .inr ⟨pre, hSp, ?_⟩⟩
    exact hJx _ V _ (some D) hx (grownBy_putObj' V D _) (fun r e => by cases e; exact ⟨by omega, _, hK, rfl⟩)

theorem named_nil_gives (n Bm : Nat) (hn : 7 ≤ n) (w : World) (hBm : w.heap[Bm]? = some (.cells #[.pointer none] 25 (0, 0))) :
    Gives6 n Tryz.prog 74 #[.pointer (some ⟨Bm, 0, none⟩)] VC.strV (fun xs => xs = namedN) (fun pre => pre <+: namedN) w :=
  fun l J Jx W hW hJ hJx hY h0 => named1_nil n l Bm hn J Jx W hY hJ hJx ((hW.block Bm (Array.getElem?_eq_some_iff.1 hBm).1).trans hBm) h0
theorem whole_nil_in (w : World) :
    Calls Tryz.prog 41 #[.pointer none] w fun e w' => e = .returned (.func (.func 77) #[] #[.pointer (some ⟨w.heap.size, 0, none⟩)]) ∧ w' = w.alloc (.cells #[.pointer none] 25) := by
  have hmf : ∀ (fn : Fn) (first cap : Array Value) (w : World), (Instr.makeFunc fn first cap).run Tryz.prog w = .ok (.func fn first cap) w := fun _ _ _ _ => rfl
  go_enter Tryz.func41, Tryz.ntmps41
  go_wp2
  go_ret
  exact ⟨rfl, rfl⟩

set_option maxRecDepth 100000 in
set_option maxHeartbeats 4000000 in
theorem whole1_nil (n l Bm : Nat) (hn : 7 ≤ n) (J : Nat → List (Pc Int) → World → Prop) (Jx : List (Pc Int) → World → Prop) (W : World)
    (hY : ∀ m pre x W1, J m pre W1 → (pre ++ [x]) <+: wholeN → W.heap.size + m ≤ W1.heap.size → YieldAt Fence.wide (n - 1) Tryz.prog l (VC.strV x) W1 fun e W' =>
      (e = .returned (.bool true) ∧ J m (pre ++ [x]) W' ∧ Kp4 m (fun _ => False) W.heap.size W1 W') ∨ (e = .returned (.bool false) ∧ Jx (pre ++ [x]) W' ∧ KeepsFrom W.heap.size W1 W'))
    (hJ : ∀ m, OwnFrom W.heap.size (J m)) (hJx : OwnFrom W.heap.size Jx) (hBm : W.heap[Bm]? = some (.cells #[.pointer none] 25 (0, 0))) (h0 : ∀ m, J m [] W) :
    CallsIn Fence.wide n Tryz.prog 77 #[.func (.yield l) #[] #[], .pointer (some ⟨Bm, 0, none⟩)] W fun e W' => (∃ v, e = .returned v) ∧
      ((∃ m xs, xs = wholeN ∧ J m xs W') ∨ (∃ pre, pre <+: wholeN ∧ Jx pre W')) := by
  obtain ⟨W1, hW1⟩ : ∃ W1, W1 = W.alloc (.cells #[.func (.yield l) #[] #[]] 151) := ⟨_, rfl⟩
  have hB1 : Below W.heap.size W W1 := by rw [hW1]; exact (Below.refl _ W).alloc (Nat.le_refl _) _
  have hs1 : W1.heap.size = W.heap.size + 1 := by rw [hW1]; simp
  have y1 : W1.heap[W.heap.size]? = some (.cells #[.func (.yield l) #[] #[]] 151 (0, 0)) := by rw [hW1]; exact heap_alloc_new W _
  have hBm1 := (hB1.block Bm (Array.getElem?_eq_some_iff.1 hBm).1).trans hBm
  have hok := allN_ok
  refine callsIn_of_wp_marks Tryz.func77 rfl trivial ?_ rfl
  simp only [Tryz.ntmps77, List.size_toArray, List.length_cons, List.length_nil, Nat.reduceAdd, Nat.reduceSub, Array.replicate_succ, Array.replicate_zero, List.push_toArray, List.append_toArray, List.nil_append, List.cons_append]
  have hF : ∀ f, Fence.wide.fn f := fun _ => trivial
  have hn1 : 1 ≤ n := by omega
  have HYY := hide hY
  clear hY hBm
  gi_wp2_with fail
  rw [← hW1]
  clear hW1
  obtain ⟨Inv, hInv⟩ : ∃ Inv : (Nat → Bool) → Act → World → Prop, Inv = (fun D a' V => ∃ x5 x6 x7 x8 x9 x10 x11 : Value, a' = { tmps := #[.func (.yield l) #[] #[], .pointer (some ⟨Bm, 0, none⟩), .pointer (some ⟨W.heap.size, 0, none⟩), undef, undef, x5, x6, x7, x8, x9, x10, x11, undef, undef, undef, undef, undef, undef, undef], defers := [] } ∧ (D 0 = true → x5 = .pointer none) ∧ (D 1 = true → x6 = .agg #[.pointer none, .pointer none, .slice none 0 0]) ∧ (D 2 = true → x7 = .pointer none) ∧ (D 3 = true → x8 = .pointer none) ∧ (D 4 = true → ∃ bm u, x9 = .pointer (some ⟨bm, 0, none⟩) ∧ VC.IsMap V bm u ∧ VC.RowP V W1.heap.size u (gvN)) ∧ (D 5 = true → ∃ bm u, x10 = .pointer (some ⟨bm, 0, none⟩) ∧ VC.IsMap V bm u ∧ VC.RowP V W1.heap.size u (allN)) ∧ (D 6 = true → ∃ bm u Ba, x11 = .func (.func 114) #[] #[.pointer (some ⟨Ba, 0, none⟩)] ∧ V.heap[Ba]? = some (.cells #[.pointer (some ⟨bm, 0, none⟩)] 88 (0, 0)) ∧ VC.IsMap V bm u ∧ VC.RowP V W1.heap.size u (allN)) ∧ Below W1.heap.size W1 V) := ⟨_, rfl⟩
  have HInv := hide hInv
  clear hInv
  have HH := hide (fun V (hV : Below W1.heap.size W1 V) => held7_nil V)
  have HG := hide (fun V (hV : Below W1.heap.size W1 V) => given_nil V)
  have fd := field7_1
  refine RegInv.region Inv (by kernel_rfl) (by kernel_rfl) (by kernel_rfl) ?h0 ?hs ?he
  case h0 =>
    rw [unhide HInv]
    exact ⟨undef, undef, undef, undef, undef, undef, undef, rfl, fun h => (by cases h), fun h => (by cases h), fun h => (by cases h), fun h => (by cases h), fun h => (by cases h), fun h => (by cases h), fun h => (by cases h), ⟨rfl, rfl, rfl, Nat.le_refl _, fun _ _ => rfl⟩⟩
  case hs =>
    refine ⟨?o0, ?o1, ?o2, ?o3, ?o4, ?o5, ?o6, trivial⟩
    case o0 =>
      rintro D a' V hn hd hdn hI
      rw [unhide HInv] at hI
      obtain ⟨x5, x6, x7, x8, x9, x10, x11, rfl, c0, c1, c2, c3, c4, c5, c6, hB⟩ := hI
      have bx := (hB.block _ (Array.getElem?_eq_some_iff.1 hBm1).1).trans hBm1
      have g0 : V.cell? ⟨Bm, 0, none⟩ = some (.pointer none) := cellH bx rfl
      clear bx
      gi_wp2
      show Inv _ _ _
      rw [unhide HInv]
      exact ⟨_, x6, x7, x8, x9, x10, x11, rfl, fun _ => rfl, fun h => c1 (by simpa using h), fun h => c2 (by simpa using h), fun h => c3 (by simpa using h), fun h => c4 (by simpa using h), fun h => c5 (by simpa using h), fun h => c6 (by simpa using h), hB⟩
    case o1 =>
      rintro D a' V hn hd hdn hI
      rw [unhide HInv] at hI
      obtain ⟨x5, x6, x7, x8, x9, x10, x11, rfl, c0, c1, c2, c3, c4, c5, c6, hB⟩ := hI
      obtain rfl := c0 (hd 0 (by decide))
      gi_wp2_with (gi_at_call 34; with_reducible refine CallsIn.mono (callsIn_wide.2 (unhide HH V hB)) ?_; rintro e w4 ⟨rfl, hb4⟩)
      show Inv _ _ _
      rw [unhide HInv]
      exact ⟨_, _, x7, x8, x9, x10, x11, rfl, fun _ => rfl, fun _ => rfl, fun h => c2 (by simpa using h), fun h => c3 (by simpa using h), fun h => (by obtain ⟨bm, u, e, h1, h2⟩ := c4 (by simpa using h); exact ⟨bm, u, e, VC.IsMap.below h1 hb4, VC.RowP.below h2 hb4⟩), fun h => (by obtain ⟨bm, u, e, h1, h2⟩ := c5 (by simpa using h); exact ⟨bm, u, e, VC.IsMap.below h1 hb4, VC.RowP.below h2 hb4⟩), fun h => (by obtain ⟨bm, u, Ba, e, h0, h1, h2⟩ := c6 (by simpa using h); exact ⟨bm, u, Ba, e, (hb4.block Ba (Array.getElem?_eq_some_iff.1 h0).1).trans h0, VC.IsMap.below h1 hb4, VC.RowP.below h2 hb4⟩), hB.trans (hb4.mono hB.size)⟩
    case o2 =>
      rintro D a' V hn hd hdn hI
      rw [unhide HInv] at hI
      obtain ⟨x5, x6, x7, x8, x9, x10, x11, rfl, c0, c1, c2, c3, c4, c5, c6, hB⟩ := hI
      obtain rfl := c1 (hd 1 (by decide))
      gi_wp2
      show Inv _ _ _
      rw [unhide HInv]
      exact ⟨x5, _, _, x8, x9, x10, x11, rfl, fun h => c0 (by simpa using h), fun _ => rfl, fun _ => rfl, fun h => c3 (by simpa using h), fun h => c4 (by simpa using h), fun h => c5 (by simpa using h), fun h => c6 (by simpa using h), hB⟩
    case o3 =>
      rintro D a' V hn hd hdn hI
      rw [unhide HInv] at hI
      obtain ⟨x5, x6, x7, x8, x9, x10, x11, rfl, c0, c1, c2, c3, c4, c5, c6, hB⟩ := hI
      have bx := (hB.block _ (Array.getElem?_eq_some_iff.1 hBm1).1).trans hBm1
      have g0 : V.cell? ⟨Bm, 0, none⟩ = some (.pointer none) := cellH bx rfl
      clear bx
      gi_wp2
      show Inv _ _ _
      rw [unhide HInv]
      exact ⟨x5, x6, x7, _, x9, x10, x11, rfl, fun h => c0 (by simpa using h), fun h => c1 (by simpa using h), fun h => c2 (by simpa using h), fun _ => rfl, fun h => c4 (by simpa using h), fun h => c5 (by simpa using h), fun h => c6 (by simpa using h), hB⟩
    case o4 =>
      rintro D a' V hn hd hdn hI
      rw [unhide HInv] at hI
      obtain ⟨x5, x6, x7, x8, x9, x10, x11, rfl, c0, c1, c2, c3, c4, c5, c6, hB⟩ := hI
      obtain rfl := c3 (hd 3 (by decide))
      gi_wp2_with (gi_at_call 75; with_reducible refine CallsIn.mono (callsIn_wide.2 (unhide HG V hB)) ?_; rintro e w4 ⟨bm, u, rfl, hm4, hr4, hbm4, hb4⟩)
      show Inv _ _ _
      rw [unhide HInv]
      exact ⟨x5, x6, x7, _, _, x10, x11, rfl, fun h => c0 (by simpa using h), fun h => c1 (by simpa using h), fun h => c2 (by simpa using h), fun _ => rfl, fun _ => ⟨bm, u, rfl, hm4, VC.RowP.mono hr4 hB.size⟩, fun h => (by obtain ⟨bm, u, e, h1, h2⟩ := c5 (by simpa using h); exact ⟨bm, u, e, VC.IsMap.below h1 hb4, VC.RowP.below h2 hb4⟩), fun h => (by obtain ⟨bm, u, Ba, e, h0, h1, h2⟩ := c6 (by simpa using h); exact ⟨bm, u, Ba, e, (hb4.block Ba (Array.getElem?_eq_some_iff.1 h0).1).trans h0, VC.IsMap.below h1 hb4, VC.RowP.below h2 hb4⟩), hB.trans (hb4.mono hB.size)⟩
    case o5 =>
      rintro D a' V hn hd hdn hI
      rw [unhide HInv] at hI
      obtain ⟨x5, x6, x7, x8, x9, x10, x11, rfl, c0, c1, c2, c3, c4, c5, c6, hB⟩ := hI
      obtain rfl := c2 (hd 2 (by decide))
      obtain ⟨b4, u4, rfl, m4, r4⟩ := c4 (hd 4 (by decide))
      have HOV := hide (VC.over_any (.pointer none) (.pointer (some ⟨b4, 0, none⟩)) (.slice none 0 0) 0 [] OkP.nil u4 W1.heap.size gvN gvN_ok (fun a b h => (eqC_iff a b).1 h) V (fun V' _ => VC.held_nil V') (RowV.nil _ _ _ _ _) (fun V' hV' => VC.held_map b4 u4 V' (VC.IsMap.below m4 hV')) r4 ⟨_, rfl⟩ ⟨_, rfl⟩)
      gi_wp2_with (gi_at_call 78; with_reducible refine CallsIn.mono (callsIn_wide.2 (unhide HOV)) ?_; rintro e w4 ⟨bm, u, rfl, hm4, hr4, hbm4, hb4⟩)
      show Inv _ _ _
      rw [unhide HInv]
      exact ⟨x5, x6, _, x8, _, _, x11, rfl, fun h => c0 (by simpa using h), fun h => c1 (by simpa using h), fun _ => rfl, fun h => c3 (by simpa using h), fun _ => ⟨b4, u4, rfl, VC.IsMap.below m4 hb4, VC.RowP.below r4 hb4⟩, fun _ => ⟨bm, u, rfl, hm4, VC.RowP.mono hr4 hB.size⟩, fun h => (by obtain ⟨bm, u, Ba, e, h0, h1, h2⟩ := c6 (by simpa using h); exact ⟨bm, u, Ba, e, (hb4.block Ba (Array.getElem?_eq_some_iff.1 h0).1).trans h0, VC.IsMap.below h1 hb4, VC.RowP.below h2 hb4⟩), hB.trans (hb4.mono hB.size)⟩
    case o6 =>
      rintro D a' V hn hd hdn hI
      rw [unhide HInv] at hI
      obtain ⟨x5, x6, x7, x8, x9, x10, x11, rfl, c0, c1, c2, c3, c4, c5, c6, hB⟩ := hI
      obtain ⟨b5, u5, rfl, m5, r5⟩ := c5 (hd 5 (by decide))
      have hb4 : Below V.heap.size V (V.alloc (.cells #[.pointer (some ⟨b5, 0, none⟩)] 88)) := (Below.refl _ V).alloc (Nat.le_refl _) _
      have hx4 := heap_alloc_new V (.cells #[.pointer (some ⟨b5, 0, none⟩)] 88)
      have HAL := hide (VC.all_in b5 V)
      gi_wp2_with (gi_at_call 76; with_reducible refine CallsIn.mono (callsIn_wide.2 (unhide HAL)) ?_; rintro e w4 ⟨rfl, rfl⟩)
      show Inv _ _ _
      rw [unhide HInv]
      exact ⟨x5, x6, x7, x8, x9, _, _, rfl, fun h => c0 (by simpa using h), fun h => c1 (by simpa using h), fun h => c2 (by simpa using h), fun h => c3 (by simpa using h), fun h => (by obtain ⟨bm, u, e, h1, h2⟩ := c4 (by simpa using h); exact ⟨bm, u, e, VC.IsMap.below h1 hb4, VC.RowP.below h2 hb4⟩), fun _ => ⟨b5, u5, rfl, VC.IsMap.below m5 hb4, VC.RowP.below r5 hb4⟩, fun _ => ⟨b5, u5, V.heap.size, rfl, hx4, VC.IsMap.below m5 hb4, VC.RowP.below r5 hb4⟩, hB.trans (hb4.mono hB.size)⟩
  case he =>
    intro D a' W0 hall hI
    rw [unhide HInv] at hI
    obtain ⟨x5, x6, x7, x8, x9, x10, x11, rfl, c0, c1, c2, c3, c4, c5, c6, hb2⟩ := hI
    obtain ⟨bm, u, Ba, rfl, hbx, hm0, hr2⟩ := c6 (hall 6 (by decide))
    clear c0 c1 c2 c3 c4 c5 c6 HH HG  HInv
    have hs2 := hb2.size
    have hr0 : VC.RowP W0 0 u (allN) := VC.RowP.mono hr2 (Nat.zero_le _)
    have y0 : W0.heap[W.heap.size]? = some (.cells #[.func (.yield l) #[] #[]] 151 (0, 0)) := (hb2.block _ (by omega)).trans y1
    have hJ0 : ∀ m, J m [] W0 := fun m => hJ m [] W W0 none (h0 m) ⟨hb2.os.trans hB1.os, hb2.tape.trans hB1.tape, hb2.output.trans hB1.output, by omega, fun k hk _ => (hb2.block k (by omega)).trans (hB1.block k hk)⟩ (fun r e => by cases e)
    obtain ⟨m, hm⟩ : ∃ m, W.heap.size + m = W0.heap.size + 2 + VC.T4 := ⟨W0.heap.size + 2 + VC.T4 - W.heap.size, by omega⟩
    gi_wp2
    refine range4B (by omega) (gf := 114) (lb := #[.pointer (some ⟨Ba, 0, none⟩)]) rfl (enters_of Tryz.func114 (by kernel_rfl) rfl)
      (VC.all_gives (allN) hok _ Ba bm u (by omega) W0 hbx hm0 hr0) (Below.refl _ _) (fun _ => rfl)
      (fun pre V => J m pre V ∧ V.heap[W.heap.size]? = some (.cells #[.func (.yield l) #[] #[]] 151 (0, 0)) ∧ W0.heap.size ≤ V.heap.size)
      (fun c pre V => c = .ret ∧ Jx pre V)
      (OwnFrom.and (fun st A B row hx hg hr => OwnFrom.le (hJ m) (by omega) st A B row hx hg hr) ((own_block _ _ _ rfl).and (own_size _ _)))
      (fun c st A B row hx hg hr => ⟨hx.1, OwnFrom.le hJx (by omega) st A B row hx.2 hg hr⟩) (CalmR.none _ _ _)
      ⟨hJ0 m, y0, Nat.le_refl _⟩
      (fun x => .cells #[.int .i32 x.lo, .int .i32 x.hi] 45 (0, 0)) (fun _ => rfl) ?fr ?assign ?body ?done ?stop
    case assign =>
      intro l2 x V K hK
      gi_wp2
      generalize hBx : V.heap.size = Bx
      exact hK Bx hBx.symm
    case body =>
      rintro l2 pre x Bx V hl hsz2 ⟨r, hr⟩ ⟨h1, h2, h3⟩ hx1 hx2 hSp
      have z0 : V.cell? ⟨Bx, 0, none⟩ = some (.int .i32 x.lo) := cellH hx1 rfl
      have z1 : V.cell? ⟨Bx, 1, none⟩ = some (.int .i32 x.hi) := cellH hx1 rfl
      have z2 : V.cell? ⟨W.heap.size, 0, none⟩ = some (.func (.yield l) #[] #[]) := cellH h2 rfl
      have hn2 : 1 ≤ n - 1 - 1 := by omega
      obtain ⟨fn, tmps, assign, body, hy, hR⟩ := yieldIn (m := n - 1 - 1 - 1) (lr := l2) (unhide HYY m pre x V h1 hSp (by omega))
      dsimp only [VC.strV] at hy
      gi_wp2
      refine hR.mono ?_
      rintro e V5 (⟨rfl, hJ5, hk5⟩ | ⟨rfl, hJx5, hk5⟩)
      · gi_wp2
        have hKF := hk5.1
        have hKR := hk5.2.2
        refine ⟨⟨hKF.size, fun k ob hB => hKF.same k ob (by omega)⟩, ⟨hk5.2.1, fun k ob hk ho hx => ?_⟩, hJ5, hKR _ _ (.inl ⟨Nat.le_refl _, by omega⟩) rfl h2, ?_⟩
        · rcases hk with hk | hk
          · exact hKR _ _ (.inl ⟨by omega, by omega⟩) ho hx
          · exact hk.elim
        · have := hKF.size; omega
      · gi_wp2
        exact ⟨⟨hk5.size, fun k ob hB => hk5.same k ob (by omega)⟩, rfl, hJx5⟩
    case done =>
      rintro D xs V hD hS ⟨h1, h2, h3⟩ hK
      subst hS
      gi_wp2
      refine ⟨by simp, .inl ⟨_, _, rfl, run_takeDeferred hK, ?_⟩⟩
      refine ⟨_, results_none rfl _ _ _, ⟨_, rfl⟩, .inl ⟨m, _, rfl, ?_⟩⟩
      exact hJ m _ V _ (some D) h1 (grownBy_putObj' V D _) (fun r e => by cases e; exact ⟨by omega, _, hK, rfl⟩)
    case stop =>
      rintro D c pre V hD hSp ⟨rfl, hx⟩ hK
      gi_wp2
      refine ⟨by simp, .inl ⟨_, _, rfl, run_takeDeferred hK, ?_⟩⟩
      refine ⟨_, results_none rfl _ _ _, ⟨_, rfl⟩, .inr ⟨pre, hSp, ?_⟩⟩
      exact hJx _ V _ (some D) hx (grownBy_putObj' V D _) (fun r e => by cases e; exact ⟨by omega, _, hK, rfl⟩)

theorem whole_nil_gives (n Bm : Nat) (hn : 7 ≤ n) (w : World) (hBm : w.heap[Bm]? = some (.cells #[.pointer none] 25 (0, 0))) :
    Gives6 n Tryz.prog 77 #[.pointer (some ⟨Bm, 0, none⟩)] VC.strV (fun xs => xs = wholeN) (fun pre => pre <+: wholeN) w :=
  fun l J Jx W hW hJ hJx hY h0 => whole1_nil n l Bm hn J Jx W hY hJ hJx ((hW.block Bm (Array.getElem?_eq_some_iff.1 hBm).1).trans hBm) h0
set_option maxRecDepth 100000 in
set_option maxHeartbeats 4000000 in
theorem told_named_nil {w : World} (few : Int) :
    Calls Tryz.prog 22 #[.pointer none, .bool false, .int .i64 few] w fun e w' => ∃ u, e = .returned u ∧ VT.RowP w' w.heap.size u (tookP few (namedN)) ∧ Below w.heap.size w w' := by
  have hlen : (namedN).length ≤ 1114112 := by rw [namedN_nil]; simp
  obtain ⟨LL, hLL⟩ : ∃ LL, namedN = LL := ⟨_, rfl⟩
  refine (callsIn_wide (n := 11)).1 ?_
  refine callsIn_of_wp_marks Tryz.func22 rfl trivial ?_ rfl
  simp only [Tryz.ntmps22, List.size_toArray, List.length_cons, List.length_nil, Nat.reduceAdd, Nat.reduceSub, Array.replicate_succ, Array.replicate_zero, List.push_toArray, List.append_toArray, List.nil_append, List.cons_append]
  have hF : ∀ f, Fence.wide.fn f := fun _ => trivial
  have fnil : ∀ (lb : Array Value) (W : World), (binOp .eql 96 (.func (.func 74) #[] lb) .nilFunc).run Tryz.prog W = .ok (.bool false) W := fun _ _ => by kernel_rfl
  gi_wp2_with (gi_at_call 40; with_reducible refine CallsIn.mono (callsIn_wide.2 (named_nil_in _)) ?_; rintro e V7 ⟨rfl, rfl⟩)
  obtain ⟨W0, hW0⟩ : ∃ W0, (((w.alloc (.cells #[.int .i64 few] 3)).alloc (.cells #[.slice none 0 0] 49)).alloc (.cells #[.pointer none] 25)).alloc (.cells #[.slice none 0 0] 49) = W0 := ⟨_, rfl⟩
  have hsz : w.heap.size + 4 ≤ W0.heap.size := by rw [← hW0]; simp
  have hb0 : Below w.heap.size w W0 := by rw [← hW0]; go_grown
  have b0 : W0.heap[w.heap.size]? = some (.cells #[.int .i64 few] 3 (0, 0)) := by
    rw [← hW0, Below.heap_alloc _ _ _ (by simp only [World.size_alloc]; omega), Below.heap_alloc _ _ _ (by simp only [World.size_alloc]; omega), Below.heap_alloc _ _ _ (by simp only [World.size_alloc]; omega)]
    exact heap_alloc_new w _
  have b1 : W0.heap[w.heap.size + 1]? = some (.cells #[.slice none 0 0] 49 (0, 0)) := by
    rw [← hW0, Below.heap_alloc _ _ _ (by simp only [World.size_alloc]; omega), Below.heap_alloc _ _ _ (by simp only [World.size_alloc]; omega)]
    simpa using heap_alloc_new (w.alloc (.cells #[.int .i64 few] 3)) (.cells #[.slice none 0 0] 49)
  have bm : W0.heap[w.heap.size + 1 + 1]? = some (.cells #[.pointer none] 25 (0, 0)) := by
    rw [← hW0, Below.heap_alloc _ _ _ (by simp)]
    simpa using heap_alloc_new (((w.alloc (.cells #[.int .i64 few] 3)).alloc (.cells #[.slice none 0 0] 49))) (.cells #[.pointer none] 25)
  have bl : W0.heap[w.heap.size + 1 + 1 + 1]? = some (.cells #[.slice none 0 0] 49 (0, 0)) := by
    rw [← hW0]
    simpa using heap_alloc_new (((w.alloc (.cells #[.int .i64 few] 3)).alloc (.cells #[.slice none 0 0] 49)).alloc (.cells #[.pointer none] 25)) (.cells #[.slice none 0 0] 49)
  rw [hW0]
  have hgv := named_nil_gives 10 (w.heap.size + 1 + 1) (by omega) W0 bm
  rw [hLL] at hgv hlen
  have HLL := hide hLL
  clear hW0 fnil hLL
  refine range6B (by omega) (gf := 74) (lb := #[.pointer (some ⟨w.heap.size + 1 + 1, 0, none⟩)]) rfl (enters_of Tryz.func74 (by kernel_rfl) rfl)
    hgv (Below.refl _ _) (fun _ => rfl)
    (fun m pre V => (∃ vs, V.heap[w.heap.size + 1 + 1 + 1]? = some (.cells #[vs] 49 (0, 0)) ∧ VT.RowP V (W0.heap.size + 2 + m) vs pre) ∧ V.heap[w.heap.size]? = some (.cells #[.int .i64 few] 3 (0, 0)) ∧ V.heap[w.heap.size + 1]? = some (.cells #[.slice none 0 0] 49 (0, 0)) ∧ Below w.heap.size w V ∧ W0.heap.size ≤ V.heap.size ∧ (0 ≤ few → (pre.length : Int) ≤ few))
    (fun c pre V => c = .ret ∧ 0 ≤ few ∧ (pre.length : Int) = few + 1 ∧ ∃ vs, V.heap[w.heap.size + 1]? = some (.cells #[vs] 49 (0, 0)) ∧ VT.RowP V w.heap.size vs pre ∧ Below w.heap.size w V)
    (fun m => (own_rowT _ _ _).and ((own_block _ _ _ rfl).and ((own_block _ _ _ rfl).and ((ownFrom_below (Nat.le_refl _) (by omega)).and ((own_size _ _).and (own_pure _ (fun pre : List (Pc Int) => 0 ≤ few → (pre.length : Int) ≤ few)))))))
    (fun c => OwnFrom.and (own_pure _ (fun _ => c = .ret)) (OwnFrom.and (own_pure _ (fun _ => 0 ≤ few)) (OwnFrom.and (own_pure _ (fun pre : List (Pc Int) => (pre.length : Int) = few + 1)) (own_res (by omega) (by omega)))))
    (fun m => ⟨⟨_, bl, RowV.nil _ _ _ _ _⟩, b0, b1, hb0, Nat.le_refl _, fun h => by simpa using h⟩)
    (fun x => .cells #[.int .i32 x.lo, .int .i32 x.hi] 45 (0, 0)) (fun _ => rfl) ?fr ?assign ?body ?done ?stop
  case assign =>
    intro l2 x V K hK
    gi_wp2
    generalize hBx : V.heap.size = Bx
    exact hK Bx hBx.symm
  case body =>
    rintro m l2 pre x Bx V hl hsz2 ⟨r, hr⟩ ⟨⟨vs, h1, h2⟩, h3, h4, h5, h6, h7⟩ hx1 hx2 hSp
    have hpl : pre.length + 1 ≤ 1114112 := by have := hSp.length_le; simp at this; omega
    have y0 : V.cell? ⟨Bx, 0, none⟩ = some (.int .i32 x.lo) := cellH hx1 rfl
    have y1 : V.cell? ⟨Bx, 1, none⟩ = some (.int .i32 x.hi) := cellH hx1 rfl
    have y2 : V.cell? ⟨w.heap.size + 1 + 1 + 1, 0, none⟩ = some vs := cellH h1 rfl
    have y3 : V.frozen? ⟨w.heap.size + 1 + 1 + 1, 0, none⟩ = false := frozH h1
    have hApp := VT.append_ps (W0.heap.size + 2 + m) 0 vs (.slice (some ⟨V.heap.size, 0, none⟩) 1 1) pre [x] (V.alloc (.cells #[.int .i32 x.lo, .int .i32 x.hi, Value.int .u8 x.val] 56)) (by simp; omega) (VT.RowP.below h2 ((Below.refl _ V).alloc (Nat.le_refl _) _)) (one_rowT V x) (by simp; omega)
    have hfar : ∀ g, blk vs = some g → W0.heap.size + 2 + m ≤ g := fun g hg => (RowV.lt h2 g hg).1
    have HAPP := hide hApp
    clear hApp
    have hq : ∀ k (o : Obj), V.heap[k]? = some o → blk vs ≠ some k → ∀ w5 v5, VT.Turned (V.alloc (.cells #[.int .i32 x.lo, .int .i32 x.hi, Value.int .u8 x.val] 56)) w5 (W0.heap.size + 2 + m) vs v5 (pre ++ [x]) → w5.heap[k]? = some o := fun k o hk hne w5 v5 s5 => by
      have hlt := (Array.getElem?_eq_some_iff.1 hk).1
      exact (s5.2.1.block k (by simp; omega) (fun e => hne e.symm)).trans ((Below.heap_alloc V _ _ hlt).trans hk)
    have n1 : blk vs ≠ some (w.heap.size + 1 + 1 + 1) := fun e => by have := hfar _ e; omega
    have n2 : blk vs ≠ some w.heap.size := fun e => by have := hfar _ e; omega
    have n3 : blk vs ≠ some (w.heap.size + 1) := fun e => by have := hfar _ e; omega
    have FIN : ∀ w5 v5, VT.Turned (V.alloc (.cells #[.int .i32 x.lo, .int .i32 x.hi, Value.int .u8 x.val] 56)) w5 (W0.heap.size + 2 + m) vs v5 (pre ++ [x]) →
        KeepsOthers V (w5.setCell ⟨w.heap.size + 1 + 1 + 1, 0, none⟩ v5) ∧ KpR m (fun _ => False) (W0.heap.size + 2) V (w5.setCell ⟨w.heap.size + 1 + 1 + 1, 0, none⟩ v5) ∧ (w5.setCell ⟨w.heap.size + 1 + 1 + 1, 0, none⟩ v5).heap[w.heap.size + 1 + 1 + 1]? = some (.cells #[v5] 49 (0, 0)) ∧ VT.RowP (w5.setCell ⟨w.heap.size + 1 + 1 + 1, 0, none⟩ v5) (W0.heap.size + 2 + m) v5 (pre ++ [x]) ∧ (w5.setCell ⟨w.heap.size + 1 + 1 + 1, 0, none⟩ v5).heap[w.heap.size]? = some (.cells #[.int .i64 few] 3 (0, 0)) ∧ (w5.setCell ⟨w.heap.size + 1 + 1 + 1, 0, none⟩ v5).heap[w.heap.size + 1]? = some (.cells #[.slice none 0 0] 49 (0, 0)) ∧ Below w.heap.size w (w5.setCell ⟨w.heap.size + 1 + 1 + 1, 0, none⟩ v5) ∧ W0.heap.size ≤ (w5.setCell ⟨w.heap.size + 1 + 1 + 1, 0, none⟩ v5).heap.size := by
      intro w5 v5 s5
      have q5 := hq _ _ h1 n1 w5 _ s5
      have ss : (w5.setCell ⟨w.heap.size + 1 + 1 + 1, 0, none⟩ v5).heap.size = w5.heap.size := by simp [World.setCell]
      have s6 : V.heap.size + 1 ≤ w5.heap.size := by have := s5.2.1.size; simpa using this
      have hcl : ∀ (j : Nat) (ob : Obj), blk vs = some j → (V.alloc (.cells #[.int .i32 x.lo, .int .i32 x.hi, Value.int .u8 x.val] 56)).heap[j]? = some ob → ob.isCells = true := by
        intro j ob hj hob
        obtain ⟨cur, hc⟩ := rowV_blk (VT.RowP.below h2 ((Below.refl _ V).alloc (Nat.le_refl _) (.cells #[.int .i32 x.lo, .int .i32 x.hi, Value.int .u8 x.val] 56))) hj
        rw [hc] at hob
        cases hob
        rfl
      have ko : KeepsOthers V (w5.setCell ⟨w.heap.size + 1 + 1 + 1, 0, none⟩ v5) := ((KeepsOthers.alloc _ _).trans (KeepsOthers.of_grownBy s5.2.1 hcl)).trans (KeepsOthers.setCell _ _ _)
      have k6 : (w5.setCell ⟨w.heap.size + 1 + 1 + 1, 0, none⟩ v5).heap[w.heap.size + 1 + 1 + 1]? = some (.cells #[v5] 49 (0, 0)) := by
        rw [setCell_eq_setRow w5 (w.heap.size + 1 + 1 + 1) 0 _ _ _ _ q5]
        exact setRow_heap w5 (w.heap.size + 1 + 1 + 1) _ _ _ _ q5
      have n5 : ∀ g, blk v5 = some g → W0.heap.size + 2 + m ≤ g := fun g hg => (RowV.lt s5.1 g hg).1
      refine ⟨ko, ⟨ko.walks, fun k ob hk hc hx => ?_⟩, k6, VT.RowP.kept s5.1 fun g hg => Below.heap_setCell _ _ _ _ (by show g ≠ w.heap.size + 1 + 1 + 1; have := n5 g hg; omega), (Below.heap_setCell _ _ _ _ (by show w.heap.size ≠ w.heap.size + 1 + 1 + 1; omega)).trans (hq _ _ h3 n2 w5 _ s5), (Below.heap_setCell _ _ _ _ (by show w.heap.size + 1 ≠ w.heap.size + 1 + 1 + 1; omega)).trans (hq _ _ h4 n3 w5 _ s5), ?_, by omega⟩
      · refine (Below.heap_setCell _ _ _ _ (by show k ≠ w.heap.size + 1 + 1 + 1; rcases hk with hk | hk; omega; exact hk.elim)).trans (hq k ob hx (fun e => ?_) w5 _ s5)
        have := hfar _ e
        rcases hk with hk | hk
        · omega
        · exact hk.elim
      · exact Below.setCell (VT.Turned.below s5 (h5.alloc (by have := h5.size; omega) _) (by simp; have := h5.size; omega) fun g hg => by have := hfar g hg; omega) (by show w.heap.size ≤ w.heap.size + 1 + 1 + 1; omega) _
    have HFIN := hide FIN
    clear FIN
    have hpl2 : ((pre ++ [x]).length : Int) = pre.length + 1 := by simp
    have HPL := hide hpl2
    clear hpl2
    by_cases hf : 0 ≤ few
    · have hle := h7 hf
      by_cases hg : few < (pre.length : Int) + 1
      · gi_wp2_with (gi_at_builtin; refine wpListIn_append_exT rfl _ _ _ _ rfl _ _ rfl rfl (unhide HAPP) ?_; rintro v5 w5 ⟨s5, -⟩; obtain ⟨a5, L5, cap5, rfl, hL5⟩ : ∃ a L c, v5 = .slice a L c ∧ Hid (L = pre.length + 1) := (by obtain ⟨a, c, e, _⟩ := s5.1.form; exact ⟨a, _, c, e, hide (by simp)⟩); have q5 := hq _ _ h1 n1 w5 _ s5; have c5 : w5.cell? ⟨w.heap.size + 1 + 1 + 1, 0, none⟩ = some vs := cellH q5 rfl; have f5 : w5.frozen? ⟨w.heap.size + 1 + 1 + 1, 0, none⟩ = false := frozH q5; obtain ⟨z1, z2, z3, z4, z5, z6, z7, z8⟩ := unhide HFIN _ _ s5; have e1 := cellH (k := 0) z3 rfl; have e2 := cellH (k := 0) z5 rfl; have e3 := cellH (k := 0) z6 rfl; have e4 := frozH (k := 0) z6; have e5 : few < (L5 : Int) := (by rw [unhide hL5]; omega); have e6 : decide (few < (L5 : Int)) = true := (by simpa using e5))
        have k7 : ((w5.setCell ⟨w.heap.size + 1 + 1 + 1, 0, none⟩ (.slice a5 L5 cap5)).setCell ⟨w.heap.size + 1, 0, none⟩ (.slice a5 L5 cap5)).heap[w.heap.size + 1]? = some (.cells #[.slice a5 L5 cap5] 49 (0, 0)) := by
          rw [setCell_eq_setRow _ (w.heap.size + 1) 0 _ _ _ _ z6]
          exact setRow_heap _ (w.heap.size + 1) _ _ _ _ z6
        exact ⟨(z1.trans (KeepsOthers.setCell _ _ _)).from _, rfl, hf, by rw [unhide HPL]; omega, _, k7, VT.RowP.kept (VT.RowP.mono z4 (by omega)) fun g hg => Below.heap_setCell _ _ _ _ (by show g ≠ w.heap.size + 1; have := (RowV.lt z4 g hg).1; omega), z7.setCell (p := ⟨w.heap.size + 1, 0, none⟩) (by show w.heap.size ≤ w.heap.size + 1; omega) _⟩
      · gi_wp2_with (gi_at_builtin; refine wpListIn_append_exT rfl _ _ _ _ rfl _ _ rfl rfl (unhide HAPP) ?_; rintro v5 w5 ⟨s5, -⟩; obtain ⟨a5, L5, cap5, rfl, hL5⟩ : ∃ a L c, v5 = .slice a L c ∧ Hid (L = pre.length + 1) := (by obtain ⟨a, c, e, _⟩ := s5.1.form; exact ⟨a, _, c, e, hide (by simp)⟩); have q5 := hq _ _ h1 n1 w5 _ s5; have c5 : w5.cell? ⟨w.heap.size + 1 + 1 + 1, 0, none⟩ = some vs := cellH q5 rfl; have f5 : w5.frozen? ⟨w.heap.size + 1 + 1 + 1, 0, none⟩ = false := frozH q5; obtain ⟨z1, z2, z3, z4, z5, z6, z7, z8⟩ := unhide HFIN _ _ s5; have e1 := cellH (k := 0) z3 rfl; have e2 := cellH (k := 0) z5 rfl; have e5 : ¬ few < (L5 : Int) := (by rw [unhide hL5]; omega); have e6 : decide (few < (L5 : Int)) = false := (by simpa using e5))
        exact ⟨z1.from _, z2, ⟨_, z3, z4⟩, z5, z6, z7, z8, by rw [unhide HPL]; omega⟩
    · gi_wp2_with (gi_at_builtin; refine wpListIn_append_exT rfl _ _ _ _ rfl _ _ rfl rfl (unhide HAPP) ?_; rintro v5 w5 ⟨s5, -⟩; obtain ⟨a5, L5, cap5, rfl, hL5⟩ : ∃ a L c, v5 = .slice a L c ∧ Hid (L = pre.length + 1) := (by obtain ⟨a, c, e, _⟩ := s5.1.form; exact ⟨a, _, c, e, hide (by simp)⟩); have q5 := hq _ _ h1 n1 w5 _ s5; have c5 : w5.cell? ⟨w.heap.size + 1 + 1 + 1, 0, none⟩ = some vs := cellH q5 rfl; have f5 : w5.frozen? ⟨w.heap.size + 1 + 1 + 1, 0, none⟩ = false := frozH q5; obtain ⟨z1, z2, z3, z4, z5, z6, z7, z8⟩ := unhide HFIN _ _ s5; have e1 := cellH (k := 0) z3 rfl; have e2 := cellH (k := 0) z5 rfl)
      exact ⟨z1.from _, z2, ⟨_, z3, z4⟩, z5, z6, z7, z8, fun h => by omega⟩
  case done =>
    rintro D m xs V hD hS ⟨⟨vs, h1, h2⟩, h3, h4, h5, h6, h7⟩ hK
    subst hS
    obtain ⟨a5, cap5, rfl, -, -, -, -⟩ := VT.RowP.form h2
    have c0 : V.cell? ⟨w.heap.size + 1 + 1 + 1, 0, none⟩ = some (.slice a5 xs.length cap5) := cellH h1 rfl
    have c1 : V.cell? ⟨w.heap.size + 1, 0, none⟩ = some (.slice none 0 0) := cellH h4 rfl
    have f1 : V.frozen? ⟨w.heap.size + 1, 0, none⟩ = false := frozH h4
    have hD' : D ≠ w.heap.size + 1 := by omega
    have d2 : (V.setCell ⟨w.heap.size + 1, 0, none⟩ (.slice a5 xs.length cap5)).heap[D]? = some (.deferred (some [])) := (Below.heap_setCell _ _ _ _ hD').trans hK
    have k7 : (V.setCell ⟨w.heap.size + 1, 0, none⟩ (.slice a5 xs.length cap5)).heap[w.heap.size + 1]? = some (.cells #[.slice a5 xs.length cap5] 49 (0, 0)) := by
      rw [setCell_eq_setRow _ (w.heap.size + 1) 0 _ _ _ _ h4]
      exact setRow_heap _ (w.heap.size + 1) _ _ _ _ h4
    gi_wp2
    refine ⟨by simp, .inl ⟨_, _, rfl, run_takeDeferred d2, ?_⟩⟩
    have k8 : ((V.setCell ⟨w.heap.size + 1, 0, none⟩ (.slice a5 xs.length cap5)).putObj D (.deferred none)).heap[w.heap.size + 1]? = some (.cells #[.slice a5 xs.length cap5] 49 (0, 0)) := (World.putObj_heap_other (fun e => hD' e.symm)).trans k7
    have k9 := cellH (k := 0) k8 rfl
    have etk : tookP few (namedN) = xs := by
      rw [unhide HLL]
      unfold tookP
      split
      · next hf =>
        have := h7 hf
        exact List.take_of_length_le (by omega)
      · rfl
    refine ⟨.slice a5 xs.length cap5, ?_, _, rfl, ?_, ?_⟩
    · simp [results, Tryz.results22, go_sem, k9]
    · rw [etk]
      refine VT.RowP.kept (VT.RowP.mono h2 (by omega)) fun g hg => ?_
      have hg1 := (RowV.lt h2 g hg).1
      obtain ⟨cur, hc⟩ := rowV_blk h2 hg
      refine (World.putObj_heap_other (fun e => ?_)).trans (Below.heap_setCell _ _ _ _ (by show g ≠ w.heap.size + 1; omega))
      subst e
      rw [hK] at hc
      cases hc
    · exact below_put (h5.setCell (p := ⟨w.heap.size + 1, 0, none⟩) (by show w.heap.size ≤ w.heap.size + 1; omega) _) (by omega) _
  case stop =>
    rintro D c pre V hD hSp ⟨rfl, hf, hpl, vs, h1, h2, h3⟩ hK
    have hD' : D ≠ w.heap.size + 1 := by omega
    obtain ⟨a5, cap5, rfl, -, -, -, -⟩ := VT.RowP.form h2
    gi_wp2
    refine ⟨by simp, .inl ⟨_, _, rfl, run_takeDeferred hK, ?_⟩⟩
    have k8 : (V.putObj D (.deferred none)).heap[w.heap.size + 1]? = some (.cells #[.slice a5 pre.length cap5] 49 (0, 0)) := (World.putObj_heap_other (fun e => hD' e.symm)).trans h1
    have k9 := cellH (k := 0) k8 rfl
    have etk : tookP few (namedN) = pre := by
      rw [unhide HLL]
      unfold tookP
      rw [if_pos hf]
      obtain ⟨tl, rfl⟩ := hSp
      rw [List.take_append_of_le_length (by omega), List.take_of_length_le (by omega)]
    refine ⟨.slice a5 pre.length cap5, ?_, _, rfl, ?_, ?_⟩
    · simp [results, Tryz.results22, go_sem, k9]
    · rw [etk]
      refine VT.RowP.kept h2 fun g hg => ?_
      obtain ⟨cur, hc⟩ := rowV_blk h2 hg
      refine World.putObj_heap_other (fun e => ?_)
      subst e
      rw [hK] at hc
      cases hc
    · exact below_put h3 (by omega) _

set_option maxRecDepth 100000 in
set_option maxHeartbeats 4000000 in
theorem told_whole_nil {w : World} (few : Int) :
    Calls Tryz.prog 22 #[.pointer none, .bool true, .int .i64 few] w fun e w' => ∃ u, e = .returned u ∧ VT.RowP w' w.heap.size u (tookP few (wholeN)) ∧ Below w.heap.size w w' := by
  have hlen : (wholeN).length ≤ 1114112 := by rw [wholeN_nil]; simp
  obtain ⟨LL, hLL⟩ : ∃ LL, wholeN = LL := ⟨_, rfl⟩
  refine (callsIn_wide (n := 11)).1 ?_
  refine callsIn_of_wp_marks Tryz.func22 rfl trivial ?_ rfl
  simp only [Tryz.ntmps22, List.size_toArray, List.length_cons, List.length_nil, Nat.reduceAdd, Nat.reduceSub, Array.replicate_succ, Array.replicate_zero, List.push_toArray, List.append_toArray, List.nil_append, List.cons_append]
  have hF : ∀ f, Fence.wide.fn f := fun _ => trivial
  have fnil : ∀ (lb : Array Value) (W : World), (binOp .eql 96 (.func (.func 77) #[] lb) .nilFunc).run Tryz.prog W = .ok (.bool false) W := fun _ _ => by kernel_rfl
  gi_wp2_with (first | (gi_at_call 40; with_reducible refine CallsIn.mono (callsIn_wide.2 (named_nil_in _)) ?_; rintro e V7 ⟨rfl, rfl⟩) | (gi_at_call 41; with_reducible refine CallsIn.mono (callsIn_wide.2 (whole_nil_in _)) ?_; rintro e V8 ⟨rfl, rfl⟩))
  obtain ⟨W0, hW0⟩ : ∃ W0, ((((w.alloc (.cells #[.int .i64 few] 3)).alloc (.cells #[.slice none 0 0] 49)).alloc (.cells #[.pointer none] 25)).alloc (.cells #[.pointer none] 25)).alloc (.cells #[.slice none 0 0] 49) = W0 := ⟨_, rfl⟩
  have hsz : w.heap.size + 5 ≤ W0.heap.size := by rw [← hW0]; simp
  have hb0 : Below w.heap.size w W0 := by rw [← hW0]; go_grown
  have b0 : W0.heap[w.heap.size]? = some (.cells #[.int .i64 few] 3 (0, 0)) := by
    rw [← hW0, Below.heap_alloc _ _ _ (by simp only [World.size_alloc]; omega), Below.heap_alloc _ _ _ (by simp only [World.size_alloc]; omega), Below.heap_alloc _ _ _ (by simp only [World.size_alloc]; omega), Below.heap_alloc _ _ _ (by simp only [World.size_alloc]; omega)]
    exact heap_alloc_new w _
  have b1 : W0.heap[w.heap.size + 1]? = some (.cells #[.slice none 0 0] 49 (0, 0)) := by
    rw [← hW0, Below.heap_alloc _ _ _ (by simp only [World.size_alloc]; omega), Below.heap_alloc _ _ _ (by simp only [World.size_alloc]; omega), Below.heap_alloc _ _ _ (by simp only [World.size_alloc]; omega)]
    simpa using heap_alloc_new (w.alloc (.cells #[.int .i64 few] 3)) (.cells #[.slice none 0 0] 49)
  have bm : W0.heap[w.heap.size + 1 + 1 + 1]? = some (.cells #[.pointer none] 25 (0, 0)) := by
    rw [← hW0, Below.heap_alloc _ _ _ (by simp)]
    simpa using heap_alloc_new ((((w.alloc (.cells #[.int .i64 few] 3)).alloc (.cells #[.slice none 0 0] 49)).alloc (.cells #[.pointer none] 25))) (.cells #[.pointer none] 25)
  have bl : W0.heap[w.heap.size + 1 + 1 + 1 + 1]? = some (.cells #[.slice none 0 0] 49 (0, 0)) := by
    rw [← hW0]
    simpa using heap_alloc_new ((((w.alloc (.cells #[.int .i64 few] 3)).alloc (.cells #[.slice none 0 0] 49)).alloc (.cells #[.pointer none] 25)).alloc (.cells #[.pointer none] 25)) (.cells #[.slice none 0 0] 49)
  rw [hW0]
  have hgv := whole_nil_gives 10 (w.heap.size + 1 + 1 + 1) (by omega) W0 bm
  rw [hLL] at hgv hlen
  have HLL := hide hLL
  clear hW0 fnil hLL
  refine range6B (by omega) (gf := 77) (lb := #[.pointer (some ⟨w.heap.size + 1 + 1 + 1, 0, none⟩)]) rfl (enters_of Tryz.func77 (by kernel_rfl) rfl)
    hgv (Below.refl _ _) (fun _ => rfl)
    (fun m pre V => (∃ vs, V.heap[w.heap.size + 1 + 1 + 1 + 1]? = some (.cells #[vs] 49 (0, 0)) ∧ VT.RowP V (W0.heap.size + 2 + m) vs pre) ∧ V.heap[w.heap.size]? = some (.cells #[.int .i64 few] 3 (0, 0)) ∧ V.heap[w.heap.size + 1]? = some (.cells #[.slice none 0 0] 49 (0, 0)) ∧ Below w.heap.size w V ∧ W0.heap.size ≤ V.heap.size ∧ (0 ≤ few → (pre.length : Int) ≤ few))
    (fun c pre V => c = .ret ∧ 0 ≤ few ∧ (pre.length : Int) = few + 1 ∧ ∃ vs, V.heap[w.heap.size + 1]? = some (.cells #[vs] 49 (0, 0)) ∧ VT.RowP V w.heap.size vs pre ∧ Below w.heap.size w V)
    (fun m => (own_rowT _ _ _).and ((own_block _ _ _ rfl).and ((own_block _ _ _ rfl).and ((ownFrom_below (Nat.le_refl _) (by omega)).and ((own_size _ _).and (own_pure _ (fun pre : List (Pc Int) => 0 ≤ few → (pre.length : Int) ≤ few)))))))
    (fun c => OwnFrom.and (own_pure _ (fun _ => c = .ret)) (OwnFrom.and (own_pure _ (fun _ => 0 ≤ few)) (OwnFrom.and (own_pure _ (fun pre : List (Pc Int) => (pre.length : Int) = few + 1)) (own_res (by omega) (by omega)))))
    (fun m => ⟨⟨_, bl, RowV.nil _ _ _ _ _⟩, b0, b1, hb0, Nat.le_refl _, fun h => by simpa using h⟩)
    (fun x => .cells #[.int .i32 x.lo, .int .i32 x.hi] 45 (0, 0)) (fun _ => rfl) ?fr ?assign ?body ?done ?stop
  case assign =>
    intro l2 x V K hK
    gi_wp2
    generalize hBx : V.heap.size = Bx
    exact hK Bx hBx.symm
  case body =>
    rintro m l2 pre x Bx V hl hsz2 ⟨r, hr⟩ ⟨⟨vs, h1, h2⟩, h3, h4, h5, h6, h7⟩ hx1 hx2 hSp
    have hpl : pre.length + 1 ≤ 1114112 := by have := hSp.length_le; simp at this; omega
    have y0 : V.cell? ⟨Bx, 0, none⟩ = some (.int .i32 x.lo) := cellH hx1 rfl
    have y1 : V.cell? ⟨Bx, 1, none⟩ = some (.int .i32 x.hi) := cellH hx1 rfl
    have y2 : V.cell? ⟨w.heap.size + 1 + 1 + 1 + 1, 0, none⟩ = some vs := cellH h1 rfl
    have y3 : V.frozen? ⟨w.heap.size + 1 + 1 + 1 + 1, 0, none⟩ = false := frozH h1
    have hApp := VT.append_ps (W0.heap.size + 2 + m) 0 vs (.slice (some ⟨V.heap.size, 0, none⟩) 1 1) pre [x] (V.alloc (.cells #[.int .i32 x.lo, .int .i32 x.hi, Value.int .u8 x.val] 56)) (by simp; omega) (VT.RowP.below h2 ((Below.refl _ V).alloc (Nat.le_refl _) _)) (one_rowT V x) (by simp; omega)
    have hfar : ∀ g, blk vs = some g → W0.heap.size + 2 + m ≤ g := fun g hg => (RowV.lt h2 g hg).1
    have HAPP := hide hApp
    clear hApp
    have hq : ∀ k (o : Obj), V.heap[k]? = some o → blk vs ≠ some k → ∀ w5 v5, VT.Turned (V.alloc (.cells #[.int .i32 x.lo, .int .i32 x.hi, Value.int .u8 x.val] 56)) w5 (W0.heap.size + 2 + m) vs v5 (pre ++ [x]) → w5.heap[k]? = some o := fun k o hk hne w5 v5 s5 => by
      have hlt := (Array.getElem?_eq_some_iff.1 hk).1
      exact (s5.2.1.block k (by simp; omega) (fun e => hne e.symm)).trans ((Below.heap_alloc V _ _ hlt).trans hk)
    have n1 : blk vs ≠ some (w.heap.size + 1 + 1 + 1 + 1) := fun e => by have := hfar _ e; omega
    have n2 : blk vs ≠ some w.heap.size := fun e => by have := hfar _ e; omega
    have n3 : blk vs ≠ some (w.heap.size + 1) := fun e => by have := hfar _ e; omega
    have FIN : ∀ w5 v5, VT.Turned (V.alloc (.cells #[.int .i32 x.lo, .int .i32 x.hi, Value.int .u8 x.val] 56)) w5 (W0.heap.size + 2 + m) vs v5 (pre ++ [x]) →
        KeepsOthers V (w5.setCell ⟨w.heap.size + 1 + 1 + 1 + 1, 0, none⟩ v5) ∧ KpR m (fun _ => False) (W0.heap.size + 2) V (w5.setCell ⟨w.heap.size + 1 + 1 + 1 + 1, 0, none⟩ v5) ∧ (w5.setCell ⟨w.heap.size + 1 + 1 + 1 + 1, 0, none⟩ v5).heap[w.heap.size + 1 + 1 + 1 + 1]? = some (.cells #[v5] 49 (0, 0)) ∧ VT.RowP (w5.setCell ⟨w.heap.size + 1 + 1 + 1 + 1, 0, none⟩ v5) (W0.heap.size + 2 + m) v5 (pre ++ [x]) ∧ (w5.setCell ⟨w.heap.size + 1 + 1 + 1 + 1, 0, none⟩ v5).heap[w.heap.size]? = some (.cells #[.int .i64 few] 3 (0, 0)) ∧ (w5.setCell ⟨w.heap.size + 1 + 1 + 1 + 1, 0, none⟩ v5).heap[w.heap.size + 1]? = some (.cells #[.slice none 0 0] 49 (0, 0)) ∧ Below w.heap.size w (w5.setCell ⟨w.heap.size + 1 + 1 + 1 + 1, 0, none⟩ v5) ∧ W0.heap.size ≤ (w5.setCell ⟨w.heap.size + 1 + 1 + 1 + 1, 0, none⟩ v5).heap.size := by
      intro w5 v5 s5
      have q5 := hq _ _ h1 n1 w5 _ s5
      have ss : (w5.setCell ⟨w.heap.size + 1 + 1 + 1 + 1, 0, none⟩ v5).heap.size = w5.heap.size := by simp [World.setCell]
      have s6 : V.heap.size + 1 ≤ w5.heap.size := by have := s5.2.1.size; simpa using this
      have hcl : ∀ (j : Nat) (ob : Obj), blk vs = some j → (V.alloc (.cells #[.int .i32 x.lo, .int .i32 x.hi, Value.int .u8 x.val] 56)).heap[j]? = some ob → ob.isCells = true := by
        intro j ob hj hob
        obtain ⟨cur, hc⟩ := rowV_blk (VT.RowP.below h2 ((Below.refl _ V).alloc (Nat.le_refl _) (.cells #[.int .i32 x.lo, .int .i32 x.hi, Value.int .u8 x.val] 56))) hj
        rw [hc] at hob
        cases hob
        rfl
      have ko : KeepsOthers V (w5.setCell ⟨w.heap.size + 1 + 1 + 1 + 1, 0, none⟩ v5) := ((KeepsOthers.alloc _ _).trans (KeepsOthers.of_grownBy s5.2.1 hcl)).trans (KeepsOthers.setCell _ _ _)
      have k6 : (w5.setCell ⟨w.heap.size + 1 + 1 + 1 + 1, 0, none⟩ v5).heap[w.heap.size + 1 + 1 + 1 + 1]? = some (.cells #[v5] 49 (0, 0)) := by
        rw [setCell_eq_setRow w5 (w.heap.size + 1 + 1 + 1 + 1) 0 _ _ _ _ q5]
        exact setRow_heap w5 (w.heap.size + 1 + 1 + 1 + 1) _ _ _ _ q5
      have n5 : ∀ g, blk v5 = some g → W0.heap.size + 2 + m ≤ g := fun g hg => (RowV.lt s5.1 g hg).1
      refine ⟨ko, ⟨ko.walks, fun k ob hk hc hx => ?_⟩, k6, VT.RowP.kept s5.1 fun g hg => Below.heap_setCell _ _ _ _ (by show g ≠ w.heap.size + 1 + 1 + 1 + 1; have := n5 g hg; omega), (Below.heap_setCell _ _ _ _ (by show w.heap.size ≠ w.heap.size + 1 + 1 + 1 + 1; omega)).trans (hq _ _ h3 n2 w5 _ s5), (Below.heap_setCell _ _ _ _ (by show w.heap.size + 1 ≠ w.heap.size + 1 + 1 + 1 + 1; omega)).trans (hq _ _ h4 n3 w5 _ s5), ?_, by omega⟩
      · refine (Below.heap_setCell _ _ _ _ (by show k ≠ w.heap.size + 1 + 1 + 1 + 1; rcases hk with hk | hk; omega; exact hk.elim)).trans (hq k ob hx (fun e => ?_) w5 _ s5)
        have := hfar _ e
        rcases hk with hk | hk
        · omega
        · exact hk.elim
      · exact Below.setCell (VT.Turned.below s5 (h5.alloc (by have := h5.size; omega) _) (by simp; have := h5.size; omega) fun g hg => by have := hfar g hg; omega) (by show w.heap.size ≤ w.heap.size + 1 + 1 + 1 + 1; omega) _
    have HFIN := hide FIN
    clear FIN
    have hpl2 : ((pre ++ [x]).length : Int) = pre.length + 1 := by simp
    have HPL := hide hpl2
    clear hpl2
    by_cases hf : 0 ≤ few
    · have hle := h7 hf
      by_cases hg : few < (pre.length : Int) + 1
      · gi_wp2_with (gi_at_builtin; refine wpListIn_append_exT rfl _ _ _ _ rfl _ _ rfl rfl (unhide HAPP) ?_; rintro v5 w5 ⟨s5, -⟩; obtain ⟨a5, L5, cap5, rfl, hL5⟩ : ∃ a L c, v5 = .slice a L c ∧ Hid (L = pre.length + 1) := (by obtain ⟨a, c, e, _⟩ := s5.1.form; exact ⟨a, _, c, e, hide (by simp)⟩); have q5 := hq _ _ h1 n1 w5 _ s5; have c5 : w5.cell? ⟨w.heap.size + 1 + 1 + 1 + 1, 0, none⟩ = some vs := cellH q5 rfl; have f5 : w5.frozen? ⟨w.heap.size + 1 + 1 + 1 + 1, 0, none⟩ = false := frozH q5; obtain ⟨z1, z2, z3, z4, z5, z6, z7, z8⟩ := unhide HFIN _ _ s5; have e1 := cellH (k := 0) z3 rfl; have e2 := cellH (k := 0) z5 rfl; have e3 := cellH (k := 0) z6 rfl; have e4 := frozH (k := 0) z6; have e5 : few < (L5 : Int) := (by rw [unhide hL5]; omega); have e6 : decide (few < (L5 : Int)) = true := (by simpa using e5))
        have k7 : ((w5.setCell ⟨w.heap.size + 1 + 1 + 1 + 1, 0, none⟩ (.slice a5 L5 cap5)).setCell ⟨w.heap.size + 1, 0, none⟩ (.slice a5 L5 cap5)).heap[w.heap.size + 1]? = some (.cells #[.slice a5 L5 cap5] 49 (0, 0)) := by
          rw [setCell_eq_setRow _ (w.heap.size + 1) 0 _ _ _ _ z6]
          exact setRow_heap _ (w.heap.size + 1) _ _ _ _ z6
        exact ⟨(z1.trans (KeepsOthers.setCell _ _ _)).from _, rfl, hf, by rw [unhide HPL]; omega, _, k7, VT.RowP.kept (VT.RowP.mono z4 (by omega)) fun g hg => Below.heap_setCell _ _ _ _ (by show g ≠ w.heap.size + 1; have := (RowV.lt z4 g hg).1; omega), z7.setCell (p := ⟨w.heap.size + 1, 0, none⟩) (by show w.heap.size ≤ w.heap.size + 1; omega) _⟩
      · gi_wp2_with (gi_at_builtin; refine wpListIn_append_exT rfl _ _ _ _ rfl _ _ rfl rfl (unhide HAPP) ?_; rintro v5 w5 ⟨s5, -⟩; obtain ⟨a5, L5, cap5, rfl, hL5⟩ : ∃ a L c, v5 = .slice a L c ∧ Hid (L = pre.length + 1) := (by obtain ⟨a, c, e, _⟩ := s5.1.form; exact ⟨a, _, c, e, hide (by simp)⟩); have q5 := hq _ _ h1 n1 w5 _ s5; have c5 : w5.cell? ⟨w.heap.size + 1 + 1 + 1 + 1, 0, none⟩ = some vs := cellH q5 rfl; have f5 : w5.frozen? ⟨w.heap.size + 1 + 1 + 1 + 1, 0, none⟩ = false := frozH q5; obtain ⟨z1, z2, z3, z4, z5, z6, z7, z8⟩ := unhide HFIN _ _ s5; have e1 := cellH (k := 0) z3 rfl; have e2 := cellH (k := 0) z5 rfl; have e5 : ¬ few < (L5 : Int) := (by rw [unhide hL5]; omega); have e6 : decide (few < (L5 : Int)) = false := (by simpa using e5))
        exact ⟨z1.from _, z2, ⟨_, z3, z4⟩, z5, z6, z7, z8, by rw [unhide HPL]; omega⟩
    · gi_wp2_with (gi_at_builtin; refine wpListIn_append_exT rfl _ _ _ _ rfl _ _ rfl rfl (unhide HAPP) ?_; rintro v5 w5 ⟨s5, -⟩; obtain ⟨a5, L5, cap5, rfl, hL5⟩ : ∃ a L c, v5 = .slice a L c ∧ Hid (L = pre.length + 1) := (by obtain ⟨a, c, e, _⟩ := s5.1.form; exact ⟨a, _, c, e, hide (by simp)⟩); have q5 := hq _ _ h1 n1 w5 _ s5; have c5 : w5.cell? ⟨w.heap.size + 1 + 1 + 1 + 1, 0, none⟩ = some vs := cellH q5 rfl; have f5 : w5.frozen? ⟨w.heap.size + 1 + 1 + 1 + 1, 0, none⟩ = false := frozH q5; obtain ⟨z1, z2, z3, z4, z5, z6, z7, z8⟩ := unhide HFIN _ _ s5; have e1 := cellH (k := 0) z3 rfl; have e2 := cellH (k := 0) z5 rfl)
      exact ⟨z1.from _, z2, ⟨_, z3, z4⟩, z5, z6, z7, z8, fun h => by omega⟩
  case done =>
    rintro D m xs V hD hS ⟨⟨vs, h1, h2⟩, h3, h4, h5, h6, h7⟩ hK
    subst hS
    obtain ⟨a5, cap5, rfl, -, -, -, -⟩ := VT.RowP.form h2
    have c0 : V.cell? ⟨w.heap.size + 1 + 1 + 1 + 1, 0, none⟩ = some (.slice a5 xs.length cap5) := cellH h1 rfl
    have c1 : V.cell? ⟨w.heap.size + 1, 0, none⟩ = some (.slice none 0 0) := cellH h4 rfl
    have f1 : V.frozen? ⟨w.heap.size + 1, 0, none⟩ = false := frozH h4
    have hD' : D ≠ w.heap.size + 1 := by omega
    have d2 : (V.setCell ⟨w.heap.size + 1, 0, none⟩ (.slice a5 xs.length cap5)).heap[D]? = some (.deferred (some [])) := (Below.heap_setCell _ _ _ _ hD').trans hK
    have k7 : (V.setCell ⟨w.heap.size + 1, 0, none⟩ (.slice a5 xs.length cap5)).heap[w.heap.size + 1]? = some (.cells #[.slice a5 xs.length cap5] 49 (0, 0)) := by
      rw [setCell_eq_setRow _ (w.heap.size + 1) 0 _ _ _ _ h4]
      exact setRow_heap _ (w.heap.size + 1) _ _ _ _ h4
    gi_wp2
    refine ⟨by simp, .inl ⟨_, _, rfl, run_takeDeferred d2, ?_⟩⟩
    have k8 : ((V.setCell ⟨w.heap.size + 1, 0, none⟩ (.slice a5 xs.length cap5)).putObj D (.deferred none)).heap[w.heap.size + 1]? = some (.cells #[.slice a5 xs.length cap5] 49 (0, 0)) := (World.putObj_heap_other (fun e => hD' e.symm)).trans k7
    have k9 := cellH (k := 0) k8 rfl
    have etk : tookP few (wholeN) = xs := by
      rw [unhide HLL]
      unfold tookP
      split
      · next hf =>
        have := h7 hf
        exact List.take_of_length_le (by omega)
      · rfl
    refine ⟨.slice a5 xs.length cap5, ?_, _, rfl, ?_, ?_⟩
    · simp [results, Tryz.results22, go_sem, k9]
    · rw [etk]
      refine VT.RowP.kept (VT.RowP.mono h2 (by omega)) fun g hg => ?_
      have hg1 := (RowV.lt h2 g hg).1
      obtain ⟨cur, hc⟩ := rowV_blk h2 hg
      refine (World.putObj_heap_other (fun e => ?_)).trans (Below.heap_setCell _ _ _ _ (by show g ≠ w.heap.size + 1; omega))
      subst e
      rw [hK] at hc
      cases hc
    · exact below_put (h5.setCell (p := ⟨w.heap.size + 1, 0, none⟩) (by show w.heap.size ≤ w.heap.size + 1; omega) _) (by omega) _
  case stop =>
    rintro D c pre V hD hSp ⟨rfl, hf, hpl, vs, h1, h2, h3⟩ hK
    have hD' : D ≠ w.heap.size + 1 := by omega
    obtain ⟨a5, cap5, rfl, -, -, -, -⟩ := VT.RowP.form h2
    gi_wp2
    refine ⟨by simp, .inl ⟨_, _, rfl, run_takeDeferred hK, ?_⟩⟩
    have k8 : (V.putObj D (.deferred none)).heap[w.heap.size + 1]? = some (.cells #[.slice a5 pre.length cap5] 49 (0, 0)) := (World.putObj_heap_other (fun e => hD' e.symm)).trans h1
    have k9 := cellH (k := 0) k8 rfl
    have etk : tookP few (wholeN) = pre := by
      rw [unhide HLL]
      unfold tookP
      rw [if_pos hf]
      obtain ⟨tl, rfl⟩ := hSp
      rw [List.take_append_of_le_length (by omega), List.take_of_length_le (by omega)]
    refine ⟨.slice a5 pre.length cap5, ?_, _, rfl, ?_, ?_⟩
    · simp [results, Tryz.results22, go_sem, k9]
    · rw [etk]
      refine VT.RowP.kept h2 fun g hg => ?_
      obtain ⟨cur, hc⟩ := rowV_blk h2 hg
      refine World.putObj_heap_other (fun e => ?_)
      subst e
      rw [hK] at hc
      cases hc
    · exact below_put h3 (by omega) _
end Go.Proofs.YtlgolaoabgmijaaGreatDoor

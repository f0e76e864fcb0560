/-
  All: an iterator that tells the stretches of a map; Len.
-/
import Derived.Test.YtnhcbcbceaeceaaPStrS
import Derived.Test.YtnhcbcbceaeceaaPoQe
import Derived.Test.YtnhcbcbceaeceaaReads
namespace Go.Proofs.Ytnhcbcbceaeceaa.VS
open Go.RowKit Go.PlainAid Go.Lib Go.PRow Go.Shelf Go.Seq4
attribute [local go_sem] Oper.semAt_some
set_option linter.unusedVariables false
set_option linter.unusedSimpArgs false

theorem str_gives (ps : List (Pc ByteArray)) (o : OkP ps) (n Bs : Nat) (v : Value) (hn : 3 ≤ n) (w : World) (hBs : w.heap[Bs]? = some (.cells #[v] 71 (0, 0))) (hr : RowP w 0 v ps) :
    Gives4 n Try.prog 53 #[.pointer (some ⟨Bs, 0, none⟩)] strV 0 (fun k => k = Bs ∨ blk v = some k) 0 0 (fun xs => xs = strsP eqv ps) (fun pre => pre <+: strsP eqv ps) w :=
  fun l J Jx W hW hJ hJx _ hY h0 => str1_in ps o n l Bs 0 v hn J Jx W hY hJ ((hW.block Bs (Array.getElem?_eq_some_iff.1 hBs).1).trans hBs) (hr.below hW) h0

theorem all_in (b : Nat) (w : World) :
    Calls Try.prog 16 #[.pointer (some ⟨b, 0, none⟩)] w fun e w' => e = .returned (.func (.func 36) #[] #[.pointer (some ⟨w.heap.size, 0, none⟩)]) ∧ w' = w.alloc (.cells #[.pointer (some ⟨b, 0, none⟩)] 41) := by
  have hmf : ∀ (fn : Fn) (first cap : Array Value) (w : World), (Instr.makeFunc fn first cap).run Try.prog w = .ok (.func fn first cap) w := fun _ _ _ _ => rfl
  go_enter Try.func16, Try.ntmps16
  go_wp2
  go_ret
  exact ⟨rfl, rfl⟩


abbrev T4 : Nat := 4

set_option maxRecDepth 100000 in
set_option maxHeartbeats 4000000 in
theorem all1_in (ps : List (Pc ByteArray)) (o : OkP ps) (n l Bm b : Nat) (v : Value) (hn : 6 ≤ n) (J Jx : List (Pc ByteArray) → World → Prop) (W : World)
    (hY : ∀ pre x W1, J pre W1 → (pre ++ [x]) <+: strsP eqv ps → W.heap.size + T4 ≤ W1.heap.size → YieldAt Fence.wide (n - 1) Try.prog l (strV x) W1 fun e W' =>
      (e = .returned (.bool true) ∧ J (pre ++ [x]) W' ∧ Kp4 T4 (fun _ => False) W.heap.size W1 W') ∨ (e = .returned (.bool false) ∧ Jx (pre ++ [x]) W' ∧ KeepsFrom W.heap.size W1 W'))
    (hJ : OwnFrom W.heap.size J) (hJx : OwnFrom W.heap.size Jx) (hBm : W.heap[Bm]? = some (.cells #[.pointer (some ⟨b, 0, none⟩)] 41 (0, 0))) (hm : IsMap W b v) (hr : RowP W 0 v ps) (h0 : J [] W) :
    CallsIn Fence.wide n Try.prog 36 #[.func (.yield l) #[] #[], .pointer (some ⟨Bm, 0, none⟩)] W fun e W' => (∃ v, e = .returned v) ∧
      ((∃ xs, xs = strsP eqv ps ∧ J xs W') ∨ (∃ pre, pre <+: strsP eqv ps ∧ Jx pre W')) := by
  have hlen := okP_len o
  obtain ⟨W1, hW1⟩ : ∃ W1, W1 = W.alloc (.cells #[.func (.yield l) #[] #[]] 83) := ⟨_, rfl⟩
  have hB1 : Below W.heap.size W W1 := by rw [hW1]; exact (Below.refl _ W).alloc (Nat.le_refl _) _
  have hs1 : W1.heap.size = W.heap.size + 1 := by rw [hW1]; simp
  have y1 : W1.heap[W.heap.size]? = some (.cells #[.func (.yield l) #[] #[]] 83 (0, 0)) := by rw [hW1]; exact heap_alloc_new W _
  have HH := hide (held_map b v W1 (hm.below hB1))
  have HC := hide (clone_any 0 v ps W1 (hr.below hB1) (by omega))
  have c1 : W1.cell? ⟨Bm, 0, none⟩ = some (.pointer (some ⟨b, 0, none⟩)) := by
    have e : W1.heap[Bm]? = _ := (hB1.block Bm (Array.getElem?_eq_some_iff.1 hBm).1).trans hBm
    simp [World.cell?, e]
  obtain ⟨a, cap, rfl, hc1, hc2, -, -⟩ := hr.form
  refine callsIn_of_wp_marks Try.func36 rfl trivial ?_ rfl
  simp only [Try.ntmps36, List.size_toArray, List.length_cons, List.length_nil, Nat.reduceAdd, Nat.reduceSub, Array.replicate_succ, Array.replicate_zero, List.push_toArray, List.append_toArray, List.nil_append, List.cons_append]
  have hF : ∀ f, Fence.wide.fn f := fun _ => trivial
  have hn1 : 1 ≤ n := by omega
  have HYY := hide hY
  clear hY hr hm
  have c1' := c1
  rw [hW1] at c1'
  gi_wp2_with fail
  rw [← hW1]
  clear hW1 c1'
  refine (callsIn_wide.2 (unhide HH)).mono ?_
  rintro e w' ⟨rfl, h⟩
  obtain rfl : W1 = w' := h.symm
  gi_wp2_with fail
  refine (callsIn_wide.2 (unhide HC)).mono ?_
  rintro e W2 ⟨v2, rfl, hr2, hb2, hx2⟩
  obtain ⟨a2, cap2, rfl, hc3, hc4, -, -⟩ := hr2.form
  gi_wp2_with fail
  refine (callsIn_wide.2 (str_in a2 ps.length cap2 _)).mono ?_
  rintro e w' ⟨rfl, rfl⟩
  gi_wp2
  obtain ⟨W0, hW0⟩ : ∃ W0, W2.alloc (.cells #[.slice a2 ps.length cap2] 71) = W0 := ⟨_, rfl⟩
  have hs2 := hb2.size
  have hsz : W0.heap.size = W2.heap.size + 1 := by rw [← hW0]; simp
  have hbx : W0.heap[W2.heap.size]? = some (.cells #[.slice a2 ps.length cap2] 71 (0, 0)) := by rw [← hW0]; exact heap_alloc_new W2 _
  have hb20 : Below W2.heap.size W2 W0 := by rw [← hW0]; exact (Below.refl _ W2).alloc (Nat.le_refl _) _
  have hr0 : RowP W0 W1.heap.size (.slice a2 ps.length cap2) ps := hr2.below hb20
  have y0 : W0.heap[W.heap.size]? = some (.cells #[.func (.yield l) #[] #[]] 83 (0, 0)) := ((hb20.block _ (by omega)).trans (hb2.block _ (by omega))).trans y1
  have hJ0 : J [] W0 := hJ [] W W0 none h0 ⟨(hb20.os.trans hb2.os).trans hB1.os, (hb20.tape.trans hb2.tape).trans hB1.tape, (hb20.output.trans hb2.output).trans hB1.output, by omega, fun k hk _ => ((hb20.block k (by omega)).trans (hb2.block k (by omega))).trans (hB1.block k hk)⟩ (fun r e => by cases e)
  have hrow : ∀ g, blk (.slice a2 ps.length cap2) = some g → ∃ cur, W0.heap[g]? = some (.cells cur 77 (0, 0)) ∧ W1.heap.size ≤ g ∧ g < W2.heap.size := fun g hg => by
    have hl := RowV.lt hr2 g hg
    rcases hr0.2 with ⟨a', e, _⟩ | ⟨g', cp, cur, e, _, hh, _⟩
    · injection e with e1 e2 e3
      rw [e3, blk_zero] at hg; cases hg
    · injection e with e1 e2 e3
      subst e1
      cases cap2 with
      | zero => rw [blk_zero] at hg; cases hg
      | succ c => cases hg; exact ⟨_, hh, hl.1, hl.2⟩
  have hne : ∀ pre (x : Pc ByteArray), (pre ++ [x]) <+: strsP eqv ps → W2.heap.size = W.heap.size + 3 := fun pre x h => by
    have : ps ≠ [] := by
      intro e
      subst e
      obtain ⟨t, ht⟩ := h
      simp [strsP] at ht
    have := (hx2 this).1
    omega
  rw [hW0]
  clear hW0 HH HC
  refine range4 (by omega) (gf := 53) (lb := #[.pointer (some ⟨W2.heap.size, 0, none⟩)]) rfl (enters_of Try.func53 (by kernel_rfl) rfl)
    (str_gives ps o _ W2.heap.size (.slice a2 ps.length cap2) (by omega) W0 hbx (hr0.mono (Nat.zero_le _))) (Below.refl _ _) (fun _ => by rfl)
    (fun pre V => J pre V ∧ V.heap[W.heap.size]? = some (.cells #[.func (.yield l) #[] #[]] 83 (0, 0)) ∧ V.heap[W2.heap.size]? = some (.cells #[.slice a2 ps.length cap2] 71 (0, 0)) ∧ (∀ g o, blk (.slice a2 ps.length cap2) = some g → W0.heap[g]? = some o → V.heap[g]? = some o) ∧ W0.heap.size ≤ V.heap.size)
    (fun c pre V => c = .ret ∧ Jx pre V)
    (OwnFrom.and (fun st A B row hx hg hr => OwnFrom.le hJ (by omega) st A B row hx hg hr) ((own_block _ _ _ rfl).and ((own_block _ _ _ rfl).and (OwnFrom.and (fun st A B row hx hg hr g o h1 h2 => by
      obtain ⟨cur, ho', _⟩ := hrow g h1
      rw [h2] at ho'
      cases ho'
      exact (grownBy_keeps_cells hg (fun r e => (hr r e).2) (hx g _ h1 h2) rfl).trans (hx g _ h1 h2)) (own_size _ _)))))
    (fun c st A B row hx hg hr => ⟨hx.1, OwnFrom.le hJx (by omega) st A B row hx.2 hg hr⟩) (CalmR.none _ _ _)
    ⟨hJ0, y0, hbx, fun _ _ _ h => h, Nat.le_refl _⟩
    (fun x a' V => ∃ Bx, V.heap[Bx]? = some (.cells #[.int .i32 x.lo, .int .i32 x.hi] 28 (0, 0)) ∧ W0.heap.size ≤ Bx ∧ a' = { tmps := #[.func (.yield l) #[] #[], .pointer (some ⟨Bm, 0, none⟩), .pointer (some ⟨W.heap.size, 0, none⟩), .slice a2 ps.length cap2, .pointer (some ⟨Bx, 0, none⟩), Value.string x.val, .pointer (some ⟨b, 0, none⟩), .slice a ps.length cap, .slice a2 ps.length cap2, .slice a2 ps.length cap2, .func (.func 53) #[] #[.pointer (some ⟨W2.heap.size, 0, none⟩)], .agg #[.int .i32 x.lo, .int .i32 x.hi], Value.string x.val, undef, undef, undef, undef, undef], defers := [] })
    (fun x a' st A B row hx hg hr => by
        obtain ⟨Bx, h1, h2, h3⟩ := hx
        exact ⟨Bx, own_block (β := Unit) _ _ _ rfl () A B row h1 hg hr, h2, h3⟩) ?assign ?body ?done ?stop
  case assign =>
    rintro l2 pre x V K hsz2 ⟨h1, h2, h3, h4, h5⟩ hK
    gi_wp2
    exact hK _ _ ((KeepsOthers.alloc _ _).from _) ⟨KeepsWalks.alloc _ _, fun k ob hk _ h => (Below.heap_alloc V _ _ (Array.getElem?_eq_some_iff.1 h).1).trans h⟩ ⟨hJ.alloc _ h1, (Below.heap_alloc V _ _ (by omega)).trans h2, (Below.heap_alloc V _ _ (by omega)).trans h3, fun g o e1 e2 => (Below.heap_alloc V _ _ (Array.getElem?_eq_some_iff.1 (h4 g o e1 e2)).1).trans (h4 g o e1 e2), by simp; omega⟩ ⟨V.heap.size, heap_alloc_new V _, by omega, rfl⟩
  case body =>
    rintro l2 pre x a' V hl hsz2 ⟨r, hr⟩ ⟨h1, h2, h3, h4, h5⟩ ⟨Bx, hx1, hx2', rfl⟩ hSp
    have z0 : V.cell? ⟨Bx, 0, none⟩ = some (.int .i32 x.lo) := by simp [World.cell?, hx1]
    have z1 : V.cell? ⟨Bx, 1, none⟩ = some (.int .i32 x.hi) := by simp [World.cell?, hx1]
    have z2 : V.cell? ⟨W.heap.size, 0, none⟩ = some (.func (.yield l) #[] #[]) := by simp [World.cell?, h2]
    have hw2 := hne pre x hSp
    have hn2 : 1 ≤ n - 1 - 1 := by omega
    obtain ⟨fn, tmps, assign, body, hy, hR⟩ := yieldIn (m := n - 1 - 1 - 1) (lr := l2) (unhide HYY pre x V h1 hSp (by unfold T4; omega))
    dsimp only [strV] at hy
    gi_wp2
    refine hR.mono ?_
    rintro e V5 (⟨rfl, hJ5, hk5⟩ | ⟨rfl, hJx5, hk5⟩)
    · gi_wp2
      have hKF := hk5.1
      have hKR := hk5.2.2
      refine ⟨⟨hKF.size, fun k ob hB => hKF.same k ob (by omega)⟩, ⟨hk5.2.1, fun k ob hk ho hx => ?_⟩, hJ5, hKR _ _ (.inl ⟨Nat.le_refl _, by unfold T4; omega⟩) rfl h2, hKR _ _ (.inl ⟨by omega, by unfold T4; omega⟩) rfl h3, fun g ob e1 e2 => ?_, ?_⟩
      · rcases hk with hk | hk | hk
        · omega
        · subst hk
          exact hKR _ _ (.inl ⟨by omega, by unfold T4; omega⟩) ho hx
        · obtain ⟨cur, _, q1, q2⟩ := hrow k hk
          exact hKR _ _ (.inl ⟨by omega, by unfold T4; omega⟩) ho hx
      · obtain ⟨cur, ho', q1, q2⟩ := hrow g e1
        have := h4 g ob e1 e2
        rw [e2] at ho'
        cases ho'
        exact hKR _ _ (.inl ⟨by omega, by unfold T4; omega⟩) rfl this
      · have := hKF.size; omega
    · gi_wp2
      exact ⟨⟨hk5.size, fun k ob hB => hk5.same k ob (by omega)⟩, rfl, hJx5⟩
  case done =>
    rintro D xs V hD hS ⟨h1, h2, h3, h4, h5⟩ hK
    subst hS
    gi_wp2
    refine ⟨by simp, .inl ⟨_, _, rfl, run_takeDeferred hK, ?_⟩⟩
    refine ⟨_, results_none rfl _ _ _, ⟨_, rfl⟩, .inl ⟨_, rfl, ?_⟩⟩
    exact hJ _ V _ (some D) h1 (grownBy_putObj' V D _) (fun r e => by cases e; exact ⟨by omega, _, hK, rfl⟩)
  case stop =>
    rintro D c pre V hD hSp ⟨rfl, hx⟩ hK
    gi_wp2
    refine ⟨by simp, .inl ⟨_, _, rfl, run_takeDeferred hK, ?_⟩⟩
    refine ⟨_, results_none rfl _ _ _, ⟨_, rfl⟩, .inr ⟨pre, hSp, ?_⟩⟩
    exact hJx _ V _ (some D) hx (grownBy_putObj' V D _) (fun r e => by cases e; exact ⟨by omega, _, hK, rfl⟩)

theorem all_gives (ps : List (Pc ByteArray)) (o : OkP ps) (n Bm b : Nat) (v : Value) (hn : 6 ≤ n) (w : World) (hBm : w.heap[Bm]? = some (.cells #[.pointer (some ⟨b, 0, none⟩)] 41 (0, 0))) (hm : IsMap w b v) (hr : RowP w 0 v ps) :
    Gives4 n Try.prog 36 #[.pointer (some ⟨Bm, 0, none⟩)] strV T4 (fun _ => False) 0 0 (fun xs => xs = strsP eqv ps) (fun pre => pre <+: strsP eqv ps) w :=
  fun l J Jx W hW hJ hJx _ hY h0 => all1_in ps o n l Bm b v hn J Jx W hY hJ hJx ((hW.block Bm (Array.getElem?_eq_some_iff.1 hBm).1).trans hBm) (hm.below hW) (hr.below hW) h0
end Go.Proofs.Ytnhcbcbceaeceaa.VS

/-
  These texts, one behind the other: ClWh, ClTo.
-/
import Derived.Test.YthgaadjkjnibaaaGreatDoorOv
import Derived.Test.YthgaadjkjnibaaaGreatDoorPOvC
import Derived.Test.YthgaadjkjnibaaaGreatDoorPl
import Derived.Test.YthgaadjkjnibaaaGreatDoorTt
/-
  Whole: an iterator that tells the greatest ranges of all code points that have one class.
-/
namespace Go.Proofs.YthgaadjkjnibaaaGreatDoor
open Go.RowKit Go.PlainAid Go.Lib Go.PHexM Go.Shelf Go.PRow Go.Seq4 Go.Seq6
attribute [local go_sem] Oper.semAt_some
set_option linter.unusedVariables false
set_option linter.unusedSimpArgs false

theorem whole_in (bt : Nat) (w : World) :
    Calls Tryz.prog 24 #[.pointer (some ⟨bt, 0, none⟩)] w fun e w' => e = .returned (.func (.func 44) #[] #[.pointer (some ⟨w.heap.size, 0, none⟩)]) ∧ w' = w.alloc (.cells #[.pointer (some ⟨bt, 0, none⟩)] 23) := by
  have hmf : ∀ (fn : Fn) (first cap : Array Value) (w : World), (Instr.makeFunc fn first cap).run Tryz.prog w = .ok (.func fn first cap) w := fun _ _ _ _ => rfl
  go_enter Tryz.func24, Tryz.ntmps24
  go_wp2
  go_ret
  exact ⟨rfl, rfl⟩

set_option maxRecDepth 100000 in
set_option maxHeartbeats 4000000 in
theorem whole1_in {B bt bN bC : Nat} {vN vC vM : Value} {t : TabD} (n l Bm : Nat) (hn : 7 ≤ n) (J : Nat → List (Pc Int) → World → Prop) (Jx : List (Pc Int) → World → Prop) (W : World)
    (hY : ∀ m pre x W1, J m pre W1 → (pre ++ [x]) <+: wholeP t → W.heap.size + m ≤ W1.heap.size → YieldAt Fence.wide (n - 1) Tryz.prog l (VC.strV x) W1 fun e W' =>
      (e = .returned (.bool true) ∧ J m (pre ++ [x]) W' ∧ Kp4 m (fun _ => False) W.heap.size W1 W') ∨ (e = .returned (.bool false) ∧ Jx (pre ++ [x]) W' ∧ KeepsFrom W.heap.size W1 W'))
    (hJ : ∀ m, OwnFrom W.heap.size (J m)) (hJx : OwnFrom W.heap.size Jx) (hBm : W.heap[Bm]? = some (.cells #[.pointer (some ⟨bt, 0, none⟩)] 23 (0, 0))) (hT : TabP W B bt bN bC vN vC vM t) (h0 : ∀ m, J m [] W) :
    CallsIn Fence.wide n Tryz.prog 44 #[.func (.yield l) #[] #[], .pointer (some ⟨Bm, 0, none⟩)] W fun e W' => (∃ v, e = .returned v) ∧
      ((∃ m xs, xs = wholeP t ∧ J m xs W') ∨ (∃ pre, pre <+: wholeP t ∧ Jx pre W')) := by
  obtain ⟨W1, hW1⟩ : ∃ W1, W1 = W.alloc (.cells #[.func (.yield l) #[] #[]] 95) := ⟨_, rfl⟩
  have hB1 : Below W.heap.size W W1 := by rw [hW1]; exact (Below.refl _ W).alloc (Nat.le_refl _) _
  have hs1 : W1.heap.size = W.heap.size + 1 := by rw [hW1]; simp
  have y1 : W1.heap[W.heap.size]? = some (.cells #[.func (.yield l) #[] #[]] 95 (0, 0)) := by rw [hW1]; exact heap_alloc_new W _
  have hT1 := hT.below hB1
  have hBm1 := (hB1.block Bm (Array.getElem?_eq_some_iff.1 hBm).1).trans hBm
  have hok := all_ok7 hT.ok
  refine callsIn_of_wp_marks Tryz.func44 rfl trivial ?_ rfl
  simp only [Tryz.ntmps44, List.size_toArray, List.length_cons, List.length_nil, Nat.reduceAdd, Nat.reduceSub, Array.replicate_succ, Array.replicate_zero, List.push_toArray, List.append_toArray, List.nil_append, List.cons_append]
  have hF : ∀ f, Fence.wide.fn f := fun _ => trivial
  have hn1 : 1 ≤ n := by omega
  have HYY := hide hY
  clear hY hT hBm
  gi_wp2_with fail
  rw [← hW1]
  clear hW1
  obtain ⟨Inv, hInv⟩ : ∃ Inv : (Nat → Bool) → Act → World → Prop, Inv = (fun D a' V => ∃ x5 x6 x7 x8 x9 x10 x11 : Value, a' = { tmps := #[.func (.yield l) #[] #[], .pointer (some ⟨Bm, 0, none⟩), .pointer (some ⟨W.heap.size, 0, none⟩), undef, undef, x5, x6, x7, x8, x9, x10, x11, undef, undef, undef, undef, undef, undef, undef], defers := [] } ∧ (D 0 = true → x5 = .pointer (some ⟨bt, 0, none⟩)) ∧ (D 1 = true → x6 = .agg #[.pointer (some ⟨bN, 0, none⟩), .pointer (some ⟨bC, 0, none⟩), vM]) ∧ (D 2 = true → x7 = .pointer (some ⟨bC, 0, none⟩)) ∧ (D 3 = true → x8 = .pointer (some ⟨bt, 0, none⟩)) ∧ (D 4 = true → ∃ bm u, x9 = .pointer (some ⟨bm, 0, none⟩) ∧ VC.IsMap V bm u ∧ VC.RowP V W1.heap.size u (gvP t)) ∧ (D 5 = true → ∃ bm u, x10 = .pointer (some ⟨bm, 0, none⟩) ∧ VC.IsMap V bm u ∧ VC.RowP V W1.heap.size u (allP t)) ∧ (D 6 = true → ∃ bm u Ba, x11 = .func (.func 68) #[] #[.pointer (some ⟨Ba, 0, none⟩)] ∧ V.heap[Ba]? = some (.cells #[.pointer (some ⟨bm, 0, none⟩)] 64 (0, 0)) ∧ VC.IsMap V bm u ∧ VC.RowP V W1.heap.size u (allP t)) ∧ Below W1.heap.size W1 V) := ⟨_, rfl⟩
  have HInv := hide hInv
  clear hInv
  have HH := hide (fun V (hV : Below W1.heap.size W1 V) => held7_tab (hT1.below hV))
  have HG := hide (fun V (hV : Below W1.heap.size W1 V) => given_tab (hT1.below hV))
  have HMC := hide (fun V (hV : Below W1.heap.size W1 V) => hT1.mC.below hV)
  have HRC := hide (fun V (hV : Below W1.heap.size W1 V) => hT1.rC.below hV)
  have hokT := hT1.ok
  have fd := field7_1
  refine RegInv.region Inv (by kernel_rfl) (by kernel_rfl) (by kernel_rfl) ?h0 ?hs ?he
  case h0 =>
    rw [unhide HInv]
    exact ⟨undef, undef, undef, undef, undef, undef, undef, rfl, fun h => (by cases h), fun h => (by cases h), fun h => (by cases h), fun h => (by cases h), fun h => (by cases h), fun h => (by cases h), fun h => (by cases h), ⟨rfl, rfl, rfl, Nat.le_refl _, fun _ _ => rfl⟩⟩
  case hs =>
    refine ⟨?o0, ?o1, ?o2, ?o3, ?o4, ?o5, ?o6, trivial⟩
    case o0 =>
      rintro D a' V hn hd hdn hI
      rw [unhide HInv] at hI
      obtain ⟨x5, x6, x7, x8, x9, x10, x11, rfl, c0, c1, c2, c3, c4, c5, c6, hB⟩ := hI
      have bx := (hB.block _ (Array.getElem?_eq_some_iff.1 hBm1).1).trans hBm1
      have g0 : V.cell? ⟨Bm, 0, none⟩ = some (.pointer (some ⟨bt, 0, none⟩)) := cellH bx rfl
      clear bx
      gi_wp2
      show Inv _ _ _
      rw [unhide HInv]
      exact ⟨_, x6, x7, x8, x9, x10, x11, rfl, fun _ => rfl, fun h => c1 (by simpa using h), fun h => c2 (by simpa using h), fun h => c3 (by simpa using h), fun h => c4 (by simpa using h), fun h => c5 (by simpa using h), fun h => c6 (by simpa using h), hB⟩
    case o1 =>
      rintro D a' V hn hd hdn hI
      rw [unhide HInv] at hI
      obtain ⟨x5, x6, x7, x8, x9, x10, x11, rfl, c0, c1, c2, c3, c4, c5, c6, hB⟩ := hI
      obtain rfl := c0 (hd 0 (by decide))
      gi_wp2_with (gi_at_call 16; with_reducible refine CallsIn.mono (callsIn_wide.2 (unhide HH V hB)) ?_; rintro e w4 ⟨rfl, hb4⟩)
      show Inv _ _ _
      rw [unhide HInv]
      exact ⟨_, _, x7, x8, x9, x10, x11, rfl, fun _ => rfl, fun _ => rfl, fun h => c2 (by simpa using h), fun h => c3 (by simpa using h), fun h => (by obtain ⟨bm, u, e, h1, h2⟩ := c4 (by simpa using h); exact ⟨bm, u, e, VC.IsMap.below h1 hb4, VC.RowP.below h2 hb4⟩), fun h => (by obtain ⟨bm, u, e, h1, h2⟩ := c5 (by simpa using h); exact ⟨bm, u, e, VC.IsMap.below h1 hb4, VC.RowP.below h2 hb4⟩), fun h => (by obtain ⟨bm, u, Ba, e, h0, h1, h2⟩ := c6 (by simpa using h); exact ⟨bm, u, Ba, e, (hb4.block Ba (Array.getElem?_eq_some_iff.1 h0).1).trans h0, VC.IsMap.below h1 hb4, VC.RowP.below h2 hb4⟩), hB.trans (hb4.mono hB.size)⟩
    case o2 =>
      rintro D a' V hn hd hdn hI
      rw [unhide HInv] at hI
      obtain ⟨x5, x6, x7, x8, x9, x10, x11, rfl, c0, c1, c2, c3, c4, c5, c6, hB⟩ := hI
      obtain rfl := c1 (hd 1 (by decide))
      gi_wp2
      show Inv _ _ _
      rw [unhide HInv]
      exact ⟨x5, _, _, x8, x9, x10, x11, rfl, fun h => c0 (by simpa using h), fun _ => rfl, fun _ => rfl, fun h => c3 (by simpa using h), fun h => c4 (by simpa using h), fun h => c5 (by simpa using h), fun h => c6 (by simpa using h), hB⟩
    case o3 =>
      rintro D a' V hn hd hdn hI
      rw [unhide HInv] at hI
      obtain ⟨x5, x6, x7, x8, x9, x10, x11, rfl, c0, c1, c2, c3, c4, c5, c6, hB⟩ := hI
      have bx := (hB.block _ (Array.getElem?_eq_some_iff.1 hBm1).1).trans hBm1
      have g0 : V.cell? ⟨Bm, 0, none⟩ = some (.pointer (some ⟨bt, 0, none⟩)) := cellH bx rfl
      clear bx
      gi_wp2
      show Inv _ _ _
      rw [unhide HInv]
      exact ⟨x5, x6, x7, _, x9, x10, x11, rfl, fun h => c0 (by simpa using h), fun h => c1 (by simpa using h), fun h => c2 (by simpa using h), fun _ => rfl, fun h => c4 (by simpa using h), fun h => c5 (by simpa using h), fun h => c6 (by simpa using h), hB⟩
    case o4 =>
      rintro D a' V hn hd hdn hI
      rw [unhide HInv] at hI
      obtain ⟨x5, x6, x7, x8, x9, x10, x11, rfl, c0, c1, c2, c3, c4, c5, c6, hB⟩ := hI
      obtain rfl := c3 (hd 3 (by decide))
      gi_wp2_with (gi_at_call 42; with_reducible refine CallsIn.mono (callsIn_wide.2 (unhide HG V hB)) ?_; rintro e w4 ⟨bm, u, rfl, hm4, hr4, hbm4, hb4⟩)
      show Inv _ _ _
      rw [unhide HInv]
      exact ⟨x5, x6, x7, _, _, x10, x11, rfl, fun h => c0 (by simpa using h), fun h => c1 (by simpa using h), fun h => c2 (by simpa using h), fun _ => rfl, fun _ => ⟨bm, u, rfl, hm4, VC.RowP.mono hr4 hB.size⟩, fun h => (by obtain ⟨bm, u, e, h1, h2⟩ := c5 (by simpa using h); exact ⟨bm, u, e, VC.IsMap.below h1 hb4, VC.RowP.below h2 hb4⟩), fun h => (by obtain ⟨bm, u, Ba, e, h0, h1, h2⟩ := c6 (by simpa using h); exact ⟨bm, u, Ba, e, (hb4.block Ba (Array.getElem?_eq_some_iff.1 h0).1).trans h0, VC.IsMap.below h1 hb4, VC.RowP.below h2 hb4⟩), hB.trans (hb4.mono hB.size)⟩
    case o5 =>
      rintro D a' V hn hd hdn hI
      rw [unhide HInv] at hI
      obtain ⟨x5, x6, x7, x8, x9, x10, x11, rfl, c0, c1, c2, c3, c4, c5, c6, hB⟩ := hI
      obtain rfl := c2 (hd 2 (by decide))
      obtain ⟨b4, u4, rfl, m4, r4⟩ := c4 (hd 4 (by decide))
      have HOV := hide (VC.over_any (.pointer (some ⟨bC, 0, none⟩)) (.pointer (some ⟨b4, 0, none⟩)) vC B t.us hokT.2 u4 W1.heap.size (gvP t) (gv_ok hokT) (fun a b h => (eqC_iff a b).1 h) V (fun V' hV' => VC.held_map bC vC V' (VC.IsMap.below (unhide HMC V hB) hV')) (unhide HRC V hB) (fun V' hV' => VC.held_map b4 u4 V' (VC.IsMap.below m4 hV')) r4 ⟨_, rfl⟩ ⟨_, rfl⟩)
      gi_wp2_with (gi_at_call 45; with_reducible refine CallsIn.mono (callsIn_wide.2 (unhide HOV)) ?_; rintro e w4 ⟨bm, u, rfl, hm4, hr4, hbm4, hb4⟩)
      show Inv _ _ _
      rw [unhide HInv]
      exact ⟨x5, x6, _, x8, _, _, x11, rfl, fun h => c0 (by simpa using h), fun h => c1 (by simpa using h), fun _ => rfl, fun h => c3 (by simpa using h), fun _ => ⟨b4, u4, rfl, VC.IsMap.below m4 hb4, VC.RowP.below r4 hb4⟩, fun _ => ⟨bm, u, rfl, hm4, VC.RowP.mono hr4 hB.size⟩, fun h => (by obtain ⟨bm, u, Ba, e, h0, h1, h2⟩ := c6 (by simpa using h); exact ⟨bm, u, Ba, e, (hb4.block Ba (Array.getElem?_eq_some_iff.1 h0).1).trans h0, VC.IsMap.below h1 hb4, VC.RowP.below h2 hb4⟩), hB.trans (hb4.mono hB.size)⟩
    case o6 =>
      rintro D a' V hn hd hdn hI
      rw [unhide HInv] at hI
      obtain ⟨x5, x6, x7, x8, x9, x10, x11, rfl, c0, c1, c2, c3, c4, c5, c6, hB⟩ := hI
      obtain ⟨b5, u5, rfl, m5, r5⟩ := c5 (hd 5 (by decide))
      have hb4 : Below V.heap.size V (V.alloc (.cells #[.pointer (some ⟨b5, 0, none⟩)] 64)) := (Below.refl _ V).alloc (Nat.le_refl _) _
      have hx4 := heap_alloc_new V (.cells #[.pointer (some ⟨b5, 0, none⟩)] 64)
      have HAL := hide (VC.all_in b5 V)
      gi_wp2_with (gi_at_call 43; with_reducible refine CallsIn.mono (callsIn_wide.2 (unhide HAL)) ?_; rintro e w4 ⟨rfl, rfl⟩)
      show Inv _ _ _
      rw [unhide HInv]
      exact ⟨x5, x6, x7, x8, x9, _, _, rfl, fun h => c0 (by simpa using h), fun h => c1 (by simpa using h), fun h => c2 (by simpa using h), fun h => c3 (by simpa using h), fun h => (by obtain ⟨bm, u, e, h1, h2⟩ := c4 (by simpa using h); exact ⟨bm, u, e, VC.IsMap.below h1 hb4, VC.RowP.below h2 hb4⟩), fun _ => ⟨b5, u5, rfl, VC.IsMap.below m5 hb4, VC.RowP.below r5 hb4⟩, fun _ => ⟨b5, u5, V.heap.size, rfl, hx4, VC.IsMap.below m5 hb4, VC.RowP.below r5 hb4⟩, hB.trans (hb4.mono hB.size)⟩
  case he =>
    intro D a' W0 hall hI
    rw [unhide HInv] at hI
    obtain ⟨x5, x6, x7, x8, x9, x10, x11, rfl, c0, c1, c2, c3, c4, c5, c6, hb2⟩ := hI
    obtain ⟨bm, u, Ba, rfl, hbx, hm0, hr2⟩ := c6 (hall 6 (by decide))
    clear c0 c1 c2 c3 c4 c5 c6 HH HG HMC HRC HInv
    have hs2 := hb2.size
    have hr0 : VC.RowP W0 0 u (allP t) := VC.RowP.mono hr2 (Nat.zero_le _)
    have y0 : W0.heap[W.heap.size]? = some (.cells #[.func (.yield l) #[] #[]] 95 (0, 0)) := (hb2.block _ (by omega)).trans y1
    have hJ0 : ∀ m, J m [] W0 := fun m => hJ m [] W W0 none (h0 m) ⟨hb2.os.trans hB1.os, hb2.tape.trans hB1.tape, hb2.output.trans hB1.output, by omega, fun k hk _ => (hb2.block k (by omega)).trans (hB1.block k hk)⟩ (fun r e => by cases e)
    obtain ⟨m, hm⟩ : ∃ m, W.heap.size + m = W0.heap.size + 2 + VC.T4 := ⟨W0.heap.size + 2 + VC.T4 - W.heap.size, by omega⟩
    gi_wp2
    refine range4B (by omega) (gf := 68) (lb := #[.pointer (some ⟨Ba, 0, none⟩)]) rfl (enters_of Tryz.func68 (by kernel_rfl) rfl)
      (VC.all_gives (allP t) hok _ Ba bm u (by omega) W0 hbx hm0 hr0) (Below.refl _ _) (fun _ => rfl)
      (fun pre V => J m pre V ∧ V.heap[W.heap.size]? = some (.cells #[.func (.yield l) #[] #[]] 95 (0, 0)) ∧ W0.heap.size ≤ V.heap.size)
      (fun c pre V => c = .ret ∧ Jx pre V)
      (OwnFrom.and (fun st A B row hx hg hr => OwnFrom.le (hJ m) (by omega) st A B row hx hg hr) ((own_block _ _ _ rfl).and (own_size _ _)))
      (fun c st A B row hx hg hr => ⟨hx.1, OwnFrom.le hJx (by omega) st A B row hx.2 hg hr⟩) (CalmR.none _ _ _)
      ⟨hJ0 m, y0, Nat.le_refl _⟩
      (fun x => .cells #[.int .i32 x.lo, .int .i32 x.hi] 32 (0, 0)) (fun _ => rfl) ?fr ?assign ?body ?done ?stop
    case assign =>
      intro l2 x V K hK
      gi_wp2
      generalize hBx : V.heap.size = Bx
      exact hK Bx hBx.symm
    case body =>
      rintro l2 pre x Bx V hl hsz2 ⟨r, hr⟩ ⟨h1, h2, h3⟩ hx1 hx2 hSp
      have z0 : V.cell? ⟨Bx, 0, none⟩ = some (.int .i32 x.lo) := cellH hx1 rfl
      have z1 : V.cell? ⟨Bx, 1, none⟩ = some (.int .i32 x.hi) := cellH hx1 rfl
      have z2 : V.cell? ⟨W.heap.size, 0, none⟩ = some (.func (.yield l) #[] #[]) := cellH h2 rfl
      have hn2 : 1 ≤ n - 1 - 1 := by omega
      obtain ⟨fn, tmps, assign, body, hy, hR⟩ := yieldIn (m := n - 1 - 1 - 1) (lr := l2) (unhide HYY m pre x V h1 hSp (by omega))
      dsimp only [VC.strV] at hy
      gi_wp2
      refine hR.mono ?_
      rintro e V5 (⟨rfl, hJ5, hk5⟩ | ⟨rfl, hJx5, hk5⟩)
      · gi_wp2
        have hKF := hk5.1
        have hKR := hk5.2.2
        refine ⟨⟨hKF.size, fun k ob hB => hKF.same k ob (by omega)⟩, ⟨hk5.2.1, fun k ob hk ho hx => ?_⟩, hJ5, hKR _ _ (.inl ⟨Nat.le_refl _, by omega⟩) rfl h2, ?_⟩
        · rcases hk with hk | hk
          · exact hKR _ _ (.inl ⟨by omega, by omega⟩) ho hx
          · exact hk.elim
        · have := hKF.size; omega
      · gi_wp2
        exact ⟨⟨hk5.size, fun k ob hB => hk5.same k ob (by omega)⟩, rfl, hJx5⟩
    case done =>
      rintro D xs V hD hS ⟨h1, h2, h3⟩ hK
      subst hS
      gi_wp2
      refine ⟨by simp, .inl ⟨_, _, rfl, run_takeDeferred hK, ?_⟩⟩
      refine ⟨_, results_none rfl _ _ _, ⟨_, rfl⟩, .inl ⟨m, _, rfl, ?_⟩⟩
      exact hJ m _ V _ (some D) h1 (grownBy_putObj' V D _) (fun r e => by cases e; exact ⟨by omega, _, hK, rfl⟩)
    case stop =>
      rintro D c pre V hD hSp ⟨rfl, hx⟩ hK
      gi_wp2
      refine ⟨by simp, .inl ⟨_, _, rfl, run_takeDeferred hK, ?_⟩⟩
      refine ⟨_, results_none rfl _ _ _, ⟨_, rfl⟩, .inr ⟨pre, hSp, ?_⟩⟩
      exact hJx _ V _ (some D) hx (grownBy_putObj' V D _) (fun r e => by cases e; exact ⟨by omega, _, hK, rfl⟩)

theorem whole_gives {B bt bN bC : Nat} {vN vC vM : Value} {t : TabD} (n Bm : Nat) (hn : 7 ≤ n) (w : World) (hBm : w.heap[Bm]? = some (.cells #[.pointer (some ⟨bt, 0, none⟩)] 23 (0, 0))) (hT : TabP w B bt bN bC vN vC vM t) :
    Gives6 n Tryz.prog 44 #[.pointer (some ⟨Bm, 0, none⟩)] VC.strV (fun xs => xs = wholeP t) (fun pre => pre <+: wholeP t) w :=
  fun l J Jx W hW hJ hJx hY h0 => whole1_in n l Bm hn J Jx W hY hJ hJx ((hW.block Bm (Array.getElem?_eq_some_iff.1 hBm).1).trans hBm) (hT.below hW) h0
end Go.Proofs.YthgaadjkjnibaaaGreatDoor
/-
  The law's told: what Named or Whole tells, in a list, left behind few of them.
-/
namespace Go.Proofs.YthgaadjkjnibaaaGreatDoor
open Go.RowKit Go.PlainAid Go.Lib Go.PHexM Go.Shelf Go.PRow Go.Seq4 Go.Seq6
attribute [local go_sem] Oper.semAt_some
set_option linter.unusedVariables false
set_option linter.unusedSimpArgs false

/-- what is taken of a list that is left behind few -/
def tookP (few : Int) (l : List (Pc Int)) : List (Pc Int) := if 0 ≤ few then l.take (few.toNat + 1) else l

theorem wpListIn_append_exT {F : Fence} {n : Nat} {w : World} {ops : Array Oper} {rest : List Oper} {o : Oper} {a : Act} {Q : Exit → Act → World → Prop} (hgd : o.guard = none) (s x : Operand) (t tn : TypeId)
    (ho : o.op = .call { callee := .builtin .append, args := #[s, x], argTypes := #[t, tn] }) (vs vx : Value) (hs : a.eval s = vs) (hx : a.eval x = vx) {Post : Value → World → Prop}
    (hr : ∃ v' w', (∀ ty, (Builtin.append_ #[t, tn] ty #[vs, vx]).run Tryz.prog w = .ok v' w') ∧ Post v' w') (h : ∀ v' w', Post v' w' → wpListIn F n Tryz.prog ops Q rest (a.put o.dst v') w') : wpListIn F n Tryz.prog ops Q (o :: rest) a w := by
  refine wpListIn_plain hgd fun K hK' => ?_
  obtain ⟨v', w', hrun, hp⟩ := hr
  unfold Oper.wpIn
  refine ⟨?_, ?_⟩
  · simp [Oper.about, ho, resolve, Target.leads, Sem.run_pure]
  · rw [Oper.semAt_plain F _ _ (by rw [ho]; intro c hc'; cases hc')]
    simp [execOp, ho, resolve, invoke, builtin, hs, hx, hrun, Result.andThen]
    exact hK' _ _ (h v' w' hp)
theorem own_rowT (B Bq b : Nat) : OwnFrom B (fun (pre : List (Pc Int)) W => ∃ vs, W.heap[b]? = some (.cells #[vs] 37 (0, 0)) ∧ VT.RowP W Bq vs pre) := by
  rintro x W W' row ⟨vs, h1, h2⟩ hg hr
  refine ⟨vs, (grownBy_keeps_cells hg (fun r e => (hr r e).2) h1 rfl).trans h1, VT.RowP.kept h2 fun g hgk => ?_⟩
  obtain ⟨cur, hc⟩ := rowV_blk h2 hgk
  exact grownBy_keeps_cells hg (fun r e => (hr r e).2) hc rfl
theorem own_res {w : World} {C b : Nat} (hw : w.heap.size ≤ C) (hb : b < C) : OwnFrom C (fun (pre : List (Pc Int)) V => ∃ vs, V.heap[b]? = some (.cells #[vs] 37 (0, 0)) ∧ VT.RowP V w.heap.size vs pre ∧ Below w.heap.size w V) := by
  rintro x W W' row ⟨vs, h1, h2, h3⟩ hg hr
  refine ⟨vs, (grownBy_keeps_cells hg (fun r e => (hr r e).2) h1 rfl).trans h1, VT.RowP.kept h2 fun g hgk => ?_, ownFrom_below (β := Unit) (Nat.le_refl _) hw () W W' row h3 hg hr⟩
  obtain ⟨cur, hc⟩ := rowV_blk h2 hgk
  exact grownBy_keeps_cells hg (fun r e => (hr r e).2) hc rfl
theorem one_rowT (V : World) (x : Pc Int) : VT.RowP (V.alloc (.cells #[.int .i32 x.lo, .int .i32 x.hi, Value.int .u8 x.val] 76)) 0 (.slice (some ⟨V.heap.size, 0, none⟩) 1 1) [x] := by
  refine ⟨rfl, .inr ⟨V.heap.size, 1, #[.int .i32 x.lo, .int .i32 x.hi, Value.int .u8 x.val], rfl, Nat.zero_le _, heap_alloc_new V _, Nat.le_refl _, by decide, rfl, rfl⟩⟩

set_option maxRecDepth 100000 in
set_option maxHeartbeats 4000000 in
theorem told_named {w : World} {B bt bN bC : Nat} {vN vC vM : Value} {t : TabD} (hT : TabP w B bt bN bC vN vC vM t) (few : Int) :
    Calls Tryz.prog 9 #[.pointer (some ⟨bt, 0, none⟩), .bool false, .int .i64 few] w fun e w' => ∃ u, e = .returned u ∧ VT.RowP w' w.heap.size u (tookP few (namedP t)) ∧ Below w.heap.size w w' := by
  have hlen : (namedP t).length ≤ 1114112 := VC.okP_len (named_ok hT.ok)
  obtain ⟨LL, hLL⟩ : ∃ LL, namedP t = LL := ⟨_, rfl⟩
  have hbl := (Array.getElem?_eq_some_iff.1 hT.tab).1
  refine (callsIn_wide (n := 11)).1 ?_
  refine callsIn_of_wp_marks Tryz.func9 rfl trivial ?_ rfl
  simp only [Tryz.ntmps9, List.size_toArray, List.length_cons, List.length_nil, Nat.reduceAdd, Nat.reduceSub, Array.replicate_succ, Array.replicate_zero, List.push_toArray, List.append_toArray, List.nil_append, List.cons_append]
  have hF : ∀ f, Fence.wide.fn f := fun _ => trivial
  have fnil : ∀ (lb : Array Value) (W : World), (binOp .eql 73 (.func (.func 41) #[] lb) .nilFunc).run Tryz.prog W = .ok (.bool false) W := fun _ _ => by kernel_rfl
  gi_wp2_with (gi_at_call 20; with_reducible refine CallsIn.mono (callsIn_wide.2 (named_in bt _)) ?_; rintro e V7 ⟨rfl, rfl⟩)
  obtain ⟨W0, hW0⟩ : ∃ W0, (((w.alloc (.cells #[.int .i64 few] 3)).alloc (.cells #[.slice none 0 0] 37)).alloc (.cells #[.pointer (some ⟨bt, 0, none⟩)] 23)).alloc (.cells #[.slice none 0 0] 37) = W0 := ⟨_, rfl⟩
  have hsz : w.heap.size + 4 ≤ W0.heap.size := by rw [← hW0]; simp
  have hb0 : Below w.heap.size w W0 := by rw [← hW0]; go_grown
  have b0 : W0.heap[w.heap.size]? = some (.cells #[.int .i64 few] 3 (0, 0)) := by
    rw [← hW0, Below.heap_alloc _ _ _ (by simp only [World.size_alloc]; omega), Below.heap_alloc _ _ _ (by simp only [World.size_alloc]; omega), Below.heap_alloc _ _ _ (by simp only [World.size_alloc]; omega)]
    exact heap_alloc_new w _
  have b1 : W0.heap[w.heap.size + 1]? = some (.cells #[.slice none 0 0] 37 (0, 0)) := by
    rw [← hW0, Below.heap_alloc _ _ _ (by simp only [World.size_alloc]; omega), Below.heap_alloc _ _ _ (by simp only [World.size_alloc]; omega)]
    simpa using heap_alloc_new (w.alloc (.cells #[.int .i64 few] 3)) (.cells #[.slice none 0 0] 37)
  have bm : W0.heap[w.heap.size + 1 + 1]? = some (.cells #[.pointer (some ⟨bt, 0, none⟩)] 23 (0, 0)) := by
    rw [← hW0, Below.heap_alloc _ _ _ (by simp)]
    simpa using heap_alloc_new (((w.alloc (.cells #[.int .i64 few] 3)).alloc (.cells #[.slice none 0 0] 37))) (.cells #[.pointer (some ⟨bt, 0, none⟩)] 23)
  have bl : W0.heap[w.heap.size + 1 + 1 + 1]? = some (.cells #[.slice none 0 0] 37 (0, 0)) := by
    rw [← hW0]
    simpa using heap_alloc_new (((w.alloc (.cells #[.int .i64 few] 3)).alloc (.cells #[.slice none 0 0] 37)).alloc (.cells #[.pointer (some ⟨bt, 0, none⟩)] 23)) (.cells #[.slice none 0 0] 37)
  have hT0 := hT.below hb0
  rw [hW0]
  have hgv := named_gives (t := t) 10 (w.heap.size + 1 + 1) (by omega) W0 bm hT0
  rw [hLL] at hgv hlen
  have HLL := hide hLL
  clear hW0 fnil hT hT0 hLL
  refine range6B (by omega) (gf := 41) (lb := #[.pointer (some ⟨w.heap.size + 1 + 1, 0, none⟩)]) rfl (enters_of Tryz.func41 (by kernel_rfl) rfl)
    hgv (Below.refl _ _) (fun _ => rfl)
    (fun m pre V => (∃ vs, V.heap[w.heap.size + 1 + 1 + 1]? = some (.cells #[vs] 37 (0, 0)) ∧ VT.RowP V (W0.heap.size + 2 + m) vs pre) ∧ V.heap[w.heap.size]? = some (.cells #[.int .i64 few] 3 (0, 0)) ∧ V.heap[w.heap.size + 1]? = some (.cells #[.slice none 0 0] 37 (0, 0)) ∧ Below w.heap.size w V ∧ W0.heap.size ≤ V.heap.size ∧ (0 ≤ few → (pre.length : Int) ≤ few))
    (fun c pre V => c = .ret ∧ 0 ≤ few ∧ (pre.length : Int) = few + 1 ∧ ∃ vs, V.heap[w.heap.size + 1]? = some (.cells #[vs] 37 (0, 0)) ∧ VT.RowP V w.heap.size vs pre ∧ Below w.heap.size w V)
    (fun m => (own_rowT _ _ _).and ((own_block _ _ _ rfl).and ((own_block _ _ _ rfl).and ((ownFrom_below (Nat.le_refl _) (by omega)).and ((own_size _ _).and (own_pure _ (fun pre : List (Pc Int) => 0 ≤ few → (pre.length : Int) ≤ few)))))))
    (fun c => OwnFrom.and (own_pure _ (fun _ => c = .ret)) (OwnFrom.and (own_pure _ (fun _ => 0 ≤ few)) (OwnFrom.and (own_pure _ (fun pre : List (Pc Int) => (pre.length : Int) = few + 1)) (own_res (by omega) (by omega)))))
    (fun m => ⟨⟨_, bl, RowV.nil _ _ _ _ _⟩, b0, b1, hb0, Nat.le_refl _, fun h => by simpa using h⟩)
    (fun x => .cells #[.int .i32 x.lo, .int .i32 x.hi] 32 (0, 0)) (fun _ => rfl) ?fr ?assign ?body ?done ?stop
  case assign =>
    intro l2 x V K hK
    gi_wp2
    generalize hBx : V.heap.size = Bx
    exact hK Bx hBx.symm
  case body =>
    rintro m l2 pre x Bx V hl hsz2 ⟨r, hr⟩ ⟨⟨vs, h1, h2⟩, h3, h4, h5, h6, h7⟩ hx1 hx2 hSp
    have hpl : pre.length + 1 ≤ 1114112 := by have := hSp.length_le; simp at this; omega
    have y0 : V.cell? ⟨Bx, 0, none⟩ = some (.int .i32 x.lo) := cellH hx1 rfl
    have y1 : V.cell? ⟨Bx, 1, none⟩ = some (.int .i32 x.hi) := cellH hx1 rfl
    have y2 : V.cell? ⟨w.heap.size + 1 + 1 + 1, 0, none⟩ = some vs := cellH h1 rfl
    have y3 : V.frozen? ⟨w.heap.size + 1 + 1 + 1, 0, none⟩ = false := frozH h1
    have hApp := VT.append_ps (W0.heap.size + 2 + m) 0 vs (.slice (some ⟨V.heap.size, 0, none⟩) 1 1) pre [x] (V.alloc (.cells #[.int .i32 x.lo, .int .i32 x.hi, Value.int .u8 x.val] 76)) (by simp; omega) (VT.RowP.below h2 ((Below.refl _ V).alloc (Nat.le_refl _) _)) (one_rowT V x) (by simp; omega)
    have hfar : ∀ g, blk vs = some g → W0.heap.size + 2 + m ≤ g := fun g hg => (RowV.lt h2 g hg).1
    have HAPP := hide hApp
    clear hApp
    have hq : ∀ k (o : Obj), V.heap[k]? = some o → blk vs ≠ some k → ∀ w5 v5, VT.Turned (V.alloc (.cells #[.int .i32 x.lo, .int .i32 x.hi, Value.int .u8 x.val] 76)) w5 (W0.heap.size + 2 + m) vs v5 (pre ++ [x]) → w5.heap[k]? = some o := fun k o hk hne w5 v5 s5 => by
      have hlt := (Array.getElem?_eq_some_iff.1 hk).1
      exact (s5.2.1.block k (by simp; omega) (fun e => hne e.symm)).trans ((Below.heap_alloc V _ _ hlt).trans hk)
    have n1 : blk vs ≠ some (w.heap.size + 1 + 1 + 1) := fun e => by have := hfar _ e; omega
    have n2 : blk vs ≠ some w.heap.size := fun e => by have := hfar _ e; omega
    have n3 : blk vs ≠ some (w.heap.size + 1) := fun e => by have := hfar _ e; omega
    have FIN : ∀ w5 v5, VT.Turned (V.alloc (.cells #[.int .i32 x.lo, .int .i32 x.hi, Value.int .u8 x.val] 76)) w5 (W0.heap.size + 2 + m) vs v5 (pre ++ [x]) →
        KeepsOthers V (w5.setCell ⟨w.heap.size + 1 + 1 + 1, 0, none⟩ v5) ∧ KpR m (fun _ => False) (W0.heap.size + 2) V (w5.setCell ⟨w.heap.size + 1 + 1 + 1, 0, none⟩ v5) ∧ (w5.setCell ⟨w.heap.size + 1 + 1 + 1, 0, none⟩ v5).heap[w.heap.size + 1 + 1 + 1]? = some (.cells #[v5] 37 (0, 0)) ∧ VT.RowP (w5.setCell ⟨w.heap.size + 1 + 1 + 1, 0, none⟩ v5) (W0.heap.size + 2 + m) v5 (pre ++ [x]) ∧ (w5.setCell ⟨w.heap.size + 1 + 1 + 1, 0, none⟩ v5).heap[w.heap.size]? = some (.cells #[.int .i64 few] 3 (0, 0)) ∧ (w5.setCell ⟨w.heap.size + 1 + 1 + 1, 0, none⟩ v5).heap[w.heap.size + 1]? = some (.cells #[.slice none 0 0] 37 (0, 0)) ∧ Below w.heap.size w (w5.setCell ⟨w.heap.size + 1 + 1 + 1, 0, none⟩ v5) ∧ W0.heap.size ≤ (w5.setCell ⟨w.heap.size + 1 + 1 + 1, 0, none⟩ v5).heap.size := by
      intro w5 v5 s5
      have q5 := hq _ _ h1 n1 w5 _ s5
      have ss : (w5.setCell ⟨w.heap.size + 1 + 1 + 1, 0, none⟩ v5).heap.size = w5.heap.size := by simp [World.setCell]
      have s6 : V.heap.size + 1 ≤ w5.heap.size := by have := s5.2.1.size; simpa using this
      have hcl : ∀ (j : Nat) (ob : Obj), blk vs = some j → (V.alloc (.cells #[.int .i32 x.lo, .int .i32 x.hi, Value.int .u8 x.val] 76)).heap[j]? = some ob → ob.isCells = true := by
        intro j ob hj hob
        obtain ⟨cur, hc⟩ := rowV_blk (VT.RowP.below h2 ((Below.refl _ V).alloc (Nat.le_refl _) (.cells #[.int .i32 x.lo, .int .i32 x.hi, Value.int .u8 x.val] 76))) hj
        rw [hc] at hob
        cases hob
        rfl
      have ko : KeepsOthers V (w5.setCell ⟨w.heap.size + 1 + 1 + 1, 0, none⟩ v5) := ((KeepsOthers.alloc _ _).trans (KeepsOthers.of_grownBy s5.2.1 hcl)).trans (KeepsOthers.setCell _ _ _)
      have k6 : (w5.setCell ⟨w.heap.size + 1 + 1 + 1, 0, none⟩ v5).heap[w.heap.size + 1 + 1 + 1]? = some (.cells #[v5] 37 (0, 0)) := by
        rw [setCell_eq_setRow w5 (w.heap.size + 1 + 1 + 1) 0 _ _ _ _ q5]
        exact setRow_heap w5 (w.heap.size + 1 + 1 + 1) _ _ _ _ q5
      have n5 : ∀ g, blk v5 = some g → W0.heap.size + 2 + m ≤ g := fun g hg => (RowV.lt s5.1 g hg).1
      refine ⟨ko, ⟨ko.walks, fun k ob hk hc hx => ?_⟩, k6, VT.RowP.kept s5.1 fun g hg => Below.heap_setCell _ _ _ _ (by show g ≠ w.heap.size + 1 + 1 + 1; have := n5 g hg; omega), (Below.heap_setCell _ _ _ _ (by show w.heap.size ≠ w.heap.size + 1 + 1 + 1; omega)).trans (hq _ _ h3 n2 w5 _ s5), (Below.heap_setCell _ _ _ _ (by show w.heap.size + 1 ≠ w.heap.size + 1 + 1 + 1; omega)).trans (hq _ _ h4 n3 w5 _ s5), ?_, by omega⟩
      · refine (Below.heap_setCell _ _ _ _ (by show k ≠ w.heap.size + 1 + 1 + 1; rcases hk with hk | hk; omega; exact hk.elim)).trans (hq k ob hx (fun e => ?_) w5 _ s5)
        have := hfar _ e
        rcases hk with hk | hk
        · omega
        · exact hk.elim
      · exact Below.setCell (VT.Turned.below s5 (h5.alloc (by have := h5.size; omega) _) (by simp; have := h5.size; omega) fun g hg => by have := hfar g hg; omega) (by show w.heap.size ≤ w.heap.size + 1 + 1 + 1; omega) _
    have HFIN := hide FIN
    clear FIN
    have hpl2 : ((pre ++ [x]).length : Int) = pre.length + 1 := by simp
    have HPL := hide hpl2
    clear hpl2
    by_cases hf : 0 ≤ few
    · have hle := h7 hf
      by_cases hg : few < (pre.length : Int) + 1
      · gi_wp2_with (gi_at_builtin; refine wpListIn_append_exT rfl _ _ _ _ rfl _ _ rfl rfl (unhide HAPP) ?_; rintro v5 w5 ⟨s5, -⟩; obtain ⟨a5, L5, cap5, rfl, hL5⟩ : ∃ a L c, v5 = .slice a L c ∧ Hid (L = pre.length + 1) := (by obtain ⟨a, c, e, _⟩ := s5.1.form; exact ⟨a, _, c, e, hide (by simp)⟩); have q5 := hq _ _ h1 n1 w5 _ s5; have c5 : w5.cell? ⟨w.heap.size + 1 + 1 + 1, 0, none⟩ = some vs := cellH q5 rfl; have f5 : w5.frozen? ⟨w.heap.size + 1 + 1 + 1, 0, none⟩ = false := frozH q5; obtain ⟨z1, z2, z3, z4, z5, z6, z7, z8⟩ := unhide HFIN _ _ s5; have e1 := cellH (k := 0) z3 rfl; have e2 := cellH (k := 0) z5 rfl; have e3 := cellH (k := 0) z6 rfl; have e4 := frozH (k := 0) z6; have e5 : few < (L5 : Int) := (by rw [unhide hL5]; omega); have e6 : decide (few < (L5 : Int)) = true := (by simpa using e5))
        have k7 : ((w5.setCell ⟨w.heap.size + 1 + 1 + 1, 0, none⟩ (.slice a5 L5 cap5)).setCell ⟨w.heap.size + 1, 0, none⟩ (.slice a5 L5 cap5)).heap[w.heap.size + 1]? = some (.cells #[.slice a5 L5 cap5] 37 (0, 0)) := by
          rw [setCell_eq_setRow _ (w.heap.size + 1) 0 _ _ _ _ z6]
          exact setRow_heap _ (w.heap.size + 1) _ _ _ _ z6
        exact ⟨(z1.trans (KeepsOthers.setCell _ _ _)).from _, rfl, hf, by rw [unhide HPL]; omega, _, k7, VT.RowP.kept (VT.RowP.mono z4 (by omega)) fun g hg => Below.heap_setCell _ _ _ _ (by show g ≠ w.heap.size + 1; have := (RowV.lt z4 g hg).1; omega), z7.setCell (p := ⟨w.heap.size + 1, 0, none⟩) (by show w.heap.size ≤ w.heap.size + 1; omega) _⟩
      · gi_wp2_with (gi_at_builtin; refine wpListIn_append_exT rfl _ _ _ _ rfl _ _ rfl rfl (unhide HAPP) ?_; rintro v5 w5 ⟨s5, -⟩; obtain ⟨a5, L5, cap5, rfl, hL5⟩ : ∃ a L c, v5 = .slice a L c ∧ Hid (L = pre.length + 1) := (by obtain ⟨a, c, e, _⟩ := s5.1.form; exact ⟨a, _, c, e, hide (by simp)⟩); have q5 := hq _ _ h1 n1 w5 _ s5; have c5 : w5.cell? ⟨w.heap.size + 1 + 1 + 1, 0, none⟩ = some vs := cellH q5 rfl; have f5 : w5.frozen? ⟨w.heap.size + 1 + 1 + 1, 0, none⟩ = false := frozH q5; obtain ⟨z1, z2, z3, z4, z5, z6, z7, z8⟩ := unhide HFIN _ _ s5; have e1 := cellH (k := 0) z3 rfl; have e2 := cellH (k := 0) z5 rfl; have e5 : ¬ few < (L5 : Int) := (by rw [unhide hL5]; omega); have e6 : decide (few < (L5 : Int)) = false := (by simpa using e5))
        exact ⟨z1.from _, z2, ⟨_, z3, z4⟩, z5, z6, z7, z8, by rw [unhide HPL]; omega⟩
    · gi_wp2_with (gi_at_builtin; refine wpListIn_append_exT rfl _ _ _ _ rfl _ _ rfl rfl (unhide HAPP) ?_; rintro v5 w5 ⟨s5, -⟩; obtain ⟨a5, L5, cap5, rfl, hL5⟩ : ∃ a L c, v5 = .slice a L c ∧ Hid (L = pre.length + 1) := (by obtain ⟨a, c, e, _⟩ := s5.1.form; exact ⟨a, _, c, e, hide (by simp)⟩); have q5 := hq _ _ h1 n1 w5 _ s5; have c5 : w5.cell? ⟨w.heap.size + 1 + 1 + 1, 0, none⟩ = some vs := cellH q5 rfl; have f5 : w5.frozen? ⟨w.heap.size + 1 + 1 + 1, 0, none⟩ = false := frozH q5; obtain ⟨z1, z2, z3, z4, z5, z6, z7, z8⟩ := unhide HFIN _ _ s5; have e1 := cellH (k := 0) z3 rfl; have e2 := cellH (k := 0) z5 rfl)
      exact ⟨z1.from _, z2, ⟨_, z3, z4⟩, z5, z6, z7, z8, fun h => by omega⟩
  case done =>
    rintro D m xs V hD hS ⟨⟨vs, h1, h2⟩, h3, h4, h5, h6, h7⟩ hK
    subst hS
    obtain ⟨a5, cap5, rfl, -, -, -, -⟩ := VT.RowP.form h2
    have c0 : V.cell? ⟨w.heap.size + 1 + 1 + 1, 0, none⟩ = some (.slice a5 xs.length cap5) := cellH h1 rfl
    have c1 : V.cell? ⟨w.heap.size + 1, 0, none⟩ = some (.slice none 0 0) := cellH h4 rfl
    have f1 : V.frozen? ⟨w.heap.size + 1, 0, none⟩ = false := frozH h4
    have hD' : D ≠ w.heap.size + 1 := by omega
    have d2 : (V.setCell ⟨w.heap.size + 1, 0, none⟩ (.slice a5 xs.length cap5)).heap[D]? = some (.deferred (some [])) := (Below.heap_setCell _ _ _ _ hD').trans hK
    have k7 : (V.setCell ⟨w.heap.size + 1, 0, none⟩ (.slice a5 xs.length cap5)).heap[w.heap.size + 1]? = some (.cells #[.slice a5 xs.length cap5] 37 (0, 0)) := by
      rw [setCell_eq_setRow _ (w.heap.size + 1) 0 _ _ _ _ h4]
      exact setRow_heap _ (w.heap.size + 1) _ _ _ _ h4
    gi_wp2
    refine ⟨by simp, .inl ⟨_, _, rfl, run_takeDeferred d2, ?_⟩⟩
    have k8 : ((V.setCell ⟨w.heap.size + 1, 0, none⟩ (.slice a5 xs.length cap5)).putObj D (.deferred none)).heap[w.heap.size + 1]? = some (.cells #[.slice a5 xs.length cap5] 37 (0, 0)) := (World.putObj_heap_other (fun e => hD' e.symm)).trans k7
    have k9 := cellH (k := 0) k8 rfl
    have etk : tookP few (namedP t) = xs := by
      rw [unhide HLL]
      unfold tookP
      split
      · next hf =>
        have := h7 hf
        exact List.take_of_length_le (by omega)
      · rfl
    refine ⟨.slice a5 xs.length cap5, ?_, _, rfl, ?_, ?_⟩
    · simp [results, Tryz.results9, go_sem, k9]
    · rw [etk]
      refine VT.RowP.kept (VT.RowP.mono h2 (by omega)) fun g hg => ?_
      have hg1 := (RowV.lt h2 g hg).1
      obtain ⟨cur, hc⟩ := rowV_blk h2 hg
      refine (World.putObj_heap_other (fun e => ?_)).trans (Below.heap_setCell _ _ _ _ (by show g ≠ w.heap.size + 1; omega))
      subst e
      rw [hK] at hc
      cases hc
    · exact below_put (h5.setCell (p := ⟨w.heap.size + 1, 0, none⟩) (by show w.heap.size ≤ w.heap.size + 1; omega) _) (by omega) _
  case stop =>
    rintro D c pre V hD hSp ⟨rfl, hf, hpl, vs, h1, h2, h3⟩ hK
    have hD' : D ≠ w.heap.size + 1 := by omega
    obtain ⟨a5, cap5, rfl, -, -, -, -⟩ := VT.RowP.form h2
    gi_wp2
    refine ⟨by simp, .inl ⟨_, _, rfl, run_takeDeferred hK, ?_⟩⟩
    have k8 : (V.putObj D (.deferred none)).heap[w.heap.size + 1]? = some (.cells #[.slice a5 pre.length cap5] 37 (0, 0)) := (World.putObj_heap_other (fun e => hD' e.symm)).trans h1
    have k9 := cellH (k := 0) k8 rfl
    have etk : tookP few (namedP t) = pre := by
      rw [unhide HLL]
      unfold tookP
      rw [if_pos hf]
      obtain ⟨tl, rfl⟩ := hSp
      rw [List.take_append_of_le_length (by omega), List.take_of_length_le (by omega)]
    refine ⟨.slice a5 pre.length cap5, ?_, _, rfl, ?_, ?_⟩
    · simp [results, Tryz.results9, go_sem, k9]
    · rw [etk]
      refine VT.RowP.kept h2 fun g hg => ?_
      obtain ⟨cur, hc⟩ := rowV_blk h2 hg
      refine World.putObj_heap_other (fun e => ?_)
      subst e
      rw [hK] at hc
      cases hc
    · exact below_put h3 (by omega) _

set_option maxRecDepth 100000 in
set_option maxHeartbeats 4000000 in
theorem told_whole {w : World} {B bt bN bC : Nat} {vN vC vM : Value} {t : TabD} (hT : TabP w B bt bN bC vN vC vM t) (few : Int) :
    Calls Tryz.prog 9 #[.pointer (some ⟨bt, 0, none⟩), .bool true, .int .i64 few] w fun e w' => ∃ u, e = .returned u ∧ VT.RowP w' w.heap.size u (tookP few (wholeP t)) ∧ Below w.heap.size w w' := by
  have hlen : (wholeP t).length ≤ 1114112 := VC.okP_len (whole_ok hT.ok)
  obtain ⟨LL, hLL⟩ : ∃ LL, wholeP t = LL := ⟨_, rfl⟩
  have hbl := (Array.getElem?_eq_some_iff.1 hT.tab).1
  refine (callsIn_wide (n := 11)).1 ?_
  refine callsIn_of_wp_marks Tryz.func9 rfl trivial ?_ rfl
  simp only [Tryz.ntmps9, List.size_toArray, List.length_cons, List.length_nil, Nat.reduceAdd, Nat.reduceSub, Array.replicate_succ, Array.replicate_zero, List.push_toArray, List.append_toArray, List.nil_append, List.cons_append]
  have hF : ∀ f, Fence.wide.fn f := fun _ => trivial
  have fnil : ∀ (lb : Array Value) (W : World), (binOp .eql 73 (.func (.func 44) #[] lb) .nilFunc).run Tryz.prog W = .ok (.bool false) W := fun _ _ => by kernel_rfl
  gi_wp2_with (first | (gi_at_call 20; with_reducible refine CallsIn.mono (callsIn_wide.2 (named_in bt _)) ?_; rintro e V7 ⟨rfl, rfl⟩) | (gi_at_call 24; with_reducible refine CallsIn.mono (callsIn_wide.2 (whole_in bt _)) ?_; rintro e V8 ⟨rfl, rfl⟩))
  obtain ⟨W0, hW0⟩ : ∃ W0, ((((w.alloc (.cells #[.int .i64 few] 3)).alloc (.cells #[.slice none 0 0] 37)).alloc (.cells #[.pointer (some ⟨bt, 0, none⟩)] 23)).alloc (.cells #[.pointer (some ⟨bt, 0, none⟩)] 23)).alloc (.cells #[.slice none 0 0] 37) = W0 := ⟨_, rfl⟩
  have hsz : w.heap.size + 5 ≤ W0.heap.size := by rw [← hW0]; simp
  have hb0 : Below w.heap.size w W0 := by rw [← hW0]; go_grown
  have b0 : W0.heap[w.heap.size]? = some (.cells #[.int .i64 few] 3 (0, 0)) := by
    rw [← hW0, Below.heap_alloc _ _ _ (by simp only [World.size_alloc]; omega), Below.heap_alloc _ _ _ (by simp only [World.size_alloc]; omega), Below.heap_alloc _ _ _ (by simp only [World.size_alloc]; omega), Below.heap_alloc _ _ _ (by simp only [World.size_alloc]; omega)]
    exact heap_alloc_new w _
  have b1 : W0.heap[w.heap.size + 1]? = some (.cells #[.slice none 0 0] 37 (0, 0)) := by
    rw [← hW0, Below.heap_alloc _ _ _ (by simp only [World.size_alloc]; omega), Below.heap_alloc _ _ _ (by simp only [World.size_alloc]; omega), Below.heap_alloc _ _ _ (by simp only [World.size_alloc]; omega)]
    simpa using heap_alloc_new (w.alloc (.cells #[.int .i64 few] 3)) (.cells #[.slice none 0 0] 37)
  have bm : W0.heap[w.heap.size + 1 + 1 + 1]? = some (.cells #[.pointer (some ⟨bt, 0, none⟩)] 23 (0, 0)) := by
    rw [← hW0, Below.heap_alloc _ _ _ (by simp)]
    simpa using heap_alloc_new ((((w.alloc (.cells #[.int .i64 few] 3)).alloc (.cells #[.slice none 0 0] 37)).alloc (.cells #[.pointer (some ⟨bt, 0, none⟩)] 23))) (.cells #[.pointer (some ⟨bt, 0, none⟩)] 23)
  have bl : W0.heap[w.heap.size + 1 + 1 + 1 + 1]? = some (.cells #[.slice none 0 0] 37 (0, 0)) := by
    rw [← hW0]
    simpa using heap_alloc_new ((((w.alloc (.cells #[.int .i64 few] 3)).alloc (.cells #[.slice none 0 0] 37)).alloc (.cells #[.pointer (some ⟨bt, 0, none⟩)] 23)).alloc (.cells #[.pointer (some ⟨bt, 0, none⟩)] 23)) (.cells #[.slice none 0 0] 37)
  have hT0 := hT.below hb0
  rw [hW0]
  have hgv := whole_gives (t := t) 10 (w.heap.size + 1 + 1 + 1) (by omega) W0 bm hT0
  rw [hLL] at hgv hlen
  have HLL := hide hLL
  clear hW0 fnil hT hT0 hLL
  refine range6B (by omega) (gf := 44) (lb := #[.pointer (some ⟨w.heap.size + 1 + 1 + 1, 0, none⟩)]) rfl (enters_of Tryz.func44 (by kernel_rfl) rfl)
    hgv (Below.refl _ _) (fun _ => rfl)
    (fun m pre V => (∃ vs, V.heap[w.heap.size + 1 + 1 + 1 + 1]? = some (.cells #[vs] 37 (0, 0)) ∧ VT.RowP V (W0.heap.size + 2 + m) vs pre) ∧ V.heap[w.heap.size]? = some (.cells #[.int .i64 few] 3 (0, 0)) ∧ V.heap[w.heap.size + 1]? = some (.cells #[.slice none 0 0] 37 (0, 0)) ∧ Below w.heap.size w V ∧ W0.heap.size ≤ V.heap.size ∧ (0 ≤ few → (pre.length : Int) ≤ few))
    (fun c pre V => c = .ret ∧ 0 ≤ few ∧ (pre.length : Int) = few + 1 ∧ ∃ vs, V.heap[w.heap.size + 1]? = some (.cells #[vs] 37 (0, 0)) ∧ VT.RowP V w.heap.size vs pre ∧ Below w.heap.size w V)
    (fun m => (own_rowT _ _ _).and ((own_block _ _ _ rfl).and ((own_block _ _ _ rfl).and ((ownFrom_below (Nat.le_refl _) (by omega)).and ((own_size _ _).and (own_pure _ (fun pre : List (Pc Int) => 0 ≤ few → (pre.length : Int) ≤ few)))))))
    (fun c => OwnFrom.and (own_pure _ (fun _ => c = .ret)) (OwnFrom.and (own_pure _ (fun _ => 0 ≤ few)) (OwnFrom.and (own_pure _ (fun pre : List (Pc Int) => (pre.length : Int) = few + 1)) (own_res (by omega) (by omega)))))
    (fun m => ⟨⟨_, bl, RowV.nil _ _ _ _ _⟩, b0, b1, hb0, Nat.le_refl _, fun h => by simpa using h⟩)
    (fun x => .cells #[.int .i32 x.lo, .int .i32 x.hi] 32 (0, 0)) (fun _ => rfl) ?fr ?assign ?body ?done ?stop
  case assign =>
    intro l2 x V K hK
    gi_wp2
    generalize hBx : V.heap.size = Bx
    exact hK Bx hBx.symm
  case body =>
    rintro m l2 pre x Bx V hl hsz2 ⟨r, hr⟩ ⟨⟨vs, h1, h2⟩, h3, h4, h5, h6, h7⟩ hx1 hx2 hSp
    have hpl : pre.length + 1 ≤ 1114112 := by have := hSp.length_le; simp at this; omega
    have y0 : V.cell? ⟨Bx, 0, none⟩ = some (.int .i32 x.lo) := cellH hx1 rfl
    have y1 : V.cell? ⟨Bx, 1, none⟩ = some (.int .i32 x.hi) := cellH hx1 rfl
    have y2 : V.cell? ⟨w.heap.size + 1 + 1 + 1 + 1, 0, none⟩ = some vs := cellH h1 rfl
    have y3 : V.frozen? ⟨w.heap.size + 1 + 1 + 1 + 1, 0, none⟩ = false := frozH h1
    have hApp := VT.append_ps (W0.heap.size + 2 + m) 0 vs (.slice (some ⟨V.heap.size, 0, none⟩) 1 1) pre [x] (V.alloc (.cells #[.int .i32 x.lo, .int .i32 x.hi, Value.int .u8 x.val] 76)) (by simp; omega) (VT.RowP.below h2 ((Below.refl _ V).alloc (Nat.le_refl _) _)) (one_rowT V x) (by simp; omega)
    have hfar : ∀ g, blk vs = some g → W0.heap.size + 2 + m ≤ g := fun g hg => (RowV.lt h2 g hg).1
    have HAPP := hide hApp
    clear hApp
    have hq : ∀ k (o : Obj), V.heap[k]? = some o → blk vs ≠ some k → ∀ w5 v5, VT.Turned (V.alloc (.cells #[.int .i32 x.lo, .int .i32 x.hi, Value.int .u8 x.val] 76)) w5 (W0.heap.size + 2 + m) vs v5 (pre ++ [x]) → w5.heap[k]? = some o := fun k o hk hne w5 v5 s5 => by
      have hlt := (Array.getElem?_eq_some_iff.1 hk).1
      exact (s5.2.1.block k (by simp; omega) (fun e => hne e.symm)).trans ((Below.heap_alloc V _ _ hlt).trans hk)
    have n1 : blk vs ≠ some (w.heap.size + 1 + 1 + 1 + 1) := fun e => by have := hfar _ e; omega
    have n2 : blk vs ≠ some w.heap.size := fun e => by have := hfar _ e; omega
    have n3 : blk vs ≠ some (w.heap.size + 1) := fun e => by have := hfar _ e; omega
    have FIN : ∀ w5 v5, VT.Turned (V.alloc (.cells #[.int .i32 x.lo, .int .i32 x.hi, Value.int .u8 x.val] 76)) w5 (W0.heap.size + 2 + m) vs v5 (pre ++ [x]) →
        KeepsOthers V (w5.setCell ⟨w.heap.size + 1 + 1 + 1 + 1, 0, none⟩ v5) ∧ KpR m (fun _ => False) (W0.heap.size + 2) V (w5.setCell ⟨w.heap.size + 1 + 1 + 1 + 1, 0, none⟩ v5) ∧ (w5.setCell ⟨w.heap.size + 1 + 1 + 1 + 1, 0, none⟩ v5).heap[w.heap.size + 1 + 1 + 1 + 1]? = some (.cells #[v5] 37 (0, 0)) ∧ VT.RowP (w5.setCell ⟨w.heap.size + 1 + 1 + 1 + 1, 0, none⟩ v5) (W0.heap.size + 2 + m) v5 (pre ++ [x]) ∧ (w5.setCell ⟨w.heap.size + 1 + 1 + 1 + 1, 0, none⟩ v5).heap[w.heap.size]? = some (.cells #[.int .i64 few] 3 (0, 0)) ∧ (w5.setCell ⟨w.heap.size + 1 + 1 + 1 + 1, 0, none⟩ v5).heap[w.heap.size + 1]? = some (.cells #[.slice none 0 0] 37 (0, 0)) ∧ Below w.heap.size w (w5.setCell ⟨w.heap.size + 1 + 1 + 1 + 1, 0, none⟩ v5) ∧ W0.heap.size ≤ (w5.setCell ⟨w.heap.size + 1 + 1 + 1 + 1, 0, none⟩ v5).heap.size := by
      intro w5 v5 s5
      have q5 := hq _ _ h1 n1 w5 _ s5
      have ss : (w5.setCell ⟨w.heap.size + 1 + 1 + 1 + 1, 0, none⟩ v5).heap.size = w5.heap.size := by simp [World.setCell]
      have s6 : V.heap.size + 1 ≤ w5.heap.size := by have := s5.2.1.size; simpa using this
      have hcl : ∀ (j : Nat) (ob : Obj), blk vs = some j → (V.alloc (.cells #[.int .i32 x.lo, .int .i32 x.hi, Value.int .u8 x.val] 76)).heap[j]? = some ob → ob.isCells = true := by
        intro j ob hj hob
        obtain ⟨cur, hc⟩ := rowV_blk (VT.RowP.below h2 ((Below.refl _ V).alloc (Nat.le_refl _) (.cells #[.int .i32 x.lo, .int .i32 x.hi, Value.int .u8 x.val] 76))) hj
        rw [hc] at hob
        cases hob
        rfl
      have ko : KeepsOthers V (w5.setCell ⟨w.heap.size + 1 + 1 + 1 + 1, 0, none⟩ v5) := ((KeepsOthers.alloc _ _).trans (KeepsOthers.of_grownBy s5.2.1 hcl)).trans (KeepsOthers.setCell _ _ _)
      have k6 : (w5.setCell ⟨w.heap.size + 1 + 1 + 1 + 1, 0, none⟩ v5).heap[w.heap.size + 1 + 1 + 1 + 1]? = some (.cells #[v5] 37 (0, 0)) := by
        rw [setCell_eq_setRow w5 (w.heap.size + 1 + 1 + 1 + 1) 0 _ _ _ _ q5]
        exact setRow_heap w5 (w.heap.size + 1 + 1 + 1 + 1) _ _ _ _ q5
      have n5 : ∀ g, blk v5 = some g → W0.heap.size + 2 + m ≤ g := fun g hg => (RowV.lt s5.1 g hg).1
      refine ⟨ko, ⟨ko.walks, fun k ob hk hc hx => ?_⟩, k6, VT.RowP.kept s5.1 fun g hg => Below.heap_setCell _ _ _ _ (by show g ≠ w.heap.size + 1 + 1 + 1 + 1; have := n5 g hg; omega), (Below.heap_setCell _ _ _ _ (by show w.heap.size ≠ w.heap.size + 1 + 1 + 1 + 1; omega)).trans (hq _ _ h3 n2 w5 _ s5), (Below.heap_setCell _ _ _ _ (by show w.heap.size + 1 ≠ w.heap.size + 1 + 1 + 1 + 1; omega)).trans (hq _ _ h4 n3 w5 _ s5), ?_, by omega⟩
      · refine (Below.heap_setCell _ _ _ _ (by show k ≠ w.heap.size + 1 + 1 + 1 + 1; rcases hk with hk | hk; omega; exact hk.elim)).trans (hq k ob hx (fun e => ?_) w5 _ s5)
        have := hfar _ e
        rcases hk with hk | hk
        · omega
        · exact hk.elim
      · exact Below.setCell (VT.Turned.below s5 (h5.alloc (by have := h5.size; omega) _) (by simp; have := h5.size; omega) fun g hg => by have := hfar g hg; omega) (by show w.heap.size ≤ w.heap.size + 1 + 1 + 1 + 1; omega) _
    have HFIN := hide FIN
    clear FIN
    have hpl2 : ((pre ++ [x]).length : Int) = pre.length + 1 := by simp
    have HPL := hide hpl2
    clear hpl2
    by_cases hf : 0 ≤ few
    · have hle := h7 hf
      by_cases hg : few < (pre.length : Int) + 1
      · gi_wp2_with (gi_at_builtin; refine wpListIn_append_exT rfl _ _ _ _ rfl _ _ rfl rfl (unhide HAPP) ?_; rintro v5 w5 ⟨s5, -⟩; obtain ⟨a5, L5, cap5, rfl, hL5⟩ : ∃ a L c, v5 = .slice a L c ∧ Hid (L = pre.length + 1) := (by obtain ⟨a, c, e, _⟩ := s5.1.form; exact ⟨a, _, c, e, hide (by simp)⟩); have q5 := hq _ _ h1 n1 w5 _ s5; have c5 : w5.cell? ⟨w.heap.size + 1 + 1 + 1 + 1, 0, none⟩ = some vs := cellH q5 rfl; have f5 : w5.frozen? ⟨w.heap.size + 1 + 1 + 1 + 1, 0, none⟩ = false := frozH q5; obtain ⟨z1, z2, z3, z4, z5, z6, z7, z8⟩ := unhide HFIN _ _ s5; have e1 := cellH (k := 0) z3 rfl; have e2 := cellH (k := 0) z5 rfl; have e3 := cellH (k := 0) z6 rfl; have e4 := frozH (k := 0) z6; have e5 : few < (L5 : Int) := (by rw [unhide hL5]; omega); have e6 : decide (few < (L5 : Int)) = true := (by simpa using e5))
        have k7 : ((w5.setCell ⟨w.heap.size + 1 + 1 + 1 + 1, 0, none⟩ (.slice a5 L5 cap5)).setCell ⟨w.heap.size + 1, 0, none⟩ (.slice a5 L5 cap5)).heap[w.heap.size + 1]? = some (.cells #[.slice a5 L5 cap5] 37 (0, 0)) := by
          rw [setCell_eq_setRow _ (w.heap.size + 1) 0 _ _ _ _ z6]
          exact setRow_heap _ (w.heap.size + 1) _ _ _ _ z6
        exact ⟨(z1.trans (KeepsOthers.setCell _ _ _)).from _, rfl, hf, by rw [unhide HPL]; omega, _, k7, VT.RowP.kept (VT.RowP.mono z4 (by omega)) fun g hg => Below.heap_setCell _ _ _ _ (by show g ≠ w.heap.size + 1; have := (RowV.lt z4 g hg).1; omega), z7.setCell (p := ⟨w.heap.size + 1, 0, none⟩) (by show w.heap.size ≤ w.heap.size + 1; omega) _⟩
      · gi_wp2_with (gi_at_builtin; refine wpListIn_append_exT rfl _ _ _ _ rfl _ _ rfl rfl (unhide HAPP) ?_; rintro v5 w5 ⟨s5, -⟩; obtain ⟨a5, L5, cap5, rfl, hL5⟩ : ∃ a L c, v5 = .slice a L c ∧ Hid (L = pre.length + 1) := (by obtain ⟨a, c, e, _⟩ := s5.1.form; exact ⟨a, _, c, e, hide (by simp)⟩); have q5 := hq _ _ h1 n1 w5 _ s5; have c5 : w5.cell? ⟨w.heap.size + 1 + 1 + 1 + 1, 0, none⟩ = some vs := cellH q5 rfl; have f5 : w5.frozen? ⟨w.heap.size + 1 + 1 + 1 + 1, 0, none⟩ = false := frozH q5; obtain ⟨z1, z2, z3, z4, z5, z6, z7, z8⟩ := unhide HFIN _ _ s5; have e1 := cellH (k := 0) z3 rfl; have e2 := cellH (k := 0) z5 rfl; have e5 : ¬ few < (L5 : Int) := (by rw [unhide hL5]; omega); have e6 : decide (few < (L5 : Int)) = false := (by simpa using e5))
        exact ⟨z1.from _, z2, ⟨_, z3, z4⟩, z5, z6, z7, z8, by rw [unhide HPL]; omega⟩
    · gi_wp2_with (gi_at_builtin; refine wpListIn_append_exT rfl _ _ _ _ rfl _ _ rfl rfl (unhide HAPP) ?_; rintro v5 w5 ⟨s5, -⟩; obtain ⟨a5, L5, cap5, rfl, hL5⟩ : ∃ a L c, v5 = .slice a L c ∧ Hid (L = pre.length + 1) := (by obtain ⟨a, c, e, _⟩ := s5.1.form; exact ⟨a, _, c, e, hide (by simp)⟩); have q5 := hq _ _ h1 n1 w5 _ s5; have c5 : w5.cell? ⟨w.heap.size + 1 + 1 + 1 + 1, 0, none⟩ = some vs := cellH q5 rfl; have f5 : w5.frozen? ⟨w.heap.size + 1 + 1 + 1 + 1, 0, none⟩ = false := frozH q5; obtain ⟨z1, z2, z3, z4, z5, z6, z7, z8⟩ := unhide HFIN _ _ s5; have e1 := cellH (k := 0) z3 rfl; have e2 := cellH (k := 0) z5 rfl)
      exact ⟨z1.from _, z2, ⟨_, z3, z4⟩, z5, z6, z7, z8, fun h => by omega⟩
  case done =>
    rintro D m xs V hD hS ⟨⟨vs, h1, h2⟩, h3, h4, h5, h6, h7⟩ hK
    subst hS
    obtain ⟨a5, cap5, rfl, -, -, -, -⟩ := VT.RowP.form h2
    have c0 : V.cell? ⟨w.heap.size + 1 + 1 + 1 + 1, 0, none⟩ = some (.slice a5 xs.length cap5) := cellH h1 rfl
    have c1 : V.cell? ⟨w.heap.size + 1, 0, none⟩ = some (.slice none 0 0) := cellH h4 rfl
    have f1 : V.frozen? ⟨w.heap.size + 1, 0, none⟩ = false := frozH h4
    have hD' : D ≠ w.heap.size + 1 := by omega
    have d2 : (V.setCell ⟨w.heap.size + 1, 0, none⟩ (.slice a5 xs.length cap5)).heap[D]? = some (.deferred (some [])) := (Below.heap_setCell _ _ _ _ hD').trans hK
    have k7 : (V.setCell ⟨w.heap.size + 1, 0, none⟩ (.slice a5 xs.length cap5)).heap[w.heap.size + 1]? = some (.cells #[.slice a5 xs.length cap5] 37 (0, 0)) := by
      rw [setCell_eq_setRow _ (w.heap.size + 1) 0 _ _ _ _ h4]
      exact setRow_heap _ (w.heap.size + 1) _ _ _ _ h4
    gi_wp2
    refine ⟨by simp, .inl ⟨_, _, rfl, run_takeDeferred d2, ?_⟩⟩
    have k8 : ((V.setCell ⟨w.heap.size + 1, 0, none⟩ (.slice a5 xs.length cap5)).putObj D (.deferred none)).heap[w.heap.size + 1]? = some (.cells #[.slice a5 xs.length cap5] 37 (0, 0)) := (World.putObj_heap_other (fun e => hD' e.symm)).trans k7
    have k9 := cellH (k := 0) k8 rfl
    have etk : tookP few (wholeP t) = xs := by
      rw [unhide HLL]
      unfold tookP
      split
      · next hf =>
        have := h7 hf
        exact List.take_of_length_le (by omega)
      · rfl
    refine ⟨.slice a5 xs.length cap5, ?_, _, rfl, ?_, ?_⟩
    · simp [results, Tryz.results9, go_sem, k9]
    · rw [etk]
      refine VT.RowP.kept (VT.RowP.mono h2 (by omega)) fun g hg => ?_
      have hg1 := (RowV.lt h2 g hg).1
      obtain ⟨cur, hc⟩ := rowV_blk h2 hg
      refine (World.putObj_heap_other (fun e => ?_)).trans (Below.heap_setCell _ _ _ _ (by show g ≠ w.heap.size + 1; omega))
      subst e
      rw [hK] at hc
      cases hc
    · exact below_put (h5.setCell (p := ⟨w.heap.size + 1, 0, none⟩) (by show w.heap.size ≤ w.heap.size + 1; omega) _) (by omega) _
  case stop =>
    rintro D c pre V hD hSp ⟨rfl, hf, hpl, vs, h1, h2, h3⟩ hK
    have hD' : D ≠ w.heap.size + 1 := by omega
    obtain ⟨a5, cap5, rfl, -, -, -, -⟩ := VT.RowP.form h2
    gi_wp2
    refine ⟨by simp, .inl ⟨_, _, rfl, run_takeDeferred hK, ?_⟩⟩
    have k8 : (V.putObj D (.deferred none)).heap[w.heap.size + 1]? = some (.cells #[.slice a5 pre.length cap5] 37 (0, 0)) := (World.putObj_heap_other (fun e => hD' e.symm)).trans h1
    have k9 := cellH (k := 0) k8 rfl
    have etk : tookP few (wholeP t) = pre := by
      rw [unhide HLL]
      unfold tookP
      rw [if_pos hf]
      obtain ⟨tl, rfl⟩ := hSp
      rw [List.take_append_of_le_length (by omega), List.take_of_length_le (by omega)]
    refine ⟨.slice a5 pre.length cap5, ?_, _, rfl, ?_, ?_⟩
    · simp [results, Tryz.results9, go_sem, k9]
    · rw [etk]
      refine VT.RowP.kept h2 fun g hg => ?_
      obtain ⟨cur, hc⟩ := rowV_blk h2 hg
      refine World.putObj_heap_other (fun e => ?_)
      subst e
      rw [hK] at hc
      cases hc
    · exact below_put h3 (by omega) _
end Go.Proofs.YthgaadjkjnibaaaGreatDoor

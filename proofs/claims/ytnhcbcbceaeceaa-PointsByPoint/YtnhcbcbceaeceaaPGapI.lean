/-
  Gaps: an iterator that tells the ranges without a value.
-/
import Derived.Test.YtnhcbcbceaeceaaPStr2I
import Derived.Test.YtnhcbcbceaeceaaPOvM
import Derived.Test.YtnhcbcbceaeceaaSeq8
import Derived.BigFrameIn
import Derived.BigGuardIn
import Derived.BigRegionIn
namespace Go.Proofs.Ytnhcbcbceaeceaa.VI
open Go.RowKit Go.PlainAid Go.Lib Go.PRow Go.Shelf Go.Seq4 Go.Seq8
attribute [local go_sem] Oper.semAt_some
set_option linter.unusedVariables false
set_option linter.unusedSimpArgs false

abbrev gapV (g : Int × Int) : Array Value := #[.agg #[.int .i32 g.1, .int .i32 g.2]]

theorem gaps_in (b : Nat) (w : World) :
    Calls Try.prog 26 #[.pointer (some ⟨b, 0, none⟩)] w fun e w' => e = .returned (.func (.func 45) #[] #[.pointer (some ⟨w.heap.size, 0, none⟩)]) ∧ w' = w.alloc (.cells #[.pointer (some ⟨b, 0, none⟩)] 25) := by
  have hmf : ∀ (fn : Fn) (first cap : Array Value) (w : World), (Instr.makeFunc fn first cap).run Try.prog w = .ok (.func fn first cap) w := fun _ _ _ _ => rfl
  go_enter Try.func26, Try.ntmps26
  go_wp2
  go_ret
  exact ⟨rfl, rfl⟩

set_option maxRecDepth 100000 in
set_option maxHeartbeats 4000000 in
theorem gaps1_in (ps : List (Pc Int)) (o : OkP ps) (n l Bm b : Nat) (v : Value) (hn : 8 ≤ n) (J : Nat → Nat → List (Int × Int) → World → Prop) (Jx : List (Int × Int) → World → Prop) (W : World)
    (hY : ∀ m z pre x W1, 2 ≤ m → J m z pre W1 → (pre ++ [x]) <+: gapsP (strsP eqv ps) → W.heap.size + m ≤ W1.heap.size → YieldAt Fence.wide (n - 1) Try.prog l (gapV x) W1 fun e W' =>
      (e = .returned (.bool true) ∧ (∃ z', z' ≤ W'.heap.size ∧ J m z' (pre ++ [x]) W') ∧ Kp4 m (fun k => z ≤ k) W.heap.size W1 W') ∨ (e = .returned (.bool false) ∧ Jx (pre ++ [x]) W' ∧ KeepsFrom W.heap.size W1 W'))
    (hJ : ∀ m z, OwnFrom W.heap.size (J m z)) (hJx : OwnFrom W.heap.size Jx) (hJc : ∀ m z, 2 ≤ m → CalmR W.heap.size 1 2 (J m z)) (hBm : W.heap[Bm]? = some (.cells #[.pointer (some ⟨b, 0, none⟩)] 25 (0, 0))) (hm : IsMap W b v) (hr : RowP W 0 v ps) (h0 : ∀ m z, W.heap.size ≤ z → J m z [] W) :
    CallsIn Fence.wide n Try.prog 45 #[.func (.yield l) #[] #[], .pointer (some ⟨Bm, 0, none⟩)] W fun e W' => (∃ v, e = .returned v) ∧
      ((∃ m z xs, xs = gapsP (strsP eqv ps) ∧ J m z xs W') ∨ (∃ pre, pre <+: gapsP (strsP eqv ps) ∧ Jx pre W')) := by
  have hSO : OkP (strsP eqv ps) := strs_ok eqv o
  obtain ⟨W1, hW1⟩ : ∃ W1, W1 = W.alloc (.cells #[.func (.yield l) #[] #[]] 87) := ⟨_, rfl⟩
  have hB1 : Below W.heap.size W W1 := by rw [hW1]; exact (Below.refl _ W).alloc (Nat.le_refl _) _
  have hs1 : W1.heap.size = W.heap.size + 1 := by rw [hW1]; simp
  have y1 : W1.heap[W.heap.size]? = some (.cells #[.func (.yield l) #[] #[]] 87 (0, 0)) := by rw [hW1]; exact heap_alloc_new W _
  have HA := hide (absent_map b v W1 (hm.below hB1))
  have hBm1 := (hB1.block Bm (Array.getElem?_eq_some_iff.1 hBm).1).trans hBm
  have c1 : W1.cell? ⟨Bm, 0, none⟩ = some (.pointer (some ⟨b, 0, none⟩)) := by simp [World.cell?, hBm1]
  have hBl := (Array.getElem?_eq_some_iff.1 hBm).1
  refine callsIn_of_wp_marks Try.func45 rfl trivial ?_ rfl
  simp only [Try.ntmps45, List.size_toArray, List.length_cons, List.length_nil, Nat.reduceAdd, Nat.reduceSub, Array.replicate_succ, Array.replicate_zero, List.push_toArray, List.append_toArray, List.nil_append, List.cons_append]
  have hF : ∀ f, Fence.wide.fn f := fun _ => trivial
  have hn1 : 1 ≤ n := by omega
  have HYY := hide hY
  clear hY
  have c1' := c1
  rw [hW1] at c1'
  gi_wp2_with fail
  rw [← hW1]
  clear hW1 c1'
  refine (callsIn_wide.2 (unhide HA)).mono ?_
  rintro e w' ⟨rfl, h⟩
  obtain rfl : W1 = w' := h.symm
  have d1 : (W1.alloc (.cells #[.int .i32 0, .int .i32 1114111] 28)).cell? ⟨Bm, 0, none⟩ = some (.pointer (some ⟨b, 0, none⟩)) := by
    have e := (Below.heap_alloc W1 (.cells #[.int .i32 0, .int .i32 1114111] 28) Bm (by omega)).trans hBm1
    simp [World.cell?, e]
  gi_wp2_with fail
  refine (callsIn_wide.2 (all_in b _)).mono ?_
  rintro e w' ⟨rfl, rfl⟩
  gi_wp2
  obtain ⟨W0, hW0⟩ : ∃ W0, (W1.alloc (.cells #[.int .i32 0, .int .i32 1114111] 28)).alloc (.cells #[.pointer (some ⟨b, 0, none⟩)] 25) = W0 := ⟨_, rfl⟩
  have hsz : W0.heap.size = W.heap.size + 3 := by rw [← hW0]; simp; omega
  have hb10 : Below W1.heap.size W1 W0 := by rw [← hW0]; exact ((Below.refl _ W1).alloc (Nat.le_refl _) _).alloc (by simp) _
  have hbx : W0.heap[W.heap.size + 1 + 1]? = some (.cells #[.pointer (some ⟨b, 0, none⟩)] 25 (0, 0)) := by
    rw [← hW0]
    have := heap_alloc_new (W1.alloc (.cells #[.int .i32 0, .int .i32 1114111] 28)) (.cells #[.pointer (some ⟨b, 0, none⟩)] 25)
    simpa [hs1] using this
  have hgx : W0.heap[W.heap.size + 1]? = some (.cells #[.int .i32 0, .int .i32 1114111] 28 (0, 0)) := by
    rw [← hW0]
    have := heap_alloc_new W1 (.cells #[.int .i32 0, .int .i32 1114111] 28)
    rw [hs1] at this
    exact (Below.heap_alloc _ _ _ (by simp; omega)).trans this
  have hm0 : IsMap W0 b v := (hm.below hB1).below hb10
  have hr0 : RowP W0 0 v ps := (hr.below hB1).below hb10
  have y0 : W0.heap[W.heap.size]? = some (.cells #[.func (.yield l) #[] #[]] 87 (0, 0)) := (hb10.block _ (by omega)).trans y1
  have hJ0 : ∀ m z, W.heap.size ≤ z → J m z [] W0 := fun m z hz => hJ m z [] W W0 none (h0 m z hz) ⟨hb10.os.trans hB1.os, hb10.tape.trans hB1.tape, hb10.output.trans hB1.output, by omega, fun k hk _ => (hb10.block k (by omega)).trans (hB1.block k hk)⟩ (fun r e => by cases e)
  obtain ⟨m, hm2, hmn, hmp⟩ : ∃ m, 2 ≤ m ∧ (strsP eqv ps = [] → m = 2) ∧ (strsP eqv ps ≠ [] → W.heap.size + m = W0.heap.size + 2 + T4) := by
    by_cases he : strsP eqv ps = []
    · exact ⟨2, Nat.le_refl _, fun _ => rfl, fun h => absurd he h⟩
    · exact ⟨W0.heap.size + 2 + T4 - W.heap.size, by unfold T4; omega, fun h => absurd h he, fun _ => by omega⟩
  rw [hW0]
  clear hW0 HA hBm1 c1 d1 hBm hB1 y1 hb10
  refine range4P (by omega) (gf := 46) (lb := #[.pointer (some ⟨W.heap.size + 1 + 1, 0, none⟩)]) rfl (enters_of Try.func46 (by kernel_rfl) rfl)
    (all_gives ps o _ (W.heap.size + 1 + 1) b v (by omega) W0 hbx hm0 hr0) (Below.refl _ _) (fun _ => rfl)
    (fun pre V => (∃ z, z ≤ V.heap.size ∧ J m z (gapsPre 0 pre) V) ∧ V.heap[W.heap.size]? = some (.cells #[.func (.yield l) #[] #[]] 87 (0, 0)) ∧ (∃ h : Int, V.heap[W.heap.size + 1]? = some (.cells #[.int .i32 (endP 0 pre), .int .i32 h] 28 (0, 0))) ∧ (pre = [] ∨ W.heap.size + m ≤ V.heap.size) ∧ W0.heap.size ≤ V.heap.size)
    (fun c pre V => c = .ret ∧ ∃ q, q <+: gapsP (strsP eqv ps) ∧ Jx q V)
    (OwnFrom.and (fun st A B row hx hg hr => by
      obtain ⟨z, hz, hx⟩ := hx
      exact ⟨z, Nat.le_trans hz hg.size, OwnFrom.le (hJ m z) (by omega) (gapsPre 0 st) A B row hx hg hr⟩) ((own_block _ _ _ rfl).and (OwnFrom.and (fun st A B row hx hg hr => by
      obtain ⟨h, hx⟩ := hx
      exact ⟨h, (grownBy_keeps_cells hg (fun r e => (hr r e).2) hx rfl).trans hx⟩) (OwnFrom.and (fun st A B row hx hg hr => hx.imp id fun h => Nat.le_trans h hg.size) (own_size _ _)))))
    (fun c st A B row hx hg hr => ⟨hx.1, by
      obtain ⟨q, hq, hx⟩ := hx.2
      exact ⟨q, hq, OwnFrom.le hJx (by omega) q A B row hx hg hr⟩⟩) (CalmR.none _ _ _)
    ⟨⟨_, Nat.le_refl _, hJ0 m _ (by omega)⟩, y0, ⟨1114111, hgx⟩, .inl rfl, Nat.le_refl _⟩
    (fun pre x a' V => ∃ Bx z, V.heap[Bx]? = some (.cells #[.int .i32 x.lo, .int .i32 x.hi] 28 (0, 0)) ∧ W0.heap.size + 2 + T4 ≤ Bx ∧ z ≤ Bx ∧ J m z (gapsPre 0 pre) V ∧ a' = { tmps := #[.func (.yield l) #[] #[], .pointer (some ⟨Bm, 0, none⟩), .pointer (some ⟨W.heap.size, 0, none⟩), .pointer (some ⟨W.heap.size + 1, 0, none⟩), .pointer (some ⟨Bx, 0, none⟩), .pointer (some ⟨b, 0, none⟩), .bool false, .agg #[.int .i32 0, .int .i32 1114111], .pointer (some ⟨b, 0, none⟩), .func (.func 46) #[] #[.pointer (some ⟨W.heap.size + 1 + 1, 0, none⟩)], .agg #[.int .i32 x.lo, .int .i32 x.hi], Value.int .i64 x.val, undef, undef, undef, undef, undef, undef, undef, undef, undef, undef, undef, undef, undef, undef, undef, undef, undef, undef, undef, undef, undef, undef], defers := [] })
    (fun pre x a' st A B row hx hg hr => by
        obtain ⟨Bx, z, h1, h2, h3, h4, h5⟩ := hx
        exact ⟨Bx, z, own_block (β := Unit) _ _ _ rfl () A B row h1 hg hr, h2, h3, OwnFrom.le (hJ m z) (by omega) _ A B row h4 hg hr, h5⟩) ?assign ?body ?done ?stop
  case assign =>
    rintro l2 pre x V K hsz2 ⟨⟨z, hz, h1⟩, h2, ⟨hh, h3⟩, h4, h5⟩ hK
    gi_wp2
    exact hK _ _ ((KeepsOthers.alloc _ _).from _) ⟨KeepsWalks.alloc _ _, fun k ob hk _ h => (Below.heap_alloc V _ _ (Array.getElem?_eq_some_iff.1 h).1).trans h⟩ ⟨⟨z, by simp; omega, (hJ m z).alloc _ h1⟩, (Below.heap_alloc V _ _ (by omega)).trans h2, ⟨hh, (Below.heap_alloc V _ _ (by omega)).trans h3⟩, h4.imp id (fun h => by simp; omega), by simp; omega⟩ ⟨V.heap.size, z, heap_alloc_new V _, hsz2, hz, (hJ m z).alloc _ h1, rfl⟩
  case body =>
    rintro l2 pre x a' V hl hsz2 ⟨r, hr⟩ ⟨-, h2, ⟨hh, h3⟩, h4, h5⟩ ⟨Bx, z, hx1, hx2, hzB, h1, rfl⟩ hSp
    have hne : strsP eqv ps ≠ [] := by
      intro e
      rw [e] at hSp
      obtain ⟨t, ht⟩ := hSp
      simp at ht
    have hmm := hmp hne
    have z0 : V.cell? ⟨Bx, 0, none⟩ = some (.int .i32 x.lo) := by simp [World.cell?, hx1]
    have z1 : V.cell? ⟨Bx, 1, none⟩ = some (.int .i32 x.hi) := by simp [World.cell?, hx1]
    have z2 : V.cell? ⟨W.heap.size, 0, none⟩ = some (.func (.yield l) #[] #[]) := by simp [World.cell?, h2]
    have g0 : V.cell? ⟨W.heap.size + 1, 0, none⟩ = some (.int .i32 (endP 0 pre)) := by simp [World.cell?, h3]
    have g1 : V.cell? ⟨W.heap.size + 1, 1, none⟩ = some (.int .i32 hh) := by simp [World.cell?, h3]
    have f0 : V.frozen? ⟨W.heap.size + 1, 0, none⟩ = false := by simp [World.frozen?, h3]
    have f1 : V.frozen? ⟨W.heap.size + 1, 1, none⟩ = false := by simp [World.frozen?, h3]
    obtain ⟨tl, htl⟩ := hSp
    have hok : OkP ((pre ++ [x]) ++ tl) := by rw [htl]; exact hSO
    have kx := hok.2 x (by simp)
    have ke := endP_le (A := pre) (p := x) (B := tl) (by simpa using hok) 0 kx.1 (Int.le_refl _)
    have q1 : IntKind.i32.wrap (x.lo - 1) = x.lo - 1 := by rw [IntKind.wrap_i32]; omega
    have q2 : IntKind.i32.wrap (x.hi + 1) = x.hi + 1 := by rw [IntKind.wrap_i32]; omega
    obtain ⟨X, hX⟩ : ∃ X, (V.setCell ⟨W.heap.size + 1, 1, none⟩ (.int .i32 (x.lo - 1))).alloc (.cells #[.int .i32 (endP 0 pre), .int .i32 (x.lo - 1)] 28) = X := ⟨_, rfl⟩
    have sX : X.heap.size = V.heap.size + 1 := by rw [← hX]; simp [World.setCell]
    have k1 : (V.setCell ⟨W.heap.size + 1, 1, none⟩ (.int .i32 (x.lo - 1))).heap[W.heap.size + 1]? = some (.cells #[.int .i32 (endP 0 pre), .int .i32 (x.lo - 1)] 28 (0, 0)) := by
      rw [setCell_eq_setRow V (W.heap.size + 1) 1 _ _ _ _ h3]
      exact setRow_heap V (W.heap.size + 1) _ _ _ _ h3
    have oX : ∀ k (ob : Obj), V.heap[k]? = some ob → k ≠ W.heap.size + 1 → X.heap[k]? = some ob := fun k ob hk hne => by
      have hlt := (Array.getElem?_eq_some_iff.1 hk).1
      rw [← hX]
      refine (Below.heap_alloc _ _ _ (by simpa [World.setCell] using hlt)).trans ((Below.heap_setCell _ _ _ _ hne).trans hk)
    have gX : X.heap[W.heap.size + 1]? = some (.cells #[.int .i32 (endP 0 pre), .int .i32 (x.lo - 1)] 28 (0, 0)) := by
      have hlt := (Array.getElem?_eq_some_iff.1 k1).1
      rw [← hX]
      exact (Below.heap_alloc _ _ _ hlt).trans k1
    have koX : KeepsOthers V X := by rw [← hX]; exact (KeepsOthers.setCell _ _ _).trans (KeepsOthers.alloc _ _)
    have jX : J m z (gapsPre 0 pre) X := by
      rw [← hX]
      exact (hJ m z).alloc _ (hJc m z hm2 _ V (W.heap.size + 1) 1 _ (Nat.le_refl _) (by omega) h1)
    have yX := oX _ _ h2 (by omega)
    have bX := oX _ _ hx1 (by unfold T4 at hx2; omega)
    have a0 : X.cell? ⟨Bx, 0, none⟩ = some (.int .i32 x.lo) := by simp [World.cell?, bX]
    have a1 : X.cell? ⟨Bx, 1, none⟩ = some (.int .i32 x.hi) := by simp [World.cell?, bX]
    have a2 : X.cell? ⟨W.heap.size, 0, none⟩ = some (.func (.yield l) #[] #[]) := by simp [World.cell?, yX]
    have a3 : X.cell? ⟨W.heap.size + 1, 0, none⟩ = some (.int .i32 (endP 0 pre)) := by simp [World.cell?, gX]
    have a4 : X.cell? ⟨W.heap.size + 1, 1, none⟩ = some (.int .i32 (x.lo - 1)) := by simp [World.cell?, gX]
    have a5 : X.frozen? ⟨W.heap.size + 1, 0, none⟩ = false := by simp [World.frozen?, gX]
    have hn2 : 1 ≤ n - 1 - 1 := by omega
    have HMAY := hide (fun m => (callsIn_wide (n := m) |>.2 (may_any (endP 0 pre) (x.lo - 1) (V.setCell ⟨W.heap.size + 1, 1, none⟩ (.int .i32 (x.lo - 1))))).inRound l2)
    rw [hX] at HMAY
    have FIN : ∀ (Y : World) (gs : List (Int × Int)) (hi' : Int), gs = gapsPre 0 (pre ++ [x]) → (∃ z, z ≤ Y.heap.size ∧ J m z gs Y) → Y.heap[W.heap.size]? = some (.cells #[.func (.yield l) #[] #[]] 87 (0, 0)) → Y.heap[W.heap.size + 1]? = some (.cells #[.int .i32 (endP 0 pre), .int .i32 hi'] 28 (0, 0)) → KeepsFrom W0.heap.size V Y → KeepsWalks V Y → (∀ k (ob : Obj), W0.heap.size + 2 ≤ k → k < W0.heap.size + 2 + T4 → keepO ob = true → V.heap[k]? = some ob → Y.heap[k]? = some ob) → V.heap.size ≤ Y.heap.size →
        KeepsFrom W0.heap.size V (Y.setCell ⟨W.heap.size + 1, 0, none⟩ (.int .i32 (x.hi + 1))) ∧ KpR T4 (fun _ => False) (W0.heap.size + 2) V (Y.setCell ⟨W.heap.size + 1, 0, none⟩ (.int .i32 (x.hi + 1))) ∧
          ((∃ z, z ≤ (Y.setCell ⟨W.heap.size + 1, 0, none⟩ (.int .i32 (x.hi + 1))).heap.size ∧ J m z (gapsPre 0 (pre ++ [x])) (Y.setCell ⟨W.heap.size + 1, 0, none⟩ (.int .i32 (x.hi + 1)))) ∧ (Y.setCell ⟨W.heap.size + 1, 0, none⟩ (.int .i32 (x.hi + 1))).heap[W.heap.size]? = some (.cells #[.func (.yield l) #[] #[]] 87 (0, 0)) ∧ (∃ h : Int, (Y.setCell ⟨W.heap.size + 1, 0, none⟩ (.int .i32 (x.hi + 1))).heap[W.heap.size + 1]? = some (.cells #[.int .i32 (endP 0 (pre ++ [x])), .int .i32 h] 28 (0, 0))) ∧ (pre ++ [x] = [] ∨ W.heap.size + m ≤ (Y.setCell ⟨W.heap.size + 1, 0, none⟩ (.int .i32 (x.hi + 1))).heap.size) ∧ W0.heap.size ≤ (Y.setCell ⟨W.heap.size + 1, 0, none⟩ (.int .i32 (x.hi + 1))).heap.size) := by
      rintro Y gs hi' rfl ⟨z, hz, hj⟩ hy hg hkf hkw hkc hsY
      have hsz' : (Y.setCell ⟨W.heap.size + 1, 0, none⟩ (.int .i32 (x.hi + 1))).heap.size = Y.heap.size := by simp [World.setCell]
      refine ⟨hkf.trans ((KeepsOthers.setCell _ _ _).from _), ⟨hkw.trans (KeepsOthers.setCell _ _ _).walks, fun k ob hk ho hx => ?_⟩, ⟨z, by rw [hsz']; exact hz, hJc m z hm2 _ Y (W.heap.size + 1) 0 _ (Nat.le_refl _) (by omega) hj⟩, (Below.heap_setCell _ _ _ _ (by show W.heap.size ≠ W.heap.size + 1; omega)).trans hy, ⟨hi', ?_⟩, .inr (by rw [hsz']; omega), by rw [hsz']; omega⟩
      · rcases hk with hk | hk
        · exact (Below.heap_setCell _ _ _ _ (by show k ≠ W.heap.size + 1; omega)).trans (hkc k ob hk.1 hk.2 ho hx)
        · exact hk.elim
      · rw [endP_snoc, setCell_eq_setRow Y (W.heap.size + 1) 0 _ _ _ _ hg]
        exact setRow_heap Y (W.heap.size + 1) _ _ _ _ hg
    have hHF := hide FIN
    clear FIN
    by_cases hmay : endP 0 pre ≤ x.lo - 1
    · have hmb : mayB (endP 0 pre) (x.lo - 1) = true := mayB_iff.2 ⟨ke.2, hmay, by omega⟩
      rw [hmb] at HMAY
      have hfr : gapsPre 0 pre ++ [(endP 0 pre, x.lo - 1)] <+: gapsP (strsP eqv ps) := gap_front ⟨tl, htl⟩ hmay
      have hgs : gapsPre 0 pre ++ [(endP 0 pre, x.lo - 1)] = gapsPre 0 (pre ++ [x]) := by rw [gapsPre_snoc, if_pos hmay]
      obtain ⟨fn, tmps, assign, body, hy, hR⟩ := yieldIn (m := n - 1 - 1 - 1) (lr := l2) (unhide HYY m z (gapsPre 0 pre) (endP 0 pre, x.lo - 1) X hm2 jX hfr (by omega))
      dsimp only [gapV] at hy
      gi_wp2_with (gi_at_call 41; with_reducible refine CallsIn.mono (unhide HMAY _) ?_; rintro e w4 ⟨rfl, hw4⟩; obtain rfl : X = w4 := hw4.symm)
      refine hR.mono ?_
      rintro e V5 (⟨rfl, hJ5, hk5⟩ | ⟨rfl, hJx5, hk5⟩)
      · have hKF := hk5.1
        have hKR := hk5.2.2
        have y5 := hKR _ _ (.inl ⟨Nat.le_refl _, by omega⟩) rfl yX
        have g5 := hKR _ _ (.inl ⟨by omega, by omega⟩) rfl gX
        have b5 : V5.cell? ⟨Bx, 1, none⟩ = some (.int .i32 x.hi) := by
          have := hKR _ _ (.inr hzB) rfl bX
          simp [World.cell?, this]
        have f5 : V5.frozen? ⟨W.heap.size + 1, 0, none⟩ = false := by simp [World.frozen?, g5]
        have d5 : V5.cell? ⟨W.heap.size + 1, 0, none⟩ = some (.int .i32 (endP 0 pre)) := by simp [World.cell?, g5]
        gi_wp2
        exact unhide hHF V5 _ _ hgs hJ5 y5 g5 ((koX.from _).trans ⟨hKF.size, fun k ob hB => hKF.same k ob (by omega)⟩) (koX.walks.trans hk5.2.1) (fun k ob q1 q2 ho hx => hKR _ _ (.inl ⟨by omega, by omega⟩) ho (oX k ob hx (by omega))) (by have := hKF.size; omega)
      · gi_wp2
        exact ⟨(koX.from _).trans ⟨hk5.size, fun k ob hB => hk5.same k ob (by omega)⟩, rfl, _, hfr, hJx5⟩
    · have hmb : mayB (endP 0 pre) (x.lo - 1) = false := by
        cases h : mayB (endP 0 pre) (x.lo - 1) with
        | false => rfl
        | true => exact absurd (mayB_iff.1 h).2.1 hmay
      rw [hmb] at HMAY
      have hgs : gapsPre 0 pre = gapsPre 0 (pre ++ [x]) := by rw [gapsPre_snoc, if_neg hmay, List.append_nil]
      gi_wp2_with (gi_at_call 41; with_reducible refine CallsIn.mono (unhide HMAY _) ?_; rintro e w4 ⟨rfl, hw4⟩; obtain rfl : X = w4 := hw4.symm)
      exact unhide hHF X _ _ hgs ⟨z, by have := (Array.getElem?_eq_some_iff.1 hx1).1; omega, jX⟩ yX gX (koX.from _) koX.walks (fun k ob q1 q2 ho hx => oX k ob hx (by omega)) (by omega)
  case done =>
    rintro D xs V hD hS ⟨⟨z, hz, h1⟩, h2, ⟨hh, h3⟩, h4, h5⟩ hK
    subst hS
    have ke := endP_max hSO 0 (Int.le_refl _) (by decide)
    obtain ⟨en, hen⟩ : ∃ en, endP 0 (strsP eqv ps) = en := ⟨_, rfl⟩
    obtain ⟨X, hX⟩ : ∃ X, (V.setCell ⟨W.heap.size + 1, 1, none⟩ (.int .i32 1114111)).alloc (.cells #[.int .i32 en, .int .i32 1114111] 28) = X := ⟨_, rfl⟩
    rw [hen] at h3 ke
    have g0 : V.cell? ⟨W.heap.size + 1, 0, none⟩ = some (.int .i32 en) := by simp [World.cell?, h3]
    have g1 : V.cell? ⟨W.heap.size + 1, 1, none⟩ = some (.int .i32 hh) := by simp [World.cell?, h3]
    have f1 : V.frozen? ⟨W.heap.size + 1, 1, none⟩ = false := by simp [World.frozen?, h3]
    have sX : X.heap.size = V.heap.size + 1 := by rw [← hX]; simp [World.setCell]
    have k1 : (V.setCell ⟨W.heap.size + 1, 1, none⟩ (.int .i32 1114111)).heap[W.heap.size + 1]? = some (.cells #[.int .i32 en, .int .i32 1114111] 28 (0, 0)) := by
      rw [setCell_eq_setRow V (W.heap.size + 1) 1 _ _ _ _ h3]
      exact setRow_heap V (W.heap.size + 1) _ _ _ _ h3
    have oX : ∀ k (ob : Obj), V.heap[k]? = some ob → k ≠ W.heap.size + 1 → X.heap[k]? = some ob := fun k ob hk hne => by
      have hlt := (Array.getElem?_eq_some_iff.1 hk).1
      rw [← hX]
      refine (Below.heap_alloc _ _ _ (by simpa [World.setCell] using hlt)).trans ((Below.heap_setCell _ _ _ _ hne).trans hk)
    have gX : X.heap[W.heap.size + 1]? = some (.cells #[.int .i32 en, .int .i32 1114111] 28 (0, 0)) := by
      have hlt := (Array.getElem?_eq_some_iff.1 k1).1
      rw [← hX]
      exact (Below.heap_alloc _ _ _ hlt).trans k1
    have jX : J m z (gapsPre 0 (strsP eqv ps)) X := by
      rw [← hX]
      exact (hJ m z).alloc _ (hJc m z hm2 _ V (W.heap.size + 1) 1 _ (Nat.le_refl _) (by omega) h1)
    have yX := oX _ _ h2 (by omega)
    have dX := oX _ _ hK (by omega)
    have a2 : X.cell? ⟨W.heap.size, 0, none⟩ = some (.func (.yield l) #[] #[]) := by simp [World.cell?, yX]
    have a3 : X.cell? ⟨W.heap.size + 1, 0, none⟩ = some (.int .i32 en) := by simp [World.cell?, gX]
    have a4 : X.cell? ⟨W.heap.size + 1, 1, none⟩ = some (.int .i32 1114111) := by simp [World.cell?, gX]
    have HMAY := hide (fun m => (callsIn_wide (n := m) |>.2 (may_any en 1114111 (V.setCell ⟨W.heap.size + 1, 1, none⟩ (.int .i32 1114111)))))
    rw [hX] at HMAY
    by_cases hmay : en ≤ 1114111
    · have hmb : mayB en 1114111 = true := mayB_iff.2 ⟨ke.1, hmay, by decide⟩
      rw [hmb] at HMAY
      have hgs : gapsPre 0 (strsP eqv ps) ++ [(en, 1114111)] = gapsP (strsP eqv ps) := by rw [← hen]; exact gap_end (by omega)
      have hsm : W.heap.size + m ≤ X.heap.size := by
        by_cases he : strsP eqv ps = []
        · have := hmn he; omega
        · have := h4.resolve_left he; omega
      obtain ⟨fn, tmps, assign, body, hy, hR⟩ := unhide HYY m z (gapsPre 0 (strsP eqv ps)) (en, 1114111) X hm2 jX ⟨[], by rw [List.append_nil]; exact hgs⟩ hsm
      dsimp only [gapV] at hy
      rw [hgs] at hR
      gi_wp2_with (gi_at_call 41; with_reducible refine CallsIn.mono (unhide HMAY _) ?_; rintro e w4 ⟨rfl, hw4⟩; obtain rfl : X = w4 := hw4.symm)
      refine hR.mono ?_
      rintro e V5 (⟨rfl, ⟨z', hz', hJ5⟩, hk5⟩ | ⟨rfl, hJx5, hk5⟩)
      · have d5 := hk5.1.same _ _ (by omega) dX rfl
        gi_wp2
        refine ⟨by simp, .inl ⟨_, _, rfl, run_takeDeferred d5, ?_⟩⟩
        refine ⟨_, results_none rfl _ _ _, ⟨_, rfl⟩, .inl ⟨m, z', _, rfl, ?_⟩⟩
        exact hJ m z' _ V5 _ (some D) hJ5 (grownBy_putObj' V5 D _) (fun r e => by cases e; exact ⟨by omega, _, d5, rfl⟩)
      · have d5 := hk5.same _ _ (by omega) dX rfl
        gi_wp2
        refine ⟨by simp, .inl ⟨_, _, rfl, run_takeDeferred d5, ?_⟩⟩
        refine ⟨_, results_none rfl _ _ _, ⟨_, rfl⟩, .inr ⟨_, List.prefix_refl _, ?_⟩⟩
        exact hJx _ V5 _ (some D) hJx5 (grownBy_putObj' V5 D _) (fun r e => by cases e; exact ⟨by omega, _, d5, rfl⟩)
    · have hmb : mayB en 1114111 = false := by
        cases h : mayB en 1114111 with
        | false => rfl
        | true => exact absurd (mayB_iff.1 h).2.1 hmay
      rw [hmb] at HMAY
      have hgs : gapsPre 0 (strsP eqv ps) = gapsP (strsP eqv ps) := gap_none (by omega)
      gi_wp2_with (gi_at_call 41; with_reducible refine CallsIn.mono (unhide HMAY _) ?_; rintro e w4 ⟨rfl, hw4⟩; obtain rfl : X = w4 := hw4.symm)
      refine ⟨by simp, .inl ⟨_, _, rfl, run_takeDeferred dX, ?_⟩⟩
      refine ⟨_, results_none rfl _ _ _, ⟨_, rfl⟩, .inl ⟨m, z, _, hgs, ?_⟩⟩
      exact hJ m z _ X _ (some D) jX (grownBy_putObj' X D _) (fun r e => by cases e; exact ⟨by omega, _, dX, rfl⟩)
  case stop =>
    rintro D c pre V hD hSp ⟨rfl, q, hq, hx⟩ hK
    gi_wp2
    refine ⟨by simp, .inl ⟨_, _, rfl, run_takeDeferred hK, ?_⟩⟩
    refine ⟨_, results_none rfl _ _ _, ⟨_, rfl⟩, .inr ⟨q, hq, ?_⟩⟩
    exact hJx _ V _ (some D) hx (grownBy_putObj' V D _) (fun r e => by cases e; exact ⟨by omega, _, hK, rfl⟩)
theorem gaps_gives (ps : List (Pc Int)) (o : OkP ps) (n Bm b : Nat) (v : Value) (hn : 8 ≤ n) (w : World) (hBm : w.heap[Bm]? = some (.cells #[.pointer (some ⟨b, 0, none⟩)] 25 (0, 0))) (hm : IsMap w b v) (hr : RowP w 0 v ps) :
    Gives8 n Try.prog 45 #[.pointer (some ⟨Bm, 0, none⟩)] gapV 1 2 (fun xs => xs = gapsP (strsP eqv ps)) (fun pre => pre <+: gapsP (strsP eqv ps)) w :=
  fun l J Jx W hW hJ hJx hJc hY h0 => gaps1_in ps o n l Bm b v hn J Jx W hY hJ hJx hJc ((hW.block Bm (Array.getElem?_eq_some_iff.1 hBm).1).trans hBm) (hm.below hW) (hr.below hW) h0
end Go.Proofs.Ytnhcbcbceaeceaa.VI

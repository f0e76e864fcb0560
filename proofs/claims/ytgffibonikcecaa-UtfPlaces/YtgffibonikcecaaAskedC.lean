/-
  asked of furrowlaw01: the question Walk.
-/
import Derived.Test.YtgffibonikcecaaAskedA
import Derived.RangeFuncNested
namespace Go.Proofs.Ytgffibonikcecaa
open Go.RowKit Go.PlainAid Go.Lib
attribute [local go_sem] Oper.semAt_some
set_option linter.unusedVariables false

theorem walks_some (x y : Value) (w : World) : (binOp .eql 76 (.func (.func 63) #[] #[x, y]) .nilFunc).run Try.prog w = .ok (.bool false) w := by kernel_rfl
theorem new_at {W : World} {n : Nat} {o : Obj} (h : n = W.heap.size) : (W.alloc o).heap[n]? = some o := by subst h; exact heap_alloc_new W _
theorem old_at {W : World} {n : Nat} {o o' : Obj} (h : W.heap[n]? = some o) : (W.alloc o').heap[n]? = some o := (Below.heap_alloc W o' n (Array.getElem?_eq_some_iff.1 h).1).trans h

theorem range_front {M n : Nat} {l : List Nat} (h : l <+: List.range' M n) : l = List.range' M l.length := by
  obtain ⟨t, ht⟩ := h
  have hl : l.length + t.length = n := by have := congrArg List.length ht; simpa using this
  rw [← hl, ← List.range'_append_1] at ht
  exact (List.append_inj ht (by simp)).1

set_option maxRecDepth 100000 in
set_option maxHeartbeats 4000000 in
theorem asked5 (w : World) (p : Value) (s : ByteArray) (hs : s.size ≤ 65536) (hP : IsPlaces w p s) (a b : Int) (ha : a ≤ 9223372036854775807) :
    Calls Try.prog 37 #[p, .string s, askV 5 a b] w fun e w' => e = .returned (.bool true) ∧ Below w.heap.size w w' := by
  refine (callsIn_wide (n := 12)).1 ?_
  refine callsIn_of_wp_marks Try.func37 rfl trivial ?_ rfl
  simp only [Try.ntmps37, List.size_toArray, List.length_cons, List.length_nil, Nat.reduceAdd, Nat.reduceSub, Array.replicate_succ, Array.replicate_zero, List.push_toArray, List.append_toArray, List.nil_append, List.cons_append]
  have hF : ∀ f, Fence.wide.fn f := fun _ => trivial
  refine wpIn_wide.2 ?_
  have hcl := chars_length s 0
  have hpl := places_length s
  unfold askV
  go_wp2_with fail
  refine (refSpots_any s _ (by omega)).mono ?_
  rintro e w1 ⟨v, rfl, hrow, hb1⟩
  obtain ⟨l, c, rfl, _, hsp⟩ := sc_row hrow
  rw [hpl]
  have hst1 : AskSt w w1 p s 5 a b l c := by
    have g0 : Below w.heap.size w ((w.alloc (.cells #[.int .i64 5, .int .i64 a, .int .i64 b] 68)).alloc (.cells #[.bool false] 4)) := ((Below.refl _ _).alloc (Nat.le_refl _) _).alloc (by simp) _
    have g1 := g0.trans (hb1.mono g0.size)
    exact ⟨(hb1.block _ (by simp; omega)).trans ((Below.heap_alloc _ _ _ (by simp)).trans (heap_alloc_new w _)), (hb1.block _ (by simp)).trans (by have := heap_alloc_new (w.alloc (.cells #[.int .i64 5, .int .i64 a, .int .i64 b] 68)) (.cells #[.bool false] 4); rwa [World.size_alloc] at this), hP.below g1, hsp, g1⟩
  clear hrow hb1 hsp
  obtain ⟨W, hW⟩ : ∃ W, w1.alloc (.cells #[.slice l (chars s 0).length c] 22) = W := ⟨_, rfl⟩
  have hst : AskSt w W p s 5 a b l c := by rw [← hW]; exact hst1.below ((Below.refl _ _).alloc (Nat.le_refl _) _)
  have bl : Boxed W w1.heap.size 22 (.slice l (chars s 0).length c) := by rw [← hW]; exact Boxed.new w1 _ _
  have q9 := (cells3 hst.ask).1
  clear hst1
  have cl := bl.cell
  obtain ⟨q0, q1, q2⟩ := cells3 hst.ask
  have hws := walks_some
  have hpp : ∃ b, p = .pointer (some ⟨b, 0, none⟩) := by obtain ⟨b, _, _, h, _⟩ := hst.pl; exact ⟨b, h⟩
  obtain ⟨M, hM⟩ : ∃ M, a.toNat = M := ⟨_, rfl⟩
  have hca : (a ≤ 0 ∧ (0 : Int) = (M : Int)) ∨ (0 < M ∧ a = (M : Int)) := by omega
  have cq1 : ∀ o, (W.alloc o).cell? ⟨w.heap.size, 1, none⟩ = some (.int .i64 a) := fun o => (cells3 (old_at (o' := o) hst.ask)).2.1
  have cq2 : ∀ o o1, ((W.alloc o).alloc o1).cell? ⟨w.heap.size, 1, none⟩ = some (.int .i64 a) := fun o o1 => (cells3 (old_at (o' := o1) (old_at (o' := o) hst.ask))).2.1
  rcases hca with ⟨z1, z3⟩ | ⟨z1, z2⟩
  · have Z3 := hide z3
    clear z3
    go_wp2_with (go_at_call 42; refine (walkIt_in p _ _ hpp).mono ?_; rintro e w' ⟨rfl, rfl⟩)
    obtain ⟨W0, hW0⟩ : ∃ W0, ((((W.alloc (Obj.cells #[Value.int IntKind.i64 0] 3)).alloc (Obj.cells #[Value.int IntKind.i64 0] 3)).alloc (Obj.cells #[p] 64)).alloc (Obj.cells #[Value.int IntKind.i64 a] 3)) = W0 := ⟨_, rfl⟩
    have g0 : Below W.heap.size W W0 := by
      rw [← hW0]; exact (((((Below.refl _ _).alloc (Nat.le_refl _) _).alloc (by simp) _).alloc (by simp <;> omega) _).alloc (by simp <;> omega) _)
    have hsz0 : W0.heap.size = W.heap.size + 4 := by rw [← hW0]; simp
    have n0 : Boxed W0 W.heap.size 3 (.int .i64 (M : Nat)) := by rw [← hW0]; rw [← unhide Z3]; exact old_at (old_at (old_at (new_at rfl)))
    have j0 : Boxed W0 (W.heap.size + 1) 3 (.int .i64 0) := by rw [← hW0]; exact old_at (old_at (new_at (by simp)))
    have p0 : Boxed W0 (W.heap.size + 1 + 1) 64 p := by rw [← hW0]; exact old_at (new_at (by simp))
    have a0 : Boxed W0 (W.heap.size + 1 + 1 + 1) 3 (.int .i64 a) := by rw [← hW0]; exact new_at (by simp)
    have hst0 := hst.below g0
    rw [hW0]
    clear hW0 hws cq1 cq2
    have hlr := hst.res.lt
    have hll := bl.lt
    generalize hNB : W.heap.size = NB at *
    refine (wpIn_wide (n := 12)).1 ?_
    refine wpIn_rangeFunc_ownG rfl (by omega) (gf := 63) (lb := #[.pointer (some ⟨NB + 1 + 1 + 1, 0, none⟩), .pointer (some ⟨NB + 1 + 1, 0, none⟩)]) rfl trivial (enters_of Try.func63 (by kernel_rfl) rfl)
      (walkIt_stops s (by omega) p _ (NB + 1 + 1) (NB + 1 + 1 + 1) (by omega) a ha W0 p0 a0 hst0.pl) KeepsWalks.trans (fun W l o o' _ h _ hw => KeepsWalks.putObj _ h hw) (Below.refl _ _) (fun _ => rfl)
      (fun pre V => Hid (pre.map (·.1) = List.range' M pre.length) ∧ (0 ≤ b → (pre.length : Int) ≤ b) ∧ Boxed V NB 3 (.int .i64 (M + pre.length : Nat)) ∧ Boxed V (NB + 1) 3 (.int .i64 (pre.length : Nat)) ∧ Below NB W0 V)
      (fun c pre V => (¬ pre.map (·.1) = List.range' M pre.length) ∨ (c = .ret ∧ Boxed V (w.heap.size + 1) 4 (.bool true) ∧ Below w.heap.size w V))
      ((own_pure _ _).and ((own_pure _ _).and ((Own.from (boxed_own _ _ _) _).and ((Own.from (boxed_own _ _ _) _).and (ownFrom_below (by omega) (by omega))))))
      (fun c st A B row hx hg hr => by
        rcases hx with h | ⟨h1, h2, h3⟩
        · exact .inl h
        · exact .inr ⟨h1, Own.from (boxed_own (β := Unit) _ _ (fun _ => .bool true)) _ () A B row h2 hg hr, ownFrom_below (β := Unit) (Nat.le_refl _) (by omega) () A B row h3 hg hr⟩)
      ⟨rfl, fun h => by simpa using h, n0, j0, Below.refl _ _⟩
      ?a1 ?assign1 ?body1 ?done1 ?stop1
    case assign1 =>
      intro l x W K hK
      gi_wp2
      exact hK
    case body1 =>
      rintro l2 pre x V ⟨HPR, hbn, hN, hJ, hbel⟩ hlen
      have hV : Below NB W V := g0.trans hbel
      have hV' : Below W.heap.size W V := by rw [hNB]; exact hV
      have hstV := hst.below hV'
      have clV := (box_below bl hV').cell
      obtain ⟨v0, v1, v2⟩ := cells3 hstV.ask
      have cN := hN.cell
      have fN := hN.frozen
      have cJ := hJ.cell
      have cR := hstV.res.cell
      have fR := hstV.res.frozen
      have hxl := x.2
      by_cases hxq : x.1 = M + pre.length
      · obtain ⟨q, hq⟩ := x
        have hxq' : q = M + pre.length := hxq
        obtain ⟨g, rfl, _, _, y2, _⟩ := hstV.sp q _ (place_start s q hq)
        have HP2 : Hid ((pre ++ [(⟨q, hq⟩ : Ch s)]).map (fun x : Ch s => x.1) = List.range' M (pre ++ [(⟨q, hq⟩ : Ch s)]).length) := by
          show _ = _
          rw [List.length_append, List.length_singleton, List.range'_concat, List.map_append, HPR.out, Nat.one_mul, ← hxq']; rfl
        have HLN : Hid ((M : Int) + ((pre ++ [(⟨q, hq⟩ : Ch s)]).length : Int) = (q : Int) + 1) := by
          show _ = _
          rw [List.length_append, List.length_singleton]; omega
        rw [← hxq'] at hN cN
        try dsimp only [walkVals]
        generalize (Utf8.decode s (startN s q)).1 = R at *
        have d1 : decide (((chars s 0).length : Int) ≤ (q : Int)) = false := decide_eq_false (by omega)
        have d1N : decide ((chars s 0).length ≤ q) = false := decide_eq_false (by omega)
        have d2 : ((q : Int) != (q : Int)) = false := by simp
        have d3 : ((R : Int) != (R : Int)) = false := by simp
        have e1 : ∀ v, (V.setCell ⟨NB, 0, none⟩ v).cell? ⟨NB + 1, 0, none⟩ = some (.int .i64 (pre.length : Nat)) := fun v => (hJ.other (by omega) v).cell
        have e2 : ∀ v, (V.setCell ⟨NB, 0, none⟩ v).frozen? ⟨NB + 1, 0, none⟩ = false := fun v => (hJ.other (by omega) v).frozen
        have e3 : ∀ v v', ((V.setCell ⟨NB, 0, none⟩ v).setCell ⟨NB + 1, 0, none⟩ v').cell? ⟨NB + 1, 0, none⟩ = some v' := fun v v' => ((hJ.other (by omega) v).set v').cell
        have hask : ∀ v v', ((V.setCell ⟨NB, 0, none⟩ v).setCell ⟨NB + 1, 0, none⟩ v').heap[w.heap.size]? = some (.cells #[.int .i64 5, .int .i64 a, .int .i64 b] 68) := fun v v' => (Below.heap_setCell _ _ _ _ (by simp <;> omega)).trans ((Below.heap_setCell _ _ _ _ (by simp <;> omega)).trans hstV.ask)
        have e4 : ∀ v v', ((V.setCell ⟨NB, 0, none⟩ v).setCell ⟨NB + 1, 0, none⟩ v').cell? ⟨w.heap.size, 2, none⟩ = some (.int .i64 b) := fun v v' => (cells3 (hask v v')).2.2
        have hres : ∀ v v', Boxed ((V.setCell ⟨NB, 0, none⟩ v).setCell ⟨NB + 1, 0, none⟩ v') (w.heap.size + 1) 4 (.bool false) := fun v v' => (hstV.res.other (by omega) v).other (by omega) v'
        have e5 : ∀ v v', ((V.setCell ⟨NB, 0, none⟩ v).setCell ⟨NB + 1, 0, none⟩ v').cell? ⟨w.heap.size + 1, 0, none⟩ = some (.bool false) := fun v v' => (hres v v').cell
        have e6 : ∀ v v', ((V.setCell ⟨NB, 0, none⟩ v).setCell ⟨NB + 1, 0, none⟩ v').frozen? ⟨w.heap.size + 1, 0, none⟩ = false := fun v v' => (hres v v').frozen
        have h3 : (decide (0 ≤ b) = false ∧ b < 0) ∨ (decide (0 ≤ b) = true ∧ decide (b < (pre.length : Int) + 1) = false ∧ (pre.length : Int) + 1 ≤ b) ∨ (decide (0 ≤ b) = true ∧ decide (b < (pre.length : Int) + 1) = true) := by
          by_cases h : b < 0
          · left; exact ⟨decide_eq_false (by omega), h⟩
          · by_cases h' : (pre.length : Int) + 1 ≤ b
            · right; left; exact ⟨decide_eq_true (by omega), decide_eq_false (by omega), h'⟩
            · right; right; exact ⟨decide_eq_true (by omega), decide_eq_true (by omega)⟩
        have HBN := hide hbn
        clear hbn
        have hpre : Hid (pre.length ≤ q) := hide (by omega)
        have hqb : q < s.size := by omega
        clear hxq' hxq
        rcases h3 with ⟨b1, b2⟩ | ⟨b1, b2, b3⟩ | ⟨b1, b2⟩
        · clear hask hres
          gi_wp2
          refine ⟨((KeepsOthers.setCell _ _ _).trans (KeepsOthers.setCell _ _ _)).from _, ((KeepsOthers.setCell _ _ _).trans (KeepsOthers.setCell _ _ _)).walks, HP2, fun h => by omega, ?_, ?_, (hbel.setCell (p := ⟨NB, 0, none⟩) (Nat.le_refl _) _).setCell (p := ⟨NB + 1, 0, none⟩) (by simp) _⟩
          · rw [unhide HLN]; exact (hN.set _).other (by omega) _
          · rw [List.length_append, List.length_singleton, Int.natCast_add]; exact (hJ.other (by omega) _).set _
        · clear hask hres
          gi_wp2
          refine ⟨((KeepsOthers.setCell _ _ _).trans (KeepsOthers.setCell _ _ _)).from _, ((KeepsOthers.setCell _ _ _).trans (KeepsOthers.setCell _ _ _)).walks, HP2, fun h => by simp; omega, ?_, ?_, (hbel.setCell (p := ⟨NB, 0, none⟩) (Nat.le_refl _) _).setCell (p := ⟨NB + 1, 0, none⟩) (by simp) _⟩
          · rw [unhide HLN]; exact (hN.set _).other (by omega) _
          · rw [List.length_append, List.length_singleton, Int.natCast_add]; exact (hJ.other (by omega) _).set _
        · have HRES := hide hres
          clear hask hres
          gi_wp2
          refine ⟨((KeepsOthers.setCell _ _ _).trans ((KeepsOthers.setCell _ _ _).trans (KeepsOthers.setCell _ _ _))).from _, .inr ⟨rfl, (unhide HRES _ _).set _, ?_⟩⟩
          exact ((hstV.bel.setCell (p := ⟨NB, 0, none⟩) (by simp <;> omega) _).setCell (p := ⟨NB + 1, 0, none⟩) (by simp <;> omega) _).setCell (p := ⟨w.heap.size + 1, 0, none⟩) (by simp) _
      · have HNP : Hid (¬ (pre ++ [x]).map (fun x : Ch s => x.1) = List.range' M (pre ++ [x]).length) := by
          intro h9
          rw [List.length_append, List.length_singleton, List.range'_concat, List.map_append, HPR.out, Nat.one_mul] at h9
          have := (List.append_inj h9 rfl).2
          exact hxq (by simpa using this)
        try dsimp only [walkVals]
        generalize (Utf8.decode s (startN s x.1)).1 = R at *
        generalize hq : M + pre.length = q at *
        clear hbn
        have h3 : (decide (((chars s 0).length : Int) ≤ (q : Int)) = true) ∨ (decide (((chars s 0).length : Int) ≤ (q : Int)) = false ∧ decide ((chars s 0).length ≤ q) = false ∧ ((x.1 : Int) != (q : Int)) = true) := by
          by_cases h : (chars s 0).length ≤ q
          · left; exact decide_eq_true (by omega)
          · right; exact ⟨decide_eq_false (by omega), decide_eq_false h, by simp; omega⟩
        rcases h3 with b1 | ⟨b1, b1N, b2⟩
        all_goals
          gi_wp2
          all_goals first | exact ⟨(KeepsOthers.setCell _ _ _).from _, .inl (unhide HNP)⟩ | (exfalso; simp at b1; omega)
    case done1 =>
      rintro D ys V hD hS ⟨HPR, hbn, hN, hJ, hbel⟩ hK
      have hys : ys.length = (chars s 0).length - M := by
        have := congrArg List.length (show ys.map (·.1) = List.range' a.toNat ((chars s 0).length - a.toNat) from hS)
        rw [hM] at this
        simpa using this
      have hV : Below NB W V := g0.trans hbel
      have hV' : Below W.heap.size W V := by rw [hNB]; exact hV
      have hstV := hst.below hV'
      have clV := (box_below bl hV').cell
      obtain ⟨v0, v1, v2⟩ := cells3 hstV.ask
      have cN := hN.cell
      have cR := hstV.res.cell
      have fR := hstV.res.frozen
      rw [hys] at cN
      have h3 : (((M + ((chars s 0).length - M) : Nat) : Int) == ((chars s 0).length : Int)) = true ∨ ((((M + ((chars s 0).length - M) : Nat) : Int) == ((chars s 0).length : Int)) = false ∧ decide (((chars s 0).length : Int) < a) = true ∧ decide ((chars s 0).length < M) = true) := by
        by_cases h : M ≤ (chars s 0).length
        · left; simp; omega
        · right; exact ⟨by simp; omega, decide_eq_true (by omega), decide_eq_true (by omega)⟩
      generalize M + ((chars s 0).length - M) = q at *
      clear hys hbn HPR hN hJ
      have k2 := (KeepsOthers.setCell V ⟨w.heap.size + 1, 0, none⟩ (.bool true)).same D _ hK rfl
      have e1 := cell_kept (hstV.res.set (.bool true)).cell (grownBy_putObj' _ D (.deferred none)) (fun r e => by cases e; exact ⟨_, k2, rfl⟩)
      have hB8 := hstV.done.2
      rcases h3 with b1 | ⟨b1, b2, b3⟩
      all_goals
        gi_wp2
        go_wp2
        refine ⟨by simp, .inl ⟨_, _, rfl, run_takeDeferred k2, ?_⟩⟩
        exact ⟨.bool true, by simp [results, Try.f37, go_sem, e1], rfl, hB8.trans (belowK_b (w := w) (Nat.le_refl _) _ D _ _ (by omega) k2 rfl rfl)⟩
    case stop1 =>
      rintro D c' pre V hD hSp h hK
      rcases h with h | ⟨rfl, hr, hB⟩
      · have hf := range_front (show pre.map (·.1) <+: List.range' a.toNat ((chars s 0).length - a.toNat) from hSp)
        rw [hM, List.length_map] at hf
        exact absurd hf h
      · have e1 := cell_kept hr.cell (grownBy_putObj' _ D (.deferred none)) (fun r e => by cases e; exact ⟨_, hK, rfl⟩)
        gi_wp2
        refine ⟨by simp, .inl ⟨_, _, rfl, run_takeDeferred hK, ?_⟩⟩
        exact ⟨.bool true, by simp [results, Try.f37, go_sem, e1], rfl, hB.trans (belowK_b (w := w) (Nat.le_refl _) _ D _ _ (by omega) hK rfl rfl)⟩
  · subst z2
    go_wp2_with (go_at_call 42; refine (walkIt_in p _ _ hpp).mono ?_; rintro e w' ⟨rfl, rfl⟩)
    obtain ⟨W0, hW0⟩ : ∃ W0, ((((W.alloc (Obj.cells #[Value.int IntKind.i64 (M : Nat)] 3)).alloc (Obj.cells #[Value.int IntKind.i64 0] 3)).alloc (Obj.cells #[p] 64)).alloc (Obj.cells #[Value.int IntKind.i64 (M : Int)] 3)) = W0 := ⟨_, rfl⟩
    have g0 : Below W.heap.size W W0 := by
      rw [← hW0]; exact (((((Below.refl _ _).alloc (Nat.le_refl _) _).alloc (by simp) _).alloc (by simp <;> omega) _).alloc (by simp <;> omega) _)
    have hsz0 : W0.heap.size = W.heap.size + 4 := by rw [← hW0]; simp
    have n0 : Boxed W0 W.heap.size 3 (.int .i64 (M : Nat)) := by rw [← hW0]; exact old_at (old_at (old_at (new_at rfl)))
    have j0 : Boxed W0 (W.heap.size + 1) 3 (.int .i64 0) := by rw [← hW0]; exact old_at (old_at (new_at (by simp)))
    have p0 : Boxed W0 (W.heap.size + 1 + 1) 64 p := by rw [← hW0]; exact old_at (new_at (by simp))
    have a0 : Boxed W0 (W.heap.size + 1 + 1 + 1) 3 (.int .i64 (M : Int)) := by rw [← hW0]; exact new_at (by simp)
    have hst0 := hst.below g0
    rw [hW0]
    clear hW0 hws cq1 cq2
    have hlr := hst.res.lt
    have hll := bl.lt
    generalize hNB : W.heap.size = NB at *
    refine (wpIn_wide (n := 12)).1 ?_
    refine wpIn_rangeFunc_ownG rfl (by omega) (gf := 63) (lb := #[.pointer (some ⟨NB + 1 + 1 + 1, 0, none⟩), .pointer (some ⟨NB + 1 + 1, 0, none⟩)]) rfl trivial (enters_of Try.func63 (by kernel_rfl) rfl)
      (walkIt_stops s (by omega) p _ (NB + 1 + 1) (NB + 1 + 1 + 1) (by omega) (M : Int) ha W0 p0 a0 hst0.pl) KeepsWalks.trans (fun W l o o' _ h _ hw => KeepsWalks.putObj _ h hw) (Below.refl _ _) (fun _ => rfl)
      (fun pre V => Hid (pre.map (·.1) = List.range' M pre.length) ∧ (0 ≤ b → (pre.length : Int) ≤ b) ∧ Boxed V NB 3 (.int .i64 (M + pre.length : Nat)) ∧ Boxed V (NB + 1) 3 (.int .i64 (pre.length : Nat)) ∧ Below NB W0 V)
      (fun c pre V => (¬ pre.map (·.1) = List.range' M pre.length) ∨ (c = .ret ∧ Boxed V (w.heap.size + 1) 4 (.bool true) ∧ Below w.heap.size w V))
      ((own_pure _ _).and ((own_pure _ _).and ((Own.from (boxed_own _ _ _) _).and ((Own.from (boxed_own _ _ _) _).and (ownFrom_below (by omega) (by omega))))))
      (fun c st A B row hx hg hr => by
        rcases hx with h | ⟨h1, h2, h3⟩
        · exact .inl h
        · exact .inr ⟨h1, Own.from (boxed_own (β := Unit) _ _ (fun _ => .bool true)) _ () A B row h2 hg hr, ownFrom_below (β := Unit) (Nat.le_refl _) (by omega) () A B row h3 hg hr⟩)
      ⟨rfl, fun h => by simpa using h, n0, j0, Below.refl _ _⟩
      ?a2 ?assign2 ?body2 ?done2 ?stop2
    case assign2 =>
      intro l x W K hK
      gi_wp2
      exact hK
    case body2 =>
      rintro l2 pre x V ⟨HPR, hbn, hN, hJ, hbel⟩ hlen
      have hV : Below NB W V := g0.trans hbel
      have hV' : Below W.heap.size W V := by rw [hNB]; exact hV
      have hstV := hst.below hV'
      have clV := (box_below bl hV').cell
      obtain ⟨v0, v1, v2⟩ := cells3 hstV.ask
      have cN := hN.cell
      have fN := hN.frozen
      have cJ := hJ.cell
      have cR := hstV.res.cell
      have fR := hstV.res.frozen
      have hxl := x.2
      by_cases hxq : x.1 = M + pre.length
      · obtain ⟨q, hq⟩ := x
        have hxq' : q = M + pre.length := hxq
        obtain ⟨g, rfl, _, _, y2, _⟩ := hstV.sp q _ (place_start s q hq)
        have HP2 : Hid ((pre ++ [(⟨q, hq⟩ : Ch s)]).map (fun x : Ch s => x.1) = List.range' M (pre ++ [(⟨q, hq⟩ : Ch s)]).length) := by
          show _ = _
          rw [List.length_append, List.length_singleton, List.range'_concat, List.map_append, HPR.out, Nat.one_mul, ← hxq']; rfl
        have HLN : Hid ((M : Int) + ((pre ++ [(⟨q, hq⟩ : Ch s)]).length : Int) = (q : Int) + 1) := by
          show _ = _
          rw [List.length_append, List.length_singleton]; omega
        rw [← hxq'] at hN cN
        try dsimp only [walkVals]
        generalize (Utf8.decode s (startN s q)).1 = R at *
        have d1 : decide (((chars s 0).length : Int) ≤ (q : Int)) = false := decide_eq_false (by omega)
        have d1N : decide ((chars s 0).length ≤ q) = false := decide_eq_false (by omega)
        have d2 : ((q : Int) != (q : Int)) = false := by simp
        have d3 : ((R : Int) != (R : Int)) = false := by simp
        have e1 : ∀ v, (V.setCell ⟨NB, 0, none⟩ v).cell? ⟨NB + 1, 0, none⟩ = some (.int .i64 (pre.length : Nat)) := fun v => (hJ.other (by omega) v).cell
        have e2 : ∀ v, (V.setCell ⟨NB, 0, none⟩ v).frozen? ⟨NB + 1, 0, none⟩ = false := fun v => (hJ.other (by omega) v).frozen
        have e3 : ∀ v v', ((V.setCell ⟨NB, 0, none⟩ v).setCell ⟨NB + 1, 0, none⟩ v').cell? ⟨NB + 1, 0, none⟩ = some v' := fun v v' => ((hJ.other (by omega) v).set v').cell
        have hask : ∀ v v', ((V.setCell ⟨NB, 0, none⟩ v).setCell ⟨NB + 1, 0, none⟩ v').heap[w.heap.size]? = some (.cells #[.int .i64 5, .int .i64 (M : Int), .int .i64 b] 68) := fun v v' => (Below.heap_setCell _ _ _ _ (by simp <;> omega)).trans ((Below.heap_setCell _ _ _ _ (by simp <;> omega)).trans hstV.ask)
        have e4 : ∀ v v', ((V.setCell ⟨NB, 0, none⟩ v).setCell ⟨NB + 1, 0, none⟩ v').cell? ⟨w.heap.size, 2, none⟩ = some (.int .i64 b) := fun v v' => (cells3 (hask v v')).2.2
        have hres : ∀ v v', Boxed ((V.setCell ⟨NB, 0, none⟩ v).setCell ⟨NB + 1, 0, none⟩ v') (w.heap.size + 1) 4 (.bool false) := fun v v' => (hstV.res.other (by omega) v).other (by omega) v'
        have e5 : ∀ v v', ((V.setCell ⟨NB, 0, none⟩ v).setCell ⟨NB + 1, 0, none⟩ v').cell? ⟨w.heap.size + 1, 0, none⟩ = some (.bool false) := fun v v' => (hres v v').cell
        have e6 : ∀ v v', ((V.setCell ⟨NB, 0, none⟩ v).setCell ⟨NB + 1, 0, none⟩ v').frozen? ⟨w.heap.size + 1, 0, none⟩ = false := fun v v' => (hres v v').frozen
        have h3 : (decide (0 ≤ b) = false ∧ b < 0) ∨ (decide (0 ≤ b) = true ∧ decide (b < (pre.length : Int) + 1) = false ∧ (pre.length : Int) + 1 ≤ b) ∨ (decide (0 ≤ b) = true ∧ decide (b < (pre.length : Int) + 1) = true) := by
          by_cases h : b < 0
          · left; exact ⟨decide_eq_false (by omega), h⟩
          · by_cases h' : (pre.length : Int) + 1 ≤ b
            · right; left; exact ⟨decide_eq_true (by omega), decide_eq_false (by omega), h'⟩
            · right; right; exact ⟨decide_eq_true (by omega), decide_eq_true (by omega)⟩
        have HBN := hide hbn
        clear hbn
        have hpre : Hid (pre.length ≤ q) := hide (by omega)
        have hqb : q < s.size := by omega
        clear hxq' hxq
        rcases h3 with ⟨b1, b2⟩ | ⟨b1, b2, b3⟩ | ⟨b1, b2⟩
        · clear hask hres
          gi_wp2
          refine ⟨((KeepsOthers.setCell _ _ _).trans (KeepsOthers.setCell _ _ _)).from _, ((KeepsOthers.setCell _ _ _).trans (KeepsOthers.setCell _ _ _)).walks, HP2, fun h => by omega, ?_, ?_, (hbel.setCell (p := ⟨NB, 0, none⟩) (Nat.le_refl _) _).setCell (p := ⟨NB + 1, 0, none⟩) (by simp) _⟩
          · rw [unhide HLN]; exact (hN.set _).other (by omega) _
          · rw [List.length_append, List.length_singleton, Int.natCast_add]; exact (hJ.other (by omega) _).set _
        · clear hask hres
          gi_wp2
          refine ⟨((KeepsOthers.setCell _ _ _).trans (KeepsOthers.setCell _ _ _)).from _, ((KeepsOthers.setCell _ _ _).trans (KeepsOthers.setCell _ _ _)).walks, HP2, fun h => by simp; omega, ?_, ?_, (hbel.setCell (p := ⟨NB, 0, none⟩) (Nat.le_refl _) _).setCell (p := ⟨NB + 1, 0, none⟩) (by simp) _⟩
          · rw [unhide HLN]; exact (hN.set _).other (by omega) _
          · rw [List.length_append, List.length_singleton, Int.natCast_add]; exact (hJ.other (by omega) _).set _
        · have HRES := hide hres
          clear hask hres
          gi_wp2
          refine ⟨((KeepsOthers.setCell _ _ _).trans ((KeepsOthers.setCell _ _ _).trans (KeepsOthers.setCell _ _ _))).from _, .inr ⟨rfl, (unhide HRES _ _).set _, ?_⟩⟩
          exact ((hstV.bel.setCell (p := ⟨NB, 0, none⟩) (by simp <;> omega) _).setCell (p := ⟨NB + 1, 0, none⟩) (by simp <;> omega) _).setCell (p := ⟨w.heap.size + 1, 0, none⟩) (by simp) _
      · have HNP : Hid (¬ (pre ++ [x]).map (fun x : Ch s => x.1) = List.range' M (pre ++ [x]).length) := by
          intro h9
          rw [List.length_append, List.length_singleton, List.range'_concat, List.map_append, HPR.out, Nat.one_mul] at h9
          have := (List.append_inj h9 rfl).2
          exact hxq (by simpa using this)
        try dsimp only [walkVals]
        generalize (Utf8.decode s (startN s x.1)).1 = R at *
        generalize hq : M + pre.length = q at *
        clear hbn
        have h3 : (decide (((chars s 0).length : Int) ≤ (q : Int)) = true) ∨ (decide (((chars s 0).length : Int) ≤ (q : Int)) = false ∧ decide ((chars s 0).length ≤ q) = false ∧ ((x.1 : Int) != (q : Int)) = true) := by
          by_cases h : (chars s 0).length ≤ q
          · left; exact decide_eq_true (by omega)
          · right; exact ⟨decide_eq_false (by omega), decide_eq_false h, by simp; omega⟩
        rcases h3 with b1 | ⟨b1, b1N, b2⟩
        all_goals
          gi_wp2
          all_goals first | exact ⟨(KeepsOthers.setCell _ _ _).from _, .inl (unhide HNP)⟩ | (exfalso; simp at b1; omega)
    case done2 =>
      rintro D ys V hD hS ⟨HPR, hbn, hN, hJ, hbel⟩ hK
      have hys : ys.length = (chars s 0).length - M := by
        have := congrArg List.length (show ys.map (·.1) = List.range' (M : Int).toNat ((chars s 0).length - (M : Int).toNat) from hS)
        rw [hM] at this
        simpa using this
      have hV : Below NB W V := g0.trans hbel
      have hV' : Below W.heap.size W V := by rw [hNB]; exact hV
      have hstV := hst.below hV'
      have clV := (box_below bl hV').cell
      obtain ⟨v0, v1, v2⟩ := cells3 hstV.ask
      have cN := hN.cell
      have cR := hstV.res.cell
      have fR := hstV.res.frozen
      rw [hys] at cN
      have h3 : (((M + ((chars s 0).length - M) : Nat) : Int) == ((chars s 0).length : Int)) = true ∨ ((((M + ((chars s 0).length - M) : Nat) : Int) == ((chars s 0).length : Int)) = false ∧ decide (((chars s 0).length : Int) < (M : Int)) = true ∧ decide ((chars s 0).length < M) = true) := by
        by_cases h : M ≤ (chars s 0).length
        · left; simp; omega
        · right; exact ⟨by simp; omega, decide_eq_true (by omega), decide_eq_true (by omega)⟩
      generalize M + ((chars s 0).length - M) = q at *
      clear hys hbn HPR hN hJ
      have k2 := (KeepsOthers.setCell V ⟨w.heap.size + 1, 0, none⟩ (.bool true)).same D _ hK rfl
      have e1 := cell_kept (hstV.res.set (.bool true)).cell (grownBy_putObj' _ D (.deferred none)) (fun r e => by cases e; exact ⟨_, k2, rfl⟩)
      have hB8 := hstV.done.2
      rcases h3 with b1 | ⟨b1, b2, b3⟩
      all_goals
        gi_wp2
        go_wp2
        refine ⟨by simp, .inl ⟨_, _, rfl, run_takeDeferred k2, ?_⟩⟩
        exact ⟨.bool true, by simp [results, Try.f37, go_sem, e1], rfl, hB8.trans (belowK_b (w := w) (Nat.le_refl _) _ D _ _ (by omega) k2 rfl rfl)⟩
    case stop2 =>
      rintro D c' pre V hD hSp h hK
      rcases h with h | ⟨rfl, hr, hB⟩
      · have hf := range_front (show pre.map (·.1) <+: List.range' (M : Int).toNat ((chars s 0).length - (M : Int).toNat) from hSp)
        rw [hM, List.length_map] at hf
        exact absurd hf h
      · have e1 := cell_kept hr.cell (grownBy_putObj' _ D (.deferred none)) (fun r e => by cases e; exact ⟨_, hK, rfl⟩)
        gi_wp2
        refine ⟨by simp, .inl ⟨_, _, rfl, run_takeDeferred hK, ?_⟩⟩
        exact ⟨.bool true, by simp [results, Try.f37, go_sem, e1], rfl, hB.trans (belowK_b (w := w) (Nat.le_refl _) _ D _ _ (by omega) hK rfl rfl)⟩

end Go.Proofs.Ytgffibonikcecaa

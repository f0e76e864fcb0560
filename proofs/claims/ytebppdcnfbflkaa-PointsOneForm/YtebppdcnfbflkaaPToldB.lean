/-
  The stretches of a map in a list.
-/
import Derived.Test.YtebppdcnfbflkaaPStr2B
import Derived.Test.YtebppdcnfbflkaaPRepl0B
import Derived.OwnWalkIn
namespace Go.Proofs.Ytebppdcnfbflkaa.VB
open Go.RowKit Go.PlainAid Go.Lib Go.PRow Go.Shelf Go.Seq4
attribute [local go_sem] Oper.semAt_some
set_option linter.unusedVariables false
set_option linter.unusedSimpArgs false

/-- an append in a fenced walk, where there is such a run -/
theorem wpListIn_append_ex {F : Fence} {n : Nat} {w : World} {ops : Array Oper} {rest : List Oper} {o : Oper} {a : Act} {Q : Exit → Act → World → Prop} (hgd : o.guard = none) (s x : Operand) (t tn : TypeId)
    (ho : o.op = .call { callee := .builtin .append, args := #[s, x], argTypes := #[t, tn] }) (vs vx : Value) (hs : a.eval s = vs) (hx : a.eval x = vx) {Post : Value → World → Prop}
    (hr : ∃ v' w', (∀ ty, (Builtin.append_ #[t, tn] ty #[vs, vx]).run Try.prog w = .ok v' w') ∧ Post v' w') (h : ∀ v' w', Post v' w' → wpListIn F n Try.prog ops Q rest (a.put o.dst v') w') : wpListIn F n Try.prog ops Q (o :: rest) a w := by
  refine wpListIn_plain hgd fun K hK' => ?_
  obtain ⟨v', w', hrun, hp⟩ := hr
  unfold Oper.wpIn
  refine ⟨?_, ?_⟩
  · simp [Oper.about, ho, resolve, Target.leads, Sem.run_pure]
  · rw [Oper.semAt_plain F _ _ (by rw [ho]; intro c hc'; cases hc')]
    simp [execOp, ho, resolve, invoke, builtin, hs, hx, hrun, Result.andThen]
    exact hK' _ _ (h v' w' hp)

theorem own_rowP {β : Type} (B Bq b : Nat) (f : β → List (Pc Bool)) : OwnFrom B (fun x W => ∃ vs, W.heap[b]? = some (.cells #[vs] 92 (0, 0)) ∧ RowP W Bq vs (f x)) := by
  rintro x W W' row ⟨vs, h1, h2⟩ hg hr
  refine ⟨vs, (grownBy_keeps_cells hg (fun r e => (hr r e).2) h1 rfl).trans h1, h2.kept fun g hgk => ?_⟩
  rcases h2.2 with ⟨a, rfl, hn⟩ | ⟨g', cap, cur, rfl, hb, hh, hc, hm, hs, ht⟩
  · rw [blk_zero] at hgk; cases hgk
  · have e : g' = g := by
      by_cases hc0 : cap = 0
      · subst hc0; rw [blk_zero] at hgk; cases hgk
      · rw [blk_pos (by omega)] at hgk; exact Option.some.inj hgk
    subst e
    exact grownBy_keeps_cells hg (fun r e => (hr r e).2) hh rfl

set_option maxRecDepth 100000 in
set_option maxHeartbeats 4000000 in
theorem told_map (b : Nat) (v : Value) (B : Nat) (ps : List (Pc Bool)) (o : OkP ps) (w : World) (h : IsMap w b v) (hr : RowP w B v ps) :
    Calls Try.prog 50 #[.pointer (some ⟨b, 0, none⟩)] w fun e w' => ∃ u, e = .returned u ∧ RowP w' w.heap.size u (strsP eqv ps) ∧ Below w.heap.size w w' := by
  have hlen : (strsP eqv ps).length ≤ 1114112 := Nat.le_trans (strs_len eqv ps) (okP_len o)
  have hbl := h.lt
  have hB1 : Below w.heap.size w (w.alloc (.cells #[.slice none 0 0] 92)) := (Below.refl _ w).alloc (Nat.le_refl _) _
  refine (callsIn_wide (n := 8)).1 ?_
  refine callsIn_of_wp_marks Try.func50 rfl trivial ?_ rfl
  simp only [Try.ntmps50, List.size_toArray, List.length_cons, List.length_nil, Nat.reduceAdd, Nat.reduceSub, Array.replicate_succ, Array.replicate_zero, List.push_toArray, List.append_toArray, List.nil_append, List.cons_append]
  have hF : ∀ f, Fence.wide.fn f := fun _ => trivial
  gi_wp2_with (gi_at_call 20; with_reducible refine CallsIn.mono (callsIn_wide.2 (all_in b _)) ?_; rintro e V7 ⟨rfl, rfl⟩)
  obtain ⟨W0, hW0⟩ : ∃ W0, (w.alloc (.cells #[.slice none 0 0] 92)).alloc (.cells #[.pointer (some ⟨b, 0, none⟩)] 42) = W0 := ⟨_, rfl⟩
  have hsz : W0.heap.size = w.heap.size + 2 := by rw [← hW0]; simp
  have hB0 : Below w.heap.size w W0 := by rw [← hW0]; exact hB1.alloc (by simp) _
  have b0 : W0.heap[w.heap.size]? = some (.cells #[.slice none 0 0] 92 (0, 0)) := by rw [← hW0]; exact (Below.heap_alloc _ _ _ (by simp)).trans (heap_alloc_new w _)
  have b1 : W0.heap[w.heap.size + 1]? = some (.cells #[.pointer (some ⟨b, 0, none⟩)] 42 (0, 0)) := by rw [← hW0]; simpa using heap_alloc_new (w.alloc (.cells #[.slice none 0 0] 92)) (.cells #[.pointer (some ⟨b, 0, none⟩)] 42)
  have hr0 : RowP W0 0 v ps := (hr.below hB0).mono (Nat.zero_le _)
  have hm0 := h.below hB0
  rw [hW0]
  clear hW0
  refine range4B (by omega) (gf := 56) (lb := #[.pointer (some ⟨w.heap.size + 1, 0, none⟩)]) rfl (enters_of Try.func56 (by kernel_rfl) rfl)
    (all_gives ps o _ (w.heap.size + 1) b v (by omega) W0 b1 hm0 hr0) (Below.refl _ _) (fun _ => rfl)
    (fun pre V => (∃ vs, V.heap[w.heap.size]? = some (.cells #[vs] 92 (0, 0)) ∧ RowP V (W0.heap.size + 2 + T4) vs pre) ∧ Below w.heap.size w V ∧ W0.heap.size ≤ V.heap.size)
    (fun c pre V => False)
    ((own_rowP _ _ _ (fun pre => pre)).and ((ownFrom_below (Nat.le_refl _) (by omega)).and (own_size _ _)))
    (fun c => own_pure _ _) (CalmR.none _ _ _) ⟨⟨_, b0, RowV.nil _ _ _ _ _⟩, hB0, Nat.le_refl _⟩
    (fun x => .cells #[.int .i32 x.lo, .int .i32 x.hi] 28 (0, 0)) (fun _ => rfl) ?fr ?assign ?body ?done ?stop
  case assign =>
    intro l2 x V K hK
    gi_wp2
    generalize hBx : V.heap.size = Bx
    exact hK Bx hBx.symm
  case body =>
    rintro l2 pre x Bx V hl hsz2 ⟨r, hr⟩ ⟨⟨vs, h1, h2⟩, h3, h4⟩ hx1 hx2 hSp
    have hpl : pre.length + 1 ≤ 1114112 := by have := hSp.length_le; simp at this; omega
    have y0 : V.cell? ⟨Bx, 0, none⟩ = some (.int .i32 x.lo) := by simp [World.cell?, hx1]
    have y1 : V.cell? ⟨Bx, 1, none⟩ = some (.int .i32 x.hi) := by simp [World.cell?, hx1]
    have y2 : V.cell? ⟨w.heap.size, 0, none⟩ = some vs := by simp [World.cell?, h1]
    have y3 : V.frozen? ⟨w.heap.size, 0, none⟩ = false := by simp [World.frozen?, h1]
    have hApp := append_ps (W0.heap.size + 2 + T4) 0 vs (.slice (some ⟨V.heap.size, 0, none⟩) 1 1) pre [x] (V.alloc (.cells #[.int .i32 x.lo, .int .i32 x.hi, Value.bool x.val] 98)) (by simp; omega) (h2.below ((Below.refl _ V).alloc (Nat.le_refl _) _)) (one_row V _ rfl x.lo x.hi x.val 0 (Nat.zero_le _)) (by simp; omega)
    have hfar : ∀ g, blk vs = some g → W0.heap.size + 2 + T4 ≤ g := fun g hg => (RowV.lt h2 g hg).1
    have hcl : ∀ (j : Nat) (ob : Obj), blk vs = some j → (V.alloc (.cells #[.int .i32 x.lo, .int .i32 x.hi, Value.bool x.val] 98)).heap[j]? = some ob → ob.isCells = true := by
      intro j ob hj hob
      rcases h2.2 with ⟨a, rfl, hn⟩ | ⟨g', cap, cur, rfl, hb, hh, hc, hm, hs, ht⟩
      · rw [blk_zero] at hj; cases hj
      · have e : g' = j := by
          by_cases hc0 : cap = 0
          · subst hc0; rw [blk_zero] at hj; cases hj
          · rw [blk_pos (by omega)] at hj; exact Option.some.inj hj
        subst e
        have := (Below.heap_alloc V (.cells #[.int .i32 x.lo, .int .i32 x.hi, Value.bool x.val] 98) g' (Array.getElem?_eq_some_iff.1 hh).1).trans hh
        rw [this] at hob
        cases hob
        rfl
    have HAPP := hide hApp
    clear hApp
    gi_wp2_with (gi_at_builtin; refine wpListIn_append_ex rfl _ _ _ _ rfl _ _ rfl rfl (unhide HAPP) ?_; rintro v5 w5 ⟨s5, -⟩; obtain ⟨a5, L5, cap5, rfl⟩ : ∃ a L c, v5 = .slice a L c := (by obtain ⟨a, c, e, _⟩ := s5.1.form; exact ⟨a, _, c, e⟩); have q5 : w5.heap[w.heap.size]? = some (.cells #[vs] 92 (0, 0)) := ((s5.2.1.block _ (by simp; omega) (fun e => by have := hfar _ e.symm; omega)).trans ((Below.heap_alloc V _ _ (by omega)).trans h1)); have c5 : w5.cell? ⟨w.heap.size, 0, none⟩ = some vs := (by simp [World.cell?, q5]); have f5 : w5.frozen? ⟨w.heap.size, 0, none⟩ = false := (by simp [World.frozen?, q5]))
    obtain ⟨v5, hv5⟩ : ∃ v5, Value.slice a5 L5 cap5 = v5 := ⟨_, rfl⟩
    rw [hv5] at s5 ⊢
    have ko : KeepsOthers V (w5.setCell ⟨w.heap.size, 0, none⟩ v5) := ((KeepsOthers.alloc _ _).trans (KeepsOthers.of_grownBy s5.2.1 hcl)).trans (KeepsOthers.setCell _ _ _)
    have s6 : V.heap.size + 1 ≤ w5.heap.size := by have := s5.2.1.size; simpa using this
    have n5 : ∀ g, blk v5 = some g → W0.heap.size + 2 + T4 ≤ g := fun g hg => (RowV.lt s5.1 g hg).1
    have k6 : (w5.setCell ⟨w.heap.size, 0, none⟩ v5).heap[w.heap.size]? = some (.cells #[v5] 92 (0, 0)) := by
      rw [setCell_eq_setRow w5 w.heap.size 0 _ _ _ _ q5]
      exact setRow_heap w5 w.heap.size _ _ _ _ q5
    refine ⟨ko.from _, ⟨ko.walks, fun k ob hk hc hx => ?_⟩, ⟨v5, k6, s5.1.kept fun g hg => Below.heap_setCell _ _ _ _ (by show g ≠ w.heap.size; have := n5 g hg; omega)⟩, ?_, by simp [World.setCell]; omega⟩
    · have hkV := (Array.getElem?_eq_some_iff.1 hx).1
      refine (Below.heap_setCell _ _ _ _ (by show k ≠ w.heap.size; rcases hk with hk | hk; omega; exact hk.elim)).trans ?_
      refine (s5.2.1.block k (by simp; omega) (fun e => by have := hfar _ e.symm; rcases hk with hk | hk; omega; exact hk.elim)).trans ?_
      exact (Below.heap_alloc V _ _ hkV).trans hx
    · refine Below.setCell (Turned.below s5 (h3.alloc (by omega) _) (by simp; omega) fun g hg => by have := hfar g hg; omega) (by simp) _
  case done =>
    rintro D xs V hD hS ⟨⟨vs, h1, h2⟩, h3, h4⟩ hK
    subst hS
    have c0 : V.cell? ⟨w.heap.size, 0, none⟩ = some vs := by simp [World.cell?, h1]
    gi_wp2
    refine ⟨by simp, .inl ⟨_, _, rfl, run_takeDeferred hK, ?_⟩⟩
    refine ⟨_, results_tmp rfl _ _ _, _, rfl, (h2.mono (by omega)).kept fun g hg => World.putObj_heap_other ?_, below_put h3 (by omega) _⟩
    rintro rfl
    rcases h2.2 with ⟨a, rfl, hn⟩ | ⟨g', cap, cur, rfl, hb, hh, hc, hm, hs, ht⟩
    · rw [blk_zero] at hg; cases hg
    · by_cases hc0 : cap = 0
      · subst hc0; rw [blk_zero] at hg; cases hg
      · rw [blk_pos (by omega)] at hg
        obtain rfl := Option.some.inj hg
        rw [hh] at hK
        cases hK
  case stop =>
    rintro D c pre V hD hSp hx hK
    exact hx.elim
end Go.Proofs.Ytebppdcnfbflkaa.VB

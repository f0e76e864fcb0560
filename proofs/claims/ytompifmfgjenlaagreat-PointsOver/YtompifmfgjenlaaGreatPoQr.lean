/-
  These texts, one behind the other: PToldI, PSameI.
-/
import Derived.Test.YtompifmfgjenlaaGreatPStr2I
import Derived.Test.YtompifmfgjenlaaGreatPoQj
import Derived.OwnWalkIn
/-
  The stretches of a map in a list.
-/
namespace Go.Proofs.YtompifmfgjenlaaGreat.VI
open Go.RowKit Go.PlainAid Go.Lib Go.PRow Go.Shelf Go.Seq4
attribute [local go_sem] Oper.semAt_some
set_option linter.unusedVariables false
set_option linter.unusedSimpArgs false

/-- an append in a fenced walk, where there is such a run -/
theorem wpListIn_append_ex {F : Fence} {n : Nat} {w : World} {ops : Array Oper} {rest : List Oper} {o : Oper} {a : Act} {Q : Exit → Act → World → Prop} (hgd : o.guard = none) (s x : Operand) (t tn : TypeId)
    (ho : o.op = .call { callee := .builtin .append, args := #[s, x], argTypes := #[t, tn] }) (vs vx : Value) (hs : a.eval s = vs) (hx : a.eval x = vx) {Post : Value → World → Prop}
    (hr : ∃ v' w', (∀ ty, (Builtin.append_ #[t, tn] ty #[vs, vx]).run Tryz.prog w = .ok v' w') ∧ Post v' w') (h : ∀ v' w', Post v' w' → wpListIn F n Tryz.prog ops Q rest (a.put o.dst v') w') : wpListIn F n Tryz.prog ops Q (o :: rest) a w := by
  refine wpListIn_plain hgd fun K hK' => ?_
  obtain ⟨v', w', hrun, hp⟩ := hr
  unfold Oper.wpIn
  refine ⟨?_, ?_⟩
  · simp [Oper.about, ho, resolve, Target.leads, Sem.run_pure]
  · rw [Oper.semAt_plain F _ _ (by rw [ho]; intro c hc'; cases hc')]
    simp [execOp, ho, resolve, invoke, builtin, hs, hx, hrun, Result.andThen]
    exact hK' _ _ (h v' w' hp)

theorem own_rowP {β : Type} (B Bq b : Nat) (f : β → List (Pc Int)) : OwnFrom B (fun x W => ∃ vs, W.heap[b]? = some (.cells #[vs] 55 (0, 0)) ∧ RowP W Bq vs (f x)) := by
  rintro x W W' row ⟨vs, h1, h2⟩ hg hr
  refine ⟨vs, (grownBy_keeps_cells hg (fun r e => (hr r e).2) h1 rfl).trans h1, h2.kept fun g hgk => ?_⟩
  rcases h2.2 with ⟨a, rfl, hn⟩ | ⟨g', cap, cur, rfl, hb, hh, hc, hm, hs, ht⟩
  · rw [blk_zero] at hgk; cases hgk
  · have e : g' = g := by
      by_cases hc0 : cap = 0
      · subst hc0; rw [blk_zero] at hgk; cases hgk
      · rw [blk_pos (by omega)] at hgk; exact Option.some.inj hgk
    subst e
    exact grownBy_keeps_cells hg (fun r e => (hr r e).2) hh rfl

set_option maxRecDepth 100000 in
set_option maxHeartbeats 4000000 in
theorem told_map (b : Nat) (v : Value) (B : Nat) (ps : List (Pc Int)) (o : OkP ps) (w : World) (h : IsMap w b v) (hr : RowP w B v ps) :
    Calls Tryz.prog 45 #[.pointer (some ⟨b, 0, none⟩)] w fun e w' => ∃ u, e = .returned u ∧ RowP w' w.heap.size u (strsP eqv ps) ∧ Below w.heap.size w w' := by
  have hlen : (strsP eqv ps).length ≤ 1114112 := Nat.le_trans (strs_len eqv ps) (okP_len o)
  have hbl := h.lt
  have hB1 : Below w.heap.size w (w.alloc (.cells #[.slice none 0 0] 55)) := (Below.refl _ w).alloc (Nat.le_refl _) _
  refine (callsIn_wide (n := 8)).1 ?_
  refine callsIn_of_wp_marks Tryz.func45 rfl trivial ?_ rfl
  simp only [Tryz.ntmps45, List.size_toArray, List.length_cons, List.length_nil, Nat.reduceAdd, Nat.reduceSub, Array.replicate_succ, Array.replicate_zero, List.push_toArray, List.append_toArray, List.nil_append, List.cons_append]
  have hF : ∀ f, Fence.wide.fn f := fun _ => trivial
  gi_wp2_with (gi_at_call 36; with_reducible refine CallsIn.mono (callsIn_wide.2 (all_in b _)) ?_; rintro e V7 ⟨rfl, rfl⟩)
  obtain ⟨W0, hW0⟩ : ∃ W0, (w.alloc (.cells #[.slice none 0 0] 55)).alloc (.cells #[.pointer (some ⟨b, 0, none⟩)] 24) = W0 := ⟨_, rfl⟩
  have hsz : W0.heap.size = w.heap.size + 2 := by rw [← hW0]; simp
  have hB0 : Below w.heap.size w W0 := by rw [← hW0]; exact hB1.alloc (by simp) _
  have b0 : W0.heap[w.heap.size]? = some (.cells #[.slice none 0 0] 55 (0, 0)) := by rw [← hW0]; exact (Below.heap_alloc _ _ _ (by simp)).trans (heap_alloc_new w _)
  have b1 : W0.heap[w.heap.size + 1]? = some (.cells #[.pointer (some ⟨b, 0, none⟩)] 24 (0, 0)) := by rw [← hW0]; simpa using heap_alloc_new (w.alloc (.cells #[.slice none 0 0] 55)) (.cells #[.pointer (some ⟨b, 0, none⟩)] 24)
  have hr0 : RowP W0 0 v ps := (hr.below hB0).mono (Nat.zero_le _)
  have hm0 := h.below hB0
  rw [hW0]
  clear hW0
  refine range4B (by omega) (gf := 72) (lb := #[.pointer (some ⟨w.heap.size + 1, 0, none⟩)]) rfl (enters_of Tryz.func72 (by kernel_rfl) rfl)
    (all_gives ps o _ (w.heap.size + 1) b v (by omega) W0 b1 hm0 hr0) (Below.refl _ _) (fun _ => rfl)
    (fun pre V => (∃ vs, V.heap[w.heap.size]? = some (.cells #[vs] 55 (0, 0)) ∧ RowP V (W0.heap.size + 2 + T4) vs pre) ∧ Below w.heap.size w V ∧ W0.heap.size ≤ V.heap.size)
    (fun c pre V => False)
    ((own_rowP _ _ _ (fun pre => pre)).and ((ownFrom_below (Nat.le_refl _) (by omega)).and (own_size _ _)))
    (fun c => own_pure _ _) (CalmR.none _ _ _) ⟨⟨_, b0, RowV.nil _ _ _ _ _⟩, hB0, Nat.le_refl _⟩
    (fun x => .cells #[.int .i32 x.lo, .int .i32 x.hi] 41 (0, 0)) (fun _ => rfl) ?fr ?assign ?body ?done ?stop
  case assign =>
    intro l2 x V K hK
    gi_wp2
    generalize hBx : V.heap.size = Bx
    exact hK Bx hBx.symm
  case body =>
    rintro l2 pre x Bx V hl hsz2 ⟨r, hr⟩ ⟨⟨vs, h1, h2⟩, h3, h4⟩ hx1 hx2 hSp
    have hpl : pre.length + 1 ≤ 1114112 := by have := hSp.length_le; simp at this; omega
    have y0 : V.cell? ⟨Bx, 0, none⟩ = some (.int .i32 x.lo) := by simp [World.cell?, hx1]
    have y1 : V.cell? ⟨Bx, 1, none⟩ = some (.int .i32 x.hi) := by simp [World.cell?, hx1]
    have y2 : V.cell? ⟨w.heap.size, 0, none⟩ = some vs := by simp [World.cell?, h1]
    have y3 : V.frozen? ⟨w.heap.size, 0, none⟩ = false := by simp [World.frozen?, h1]
    have hApp := append_ps (W0.heap.size + 2 + T4) 0 vs (.slice (some ⟨V.heap.size, 0, none⟩) 1 1) pre [x] (V.alloc (.cells #[.int .i32 x.lo, .int .i32 x.hi, Value.int .i64 x.val] 58)) (by simp; omega) (h2.below ((Below.refl _ V).alloc (Nat.le_refl _) _)) (one_row V _ rfl x.lo x.hi x.val 0 (Nat.zero_le _)) (by simp; omega)
    have hfar : ∀ g, blk vs = some g → W0.heap.size + 2 + T4 ≤ g := fun g hg => (RowV.lt h2 g hg).1
    have hcl : ∀ (j : Nat) (ob : Obj), blk vs = some j → (V.alloc (.cells #[.int .i32 x.lo, .int .i32 x.hi, Value.int .i64 x.val] 58)).heap[j]? = some ob → ob.isCells = true := by
      intro j ob hj hob
      rcases h2.2 with ⟨a, rfl, hn⟩ | ⟨g', cap, cur, rfl, hb, hh, hc, hm, hs, ht⟩
      · rw [blk_zero] at hj; cases hj
      · have e : g' = j := by
          by_cases hc0 : cap = 0
          · subst hc0; rw [blk_zero] at hj; cases hj
          · rw [blk_pos (by omega)] at hj; exact Option.some.inj hj
        subst e
        have := (Below.heap_alloc V (.cells #[.int .i32 x.lo, .int .i32 x.hi, Value.int .i64 x.val] 58) g' (Array.getElem?_eq_some_iff.1 hh).1).trans hh
        rw [this] at hob
        cases hob
        rfl
    have HAPP := hide hApp
    clear hApp
    gi_wp2_with (gi_at_builtin; refine wpListIn_append_ex rfl _ _ _ _ rfl _ _ rfl rfl (unhide HAPP) ?_; rintro v5 w5 ⟨s5, -⟩; obtain ⟨a5, L5, cap5, rfl⟩ : ∃ a L c, v5 = .slice a L c := (by obtain ⟨a, c, e, _⟩ := s5.1.form; exact ⟨a, _, c, e⟩); have q5 : w5.heap[w.heap.size]? = some (.cells #[vs] 55 (0, 0)) := ((s5.2.1.block _ (by simp; omega) (fun e => by have := hfar _ e.symm; omega)).trans ((Below.heap_alloc V _ _ (by omega)).trans h1)); have c5 : w5.cell? ⟨w.heap.size, 0, none⟩ = some vs := (by simp [World.cell?, q5]); have f5 : w5.frozen? ⟨w.heap.size, 0, none⟩ = false := (by simp [World.frozen?, q5]))
    obtain ⟨v5, hv5⟩ : ∃ v5, Value.slice a5 L5 cap5 = v5 := ⟨_, rfl⟩
    rw [hv5] at s5 ⊢
    have ko : KeepsOthers V (w5.setCell ⟨w.heap.size, 0, none⟩ v5) := ((KeepsOthers.alloc _ _).trans (KeepsOthers.of_grownBy s5.2.1 hcl)).trans (KeepsOthers.setCell _ _ _)
    have s6 : V.heap.size + 1 ≤ w5.heap.size := by have := s5.2.1.size; simpa using this
    have n5 : ∀ g, blk v5 = some g → W0.heap.size + 2 + T4 ≤ g := fun g hg => (RowV.lt s5.1 g hg).1
    have k6 : (w5.setCell ⟨w.heap.size, 0, none⟩ v5).heap[w.heap.size]? = some (.cells #[v5] 55 (0, 0)) := by
      rw [setCell_eq_setRow w5 w.heap.size 0 _ _ _ _ q5]
      exact setRow_heap w5 w.heap.size _ _ _ _ q5
    refine ⟨ko.from _, ⟨ko.walks, fun k ob hk hc hx => ?_⟩, ⟨v5, k6, s5.1.kept fun g hg => Below.heap_setCell _ _ _ _ (by show g ≠ w.heap.size; have := n5 g hg; omega)⟩, ?_, by simp [World.setCell]; omega⟩
    · have hkV := (Array.getElem?_eq_some_iff.1 hx).1
      refine (Below.heap_setCell _ _ _ _ (by show k ≠ w.heap.size; rcases hk with hk | hk; omega; exact hk.elim)).trans ?_
      refine (s5.2.1.block k (by simp; omega) (fun e => by have := hfar _ e.symm; rcases hk with hk | hk; omega; exact hk.elim)).trans ?_
      exact (Below.heap_alloc V _ _ hkV).trans hx
    · refine Below.setCell (Turned.below s5 (h3.alloc (by omega) _) (by simp; omega) fun g hg => by have := hfar g hg; omega) (by simp) _
  case done =>
    rintro D xs V hD hS ⟨⟨vs, h1, h2⟩, h3, h4⟩ hK
    subst hS
    have c0 : V.cell? ⟨w.heap.size, 0, none⟩ = some vs := by simp [World.cell?, h1]
    gi_wp2
    refine ⟨by simp, .inl ⟨_, _, rfl, run_takeDeferred hK, ?_⟩⟩
    refine ⟨_, results_tmp rfl _ _ _, _, rfl, (h2.mono (by omega)).kept fun g hg => World.putObj_heap_other ?_, below_put h3 (by omega) _⟩
    rintro rfl
    rcases h2.2 with ⟨a, rfl, hn⟩ | ⟨g', cap, cur, rfl, hb, hh, hc, hm, hs, ht⟩
    · rw [blk_zero] at hg; cases hg
    · by_cases hc0 : cap = 0
      · subst hc0; rw [blk_zero] at hg; cases hg
      · rw [blk_pos (by omega)] at hg
        obtain rfl := Option.some.inj hg
        rw [hh] at hK
        cases hK
  case stop =>
    rintro D c pre V hD hSp hx hK
    exact hx.elim
end Go.Proofs.YtompifmfgjenlaaGreat.VI
/-
  Whether two maps have the same stretches.
-/
namespace Go.Proofs.YtompifmfgjenlaaGreat.VI
open Go.RowKit Go.PlainAid Go.Lib Go.PRow Go.Shelf
set_option linter.unusedVariables false

/-- two stretches are the same -/
def sameB (p q : Pc Int) : Bool := decide (p.lo = q.lo) && (decide (p.hi = q.hi) && eqv p.val q.val)

set_option maxHeartbeats 2000000 in
theorem eq1_any (p q : Pc Int) (w : World) :
    Calls Tryz.prog 46 #[.agg #[.int .i32 p.lo, .int .i32 p.hi, Value.int .i64 p.val], .agg #[.int .i32 q.lo, .int .i32 q.hi, Value.int .i64 q.val]] w fun e w' => e = .returned (.bool (sameB p q)) ∧ Below w.heap.size w w' := by
  obtain ⟨l1, h1, v1⟩ := p
  obtain ⟨l2, h2, v2⟩ := q
  simp only [sameB]
  have HA := hide (fun W => alike_any v1 v2 W)
  generalize eqv v1 v2 = q at HA ⊢
  by_cases h : l1 = l2
  · by_cases h' : h1 = h2
    all_goals
      go_enter Tryz.func46, Tryz.ntmps46
      go_wp2_with (go_at_call 47; refine (unhide HA _).mono ?_; rintro e w' ⟨rfl, rfl⟩)
      go_ret
      exact ⟨by simp [h, h'], by go_grown⟩
  · go_enter Tryz.func46, Tryz.ntmps46
    go_wp2_with (go_at_call 47; refine (unhide HA _).mono ?_; rintro e w' ⟨rfl, rfl⟩)
    go_ret
    exact ⟨by simp [h], by go_grown⟩

/-- two lists of stretches are the same -/
def eqL (xs ys : List (Pc Int)) : Bool := decide (xs.length = ys.length) && (xs.zip ys).all fun x => sameB x.1 x.2
theorem eqL_len {xs ys : List (Pc Int)} (h : ¬ xs.length = ys.length) : eqL xs ys = false := by simp [eqL, h]
theorem eqL_not {xs ys : List (Pc Int)} {i : Nat} {p q : Pc Int} (hp : xs[i]? = some p) (hq : ys[i]? = some q) (h : sameB p q = false) : eqL xs ys = false := by
  unfold eqL
  rw [Bool.and_eq_false_iff]
  right
  rw [List.all_eq_false]
  exact ⟨(p, q), List.mem_of_getElem? (i := i) (List.getElem?_zip_eq_some (z := (p, q)) |>.2 ⟨hp, hq⟩), by simp [h]⟩
theorem eqL_all {xs ys : List (Pc Int)} (hl : xs.length = ys.length) (h : ∀ (i : Nat) (p q : Pc Int), xs[i]? = some p → ys[i]? = some q → sameB p q = true) : eqL xs ys = true := by
  unfold eqL
  rw [decide_eq_true hl, Bool.true_and, List.all_eq_true]
  rintro ⟨p, q⟩ hm
  obtain ⟨i, hi⟩ := List.mem_iff_getElem?.1 hm
  rw [List.getElem?_zip_eq_some] at hi
  exact h i p q hi.1 hi.2
theorem eqL_iff (he : ∀ a b, eqv a b = true ↔ a = b) (xs ys : List (Pc Int)) : eqL xs ys = true ↔ xs = ys := by
  constructor
  · intro h
    unfold eqL at h
    rw [Bool.and_eq_true, decide_eq_true_eq, List.all_eq_true] at h
    refine List.ext_getElem? fun i => ?_
    rcases Nat.lt_or_ge i xs.length with hi | hi
    · have e1 := List.getElem?_eq_getElem hi
      have e2 := List.getElem?_eq_getElem (l := ys) (i := i) (by omega)
      rw [e1, e2]
      have := h.2 (xs[i], ys[i]'(by omega)) (List.mem_of_getElem? (i := i) (by rw [List.getElem?_zip_eq_some]; exact ⟨e1, e2⟩))
      simp only [sameB, Bool.and_eq_true, decide_eq_true_eq, he] at this
      obtain ⟨a1, a2, a3⟩ := this
      generalize xs[i] = p at a1 a2 a3
      generalize ys[i]'(by omega) = q at a1 a2 a3
      cases p; cases q; simp_all
    · rw [List.getElem?_eq_none hi, List.getElem?_eq_none (by omega)]
  · rintro rfl
    refine eqL_all rfl fun i p q h1 h2 => ?_
    rw [h1] at h2
    cases h2
    simp [sameB, (he p.val p.val).2 rfl]

theorem row_cells {w : World} {B : Nat} {a : Option Addr} {n cap : Nat} {ps : List (Pc Int)} (hr : RowP w B (.slice a n cap) ps) (i : Nat) (p : Pc Int) (hp : ps[i]? = some p) :
    ∃ g, a = some ⟨g, 0, none⟩ ∧ ∀ V, Below w.heap.size w V → V.cell? ⟨g, i * 3, none⟩ = some (.int .i32 p.lo) ∧ V.cell? ⟨g, i * 3 + 1, none⟩ = some (.int .i32 p.hi) ∧ V.cell? ⟨g, i * 3 + 2, none⟩ = some (Value.int .i64 p.val) := by
  obtain ⟨a', cap', e, hc1, hc2, _, hg⟩ := hr.form
  injection e with e1 e2 e3
  subst e1
  obtain ⟨g, rfl, _, _, hgl, hcell⟩ := hg (by intro e; subst e; simp at hp)
  obtain ⟨c1, c2, c3⟩ := hcell _ _ hp
  exact ⟨g, rfl, fun V hV => ⟨(hV.cell hgl).trans c1, (hV.cell hgl).trans c2, (hV.cell hgl).trans c3⟩⟩

set_option maxRecDepth 100000 in
set_option maxHeartbeats 4000000 in
theorem equal_any (B C : Nat) (u v : Value) (xs ys : List (Pc Int)) (w : World) (hx : RowP w B u xs) (hy : RowP w C v ys) (hlen : xs.length ≤ 1114112) :
    Calls Tryz.prog 44 #[u, v, .func (.func 46) #[] #[]] w fun e w' => e = .returned (.bool (eqL xs ys)) ∧ Below w.heap.size w w' := by
  obtain ⟨a, cap, rfl, hc1, hc2, -, -⟩ := hx.form
  obtain ⟨b, dap, rfl, hd1, hd2, -, -⟩ := hy.form
  have KX := hide (row_cells hx)
  have KY := hide (row_cells hy)
  have HE := hide (fun p q V => eq1_any p q V)
  clear hx hy
  by_cases hl : xs.length = ys.length
  · obtain ⟨n, hn⟩ : ∃ n, n = xs.length := ⟨_, rfl⟩
    have hn' : ys.length = n := by omega
    rw [hn', ← hn]
    rw [← hn] at hlen hc1
    rw [hn'] at hd1
    have HN := hide hn
    have HN' := hide hn'
    clear hl hn hn'
    go_enter Tryz.func44, Tryz.ntmps44
    go_wp2
    go_loopg [17] n (fun kx s17 wr => ∃ i : Nat, s17 = .int .i64 i ∧ i ≤ n ∧ kx = n - i ∧ Hid (∀ (j : Nat) (p q : Pc Int), j < i → xs[j]? = some p → ys[j]? = some q → sameB p q = true) ∧ Below w.heap.size w wr)
    case atStart => exact ⟨0, rfl, Nat.zero_le _, by simp, fun j p q hj => absurd hj (Nat.not_lt_zero _), Below.refl _ _⟩
    case round =>
      obtain ⟨i, rfl, hi, rfl, HJ, hb⟩ := hrel
      by_cases hlt : i < n
      · obtain ⟨⟨pl, ph, pv⟩, hp⟩ : ∃ p, xs[i]? = some p := ⟨_, List.getElem?_eq_getElem (by have := unhide HN; omega)⟩
        obtain ⟨⟨ql, qh, qv⟩, hq⟩ : ∃ p, ys[i]? = some p := ⟨_, List.getElem?_eq_getElem (by have := unhide HN'; omega)⟩
        obtain ⟨g, rfl, hcell⟩ := unhide KX i _ hp
        obtain ⟨g', rfl, hcell'⟩ := unhide KY i _ hq
        obtain ⟨d1, d2, d3⟩ := hcell _ hb
        have hsz := hb.size
        obtain ⟨d4, d5, d6⟩ := hcell' _ (hb.alloc (by omega) (.cells #[.int .i32 pl, .int .i32 ph, Value.int .i64 pv] 58))
        have HBB := hide ((hb.alloc (by omega) (.cells #[.int .i32 pl, .int .i32 ph, Value.int .i64 pv] 58)).alloc (by simp; omega) (.cells #[.int .i32 ql, .int .i32 qh, Value.int .i64 qv] 58))
        have q1 : (i : Int) < (n : Int) := by omega
        have q6 : IntKind.i64.wrap ((i : Int) + 1) = (i : Int) + 1 := by rw [IntKind.wrap_i64]; omega
        have HP := hide hp
        have HQ := hide hq
        clear hp hq hcell hcell'
        have HS := hide (unhide HE ⟨pl, ph, pv⟩ ⟨ql, qh, qv⟩)
        obtain ⟨sm, hsm⟩ : ∃ sm, sm = sameB ⟨pl, ph, pv⟩ ⟨ql, qh, qv⟩ := ⟨_, rfl⟩
        rw [← hsm] at HS
        have HSM := hide hsm
        clear hsm
        cases sm with
        | true =>
          go_wp2_with fail
          generalize (wr.alloc (.cells #[.int .i32 pl, .int .i32 ph, Value.int .i64 pv] 58)).alloc (.cells #[.int .i32 ql, .int .i32 qh, Value.int .i64 qv] 58) = W5 at HBB ⊢
          refine (unhide HS W5).mono ?_
          rintro e W6 ⟨rfl, hb6⟩
          have HB6 := hide ((unhide HBB).trans (hb6.mono (unhide HBB).size))
          clear hb6 d1 d2 d3 d4 d5 d6
          go_wp2
          go_roundg (n - (i + 1))
          case measure => omega
          case rel =>
            refine ⟨i + 1, by simp, by omega, rfl, fun j p q hj h1 h2 => ?_, unhide HB6⟩
            rcases Nat.lt_or_ge j i with h | h
            · exact unhide HJ j p q h h1 h2
            · obtain rfl : j = i := by omega
              rw [unhide HP] at h1
              rw [unhide HQ] at h2
              cases h1; cases h2
              exact (unhide HSM).symm
        | false =>
          have hR : eqL xs ys = false := eqL_not (unhide HP) (unhide HQ) (unhide HSM).symm
          have HR := hide hR
          clear hR
          go_wp2_with fail
          generalize (wr.alloc (.cells #[.int .i32 pl, .int .i32 ph, Value.int .i64 pv] 58)).alloc (.cells #[.int .i32 ql, .int .i32 qh, Value.int .i64 qv] 58) = W5 at HBB ⊢
          refine (unhide HS W5).mono ?_
          rintro e W6 ⟨rfl, hb6⟩
          have HB6 := hide ((unhide HBB).trans (hb6.mono (unhide HBB).size))
          clear hb6 d1 d2 d3 d4 d5 d6
          go_wp2
          go_ret
          exact ⟨by rw [unhide HR]; rfl, unhide HB6⟩
      · obtain rfl : i = n := by omega
        have hR : eqL xs ys = true := eqL_all ((unhide HN).symm.trans (unhide HN').symm) fun j p q h1 h2 => unhide HJ j p q (by have := (List.getElem?_eq_some_iff.1 h1).1; have := unhide HN; omega) h1 h2
        go_wp2
        go_ret
        exact ⟨by rw [hR]; rfl, hb⟩
  · have hR := eqL_len hl
    have hl' : ¬ ((xs.length : Int) = (ys.length : Int)) := by omega
    go_enter Tryz.func44, Tryz.ntmps44
    go_wp2
    go_ret
    exact ⟨by rw [hR]; rfl, Below.refl _ _⟩

/-- Same of two maps -/
theorem same_maps (b c : Nat) (u v : Value) (B C : Nat) (ps qs : List (Pc Int)) (o : OkP ps) (o' : OkP qs) (w : World) (hb : IsMap w b u) (hr : RowP w B u ps) (hc : IsMap w c v) (hr' : RowP w C v qs) :
    Calls Tryz.prog 16 #[.pointer (some ⟨b, 0, none⟩), .pointer (some ⟨c, 0, none⟩)] w fun e w' => e = .returned (.bool (eqL (strsP eqv ps) (strsP eqv qs))) ∧ Below w.heap.size w w' := by
  have hlen : (strsP eqv ps).length ≤ 1114112 := Nat.le_trans (strs_len eqv ps) (okP_len o)
  have H1 := hide (told_map b u B ps o w hb hr)
  have H2 := hide (fun V (hV : Below w.heap.size w V) => told_map c v C qs o' V (hc.below hV) (hr'.below hV))
  generalize strsP eqv ps = xs at *
  generalize strsP eqv qs = ys at *
  clear hb hr hc hr' o o'
  go_enter Tryz.func16, Tryz.ntmps16
  go_wp2_with fail
  refine (unhide H1).mono ?_
  rintro e W1 ⟨x, rfl, hx, hb1⟩
  have H3 := hide (unhide H2 W1 hb1)
  clear H1 H2
  go_wp2_with fail
  refine (unhide H3).mono ?_
  rintro e W2 ⟨y, rfl, hy, hb2⟩
  have hx2 := hx.below hb2
  have hb12 := hb1.trans (hb2.mono hb1.size)
  have HE := hide (equal_any _ _ x y xs ys W2 hx2 hy hlen)
  clear H3 hx hy hx2 hb1 hb2
  go_wp2_with fail
  refine (unhide HE).mono ?_
  rintro e W3 ⟨rfl, hb3⟩
  go_wp2
  go_ret
  exact ⟨rfl, hb12.trans (hb3.mono hb12.size)⟩
end Go.Proofs.YtompifmfgjenlaaGreat.VI

/-
  The paragraphs collected into a list; Split.
-/
import Derived.Test.YtkckkchnmgidgaaPaS
import Derived.OwnWalkIn
import Derived.RangeFuncSeq
namespace Go.Proofs.Ytkckkchnmgidgaa
open Go.RowKit Go.PlainAid Go.Lib Go.Seq4
attribute [local go_sem] Oper.semAt_some
set_option linter.unusedVariables false
set_option linter.unusedSimpArgs false

/-- what lies where behind an append to a list in a box and the store of what came of it -/
theorem box_put {V w5 : World} {b Bq n m k : Nat} {TL TE : TypeId} {vs v5 : Value} {ob : Obj} {xs ys : List Value} (h1 : V.heap[b]? = some (.cells #[vs] TL (0, 0))) (h2 : V.ownsRow Bq TE k vs n xs) (hbq : b < Bq) (hown : w5.ownsRow Bq TE k v5 m ys) (hg : (V.alloc ob).grownBy w5 vs.ownBlock) :
    w5.heap[b]? = some (.cells #[vs] TL (0, 0)) ∧ (w5.setCell ⟨b, 0, none⟩ v5).heap[b]? = some (.cells #[v5] TL (0, 0)) ∧ (w5.setCell ⟨b, 0, none⟩ v5).ownsRow Bq TE k v5 m ys ∧ KeepsOthers V (w5.setCell ⟨b, 0, none⟩ v5) ∧ V.heap.size + 1 ≤ (w5.setCell ⟨b, 0, none⟩ v5).heap.size ∧
      (∀ j, j < V.heap.size → j ≠ b → j < Bq → (w5.setCell ⟨b, 0, none⟩ v5).heap[j]? = V.heap[j]?) ∧ (w5.os = V.os ∧ w5.tape = V.tape ∧ w5.output = V.output) := by
  have hfar : ∀ j, vs.ownBlock = some j → Bq ≤ j ∧ ∃ cur, V.heap[j]? = some (.cells cur TE (0, 0)) := by
    intro j hj
    rcases h2.2 with ⟨rfl, _⟩ | ⟨g, cap, cur, rfl, hb', hh, hrest⟩
    · cases hj
    · obtain rfl : g = j := Option.some.inj hj
      exact ⟨hb', cur, hh⟩
  have hblt := (Array.getElem?_eq_some_iff.1 h1).1
  have q5 : w5.heap[b]? = some (.cells #[vs] TL (0, 0)) := (hg.block b (by simp; omega) (fun e => by have := (hfar b e.symm).1; omega)).trans ((Below.heap_alloc V _ _ hblt).trans h1)
  refine ⟨q5, ?_, ?_, ((KeepsOthers.alloc _ _).trans (KeepsOthers.of_grownBy hg fun j o hj ho => ?_)).trans (KeepsOthers.setCell _ _ _), by have := hg.size; simpa [World.setCell] using this, fun j hj hjb hjq => ?_, hg.os, hg.tape, hg.output⟩
  · rw [setCell_eq_setRow w5 b 0 _ _ _ _ q5]
    exact setRow_heap w5 b _ _ _ _ q5
  · refine ⟨hown.1, hown.2.imp id ?_⟩
    rintro ⟨g, cap, cur, rfl, hb', hh, hrest⟩
    exact ⟨g, cap, cur, rfl, hb', (Below.heap_setCell _ _ _ _ (by show g ≠ b; omega)).trans hh, hrest⟩
  · obtain ⟨_, cur, hc⟩ := hfar j hj
    rw [(Below.heap_alloc V ob j (Array.getElem?_eq_some_iff.1 hc).1).trans hc] at ho
    cases ho; rfl
  · refine (Below.heap_setCell _ _ _ _ hjb).trans ?_
    exact (hg.block j (by simp; omega) (fun e => by have := (hfar j e.symm).1; omega)).trans (Below.heap_alloc V _ _ hj)
theorem row_keptB {W W' : World} {base k n : Nat} {T : TypeId} {v : Value} {xs : List Value} (h : W.ownsRow base T k v n xs) (hk : ∀ g cur, W.heap[g]? = some (.cells cur T (0, 0)) → base ≤ g → v.ownBlock = some g → W'.heap[g]? = W.heap[g]?) : W'.ownsRow base T k v n xs := by
  refine ⟨h.1, h.2.imp id ?_⟩
  rintro ⟨g, cap, cur, rfl, hb', hh, hrest⟩
  exact ⟨g, cap, cur, rfl, hb', (hk g cur hh hb' rfl).trans hh, hrest⟩
/-- the cells of a list of pieces -/
def pcsC (l : List (Nat × Nat)) : List Value := l.flatMap fun p => [.int .i64 (p.1 : Nat), .int .i64 (p.2 : Nat)]
theorem pcsC_app (a b : List (Nat × Nat)) : pcsC (a ++ b) = pcsC a ++ pcsC b := by simp [pcsC]
theorem infoPiece : (Try.prog.info? 46).map (fun i => (i.zero, i.size, i.bytes)) = some (some (.agg #[.int .i64 0, .int .i64 0]), 2, 16) := by kernel_rfl
/-- what holds between two rounds of AppendSeq -/
def AI (w : World) (q : Nat) (pre : List (Nat × Nat)) (V : World) : Prop :=
  (∃ v, V.heap[w.heap.size]? = some (.cells #[v] 39 (0, 0)) ∧ V.ownsRow q 46 2 v pre.length (pcsC pre)) ∧ Below w.heap.size w V
theorem own_AI {B : Nat} (w : World) (q : Nat) (hB : w.heap.size ≤ B) : OwnFrom B (AI w q) := by
  rintro s A C row ⟨⟨v, e2, e3⟩, e9⟩ hg hr
  have kc : ∀ {g : Nat} {o : Obj}, A.heap[g]? = some o → o.isCells = true → C.heap[g]? = some o := fun h ho => (grownBy_keeps_cells hg (fun r e => (hr r e).2) h ho).trans h
  exact ⟨⟨v, kc e2 rfl, row_keptB e3 fun g cur hh _ _ => (kc hh rfl).trans hh.symm⟩, e9.grown hg (by have := e9.size; omega) (fun k e => by have := (hr k e).1; omega)⟩

set_option maxRecDepth 100000 in
set_option maxHeartbeats 1000000 in
theorem appendSeq_any (H b1 b2 : Nat) (a b : Option Addr) (c d : Nat) (rs cs : List Int) (hnm : rs.length = 0 ∨ rs.length = cs.length) (hcl : cs.length ≤ 1099511627776) (w : World) (hH : HoldP w H b1 b2 a b c d rs cs) (hHw : H ≤ w.heap.size) :
    Calls Try.prog 54 #[.slice none 0 0, .func (.func 55) #[] #[.pointer (some ⟨b1, 0, none⟩), .pointer (some ⟨b2, 0, none⟩)]] w fun e w' => Below w.heap.size w w' ∧ ∃ (v : Value), e = .returned v ∧ w'.ownsRow w.heap.size 46 2 v (splitL rs cs).length (pcsC (splitL rs cs)) := by
  obtain ⟨W0, hW0⟩ : ∃ W0, w.alloc (Obj.cells #[Value.slice none 0 0] 39) = W0 := ⟨_, rfl⟩
  have hb0 : Below w.heap.size w W0 := by rw [← hW0]; exact (Below.refl _ _).alloc (Nat.le_refl _) _
  have hs0 : W0.heap.size = w.heap.size + 1 := by rw [← hW0]; simp
  have hI0 : AI w (W0.heap.size + 2) [] W0 := ⟨⟨_, by rw [← hW0]; exact heap_alloc_new w _, rfl, .inl ⟨rfl, rfl⟩⟩, hb0⟩
  obtain ⟨i0, hi0, hz0, hz1, hz2⟩ := info_parts infoPiece
  refine (callsIn_wide (n := 8)).1 ?_
  refine callsIn_of_wp_marks Try.func54 rfl trivial ?_ rfl
  simp only [Try.ntmps54, List.size_toArray, List.length_cons, List.length_nil, Nat.reduceAdd, Nat.reduceSub, Array.replicate_succ, Array.replicate_zero, List.push_toArray, List.append_toArray, List.nil_append, List.cons_append]
  have hF : ∀ f, Fence.wide.fn f := fun _ => trivial
  gi_wp2_with fail
  clear hW0
  refine range4B (by omega) (gf := 55) (lb := #[.pointer (some ⟨b1, 0, none⟩), .pointer (some ⟨b2, 0, none⟩)]) rfl (enters_of Try.func55 (by kernel_rfl) rfl) (paras_gives H b1 b2 a b c d rs cs hnm hcl w hH _ (by omega)) hb0 (fun _ => rfl)
    (AI w (W0.heap.size + 2)) (fun _ _ _ => False) (own_AI w _ (by omega)) (fun c _ _ _ _ h _ _ => h) (CalmR.none _ _ _) hI0
    (fun x => .cells #[.int .i64 (x.1 : Nat), .int .i64 (x.2 : Nat)] 46 (0, 0)) (fun _ => rfl) ?fr ?assign ?body ?done ?stop
  case assign =>
    intro l2 x V K hK
    dsimp only [pcE, pcV]
    gi_wp2
    generalize hBx : V.heap.size = Bx
    exact hK Bx hBx.symm
  case body =>
    rintro l2 pre x Bx V hl hsz2 ⟨r, hr⟩ ⟨⟨vs, h1, h2⟩, h8⟩ hx1 hx2 hSp
    have hpl : pre.length + 1 ≤ 1099511627776 := by have := hSp.length_le; have := splitL_len rs cs; simp only [List.length_append, List.length_cons, List.length_nil] at *; omega
    obtain ⟨x1, x2⟩ := x
    have bX : Blk V Bx [.int .i64 (x1 : Nat), .int .i64 (x2 : Nat)] 46 := hx1
    have y1 := bX.cell (j := 0) rfl
    have y2 := bX.cell (j := 1) rfl
    obtain ⟨sa, sn, sc, rfl⟩ : ∃ a n c, vs = .slice a n c := by
      rcases h2.2 with ⟨rfl, _⟩ | ⟨g, cap, cur, rfl, _⟩
      · exact ⟨_, _, _, rfl⟩
      · exact ⟨_, _, _, rfl⟩
    have cF : V.cell? ⟨w.heap.size, 0, none⟩ = some (.slice sa sn sc) := by simp [World.cell?, h1]
    have lV : w.heap.size + 1 ≤ V.heap.size := by omega
    have H8 := hide h8
    clear h8 hSp
    gi_wp2_with (gi_at_builtin; refine wpListIn_append_own _ rfl _ _ 39 rfl (W0.heap.size + 2) 46 i0 (.agg #[.int .i64 0, .int .i64 0]) 2 16 Try.underlying39 hi0 hz0 hz1 hz2 rfl (by decide) _ _ _ rfl (h2.alloc _) ⟨V.heap.size, 0, none⟩ 1 1 [.int .i64 (x1 : Nat), .int .i64 (x2 : Nat)] rfl rfl (cells_new _ _ _) (by simp [Value.oneCell']) (by unfold maxLen; omega) (by omega) (by simp; omega) ?_; intro v' w7 hown' hgrow _; obtain ⟨g', cap', rfl⟩ := ownsRow_succ hown'; obtain ⟨q5, hbx', hrow', ko, hs', hkeep, hos⟩ := box_put h1 h2 (by omega) hown' hgrow; have c5 : w7.cell? ⟨w.heap.size, 0, none⟩ = some (.slice sa sn sc) := (by simp [World.cell?, q5]); have f5 : w7.frozen? ⟨w.heap.size, 0, none⟩ = false := (by simp [World.frozen?, q5]))
    have h8 := unhide H8
    refine ⟨ko.from _, ⟨ko.walks, fun k ob hk hc hx => ?_⟩, ⟨_, hbx', ?_⟩, ?_⟩
    · rcases hk with hk | hk
      · omega
      · exact (hkeep k (by have := hk.1; omega) (by have := hk.1; omega) (by have := hk.1; omega)).trans hx
    · rw [pcsC_app, List.length_append, ← hs0]
      exact hrow'
    · exact ⟨hos.1.trans h8.os, hos.2.1.trans h8.tape, hos.2.2.trans h8.output, Nat.le_trans h8.size (by omega), fun k hk => (hkeep k (by omega) (by omega) (by omega)).trans (h8.block k hk)⟩
  case done =>
    rintro D xs V hD hS ⟨⟨v, e2, e3⟩, e9⟩ hK
    have p1 : Boxed V w.heap.size 39 v := e2
    have c1 := p1.cell
    gi_wp2
    refine ⟨by simp, .inl ⟨_, _, rfl, run_takeDeferred hK, ?_⟩⟩
    refine ⟨_, results_tmp rfl _ _ _, e9.grown (grownBy_putObj' V D _) e9.size (fun k e => by cases e; omega), v, rfl, ?_⟩
    subst hS
    exact row_mono (row_keptB e3 fun g cur hh _ _ => World.putObj_heap_other (by rintro rfl; rw [hK] at hh; cases hh)) (by omega)
  case stop =>
    rintro D c pre V hD hSp h hK
    exact h.elim
theorem collect_any (H b1 b2 : Nat) (a b : Option Addr) (c d : Nat) (rs cs : List Int) (hnm : rs.length = 0 ∨ rs.length = cs.length) (hcl : cs.length ≤ 1099511627776) (w : World) (hH : HoldP w H b1 b2 a b c d rs cs) (hHw : H ≤ w.heap.size) :
    Calls Try.prog 46 #[.func (.func 55) #[] #[.pointer (some ⟨b1, 0, none⟩), .pointer (some ⟨b2, 0, none⟩)]] w fun e w' => Below w.heap.size w w' ∧ ∃ (v : Value), e = .returned v ∧ w'.ownsRow w.heap.size 46 2 v (splitL rs cs).length (pcsC (splitL rs cs)) := by
  have HA := hide (appendSeq_any H b1 b2 a b c d rs cs hnm hcl w hH hHw)
  clear hH
  go_enter Try.func46, Try.ntmps46
  go_wp2_with (go_at_call 54; with_reducible refine (unhide HA).mono ?_; rintro e w' ⟨hb, v, rfl, h2⟩; have HH := hide (⟨hb, h2⟩ : _ ∧ _); clear hb h2)
  go_ret
  obtain ⟨hb, h2⟩ := unhide HH
  exact ⟨hb, v, rfl, h2⟩
end Go.Proofs.Ytkckkchnmgidgaa

/-
  The middle blocks, in memory, while they are numbered.
-/
import Derived.Test.YtokillomaemocaaTrCh
import Derived.Test.YtokillomaemocaaTrQs
import Derived.Test.YtokillomaemocaaTrQg
import Derived.OwnWalkIn
namespace Go.Proofs.Ytokillomaemocaa
open Go.RowKit Go.PlainAid Go.Lib Go.PRow Go.Maps Go.TrM Go.SeqM
attribute [local go_sem] Oper.semAt_some
set_option linter.unusedVariables false
set_option linter.unusedSimpArgs false
/-- at s: the map, the numbered, the box of their address, the top's row, its box, the boxes of the row that is cut and of 64 -/
structure MidAt (W : World) (s : Nat) (vc : Value) (v u : Value) (bs : List (List Int)) (ls : List Int) : Prop where
  hn : VW.NumAt W s (s + 1) s v bs
  hb : W.heap[s + 2]? = some (.cells #[.pointer (some ⟨s + 1, 0, none⟩)] 162 (0, 0))
  ht : W.heap[s + 4]? = some (.cells #[u] 24 (0, 0))
  hr : VW.RowE W s u ls
  c1 : W.heap[s + 5]? = some (.cells #[vc] 24 (0, 0))
  c2 : W.heap[s + 6]? = some (.cells #[.int .i64 64] 3 (0, 0))
  ap : ∀ g, blk v = some g → blk u ≠ some g
theorem MidAt.keep {W W' : World} {s : Nat} {vc v u : Value} {bs : List (List Int)} {ls : List Int} (h : MidAt W s vc v u bs ls) (k : ∀ i, i = s ∨ i = s + 1 ∨ i = s + 2 ∨ i = s + 4 ∨ i = s + 5 ∨ i = s + 6 ∨ blk v = some i ∨ blk u = some i → W'.heap[i]? = W.heap[i]?) : MidAt W' s vc v u bs ls :=
  ⟨h.hn.keep (k _ (by simp)) (k _ (by simp)) (fun g e => k g (by simp [e])), (k _ (by simp)).trans h.hb, (k _ (by simp)).trans h.ht, h.hr.kept (fun g e => k g (by simp [e])), (k _ (by simp)).trans h.c1, (k _ (by simp)).trans h.c2, h.ap⟩
theorem MidAt.size {W : World} {s : Nat} {vc v u : Value} {bs : List (List Int)} {ls : List Int} (h : MidAt W s vc v u bs ls) : s + 7 ≤ W.heap.size := by
  have := (Array.getElem?_eq_some_iff.1 h.c2).1
  omega
theorem MidAt.lt {W : World} {s : Nat} {vc v u : Value} {bs : List (List Int)} {ls : List Int} (h : MidAt W s vc v u bs ls) {i : Nat} (hi : i = s ∨ i = s + 1 ∨ i = s + 2 ∨ i = s + 4 ∨ i = s + 5 ∨ i = s + 6 ∨ blk v = some i ∨ blk u = some i) : i < W.heap.size := by
  have := h.size
  rcases hi with rfl | rfl | rfl | rfl | rfl | rfl | e | e
  · omega
  · omega
  · omega
  · omega
  · omega
  · omega
  · exact (h.hn.hv.lt _ e).2
  · exact (h.hr.lt _ e).2
theorem MidAt.below {W W' : World} {s : Nat} {vc v u : Value} {bs : List (List Int)} {ls : List Int} (h : MidAt W s vc v u bs ls) (b : Below W.heap.size W W') : MidAt W' s vc v u bs ls := h.keep fun i hi => b.block i (h.lt hi)
/-- what is kept through grown worlds whose written block is no cells from B on -/
theorem MidAt.own {W W' : World} {s B : Nat} {vc v u : Value} {bs : List (List Int)} {ls : List Int} (h : MidAt W s vc v u bs ls) {row : Option Nat} (hB : s + 7 ≤ B) (hg : W.grownBy W' row) (hr : ∀ r, row = some r → B ≤ r ∧ ∃ o : Obj, W.heap[r]? = some o ∧ o.isCells = false) : MidAt W' s vc v u bs ls := by
  refine h.keep fun i hi => hg.block i (h.lt hi) (fun e => ?_)
  obtain ⟨h1, o, h2, h3⟩ := hr i e.symm
  rcases hi with rfl | rfl | rfl | rfl | rfl | rfl | q | q
  · omega
  · omega
  · omega
  · omega
  · omega
  · omega
  · rcases h.hn.hv.2 with ⟨a, rfl, _⟩ | ⟨g', cap, cur, rfl, _, hh, _⟩
    · rw [blk_zero] at q; cases q
    · cases cap with
      | zero => rw [blk_zero] at q; cases q
      | succ c => cases q; rw [hh] at h2; cases h2; cases h3
  · rcases h.hr.2 with ⟨a, rfl, _⟩ | ⟨g', cap, cur, rfl, _, hh, _⟩
    · rw [blk_zero] at q; cases q
    · cases cap with
      | zero => rw [blk_zero] at q; cases q
      | succ c => cases q; rw [hh] at h2; cases h2; cases h3
/-- what a round leaves of what was there -/
def MidK (W W' : World) (s : Nat) (v u : Value) : Prop := W.heap.size ≤ W'.heap.size ∧ ∀ i, i < W.heap.size → i ≠ s → i ≠ s + 1 → i ≠ s + 4 → blk v ≠ some i → blk u ≠ some i → W'.heap[i]? = W.heap[i]?
theorem rowW_cells {W : World} {B : Nat} {v : Value} {xs : List Int} (h : VW.RowE W B v xs) {g : Nat} (hg : blk v = some g) : ∃ cur, W.heap[g]? = some (.cells cur 34 (0, 0)) := by
  rcases h.2 with ⟨a, rfl, _⟩ | ⟨g', cap, cur, rfl, _, hh, _⟩
  · rw [blk_zero] at hg; cases hg
  · cases cap with
    | zero => rw [blk_zero] at hg; cases hg
    | succ c => cases hg; exact ⟨_, hh⟩
/-- a block numbered among the middle ones -/
theorem MidAt.numbered {W W' : World} {s : Nat} {vc v v' u : Value} {bs bs' : List (List Int)} {ls : List Int} (h : MidAt W s vc v u bs ls) (hn : VW.NumAt W' s (s + 1) s v' bs') (k : VW.NumK W W' (s + 1) s v v') : MidAt W' s vc v' u bs' ls ∧ MidK W W' s v u := by
  have hx : ∀ i, i < W.heap.size → i ≠ s + 1 → i ≠ s → some i ≠ blk v → W'.heap[i]? = W.heap[i]? := k.2.1
  have hb : ∀ i (t : TypeId) cs, t ≠ 34 → W.heap[i]? = some (.cells cs t (0, 0)) → some i ≠ blk v := fun i t cs ht hi e => by
    obtain ⟨cur, hc⟩ := rowW_cells h.hn.hv e.symm
    rw [hc] at hi
    injection hi with hi
    injection hi with _ e2
    exact ht e2.symm
  have hsz := h.size
  refine ⟨⟨hn, (hx _ (by omega) (by omega) (by omega) (hb _ _ _ (by decide) h.hb)).trans h.hb, (hx _ (by omega) (by omega) (by omega) (hb _ _ _ (by decide) h.ht)).trans h.ht, h.hr.kept fun g e => ?_, (hx _ (by omega) (by omega) (by omega) (hb _ _ _ (by decide) h.c1)).trans h.c1, (hx _ (by omega) (by omega) (by omega) (hb _ _ _ (by decide) h.c2)).trans h.c2, ?_⟩, k.1, fun i hi h1 h2 _ h4 _ => hx i hi h2 h1 (fun e => h4 e.symm)⟩
  · refine hx g (h.hr.lt g e).2 ?_ ?_ (fun q => h.ap g q.symm e)
    · rintro rfl
      obtain ⟨cur, hc⟩ := rowW_cells h.hr e
      have := h.hn.hn
      rw [hc] at this
      injection this with this
      injection this with _ e2
      revert e2
      decide
    · rintro rfl
      obtain ⟨cur, hc⟩ := rowW_cells h.hr e
      obtain ⟨⟨es, c, hb', r⟩, q⟩ := h.hn.hm
      rw [hc] at hb'
      cases hb'
  · intro g e e'
    rcases k.2.2 with q | q
    · exact h.ap g (q ▸ e) e'
    · have := q g e
      have := (h.hr.lt g e').2
      omega
/-- the number of a middle block laid behind the top -/
theorem MidAt.topped {W W1 W' : World} {s : Nat} {vc v u u' : Value} {bs : List (List Int)} {ls ls' : List Int} (h : MidAt W s vc v u bs ls) (b : Below W.heap.size W W1) (ht : VW.TurnedE W1 W' s u u' ls') : W'.heap[s + 4]? = some (.cells #[u] 24 (0, 0)) ∧ MidAt (W'.setCell ⟨s + 4, 0, none⟩ u') s vc v u' bs ls' ∧ MidK W (W'.setCell ⟨s + 4, 0, none⟩ u') s v u := by
  have hsz := h.size
  have hx : ∀ i, i < W.heap.size → blk u ≠ some i → W'.heap[i]? = W.heap[i]? := fun i hi e => (ht.2.1.block i (Nat.lt_of_lt_of_le hi b.size) (fun q => e q.symm)).trans (b.block i hi)
  have hsz2 : W.heap.size ≤ W'.heap.size := Nat.le_trans b.size ht.2.1.size
  have hu : ∀ i (t : TypeId) cs, t ≠ 34 → W.heap[i]? = some (.cells cs t (0, 0)) → blk u ≠ some i := fun i t cs ht hi e => by
    obtain ⟨cur, hc⟩ := rowW_cells h.hr e
    rw [hc] at hi
    injection hi with hi
    injection hi with _ e2
    exact ht e2.symm
  have h4 := (hx _ (by omega) (hu _ _ _ (by decide) h.ht)).trans h.ht
  have hum : blk u ≠ some s := fun e => by
    obtain ⟨cur, hc⟩ := rowW_cells h.hr e
    obtain ⟨⟨es, c, hb', r⟩, q⟩ := h.hn.hm
    rw [hc] at hb'
    cases hb'
  have hv4 : ∀ g, blk v = some g → g ≠ s + 4 := fun g e q => by
    obtain ⟨cur, hc⟩ := rowW_cells h.hn.hv e
    rw [q, h.ht] at hc
    injection hc with hc
    injection hc with _ e2
    revert e2
    decide
  have hu4 : ∀ g, blk u' = some g → g ≠ s + 4 := fun g e q => by
    rcases ht.2.2 with r | r
    · exact hu _ _ _ (by decide) h.ht (by rw [← q, ← r]; exact e)
    · have := r g e
      have := b.size
      omega
  have sne : ∀ k, k ≠ s + 4 → (W'.setCell ⟨s + 4, 0, none⟩ u').heap[k]? = W'.heap[k]? := fun k hk => by
    simp only [World.setCell, Array.getElem?_modify]
    rw [if_neg (fun e => hk e.symm)]
  refine ⟨h4, ⟨h.hn.keep ?_ ?_ ?_, ?_, ?_, ?_, ?_, ?_, ?_⟩, by rw [World.size_setCell]; exact hsz2, fun i hi h1 h2 h3 h5 h6 => (sne i h3).trans (hx i hi h6)⟩
  · rw [sne _ (by omega)]; exact hx _ (by omega) (hu _ _ _ (by decide) h.hn.hn)
  · rw [sne _ (by omega)]; exact hx _ (by omega) hum
  · intro g e
    rw [sne g (hv4 g e)]
    exact hx g (h.hn.hv.lt g e).2 (h.ap g e)
  · rw [sne _ (by omega)]; exact (hx _ (by omega) (hu _ _ _ (by decide) h.hb)).trans h.hb
  · simp only [World.setCell, Array.getElem?_modify, if_true, h4, Option.map_some]
    rfl
  · exact ht.1.kept fun g e => sne g (hu4 g e)
  · rw [sne _ (by omega)]; exact (hx _ (by omega) (hu _ _ _ (by decide) h.c1)).trans h.c1
  · rw [sne _ (by omega)]; exact (hx _ (by omega) (hu _ _ _ (by decide) h.c2)).trans h.c2
  · intro g e e'
    rcases ht.2.2 with r | r
    · exact h.ap g e (r ▸ e')
    · have := r g e'
      have := (h.hn.hv.lt g e).2
      have := b.size
      omega
theorem MidK.trans {W W1 W2 : World} {s : Nat} {v u v1 u1 : Value} (h : MidK W W1 s v u) (g : MidK W1 W2 s v1 u1) (hv : blk v1 = blk v ∨ ∀ i, blk v1 = some i → W.heap.size ≤ i) (hu : blk u1 = blk u ∨ ∀ i, blk u1 = some i → W.heap.size ≤ i) : MidK W W2 s v u := by
  refine ⟨Nat.le_trans h.1 g.1, fun i hi h1 h2 h3 h4 h5 => ?_⟩
  rw [g.2 i (Nat.lt_of_lt_of_le hi h.1) h1 h2 h3 (fun e => ?_) (fun e => ?_), h.2 i hi h1 h2 h3 h4 h5]
  · rcases hv with r | r
    · exact h4 (r ▸ e)
    · have := r i e; omega
  · rcases hu with r | r
    · exact h5 (r ▸ e)
    · have := r i e; omega
theorem wpListIn_appendT {F : Fence} {n : Nat} {w : World} {ops : Array Oper} {rest : List Oper} {o : Oper} {a : Act} {Q : Exit → Act → World → Prop} (hgd : o.guard = none) (s x : Operand) (t tn : TypeId)
    (ho : o.op = .call { callee := .builtin .append, args := #[s, x], argTypes := #[t, tn] }) (vs vx : Value) (hs : a.eval s = vs) (hx : a.eval x = vx) {Post : Value → World → Prop}
    (hr : ∃ v' w', (∀ ty, (Builtin.append_ #[t, tn] ty #[vs, vx]).run Try.prog w = .ok v' w') ∧ Post v' w') (h : ∀ v' w', Post v' w' → wpListIn F n Try.prog ops Q rest (a.put o.dst v') w') : wpListIn F n Try.prog ops Q (o :: rest) a w := by
  refine wpListIn_plain hgd fun K hK' => ?_
  obtain ⟨v', w', hrun, hp⟩ := hr
  unfold Oper.wpIn
  refine ⟨?_, ?_⟩
  · simp [Oper.about, ho, resolve, Target.leads, Sem.run_pure]
  · rw [Oper.semAt_plain F _ _ (by rw [ho]; intro c hc'; cases hc')]
    simp [execOp, ho, resolve, invoke, builtin, hs, hx, hrun, Result.andThen]
    exact hK' _ _ (h v' w' hp)
end Go.Proofs.Ytokillomaemocaa

/-
  These texts, one behind the other: PByM, PByA.
-/
import Derived.Test.YtnhcbcbceaeceaaPFormM
import Derived.Test.YtnhcbcbceaeceaaPGapI
import Derived.Test.YtnhcbcbceaeceaaPoQk
/-
  PointsByPoint, the mathematics: what is cut has no value; stretches and gaps, one behind the other, have each number once.
-/
namespace Go.Proofs.Ytnhcbcbceaeceaa
set_option linter.unusedVariables false
variable {α : Type}

/-- cut out -/
theorem at_cut {ps : List (Pc α)} (o : OkP ps) {lo hi : Int} (h1 : lo ≤ hi) (x : Int) : atP (repP ps lo hi []) x = if lo ≤ x ∧ x ≤ hi then none else atP ps x := by
  rw [at_rep o h1 (.inl rfl)]
  rfl
/-- laid, whatever was there -/
theorem at_over {ps : List (Pc α)} (o : OkP ps) {lo hi : Int} (h1 : lo ≤ hi) (v : α) (x : Int) : atP (repP ps lo hi [⟨lo, hi, v⟩]) x = if lo ≤ x ∧ x ≤ hi then some v else atP ps x := by
  rw [at_rep o h1 (.inr ⟨v, rfl⟩)]
  rfl
/-- the gap ahead of a stretch, where there is one -/
theorem gap_ahead {ss pre t : List (Pc α)} {p : Pc α} (o : OkP ss) (e : ss = pre ++ p :: t) (h : endP 0 pre ≤ p.lo - 1) : (gapsP ss)[(gapsPre 0 pre).length]? = some (endP 0 pre, p.lo - 1) := by
  subst e
  unfold gapsP
  rw [gapsPre_append, List.append_assoc, List.getElem?_append_right (Nat.le_refl _), Nat.sub_self]
  simp only [gapsPre, if_pos h, List.cons_append, List.getElem?_cons_zero]
/-- every gap behind a stretch begins behind it -/
theorem gaps_behind {ss pre t : List (Pc α)} {p : Pc α} (o : OkP ss) (e : ss = pre ++ p :: t) {k : Nat} (hk : (gapsPre 0 (pre ++ [p])).length ≤ k) {g : Int × Int} (hg : (gapsP ss)[k]? = some g) : p.hi < g.1 := by
  subst e
  have e2 : pre ++ p :: t = (pre ++ [p]) ++ t := by simp
  have ot : OkP t := by
    rw [e2] at o
    exact ⟨(List.pairwise_append.1 o.1).2.1, fun q hq => o.2 q (List.mem_append_right _ hq)⟩
  have ht : ∀ q ∈ t, p.hi < q.lo := fun q hq => by
    have h := (List.pairwise_append.1 o.1).2.1
    exact (List.pairwise_cons.1 h).1 q hq
  have hp := o.2 p (by simp)
  unfold gapsP at hg
  rw [e2, gapsPre_append, endP_append (pre ++ [p]) t, endP_snoc, List.append_assoc, List.getElem?_append_right hk] at hg
  have hm := List.mem_of_getElem? hg
  rcases List.mem_append.1 hm with hm | hm
  · have := gapsPre_ge ot (p.hi + 1) (fun q hq => by have := ht q hq; omega) g hm
    omega
  · unfold lastGap at hm
    split at hm
    · rw [List.mem_singleton.1 hm]
      show p.hi < endP (p.hi + 1) t
      have : ∀ (a : Int) (B : List (Pc α)), OkP B → (∀ q ∈ B, a ≤ q.lo) → a ≤ endP a B := by
        intro a B
        induction B generalizing a with
        | nil => intro _ _; exact Int.le_refl _
        | cons q B ih =>
          intro oB hB
          have k1 := oB.head
          have k2 := hB q List.mem_cons_self
          have := ih (q.hi + 1) oB.tail (fun r hr => by have := oB.next r hr; omega)
          simp only [endP]
          omega
      have := this (p.hi + 1) t ot (fun q hq => by have := ht q hq; omega)
      omega
    · exact nomatch hm
theorem gaps_len (ss : List (Pc α)) : (gapsP ss).length = (gapsPre 0 ss).length + if endP 0 ss ≤ 1114111 then 1 else 0 := by
  unfold gapsP lastGap
  rw [List.length_append]
  split <;> rfl
theorem gap_last {ss : List (Pc α)} (h : endP 0 ss ≤ 1114111) : (gapsP ss)[(gapsPre 0 ss).length]? = some (endP 0 ss, 1114111) := by
  unfold gapsP lastGap
  rw [List.getElem?_append_right (Nat.le_refl _), Nat.sub_self, if_pos h]
  rfl
theorem gapsPre_snoc_len (A : List (Pc α)) (p : Pc α) : (gapsPre 0 (A ++ [p])).length = (gapsPre 0 A).length + if endP 0 A ≤ p.lo - 1 then 1 else 0 := by
  rw [gapsPre_snoc, List.length_append]
  split <;> rfl
end Go.Proofs.Ytnhcbcbceaeceaa
/-
  PointsByPoint: a list of gaps in a box of its own.
-/
namespace Go.Proofs.Ytnhcbcbceaeceaa
open Go.RowKit Go.PlainAid Go.Lib Go.PRow Go.Shelf Go.Seq4 Go.Seq8
set_option linter.unusedVariables false
set_option linter.unusedSimpArgs false

def cellsG (gs : List (Int × Int)) : List Value := gs.flatMap fun g => [.int .i32 g.1, .int .i32 g.2]
theorem cellsG_append (a b : List (Int × Int)) : cellsG (a ++ b) = cellsG a ++ cellsG b := by simp [cellsG]
theorem cellsG_at : ∀ (gs : List (Int × Int)) (j : Nat) (g : Int × Int), gs[j]? = some g → (cellsG gs)[j * 2]? = some (.int .i32 g.1) ∧ (cellsG gs)[j * 2 + 1]? = some (.int .i32 g.2)
  | [], j, g, h => by simp at h
  | p :: gs, 0, g, h => by
    simp at h; subst h
    simp [cellsG]
  | p :: gs, j + 1, g, h => by
    have := cellsG_at gs j g (by simpa using h)
    rw [show (j + 1) * 2 = j * 2 + 1 + 1 by omega]
    simpa [cellsG] using this
theorem rowG_kept {W W' : World} {base k : Nat} {v : Value} {xs : List Value} (h : W.ownsRow base 28 2 v k xs) (hk : ∀ g cur, W.heap[g]? = some (.cells cur 28 (0, 0)) → base ≤ g → v.ownBlock = some g → W'.heap[g]? = W.heap[g]?) : W'.ownsRow base 28 2 v k xs := by
  refine ⟨h.1, h.2.imp id ?_⟩
  rintro ⟨g, cap, cur, rfl, hb', hh, hrest⟩
  exact ⟨g, cap, cur, rfl, hb', (hk g cur hh hb' rfl).trans hh, hrest⟩
theorem rowG_far {W : World} {base k : Nat} {v : Value} {xs : List Value} (h : W.ownsRow base 28 2 v k xs) {j : Nat} (hj : v.ownBlock = some j) : base ≤ j ∧ ∃ cur, W.heap[j]? = some (.cells cur 28 (0, 0)) := by
  rcases h.2 with ⟨rfl, _⟩ | ⟨g, cap, cur, rfl, hb', hh, hrest⟩
  · cases hj
  · obtain rfl : g = j := Option.some.inj hj
    exact ⟨hb', cur, hh⟩
theorem cell_two_newG (w : World) (a b : Value) (t : TypeId) : ∀ j u, [a, b][j]? = some u → (w.alloc (.cells #[a, b] t)).cell? ((⟨w.heap.size, 0, none⟩ : Addr).add j) = some u := by
  intro j u hj
  match j, hj with
  | 0, hj => simp at hj; subst hj; simp [Addr.add]
  | 1, hj => simp at hj; subst hj; simp [Addr.add]
  | j + 2, hj => simp at hj
/-- the box at b holds a list of its own with these gaps; its block lies ahead of z -/
def BoxG (V : World) (b Bq z : Nat) (gs : List (Int × Int)) : Prop := ∃ vs, V.heap[b]? = some (.cells #[vs] 63 (0, 0)) ∧ V.ownsRow Bq 28 2 vs gs.length (cellsG gs) ∧ ∀ g, vs.ownBlock = some g → g < z
theorem own_boxG (B Bq b z : Nat) : OwnFrom B (fun (pre : List (Int × Int)) W => BoxG W b Bq z pre) := by
  rintro x W W' row ⟨vs, h1, h2, h3⟩ hg hr
  exact ⟨vs, (grownBy_keeps_cells hg (fun r e => (hr r e).2) h1 rfl).trans h1, rowG_kept h2 fun g cur hh _ _ => grownBy_keeps_cells hg (fun r e => (hr r e).2) hh rfl, h3⟩
/-- what lies where behind an append to the list in the box and the store of what came of it -/
theorem boxG_put {V w5 : World} {b Bq k : Nat} {vs v5 : Value} {ob : Obj} {xs : List Value} {gs : List (Int × Int)} (h1 : V.heap[b]? = some (.cells #[vs] 63 (0, 0))) (h2 : V.ownsRow Bq 28 2 vs k xs) (hbq : b < Bq) (hown : w5.ownsRow Bq 28 2 v5 gs.length (cellsG gs)) (hg : (V.alloc ob).grownBy w5 vs.ownBlock) :
    w5.heap[b]? = some (.cells #[vs] 63 (0, 0)) ∧ BoxG (w5.setCell ⟨b, 0, none⟩ v5) b Bq (w5.setCell ⟨b, 0, none⟩ v5).heap.size gs ∧ KeepsOthers V (w5.setCell ⟨b, 0, none⟩ v5) ∧ V.heap.size + 1 ≤ (w5.setCell ⟨b, 0, none⟩ v5).heap.size ∧
      (∀ j, j < V.heap.size → j ≠ b → vs.ownBlock ≠ some j → (w5.setCell ⟨b, 0, none⟩ v5).heap[j]? = V.heap[j]?) ∧ (w5.os = V.os ∧ w5.tape = V.tape ∧ w5.output = V.output) := by
  have hfar : ∀ j, vs.ownBlock = some j → Bq ≤ j ∧ ∃ cur, V.heap[j]? = some (.cells cur 28 (0, 0)) := fun j hj => rowG_far h2 hj
  have hblt := (Array.getElem?_eq_some_iff.1 h1).1
  have q5 : w5.heap[b]? = some (.cells #[vs] 63 (0, 0)) := (hg.block b (by simp; omega) (fun e => by have := (hfar b e.symm).1; omega)).trans ((Below.heap_alloc V _ _ hblt).trans h1)
  have k5 : (w5.setCell ⟨b, 0, none⟩ v5).heap[b]? = some (.cells #[v5] 63 (0, 0)) := by
    rw [setCell_eq_setRow w5 b 0 _ _ _ _ q5]
    exact setRow_heap w5 b _ _ _ _ q5
  refine ⟨q5, ⟨v5, k5, rowG_kept hown fun g cur hh hge _ => Below.heap_setCell _ _ _ _ (by show g ≠ b; omega), fun g hgo => ?_⟩, ((KeepsOthers.alloc _ _).trans (KeepsOthers.of_grownBy hg fun j o hj ho => ?_)).trans (KeepsOthers.setCell _ _ _), by have := hg.size; simpa [World.setCell] using this, fun j hj hjb hjq => ?_, hg.os, hg.tape, hg.output⟩
  · obtain ⟨_, cur, hc⟩ := rowG_far hown hgo
    have := (Array.getElem?_eq_some_iff.1 hc).1
    simpa [World.setCell] using this
  · obtain ⟨_, cur, hc⟩ := hfar j hj
    rw [(Below.heap_alloc V ob j (Array.getElem?_eq_some_iff.1 hc).1).trans hc] at ho
    cases ho; rfl
  · refine (Below.heap_setCell _ _ _ _ hjb).trans ?_
    exact (hg.block j (by simp; omega) (fun e => hjq e.symm)).trans (Below.heap_alloc V _ _ hj)
theorem boxG_form {vs : Value} {V : World} {Bq : Nat} {gs : List (Int × Int)} (h : V.ownsRow Bq 28 2 vs gs.length (cellsG gs)) : ∃ a c, vs = .slice a gs.length c ∧ ∀ (j : Nat) (g : Int × Int), gs[j]? = some g → ∃ gb, a = some ⟨gb, 0, none⟩ ∧ vs.ownBlock = some gb ∧ V.cell? ⟨gb, j * 2, none⟩ = some (.int .i32 g.1) ∧ V.cell? ⟨gb, j * 2 + 1, none⟩ = some (.int .i32 g.2) := by
  rcases h.2 with ⟨rfl, hk0⟩ | ⟨g, cap, cur, rfl, hb', hh, hc1, hc2, hc3, hc4⟩
  · exact ⟨none, 0, by rw [hk0], fun j g hj => by rw [List.length_eq_zero_iff.1 hk0] at hj; simp at hj⟩
  · refine ⟨_, cap, rfl, fun j p hj => ⟨g, rfl, rfl, ?_⟩⟩
    obtain ⟨e1, e2⟩ := cellsG_at gs j p hj
    have hjl := (List.getElem?_eq_some_iff.1 hj).1
    rw [← hc4, List.getElem?_take, if_pos (by omega)] at e1 e2
    exact ⟨by simpa [World.cell?, hh] using e1, by simpa [World.cell?, hh] using e2⟩
theorem own_lowS {β : Type} (W7 : World) (S : Nat → Prop) : OwnFrom W7.heap.size (fun (_ : β) V => W7.heap.size ≤ V.heap.size ∧ ∀ k, k < W7.heap.size → ¬ S k → V.heap[k]? = W7.heap[k]?) := by
  rintro x W W' row ⟨h0, h⟩ hg hr
  refine ⟨Nat.le_trans h0 hg.size, fun k hk hb => (hg.block k (by omega) (fun e => ?_)).trans (h k hk hb)⟩
  have := (hr k e.symm).1
  omega
theorem box_set {W : World} {k : Nat} {v : Value} {T : TypeId} (h : W.heap[k]? = some (.cells #[v] T (0, 0))) (u : Value) : (W.setCell ⟨k, 0, none⟩ u).heap[k]? = some (.cells #[u] T (0, 0)) := by
  rw [setCell_eq_setRow W k 0 _ _ _ _ h]
  exact setRow_heap W k _ _ _ _ h
theorem box_cell {W : World} {k : Nat} {v : Value} {T : TypeId} (h : W.heap[k]? = some (.cells #[v] T (0, 0))) : W.cell? ⟨k, 0, none⟩ = some v ∧ W.frozen? ⟨k, 0, none⟩ = false := by
  simp [World.cell?, World.frozen?, h]
end Go.Proofs.Ytnhcbcbceaeceaa

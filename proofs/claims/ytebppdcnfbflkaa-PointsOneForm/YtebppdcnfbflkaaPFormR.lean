/-
  PointsOneForm: a list of ranges in a box, as its two ranges over a map make it.
-/
import Derived.Test.YtebppdcnfbflkaaPFormA
namespace Go.Proofs.Ytebppdcnfbflkaa
open Go.RowKit Go.PlainAid Go.Lib Go.PRow Go.Shelf Go.Seq4 VB
set_option linter.unusedVariables false

def cellsR (ps : List (Pc Bool)) : List Value := ps.flatMap fun p => [.int .i32 p.lo, .int .i32 p.hi]
theorem cellsR_append (a b : List (Pc Bool)) : cellsR (a ++ b) = cellsR a ++ cellsR b := by simp [cellsR]
/-- the box at b holds a list of its own with these ranges -/
def BoxR (V : World) (b Bq : Nat) (ps : List (Pc Bool)) : Prop := ∃ vs, V.heap[b]? = some (.cells #[vs] 41 (0, 0)) ∧ V.ownsRow Bq 28 2 vs ps.length (cellsR ps)
theorem rowR_kept {W W' : World} {base k : Nat} {v : Value} {xs : List Value} (h : W.ownsRow base 28 2 v k xs) (hk : ∀ g cur, W.heap[g]? = some (.cells cur 28 (0, 0)) → base ≤ g → v.ownBlock = some g → W'.heap[g]? = W.heap[g]?) : W'.ownsRow base 28 2 v k xs := by
  refine ⟨h.1, h.2.imp id ?_⟩
  rintro ⟨g, cap, cur, rfl, hb', hh, hrest⟩
  exact ⟨g, cap, cur, rfl, hb', (hk g cur hh hb' rfl).trans hh, hrest⟩
theorem own_boxR (B Bq b : Nat) : OwnFrom B (fun (pre : List (Pc Bool)) W => BoxR W b Bq pre) := by
  rintro x W W' row ⟨vs, h1, h2⟩ hg hr
  exact ⟨vs, (grownBy_keeps_cells hg (fun r e => (hr r e).2) h1 rfl).trans h1, rowR_kept h2 fun g cur hh _ _ => grownBy_keeps_cells hg (fun r e => (hr r e).2) hh rfl⟩
theorem cell_two_newR (w : World) (a b : Value) (t : TypeId) : ∀ j u, [a, b][j]? = some u → (w.alloc (.cells #[a, b] t)).cell? ((⟨w.heap.size, 0, none⟩ : Addr).add j) = some u := by
  intro j u hj
  match j, hj with
  | 0, hj => simp at hj; subst hj; simp [Addr.add]
  | 1, hj => simp at hj; subst hj; simp [Addr.add]
  | j + 2, hj => simp at hj
/-- what lies where behind an append to the list in the box and the store of what came of it -/
theorem boxR_put {V w5 : World} {b Bq C k : Nat} {vs v5 : Value} {ob : Obj} {xs : List Value} {ps : List (Pc Bool)} (h1 : V.heap[b]? = some (.cells #[vs] 41 (0, 0))) (h2 : V.ownsRow Bq 28 2 vs k xs) (hbq : b < Bq) (hown : w5.ownsRow Bq 28 2 v5 ps.length (cellsR ps)) (hg : (V.alloc ob).grownBy w5 vs.ownBlock) :
    w5.heap[b]? = some (.cells #[vs] 41 (0, 0)) ∧ BoxR (w5.setCell ⟨b, 0, none⟩ v5) b Bq ps ∧ KeepsOthers V (w5.setCell ⟨b, 0, none⟩ v5) ∧ V.heap.size + 1 ≤ (w5.setCell ⟨b, 0, none⟩ v5).heap.size ∧
      (∀ j, j < V.heap.size → j ≠ b → j < Bq → (w5.setCell ⟨b, 0, none⟩ v5).heap[j]? = V.heap[j]?) ∧ (w5.os = V.os ∧ w5.tape = V.tape ∧ w5.output = V.output) := by
  have hfar : ∀ j, vs.ownBlock = some j → Bq ≤ j ∧ ∃ cur, V.heap[j]? = some (.cells cur 28 (0, 0)) := by
    intro j hj
    rcases h2.2 with ⟨rfl, _⟩ | ⟨g, cap, cur, rfl, hb', hh, hrest⟩
    · cases hj
    · obtain rfl : g = j := Option.some.inj hj
      exact ⟨hb', cur, hh⟩
  have hblt := (Array.getElem?_eq_some_iff.1 h1).1
  have q5 : w5.heap[b]? = some (.cells #[vs] 41 (0, 0)) := (hg.block b (by simp; omega) (fun e => by have := (hfar b e.symm).1; omega)).trans ((Below.heap_alloc V _ _ hblt).trans h1)
  refine ⟨q5, ⟨v5, ?_, rowR_kept hown fun g cur hh hge _ => Below.heap_setCell _ _ _ _ (by show g ≠ b; omega)⟩, ((KeepsOthers.alloc _ _).trans (KeepsOthers.of_grownBy hg fun j o hj ho => ?_)).trans (KeepsOthers.setCell _ _ _), by have := hg.size; simpa [World.setCell] using this, fun j hj hjb hjq => ?_, hg.os, hg.tape, hg.output⟩
  · rw [setCell_eq_setRow w5 b 0 _ _ _ _ q5]
    exact setRow_heap w5 b _ _ _ _ q5
  · obtain ⟨_, cur, hc⟩ := hfar j hj
    rw [(Below.heap_alloc V ob j (Array.getElem?_eq_some_iff.1 hc).1).trans hc] at ho
    cases ho; rfl
  · refine (Below.heap_setCell _ _ _ _ hjb).trans ?_
    exact (hg.block j (by simp; omega) (fun e => by have := (hfar j e.symm).1; omega)).trans (Below.heap_alloc V _ _ hj)
theorem fn_nil (f : Nat) (cap : Array Value) (w : World) : Sem.run Try.prog (binOp BinOp.eql 48 (.func (.func f) #[] cap) .nilFunc) w = .ok (.bool false) w := by
  have he : Sem.run Try.prog (Op.equal 48 (.func (.func f) #[] cap) .nilFunc) w = .ok false w := by
    unfold Op.equal Op.maxDepth
    rw [show (10000 : Nat) = 9999 + 1 from rfl]
    unfold Op.equalIn
    simp [go_sem]
  simp [binOp, go_sem, he]
/-- what lies below a range's beginning stays, but for one box -/
theorem own_low (W7 : World) (b : Nat) : OwnFrom W7.heap.size (fun (_ : List (Pc Bool)) V => W7.heap.size ≤ V.heap.size ∧ ∀ k, k < W7.heap.size → k ≠ b → V.heap[k]? = W7.heap[k]?) := by
  rintro x W W' row ⟨h0, h⟩ hg hr
  refine ⟨Nat.le_trans h0 hg.size, fun k hk hb => (hg.block k (by omega) (fun e => ?_)).trans (h k hk hb)⟩
  have := (hr k e.symm).1
  omega
/-- a stretch that both maps tell -/
theorem at_both {pa pb : List (Pc Bool)} (o : OkP pb) (hE : strsP eqv pa = strsP eqv pb) {pre : List (Pc Bool)} {x : Pc Bool} (h : pre ++ [x] <+: strsP eqv pa) : atP pb x.lo = some x.val := by
  rw [hE] at h
  have hm : x ∈ strsP eqv pb := h.subset (by simp)
  rw [← strs_at eqv (fun a b => (eqv_iff a b).1) o]
  exact at_of_mem (strs_ok eqv o) hm
theorem cellsR_at {ps : List (Pc Bool)} {j : Nat} {p : Pc Bool} (h : ps[j]? = some p) : (cellsR ps)[j * 2]? = some (.int .i32 p.lo) ∧ (cellsR ps)[j * 2 + 1]? = some (.int .i32 p.hi) := by
  induction ps generalizing j with
  | nil => simp at h
  | cons a ps ih =>
    have e : cellsR (a :: ps) = .int .i32 a.lo :: .int .i32 a.hi :: cellsR ps := rfl
    rw [e]
    cases j with
    | zero => simp at h; subst h; simp
    | succ j =>
      have := ih (by simpa using h)
      rw [show (j + 1) * 2 = j * 2 + 1 + 1 by omega]
      simpa using this
/-- a list of ranges of its own, cell by cell -/
theorem rowR_cells {W : World} {base : Nat} {v : Value} {ps : List (Pc Bool)} (h : W.ownsRow base 28 2 v ps.length (cellsR ps)) : ∃ a c, v = .slice a ps.length c ∧ ∀ (j : Nat) (p : Pc Bool), ps[j]? = some p → ∃ g, a = some ⟨g, 0, none⟩ ∧ W.cell? ⟨g, j * 2, none⟩ = some (.int .i32 p.lo) ∧ W.cell? ⟨g, j * 2 + 1, none⟩ = some (.int .i32 p.hi) := by
  rcases h.2 with ⟨rfl, h0⟩ | ⟨g, cap, cur, rfl, hb, hh, h3, h4, h5, h6⟩
  · exact ⟨none, 0, by rw [h0], fun j p hj => by rw [List.length_eq_zero_iff.1 h0] at hj; simp at hj⟩
  · refine ⟨_, cap, rfl, fun j p hj => ⟨g, rfl, ?_, ?_⟩⟩
    · have hl := (List.getElem?_eq_some_iff.1 hj).1
      have := (cellsR_at hj).1
      rw [← h6, List.getElem?_take, if_pos (by omega)] at this
      simpa [World.cell?, hh] using this
    · have hl := (List.getElem?_eq_some_iff.1 hj).1
      have := (cellsR_at hj).2
      rw [← h6, List.getElem?_take, if_pos (by omega)] at this
      simpa [World.cell?, hh] using this
end Go.Proofs.Ytebppdcnfbflkaa

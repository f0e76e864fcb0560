/-
  Pieces with values of the type float64: how they lie in memory.
-/
import Derived.Test.YtebppdcnfbflkaaPRow
import Derived.Test.YtebppdcnfbflkaaPMath2
import Derived.Test.YtebppdcnfbflkaaRows
import Derived.WalkKit
import Derived.WalkSpells
import Derived.WalkLawsBesides
import Derived.Handy
import Derived.PlainAid
import Derived.Deep.QuietTactic
namespace Go.Proofs.Ytebppdcnfbflkaa.VF
open Go.RowKit Go.PlainAid Go.Lib Go.PRow
@[go_sem] theorem run_store_float {P : Program} {w : World} {a : Addr} {m : Mode} (k : FloatKind) (b : Nat) : (store a (.float k b) m).run P w = stored P w a (.float k b) m := run_store P w a _ m rfl

theorem infoP : (Try.prog.info? 115).map (fun i => (i.zero, i.size, i.bytes)) = some (some (.agg #[.int .i32 0, .int .i32 0, Value.float .f64 0]), 3, 16) := by kernel_rfl
theorem sizeP3 : (Try.prog.info? 115).map (·.size) = some 3 := by kernel_rfl

/-- the cells of pieces -/
def cellsP (ps : List (Pc Nat)) : List Value := ps.flatMap fun p => [.int .i32 p.lo, .int .i32 p.hi, Value.float .f64 p.val]
theorem cellsP_len (ps : List (Pc Nat)) : (cellsP ps).length = ps.length * 3 := by
  induction ps with
  | nil => rfl
  | cons p ps ih => simp only [cellsP, List.flatMap_cons, List.length_append, List.length_cons, List.length_nil] at ih ⊢; omega
theorem cellsP_append (a b : List (Pc Nat)) : cellsP (a ++ b) = cellsP a ++ cellsP b := by simp [cellsP]
theorem cellsP_one (ps : List (Pc Nat)) : ∀ v ∈ cellsP ps, v.oneCell' = true := by
  intro v hv
  simp only [cellsP, List.mem_flatMap] at hv
  obtain ⟨p, _, hv⟩ := hv
  simp at hv
  rcases hv with rfl | rfl | rfl <;> rfl
theorem cellsP_take (ps : List (Pc Nat)) : ∀ k, (cellsP ps).take (k * 3) = cellsP (ps.take k) := by
  induction ps with
  | nil => intro k; simp [cellsP]
  | cons p ps ih =>
    intro k
    cases k with
    | zero => simp [cellsP]
    | succ k =>
      have := ih k
      simp only [cellsP, List.flatMap_cons, List.take_succ_cons] at this ⊢
      rw [show (k + 1) * 3 = k * 3 + 1 + 1 + 1 by omega]
      simp only [List.cons_append, List.nil_append, List.take_succ_cons, this]
theorem cellsP_drop (ps : List (Pc Nat)) : ∀ k, (cellsP ps).drop (k * 3) = cellsP (ps.drop k) := by
  induction ps with
  | nil => intro k; simp [cellsP]
  | cons p ps ih =>
    intro k
    cases k with
    | zero => simp [cellsP]
    | succ k =>
      have := ih k
      simp only [cellsP, List.flatMap_cons, List.drop_succ_cons] at this ⊢
      rw [show (k + 1) * 3 = k * 3 + 1 + 1 + 1 by omega]
      simp only [List.cons_append, List.nil_append, List.drop_succ_cons, this]
theorem cellsP_at (ps : List (Pc Nat)) : ∀ (i : Nat) (p : Pc Nat), ps[i]? = some p → (cellsP ps)[i * 3]? = some (.int .i32 p.lo) ∧ (cellsP ps)[i * 3 + 1]? = some (.int .i32 p.hi) ∧ (cellsP ps)[i * 3 + 2]? = some (Value.float .f64 p.val) := by
  induction ps with
  | nil => intro i p h; simp at h
  | cons q ps ih =>
    intro i p h
    cases i with
    | zero =>
      simp at h; subst h
      simp [cellsP]
    | succ i =>
      have := ih i p (by simpa using h)
      simp only [cellsP, List.flatMap_cons] at this ⊢
      rw [show (i + 1) * 3 = i * 3 + 1 + 1 + 1 by omega]
      simpa using this

/-- a slice of pieces -/
def RowP (W : World) (B : Nat) (v : Value) (ps : List (Pc Nat)) : Prop := RowV W B 115 3 v ps.length (cellsP ps)

/-- what one reads of it -/
theorem RowP.form {W : World} {B : Nat} {v : Value} {ps : List (Pc Nat)} (h : RowP W B v ps) : ∃ a cap, v = .slice a ps.length cap ∧ ps.length ≤ cap ∧ cap ≤ maxLen ∧ (a = none → ps = []) ∧
    (ps ≠ [] → ∃ g, a = some ⟨g, 0, none⟩ ∧ blk v = some g ∧ B ≤ g ∧ g < W.heap.size ∧ ∀ i p, ps[i]? = some p → W.cell? ⟨g, i * 3, none⟩ = some (.int .i32 p.lo) ∧ W.cell? ⟨g, i * 3 + 1, none⟩ = some (.int .i32 p.hi) ∧ W.cell? ⟨g, i * 3 + 2, none⟩ = some (Value.float .f64 p.val)) := by
  rcases h.2 with ⟨a, rfl, hn⟩ | ⟨g, cap, cur, rfl, hb, hh, hc, hm, hs, ht⟩
  · have e : ps = [] := List.length_eq_zero_iff.1 hn
    subst e
    exact ⟨a, 0, rfl, Nat.le_refl _, Nat.zero_le _, fun _ => rfl, fun h => absurd rfl h⟩
  · refine ⟨_, cap, rfl, hc, hm, fun h => (by cases h), fun hne => ⟨g, rfl, ?_, hb, (Array.getElem?_eq_some_iff.1 hh).1, fun i p hp => ?_⟩⟩
    · cases cap with
      | zero => exact absurd (List.length_eq_zero_iff.1 (by omega)) hne
      | succ c => rfl
    · obtain ⟨c1, c2, c3⟩ := cellsP_at ps i p hp
      have hm2 : ps.length * 3 ≤ cur.size := by rw [hs]; exact Nat.mul_le_mul_right _ hc
      exact ⟨row_cell hh ht hm2 _ _ c1, row_cell hh ht hm2 _ _ c2, row_cell hh ht hm2 _ _ c3⟩

theorem RowP.below {W W' : World} {B : Nat} {v : Value} {ps : List (Pc Nat)} (h : RowP W B v ps) (hb : Below W.heap.size W W') : RowP W' B v ps := RowV.below h hb
theorem RowP.kept {W W' : World} {B : Nat} {v : Value} {ps : List (Pc Nat)} (h : RowP W B v ps) (hb : ∀ g, blk v = some g → W'.heap[g]? = W.heap[g]?) : RowP W' B v ps := RowV.kept h hb

/-- a map that lies at the block b, with its slice -/
def IsMap (W : World) (b : Nat) (v : Value) : Prop := W.heap[b]? = some (.cells #[.bool true, v] 112 (0, 0))
theorem IsMap.c0 {W : World} {b : Nat} {v : Value} (h : IsMap W b v) : W.cell? ⟨b, 0, none⟩ = some (.bool true) := by
  have h' : W.heap[b]? = _ := h
  simp [World.cell?, h']
theorem IsMap.c1 {W : World} {b : Nat} {v : Value} (h : IsMap W b v) : W.cell? ⟨b, 1, none⟩ = some v := by
  have h' : W.heap[b]? = _ := h
  simp [World.cell?, h']
theorem IsMap.f1 {W : World} {b : Nat} {v : Value} (h : IsMap W b v) : W.frozen? ⟨b, 1, none⟩ = false := by
  have h' : W.heap[b]? = _ := h
  simp [World.frozen?, h']
theorem IsMap.lt {W : World} {b : Nat} {v : Value} (h : IsMap W b v) : b < W.heap.size := (Array.getElem?_eq_some_iff.1 h).1
theorem IsMap.below {W W' : World} {b : Nat} {v : Value} (h : IsMap W b v) (hb : Below W.heap.size W W') : IsMap W' b v := (hb.block b h.lt).trans h
theorem IsMap.apart {W : World} {B b : Nat} {v u : Value} {ps : List (Pc Nat)} (h : IsMap W b v) (hr : RowP W B u ps) : blk u ≠ some b := by
  intro e
  have h' : W.heap[b]? = _ := h
  rcases hr.2 with ⟨a, rfl, hn⟩ | ⟨g, cap, cur, rfl, hb, hh, hc, hm, hs, ht⟩
  · rw [blk_zero] at e; cases e
  · cases cap with
    | zero => rw [blk_zero] at e; cases e
    | succ c =>
      cases e
      rw [h'] at hh
      cases hh
end Go.Proofs.Ytebppdcnfbflkaa.VF

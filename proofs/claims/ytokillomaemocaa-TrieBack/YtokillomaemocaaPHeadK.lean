/-
  Pieces with values of the type uint8: how they lie in memory.
-/
import Derived.Test.YtokillomaemocaaTrQa
import Derived.Test.YtokillomaemocaaChecked
import Derived.WalkKit
import Derived.WalkSpells
import Derived.WalkLawsBesides
import Derived.Handy
import Derived.PlainAid
import Derived.Deep.QuietTactic
namespace Go.Proofs.Ytokillomaemocaa.VK
open Go.RowKit Go.PlainAid Go.Lib Go.PRow

theorem infoP : (Try.prog.info? 72).map (fun i => (i.zero, i.size, i.bytes)) = some (some (.agg #[.int .i32 0, .int .i32 0, Value.int .u8 0]), 3, 12) := by kernel_rfl
theorem sizeP3 : (Try.prog.info? 72).map (·.size) = some 3 := by kernel_rfl

/-- the cells of pieces -/
def cellsP (ps : List (Pc Int)) : List Value := ps.flatMap fun p => [.int .i32 p.lo, .int .i32 p.hi, Value.int .u8 p.val]
theorem cellsP_len (ps : List (Pc Int)) : (cellsP ps).length = ps.length * 3 := by
  induction ps with
  | nil => rfl
  | cons p ps ih => simp only [cellsP, List.flatMap_cons, List.length_append, List.length_cons, List.length_nil] at ih ⊢; omega
theorem cellsP_append (a b : List (Pc Int)) : cellsP (a ++ b) = cellsP a ++ cellsP b := by simp [cellsP]
theorem cellsP_one (ps : List (Pc Int)) : ∀ v ∈ cellsP ps, v.oneCell' = true := by
  intro v hv
  simp only [cellsP, List.mem_flatMap] at hv
  obtain ⟨p, _, hv⟩ := hv
  simp at hv
  rcases hv with rfl | rfl | rfl <;> rfl
theorem cellsP_take (ps : List (Pc Int)) : ∀ k, (cellsP ps).take (k * 3) = cellsP (ps.take k) := by
  induction ps with
  | nil => intro k; simp [cellsP]
  | cons p ps ih =>
    intro k
    cases k with
    | zero => simp [cellsP]
    | succ k =>
      have := ih k
      simp only [cellsP, List.flatMap_cons, List.take_succ_cons] at this ⊢
      rw [show (k + 1) * 3 = k * 3 + 1 + 1 + 1 by omega]
      simp only [List.cons_append, List.nil_append, List.take_succ_cons, this]
theorem cellsP_drop (ps : List (Pc Int)) : ∀ k, (cellsP ps).drop (k * 3) = cellsP (ps.drop k) := by
  induction ps with
  | nil => intro k; simp [cellsP]
  | cons p ps ih =>
    intro k
    cases k with
    | zero => simp [cellsP]
    | succ k =>
      have := ih k
      simp only [cellsP, List.flatMap_cons, List.drop_succ_cons] at this ⊢
      rw [show (k + 1) * 3 = k * 3 + 1 + 1 + 1 by omega]
      simp only [List.cons_append, List.nil_append, List.drop_succ_cons, this]
theorem cellsP_at (ps : List (Pc Int)) : ∀ (i : Nat) (p : Pc Int), ps[i]? = some p → (cellsP ps)[i * 3]? = some (.int .i32 p.lo) ∧ (cellsP ps)[i * 3 + 1]? = some (.int .i32 p.hi) ∧ (cellsP ps)[i * 3 + 2]? = some (Value.int .u8 p.val) := by
  induction ps with
  | nil => intro i p h; simp at h
  | cons q ps ih =>
    intro i p h
    cases i with
    | zero =>
      simp at h; subst h
      simp [cellsP]
    | succ i =>
      have := ih i p (by simpa using h)
      simp only [cellsP, List.flatMap_cons] at this ⊢
      rw [show (i + 1) * 3 = i * 3 + 1 + 1 + 1 by omega]
      simpa using this

/-- a slice of pieces -/
def RowP (W : World) (B : Nat) (v : Value) (ps : List (Pc Int)) : Prop := RowV W B 72 3 v ps.length (cellsP ps)

/-- what one reads of it -/
theorem RowP.form {W : World} {B : Nat} {v : Value} {ps : List (Pc Int)} (h : RowP W B v ps) : ∃ a cap, v = .slice a ps.length cap ∧ ps.length ≤ cap ∧ cap ≤ maxLen ∧ (a = none → ps = []) ∧
    (ps ≠ [] → ∃ g, a = some ⟨g, 0, none⟩ ∧ blk v = some g ∧ B ≤ g ∧ g < W.heap.size ∧ ∀ i p, ps[i]? = some p → W.cell? ⟨g, i * 3, none⟩ = some (.int .i32 p.lo) ∧ W.cell? ⟨g, i * 3 + 1, none⟩ = some (.int .i32 p.hi) ∧ W.cell? ⟨g, i * 3 + 2, none⟩ = some (Value.int .u8 p.val)) := by
  rcases h.2 with ⟨a, rfl, hn⟩ | ⟨g, cap, cur, rfl, hb, hh, hc, hm, hs, ht⟩
  · have e : ps = [] := List.length_eq_zero_iff.1 hn
    subst e
    exact ⟨a, 0, rfl, Nat.le_refl _, Nat.zero_le _, fun _ => rfl, fun h => absurd rfl h⟩
  · refine ⟨_, cap, rfl, hc, hm, fun h => (by cases h), fun hne => ⟨g, rfl, ?_, hb, (Array.getElem?_eq_some_iff.1 hh).1, fun i p hp => ?_⟩⟩
    · cases cap with
      | zero => exact absurd (List.length_eq_zero_iff.1 (by omega)) hne
      | succ c => rfl
    · obtain ⟨c1, c2, c3⟩ := cellsP_at ps i p hp
      have hm2 : ps.length * 3 ≤ cur.size := by rw [hs]; exact Nat.mul_le_mul_right _ hc
      exact ⟨row_cell hh ht hm2 _ _ c1, row_cell hh ht hm2 _ _ c2, row_cell hh ht hm2 _ _ c3⟩

theorem RowP.below {W W' : World} {B : Nat} {v : Value} {ps : List (Pc Int)} (h : RowP W B v ps) (hb : Below W.heap.size W W') : RowP W' B v ps := RowV.below h hb
theorem RowP.kept {W W' : World} {B : Nat} {v : Value} {ps : List (Pc Int)} (h : RowP W B v ps) (hb : ∀ g, blk v = some g → W'.heap[g]? = W.heap[g]?) : RowP W' B v ps := RowV.kept h hb

end Go.Proofs.Ytokillomaemocaa.VK

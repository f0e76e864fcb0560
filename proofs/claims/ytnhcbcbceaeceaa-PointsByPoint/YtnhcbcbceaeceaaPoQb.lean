/-
  These texts, one behind the other: PHeadS, PSmallS, PJoinS.
-/
import Derived.Test.YtnhcbcbceaeceaaPoQa
import Derived.Test.YtnhcbcbceaeceaaChecked
import Derived.WalkKit
import Derived.WalkSpells
import Derived.WalkLawsBesides
import Derived.Handy
import Derived.PlainAid
import Derived.Deep.QuietTactic
import Derived.Test.YtnhcbcbceaeceaaPMay
import Derived.Tactics
import Derived.Tactics2
import Derived.Defers
import Derived.Recover
import Derived.Test.YtnhcbcbceaeceaaPShelf
/-
  Pieces with values of the type string: how they lie in memory.
-/
namespace Go.Proofs.Ytnhcbcbceaeceaa.VS
open Go.RowKit Go.PlainAid Go.Lib Go.PRow

theorem infoP : (Try.prog.info? 77).map (fun i => (i.zero, i.size, i.bytes)) = some (some (.agg #[.int .i32 0, .int .i32 0, Value.string ⟨#[]⟩]), 3, 24) := by kernel_rfl
theorem sizeP3 : (Try.prog.info? 77).map (·.size) = some 3 := by kernel_rfl

/-- the cells of pieces -/
def cellsP (ps : List (Pc ByteArray)) : List Value := ps.flatMap fun p => [.int .i32 p.lo, .int .i32 p.hi, Value.string p.val]
theorem cellsP_len (ps : List (Pc ByteArray)) : (cellsP ps).length = ps.length * 3 := by
  induction ps with
  | nil => rfl
  | cons p ps ih => simp only [cellsP, List.flatMap_cons, List.length_append, List.length_cons, List.length_nil] at ih ⊢; omega
theorem cellsP_append (a b : List (Pc ByteArray)) : cellsP (a ++ b) = cellsP a ++ cellsP b := by simp [cellsP]
theorem cellsP_one (ps : List (Pc ByteArray)) : ∀ v ∈ cellsP ps, v.oneCell' = true := by
  intro v hv
  simp only [cellsP, List.mem_flatMap] at hv
  obtain ⟨p, _, hv⟩ := hv
  simp at hv
  rcases hv with rfl | rfl | rfl <;> rfl
theorem cellsP_take (ps : List (Pc ByteArray)) : ∀ k, (cellsP ps).take (k * 3) = cellsP (ps.take k) := by
  induction ps with
  | nil => intro k; simp [cellsP]
  | cons p ps ih =>
    intro k
    cases k with
    | zero => simp [cellsP]
    | succ k =>
      have := ih k
      simp only [cellsP, List.flatMap_cons, List.take_succ_cons] at this ⊢
      rw [show (k + 1) * 3 = k * 3 + 1 + 1 + 1 by omega]
      simp only [List.cons_append, List.nil_append, List.take_succ_cons, this]
theorem cellsP_drop (ps : List (Pc ByteArray)) : ∀ k, (cellsP ps).drop (k * 3) = cellsP (ps.drop k) := by
  induction ps with
  | nil => intro k; simp [cellsP]
  | cons p ps ih =>
    intro k
    cases k with
    | zero => simp [cellsP]
    | succ k =>
      have := ih k
      simp only [cellsP, List.flatMap_cons, List.drop_succ_cons] at this ⊢
      rw [show (k + 1) * 3 = k * 3 + 1 + 1 + 1 by omega]
      simp only [List.cons_append, List.nil_append, List.drop_succ_cons, this]
theorem cellsP_at (ps : List (Pc ByteArray)) : ∀ (i : Nat) (p : Pc ByteArray), ps[i]? = some p → (cellsP ps)[i * 3]? = some (.int .i32 p.lo) ∧ (cellsP ps)[i * 3 + 1]? = some (.int .i32 p.hi) ∧ (cellsP ps)[i * 3 + 2]? = some (Value.string p.val) := by
  induction ps with
  | nil => intro i p h; simp at h
  | cons q ps ih =>
    intro i p h
    cases i with
    | zero =>
      simp at h; subst h
      simp [cellsP]
    | succ i =>
      have := ih i p (by simpa using h)
      simp only [cellsP, List.flatMap_cons] at this ⊢
      rw [show (i + 1) * 3 = i * 3 + 1 + 1 + 1 by omega]
      simpa using this

/-- a slice of pieces -/
def RowP (W : World) (B : Nat) (v : Value) (ps : List (Pc ByteArray)) : Prop := RowV W B 77 3 v ps.length (cellsP ps)

/-- what one reads of it -/
theorem RowP.form {W : World} {B : Nat} {v : Value} {ps : List (Pc ByteArray)} (h : RowP W B v ps) : ∃ a cap, v = .slice a ps.length cap ∧ ps.length ≤ cap ∧ cap ≤ maxLen ∧ (a = none → ps = []) ∧
    (ps ≠ [] → ∃ g, a = some ⟨g, 0, none⟩ ∧ blk v = some g ∧ B ≤ g ∧ g < W.heap.size ∧ ∀ i p, ps[i]? = some p → W.cell? ⟨g, i * 3, none⟩ = some (.int .i32 p.lo) ∧ W.cell? ⟨g, i * 3 + 1, none⟩ = some (.int .i32 p.hi) ∧ W.cell? ⟨g, i * 3 + 2, none⟩ = some (Value.string p.val)) := by
  rcases h.2 with ⟨a, rfl, hn⟩ | ⟨g, cap, cur, rfl, hb, hh, hc, hm, hs, ht⟩
  · have e : ps = [] := List.length_eq_zero_iff.1 hn
    subst e
    exact ⟨a, 0, rfl, Nat.le_refl _, Nat.zero_le _, fun _ => rfl, fun h => absurd rfl h⟩
  · refine ⟨_, cap, rfl, hc, hm, fun h => (by cases h), fun hne => ⟨g, rfl, ?_, hb, (Array.getElem?_eq_some_iff.1 hh).1, fun i p hp => ?_⟩⟩
    · cases cap with
      | zero => exact absurd (List.length_eq_zero_iff.1 (by omega)) hne
      | succ c => rfl
    · obtain ⟨c1, c2, c3⟩ := cellsP_at ps i p hp
      have hm2 : ps.length * 3 ≤ cur.size := by rw [hs]; exact Nat.mul_le_mul_right _ hc
      exact ⟨row_cell hh ht hm2 _ _ c1, row_cell hh ht hm2 _ _ c2, row_cell hh ht hm2 _ _ c3⟩

theorem RowP.below {W W' : World} {B : Nat} {v : Value} {ps : List (Pc ByteArray)} (h : RowP W B v ps) (hb : Below W.heap.size W W') : RowP W' B v ps := RowV.below h hb
theorem RowP.kept {W W' : World} {B : Nat} {v : Value} {ps : List (Pc ByteArray)} (h : RowP W B v ps) (hb : ∀ g, blk v = some g → W'.heap[g]? = W.heap[g]?) : RowP W' B v ps := RowV.kept h hb

/-- a map that lies at the block b, with its slice -/
def IsMap (W : World) (b : Nat) (v : Value) : Prop := W.heap[b]? = some (.cells #[.bool true, v] 74 (0, 0))
theorem IsMap.c0 {W : World} {b : Nat} {v : Value} (h : IsMap W b v) : W.cell? ⟨b, 0, none⟩ = some (.bool true) := by
  have h' : W.heap[b]? = _ := h
  simp [World.cell?, h']
theorem IsMap.c1 {W : World} {b : Nat} {v : Value} (h : IsMap W b v) : W.cell? ⟨b, 1, none⟩ = some v := by
  have h' : W.heap[b]? = _ := h
  simp [World.cell?, h']
theorem IsMap.f1 {W : World} {b : Nat} {v : Value} (h : IsMap W b v) : W.frozen? ⟨b, 1, none⟩ = false := by
  have h' : W.heap[b]? = _ := h
  simp [World.frozen?, h']
theorem IsMap.lt {W : World} {b : Nat} {v : Value} (h : IsMap W b v) : b < W.heap.size := (Array.getElem?_eq_some_iff.1 h).1
theorem IsMap.below {W W' : World} {b : Nat} {v : Value} (h : IsMap W b v) (hb : Below W.heap.size W W') : IsMap W' b v := (hb.block b h.lt).trans h
theorem IsMap.apart {W : World} {B b : Nat} {v u : Value} {ps : List (Pc ByteArray)} (h : IsMap W b v) (hr : RowP W B u ps) : blk u ≠ some b := by
  intro e
  have h' : W.heap[b]? = _ := h
  rcases hr.2 with ⟨a, rfl, hn⟩ | ⟨g, cap, cur, rfl, hb, hh, hc, hm, hs, ht⟩
  · rw [blk_zero] at e; cases e
  · cases cap with
    | zero => rw [blk_zero] at e; cases e
    | succ c =>
      cases e
      rw [h'] at hh
      cases hh
end Go.Proofs.Ytnhcbcbceaeceaa.VS
/-
  The small functions of a map with values of the type string.
-/
namespace Go.Proofs.Ytnhcbcbceaeceaa.VS
open Go.RowKit Go.PlainAid Go.Lib Go.PRow

theorem absent_map (b : Nat) (v : Value) (w : World) (h : IsMap w b v) :
    Calls Try.prog 48 #[.pointer (some ⟨b, 0, none⟩)] w fun e w' => e = .returned (.bool false) ∧ w' = w := by
  have c0 := h.c0
  go_enter Try.func48, Try.ntmps48
  go_wp2
  go_ret
  exact ⟨rfl, rfl⟩

theorem held_map (b : Nat) (v : Value) (w : World) (h : IsMap w b v) :
    Calls Try.prog 33 #[.pointer (some ⟨b, 0, none⟩)] w fun e w' => e = .returned v ∧ w' = w := by
  have c1 := h.c1
  go_enter Try.func33, Try.ntmps33
  go_wp2
  go_ret
  exact ⟨rfl, rfl⟩

theorem refuses_map (b : Nat) (v : Value) (lo hi : Int) (w : World) (h : IsMap w b v) :
    Calls Try.prog 30 #[.pointer (some ⟨b, 0, none⟩), .agg #[.int .i32 lo, .int .i32 hi]] w fun e w' => e = .returned (.int .i64 (if mayB lo hi then 0 else 41)) ∧ Below w.heap.size w w' := by
  have hA := hide (fun W (h : IsMap W b v) => absent_map b v W h)
  have hM := hide (fun W => may_any lo hi W)
  have hw : IsMap (w.alloc (.cells #[.int .i32 lo, .int .i32 hi] 28)) b v := h.below (by go_grown)
  cases hm : mayB lo hi
  all_goals
    rw [hm] at hM
    go_enter Try.func30, Try.ntmps30
    go_wp2_with (first | (go_at_call 48; refine (unhide hA _ hw).mono ?_; rintro e w' ⟨rfl, rfl⟩) | (go_at_call 41; refine (unhide hM _).mono ?_; rintro e w' ⟨rfl, rfl⟩))
    go_ret
    exact ⟨by simp, by go_grown⟩

theorem holding_any (a : Option Addr) (n c : Nat) (w : World) :
    Calls Try.prog 29 #[.slice a n c] w fun e w' => e = .returned (.pointer (some ⟨w.heap.size, 0, none⟩)) ∧ w' = w.alloc (.cells #[.bool true, .slice a n c] 74) := by
  go_enter Try.func29, Try.ntmps29
  go_wp2
  all_goals go_ret
  all_goals exact ⟨rfl, rfl⟩

theorem new_any (w : World) :
    Calls Try.prog 11 #[] w fun e w' => e = .returned (.pointer (some ⟨w.heap.size, 0, none⟩)) ∧ w' = w.alloc (.cells #[.bool true, .slice none 0 0] 74) := by
  go_enter Try.func11, Try.ntmps11
  go_wp2_with (go_at_call 29; refine (holding_any _ _ _ _).mono ?_; rintro e w' ⟨rfl, rfl⟩)
  go_ret
  exact ⟨rfl, rfl⟩
end Go.Proofs.Ytnhcbcbceaeceaa.VS
/-
  alike and join: whether two pieces are of one stretch.
-/
namespace Go.Proofs.Ytnhcbcbceaeceaa.VS
open Go.RowKit Go.PlainAid Go.Lib Go.PRow

def eqv (a b : ByteArray) : Bool := decide (a = b)
theorem eqv_str (a b : ByteArray) : (a.toList == b.toList) = decide (a = b) := by
  by_cases h : a = b
  · subst h; simp
  · rw [decide_eq_false h]
    refine beq_eq_false_iff_ne.2 fun e => h ?_
    rw [Go.Lib.toList_data, Go.Lib.toList_data] at e
    cases a; cases b
    congr
    simpa using e

theorem alike1 (w : World) :
    CallsD Try.prog 79 #[] .returning w fun e u' w' => e = .returned (.tuple #[]) ∧ u' = .returning ∧ w' = w := by
  refine callsD_of_wpS Try.func79 rfl fun c₀ cs hu => ?_
  apply wpS_region
  simp [wpOpsS, go_sem, recoverD, hu, Try.ntmps79, bodyPostS, results, Try.results79]
  cases c₀
  simp_all

theorem alike_any (a b : ByteArray) (w : World) :
    Calls Try.prog 71 #[Value.string a, Value.string b] w fun e w' => e = .returned (.bool (eqv a b)) ∧ w' = w := by
  go_enter_defers Try.func71, Try.ntmps71
  go_wp2
  refine leaves_cons (f := 79) (args := #[]) (by simp) (by simp [go_sem]) ?_
  refine (alike1 _).mono ?_
  rintro e u' w'' ⟨rfl, rfl, rfl⟩
  simp [Leaves, settle, results, Try.results71, go_sem]
  first | done | exact eqv_str a b | (unfold eqv; rfl) | (unfold eqv; simp)

theorem join_any (a b : Pc ByteArray) (ha : 0 ≤ a.hi ∧ a.hi ≤ 1114111) (w : World) :
    Calls Try.prog 54 #[.agg #[.int .i32 a.lo, .int .i32 a.hi, Value.string a.val], .agg #[.int .i32 b.lo, .int .i32 b.hi, Value.string b.val]] w fun e w' => e = .returned (.bool (decide (a.hi + 1 = b.lo) && eqv a.val b.val)) ∧ Below w.heap.size w w' := by
  obtain ⟨l1, h1, v1⟩ := a
  obtain ⟨l2, h2, v2⟩ := b
  simp only at ha ⊢
  obtain ⟨k1, k2⟩ := ha
  have HA := hide (fun W => alike_any v1 v2 W)
  have hw : IntKind.i32.wrap (h1 + 1) = h1 + 1 := by rw [IntKind.wrap_i32]; omega
  generalize eqv v1 v2 = q at HA ⊢
  by_cases h : h1 + 1 = l2
  all_goals
    go_enter Try.func54, Try.ntmps54
    go_wp2_with (go_at_call 71; refine (unhide HA _).mono ?_; rintro e w' ⟨rfl, rfl⟩)
    go_ret
    exact ⟨by simp [h], by go_grown⟩
end Go.Proofs.Ytnhcbcbceaeceaa.VS

/-
  These texts, one behind the other: PJoinC, PSizeC.
-/
import Derived.Test.YthgaadjkjnibaaaGreatDoorPc
import Derived.Tactics
import Derived.Tactics2
import Derived.Defers
import Derived.Recover
import Derived.Test.YthgaadjkjnibaaaGreatDoorPs
import Derived.Test.YthgaadjkjnibaaaGreatDoorPe
/-
  alike and join: whether two pieces are of one stretch.
-/
namespace Go.Proofs.YthgaadjkjnibaaaGreatDoor.VC
open Go.RowKit Go.PlainAid Go.Lib Go.PRow

def eqv (a b : Int) : Bool := decide (a = b)
theorem eqv_str (a b : ByteArray) : (a.toList == b.toList) = decide (a = b) := by
  by_cases h : a = b
  · subst h; simp
  · rw [decide_eq_false h]
    refine beq_eq_false_iff_ne.2 fun e => h ?_
    rw [Go.Lib.toList_data, Go.Lib.toList_data] at e
    cases a; cases b
    congr
    simpa using e

theorem alike1 (w : World) :
    CallsD Tryz.prog 180 #[] .returning w fun e u' w' => e = .returned (.tuple #[]) ∧ u' = .returning ∧ w' = w := by
  refine callsD_of_wpS Tryz.func180 rfl fun c₀ cs hu => ?_
  apply wpS_region
  simp [wpOpsS, go_sem, recoverD, hu, Tryz.ntmps180, bodyPostS, results, Tryz.results180]
  cases c₀
  simp_all

theorem alike_any (a b : Int) (w : World) :
    Calls Tryz.prog 141 #[Value.int .u8 a, Value.int .u8 b] w fun e w' => e = .returned (.bool (eqv a b)) ∧ w' = w := by
  go_enter_defers Tryz.func141, Tryz.ntmps141
  go_wp2
  refine leaves_cons (f := 180) (args := #[]) (by simp) (by simp [go_sem]) ?_
  refine (alike1 _).mono ?_
  rintro e u' w'' ⟨rfl, rfl, rfl⟩
  simp [Leaves, settle, results, Tryz.results141, go_sem]
  first | done | exact eqv_str a b | (unfold eqv; rfl) | (unfold eqv; simp)

theorem join_any (a b : Pc Int) (ha : 0 ≤ a.hi ∧ a.hi ≤ 1114111) (w : World) :
    Calls Tryz.prog 99 #[.agg #[.int .i32 a.lo, .int .i32 a.hi, Value.int .u8 a.val], .agg #[.int .i32 b.lo, .int .i32 b.hi, Value.int .u8 b.val]] w fun e w' => e = .returned (.bool (decide (a.hi + 1 = b.lo) && eqv a.val b.val)) ∧ Below w.heap.size w w' := by
  obtain ⟨l1, h1, v1⟩ := a
  obtain ⟨l2, h2, v2⟩ := b
  simp only at ha ⊢
  obtain ⟨k1, k2⟩ := ha
  have HA := hide (fun W => alike_any v1 v2 W)
  have hw : IntKind.i32.wrap (h1 + 1) = h1 + 1 := by rw [IntKind.wrap_i32]; omega
  generalize eqv v1 v2 = q at HA ⊢
  by_cases h : h1 + 1 = l2
  all_goals
    go_enter Tryz.func99, Tryz.ntmps99
    go_wp2_with (go_at_call 141; refine (unhide HA _).mono ?_; rintro e w' ⟨rfl, rfl⟩)
    go_ret
    exact ⟨by simp [h], by go_grown⟩
end Go.Proofs.YthgaadjkjnibaaaGreatDoor.VC
/-
  size, and Size of a map.
-/
namespace Go.Proofs.YthgaadjkjnibaaaGreatDoor.VC
open Go.RowKit Go.PlainAid Go.Lib Go.PRow Go.Shelf
set_option linter.unusedVariables false
set_option linter.unusedSimpArgs false

theorem sizeP_bound {ps : List (Pc Int)} (o : OkP ps) : 0 ≤ sizeP ps ∧ sizeP ps ≤ 1114112 := by
  have key : ∀ (ps : List (Pc Int)) (a : Int), OkP ps → (∀ p ∈ ps, a ≤ p.lo) → a ≤ 1114112 → 0 ≤ sizeP ps ∧ sizeP ps ≤ 1114112 - a := by
    intro ps
    induction ps with
    | nil => intro a _ _ h; simp [sizeP]; omega
    | cons p ps ih =>
      intro a o h ha
      have k := o.head
      have := ih (p.hi + 1) o.tail (fun q hq => by have := o.next q hq; omega) (by omega)
      have := h p List.mem_cons_self
      simp only [sizeP]
      omega
  have := key ps 0 o (fun p hp => (o.2 p hp).1) (by omega)
  omega
theorem okP_take {ps : List (Pc Int)} (o : OkP ps) (i : Nat) : OkP (ps.take i) := ⟨o.1.sublist (List.take_sublist _ _), fun p hp => o.2 p (List.mem_of_mem_take hp)⟩
theorem sizeP_take (ps : List (Pc Int)) (i : Nat) (p : Pc Int) (h : ps[i]? = some p) : sizeP (ps.take (i + 1)) = sizeP (ps.take i) + (p.hi - p.lo + 1) := by
  rw [List.take_add_one, h]
  simp [sizeP_append, sizeP]

end Go.Proofs.YthgaadjkjnibaaaGreatDoor.VC

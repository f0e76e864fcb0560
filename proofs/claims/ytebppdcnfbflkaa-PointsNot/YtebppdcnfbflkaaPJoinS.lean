/-
  alike and join: whether two pieces are of one stretch.
-/
import Derived.Test.YtebppdcnfbflkaaPSmallS
import Derived.Tactics
import Derived.Tactics2
import Derived.Defers
import Derived.Recover
import Derived.Test.YtebppdcnfbflkaaPShelf
namespace Go.Proofs.Ytebppdcnfbflkaa.VS
open Go.RowKit Go.PlainAid Go.Lib Go.PRow

def eqv (a b : ByteArray) : Bool := decide (a = b)
theorem eqv_str (a b : ByteArray) : (a.toList == b.toList) = decide (a = b) := by
  by_cases h : a = b
  · subst h; simp
  · rw [decide_eq_false h]
    refine beq_eq_false_iff_ne.2 fun e => h ?_
    rw [Go.Lib.toList_data, Go.Lib.toList_data] at e
    cases a; cases b
    congr
    simpa using e

theorem alike1 (w : World) :
    CallsD Try.prog 144 #[] .returning w fun e u' w' => e = .returned (.tuple #[]) ∧ u' = .returning ∧ w' = w := by
  refine callsD_of_wpS Try.func144 rfl fun c₀ cs hu => ?_
  apply wpS_region
  simp [wpOpsS, go_sem, recoverD, hu, Try.ntmps144, bodyPostS, results, Try.results144]
  cases c₀
  simp_all

theorem alike_any (a b : ByteArray) (w : World) :
    Calls Try.prog 130 #[Value.string a, Value.string b] w fun e w' => e = .returned (.bool (eqv a b)) ∧ w' = w := by
  go_enter_defers Try.func130, Try.ntmps130
  go_wp2
  refine leaves_cons (f := 144) (args := #[]) (by simp) (by simp [go_sem]) ?_
  refine (alike1 _).mono ?_
  rintro e u' w'' ⟨rfl, rfl, rfl⟩
  simp [Leaves, settle, results, Try.results130, go_sem]
  first | done | exact eqv_str a b | (unfold eqv; rfl) | (unfold eqv; simp)

theorem join_any (a b : Pc ByteArray) (ha : 0 ≤ a.hi ∧ a.hi ≤ 1114111) (w : World) :
    Calls Try.prog 103 #[.agg #[.int .i32 a.lo, .int .i32 a.hi, Value.string a.val], .agg #[.int .i32 b.lo, .int .i32 b.hi, Value.string b.val]] w fun e w' => e = .returned (.bool (decide (a.hi + 1 = b.lo) && eqv a.val b.val)) ∧ Below w.heap.size w w' := by
  obtain ⟨l1, h1, v1⟩ := a
  obtain ⟨l2, h2, v2⟩ := b
  simp only at ha ⊢
  obtain ⟨k1, k2⟩ := ha
  have HA := hide (fun W => alike_any v1 v2 W)
  have hw : IntKind.i32.wrap (h1 + 1) = h1 + 1 := by rw [IntKind.wrap_i32]; omega
  generalize eqv v1 v2 = q at HA ⊢
  by_cases h : h1 + 1 = l2
  all_goals
    go_enter Try.func103, Try.ntmps103
    go_wp2_with (go_at_call 130; refine (unhide HA _).mono ?_; rintro e w' ⟨rfl, rfl⟩)
    go_ret
    exact ⟨by simp [h], by go_grown⟩
end Go.Proofs.Ytebppdcnfbflkaa.VS

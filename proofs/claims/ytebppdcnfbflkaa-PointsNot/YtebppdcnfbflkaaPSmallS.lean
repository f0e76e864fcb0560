/-
  The small functions of a map with values of the type string.
-/
import Derived.Test.YtebppdcnfbflkaaPHeadS
import Derived.Test.YtebppdcnfbflkaaPMay
namespace Go.Proofs.Ytebppdcnfbflkaa.VS
open Go.RowKit Go.PlainAid Go.Lib Go.PRow

theorem absent_map (b : Nat) (v : Value) (w : World) (h : IsMap w b v) :
    Calls Try.prog 97 #[.pointer (some ⟨b, 0, none⟩)] w fun e w' => e = .returned (.bool false) ∧ w' = w := by
  have c0 := h.c0
  go_enter Try.func97, Try.ntmps97
  go_wp2
  go_ret
  exact ⟨rfl, rfl⟩

theorem held_map (b : Nat) (v : Value) (w : World) (h : IsMap w b v) :
    Calls Try.prog 71 #[.pointer (some ⟨b, 0, none⟩)] w fun e w' => e = .returned v ∧ w' = w := by
  have c1 := h.c1
  go_enter Try.func71, Try.ntmps71
  go_wp2
  go_ret
  exact ⟨rfl, rfl⟩

theorem refuses_map (b : Nat) (v : Value) (lo hi : Int) (w : World) (h : IsMap w b v) :
    Calls Try.prog 68 #[.pointer (some ⟨b, 0, none⟩), .agg #[.int .i32 lo, .int .i32 hi]] w fun e w' => e = .returned (.int .i64 (if mayB lo hi then 0 else 41)) ∧ Below w.heap.size w w' := by
  have hA := hide (fun W (h : IsMap W b v) => absent_map b v W h)
  have hM := hide (fun W => may_any lo hi W)
  have hw : IsMap (w.alloc (.cells #[.int .i32 lo, .int .i32 hi] 28)) b v := h.below (by go_grown)
  cases hm : mayB lo hi
  all_goals
    rw [hm] at hM
    go_enter Try.func68, Try.ntmps68
    go_wp2_with (first | (go_at_call 97; refine (unhide hA _ hw).mono ?_; rintro e w' ⟨rfl, rfl⟩) | (go_at_call 79; refine (unhide hM _).mono ?_; rintro e w' ⟨rfl, rfl⟩))
    go_ret
    exact ⟨by simp, by go_grown⟩

theorem holding_any (a : Option Addr) (n c : Nat) (w : World) :
    Calls Try.prog 67 #[.slice a n c] w fun e w' => e = .returned (.pointer (some ⟨w.heap.size, 0, none⟩)) ∧ w' = w.alloc (.cells #[.bool true, .slice a n c] 124) := by
  go_enter Try.func67, Try.ntmps67
  go_wp2
  all_goals go_ret
  all_goals exact ⟨rfl, rfl⟩

theorem new_any (w : World) :
    Calls Try.prog 27 #[] w fun e w' => e = .returned (.pointer (some ⟨w.heap.size, 0, none⟩)) ∧ w' = w.alloc (.cells #[.bool true, .slice none 0 0] 124) := by
  go_enter Try.func27, Try.ntmps27
  go_wp2_with (go_at_call 67; refine (holding_any _ _ _ _).mono ?_; rintro e w' ⟨rfl, rfl⟩)
  go_ret
  exact ⟨rfl, rfl⟩
end Go.Proofs.Ytebppdcnfbflkaa.VS

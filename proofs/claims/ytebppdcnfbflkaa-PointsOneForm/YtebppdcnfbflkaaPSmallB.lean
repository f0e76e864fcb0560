/-
  The small functions of a map with values of the type bool.
-/
import Derived.Test.YtebppdcnfbflkaaPHeadB
import Derived.Test.YtebppdcnfbflkaaPMay
namespace Go.Proofs.Ytebppdcnfbflkaa.VB
open Go.RowKit Go.PlainAid Go.Lib Go.PRow

theorem absent_map (b : Nat) (v : Value) (w : World) (h : IsMap w b v) :
    Calls Try.prog 86 #[.pointer (some ⟨b, 0, none⟩)] w fun e w' => e = .returned (.bool false) ∧ w' = w := by
  have c0 := h.c0
  go_enter Try.func86, Try.ntmps86
  go_wp2
  go_ret
  exact ⟨rfl, rfl⟩

theorem held_map (b : Nat) (v : Value) (w : World) (h : IsMap w b v) :
    Calls Try.prog 54 #[.pointer (some ⟨b, 0, none⟩)] w fun e w' => e = .returned v ∧ w' = w := by
  have c1 := h.c1
  go_enter Try.func54, Try.ntmps54
  go_wp2
  go_ret
  exact ⟨rfl, rfl⟩

theorem refuses_map (b : Nat) (v : Value) (lo hi : Int) (w : World) (h : IsMap w b v) :
    Calls Try.prog 46 #[.pointer (some ⟨b, 0, none⟩), .agg #[.int .i32 lo, .int .i32 hi]] w fun e w' => e = .returned (.int .i64 (if mayB lo hi then 0 else 41)) ∧ Below w.heap.size w w' := by
  have hA := hide (fun W (h : IsMap W b v) => absent_map b v W h)
  have hM := hide (fun W => may_any lo hi W)
  have hw : IsMap (w.alloc (.cells #[.int .i32 lo, .int .i32 hi] 28)) b v := h.below (by go_grown)
  cases hm : mayB lo hi
  all_goals
    rw [hm] at hM
    go_enter Try.func46, Try.ntmps46
    go_wp2_with (first | (go_at_call 86; refine (unhide hA _ hw).mono ?_; rintro e w' ⟨rfl, rfl⟩) | (go_at_call 79; refine (unhide hM _).mono ?_; rintro e w' ⟨rfl, rfl⟩))
    go_ret
    exact ⟨by simp, by go_grown⟩

theorem holding_any (a : Option Addr) (n c : Nat) (w : World) :
    Calls Try.prog 45 #[.slice a n c] w fun e w' => e = .returned (.pointer (some ⟨w.heap.size, 0, none⟩)) ∧ w' = w.alloc (.cells #[.bool true, .slice a n c] 95) := by
  go_enter Try.func45, Try.ntmps45
  go_wp2
  all_goals go_ret
  all_goals exact ⟨rfl, rfl⟩

theorem new_any (w : World) :
    Calls Try.prog 14 #[] w fun e w' => e = .returned (.pointer (some ⟨w.heap.size, 0, none⟩)) ∧ w' = w.alloc (.cells #[.bool true, .slice none 0 0] 95) := by
  go_enter Try.func14, Try.ntmps14
  go_wp2_with (go_at_call 45; refine (holding_any _ _ _ _).mono ?_; rintro e w' ⟨rfl, rfl⟩)
  go_ret
  exact ⟨rfl, rfl⟩
end Go.Proofs.Ytebppdcnfbflkaa.VB

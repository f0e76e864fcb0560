/-
  Two numbers in a list, sorted.
-/
import Derived.Test.YtijiiapnbeljnaaGreatDoorBrK
import Derived.Test.YtijiiapnbeljnaaGreatDoorBrShelf
import Derived.BigRegion
namespace Go.Proofs.YtijiiapnbeljnaaGreatDoor
open Go.RowKit Go.PlainAid Go.Lib Go.Shelf
set_option linter.unusedVariables false
set_option linter.unusedSimpArgs false

theorem isNaN_any (x : Int) (w : World) : Calls Tryz.prog 170 #[.int .i32 x] w fun e w' => e = .returned (.bool false) ∧ w' = w := by
  go_enter Tryz.func170, Tryz.ntmps170
  go_wp2
  go_ret
  exact ⟨by simp, rfl⟩
theorem less_any (x y : Int) (w : World) : Calls Tryz.prog 134 #[.int .i32 x, .int .i32 y] w fun e w' => e = .returned (.bool (decide (x < y))) ∧ w' = w := by
  have HN := hide (fun W => isNaN_any x W)
  go_enter Tryz.func134, Tryz.ntmps134
  go_wp2_with (go_at_call 170; with_reducible refine (unhide HN _).mono ?_; rintro e w' ⟨rfl, rfl⟩)
  go_ret
  exact ⟨rfl, rfl⟩

set_option maxRecDepth 100000 in
set_option maxHeartbeats 1000000 in
theorem ins2_keep (x y : Int) (h : ¬ y < x) (g cap : Nat) (w : World) (c0 : w.cell? ⟨g, 0, none⟩ = some (.int .i32 x)) (c1 : w.cell? ⟨g, 1, none⟩ = some (.int .i32 y)) :
    Calls Tryz.prog 128 #[.slice (some ⟨g, 0, none⟩) 2 cap, .int .i64 0, .int .i64 2] w fun e w' => e = .returned (.tuple #[]) ∧ Below w.heap.size w w' := by
  have HL := hide (fun W => less_any y x W)
  rw [decide_eq_false h] at HL
  clear h
  go_enter Tryz.func128, Tryz.ntmps128
  go_wp2
  refine wp_loop_rounds 2 ?_
  rw [rounds_succ]
  go_wp2
  refine wp_loop_rounds 1 ?_
  rw [rounds_succ]
  go_wp2
  go_quiet (first | (go_at_call 134; refine Calls.quiet_of_same (unhide HL _)))
  go_wp2
  rw [rounds_succ]
  go_wp2
  refine bodyPost_end (results_none rfl _ _ _) rfl ?_
  exact ⟨rfl, bdrN (Below.refl _ _) _⟩

theorem swap2 {w : World} {g n m : Nat} {cur : Array Value} {T : TypeId} (hg : w.heap[g]? = some (.cells cur T (0, 0))) (hl : 2 ≤ cur.size) (x y : Int) :
    ((((w.drewN n).setCell ⟨g, 1, none⟩ (.int .i32 x)).setCell ⟨g, 0, none⟩ (.int .i32 y)).drewN m).cell? ⟨g, 0, none⟩ = some (.int .i32 y) ∧ ((((w.drewN n).setCell ⟨g, 1, none⟩ (.int .i32 x)).setCell ⟨g, 0, none⟩ (.int .i32 y)).drewN m).cell? ⟨g, 1, none⟩ = some (.int .i32 x) ∧ ButB g w ((((w.drewN n).setCell ⟨g, 1, none⟩ (.int .i32 x)).setCell ⟨g, 0, none⟩ (.int .i32 y)).drewN m) ∧ ∃ L, ((((w.drewN n).setCell ⟨g, 1, none⟩ (.int .i32 x)).setCell ⟨g, 0, none⟩ (.int .i32 y)).drewN m).heap[g]? = some (.cells L T (0, 0)) := by
  have hg' : (w.drewN n).heap[g]? = some (.cells cur T (0, 0)) := hg
  have e1 : ((w.drewN n).setCell ⟨g, 1, none⟩ (.int .i32 x)).heap[g]? = some (.cells (cur.setIfInBounds 1 (.int .i32 x)) T (0, 0)) := by
    rw [setCell_eq_setRow _ g 1 _ _ _ _ hg', setRow_heap _ g _ _ _ _ hg']
  have e2 : (((w.drewN n).setCell ⟨g, 1, none⟩ (.int .i32 x)).setCell ⟨g, 0, none⟩ (.int .i32 y)).heap[g]? = some (.cells ((cur.setIfInBounds 1 (.int .i32 x)).setIfInBounds 0 (.int .i32 y)) T (0, 0)) := by
    rw [setCell_eq_setRow _ g 0 _ _ _ _ e1, setRow_heap _ g _ _ _ _ e1]
  have e3 : ((((w.drewN n).setCell ⟨g, 1, none⟩ (.int .i32 x)).setCell ⟨g, 0, none⟩ (.int .i32 y)).drewN m).heap[g]? = _ := e2
  obtain ⟨L, hL⟩ : ∃ L, (cur.setIfInBounds 1 (.int .i32 x)).setIfInBounds 0 (.int .i32 y) = L := ⟨_, rfl⟩
  have a0 : L[0]? = some (.int .i32 y) := by
    rw [← hL, Array.getElem?_setIfInBounds, if_pos rfl]
    refine if_pos ?_
    rw [Array.size_setIfInBounds]; omega
  have a1 : L[1]? = some (.int .i32 x) := by
    rw [← hL, Array.getElem?_setIfInBounds, if_neg (show ¬ ((0 : Nat) = 1) by omega), Array.getElem?_setIfInBounds, if_pos rfl]
    refine if_pos ?_
    omega
  rw [hL] at e3
  have key : ∀ X : World, X.heap[g]? = some (.cells L T (0, 0)) → X.cell? ⟨g, 0, none⟩ = some (.int .i32 y) ∧ X.cell? ⟨g, 1, none⟩ = some (.int .i32 x) := fun X hX => by simp [World.cell?, hX, a0, a1]
  refine ⟨(key _ e3).1, (key _ e3).2, ⟨rfl, rfl, rfl, ?_, fun k hk hb => ?_⟩, L, e3⟩
  · show w.heap.size ≤ (((w.drewN n).setCell ⟨g, 1, none⟩ (.int .i32 x)).setCell ⟨g, 0, none⟩ (.int .i32 y)).heap.size
    simp
  · exact (Below.heap_setCell _ _ _ _ hb).trans (Below.heap_setCell _ _ _ _ hb)

set_option maxRecDepth 100000 in
set_option maxHeartbeats 2000000 in
theorem ins2_swap (x y : Int) (h : y < x) (g cap : Nat) (cur : Array Value) (T : TypeId) (w : World) (hg : w.heap[g]? = some (.cells cur T (0, 0))) (c0 : w.cell? ⟨g, 0, none⟩ = some (.int .i32 x)) (c1 : w.cell? ⟨g, 1, none⟩ = some (.int .i32 y)) :
    Calls Tryz.prog 128 #[.slice (some ⟨g, 0, none⟩) 2 cap, .int .i64 0, .int .i64 2] w fun e w' => e = .returned (.tuple #[]) ∧ w'.cell? ⟨g, 0, none⟩ = some (.int .i32 y) ∧ w'.cell? ⟨g, 1, none⟩ = some (.int .i32 x) ∧ ButB g w w' ∧ ∃ L, w'.heap[g]? = some (.cells L T (0, 0)) := by
  have HL := hide (fun W => less_any y x W)
  rw [decide_eq_true h] at HL
  have f0 : w.frozen? ⟨g, 0, none⟩ = false := by simp [World.frozen?, hg]
  have f1 : w.frozen? ⟨g, 1, none⟩ = false := by simp [World.frozen?, hg]
  have hl2 : 2 ≤ cur.size := by
    have hg' := hg
    simp only [World.cell?, hg'] at c1
    have := (Array.getElem?_eq_some_iff.1 c1).1
    omega
  have HG := hide (fun n m => swap2 (w := w) (n := n) (m := m) hg hl2 x y)
  clear h hg hl2
  go_enter Tryz.func128, Tryz.ntmps128
  go_wp2
  refine wp_loop_rounds 2 ?_
  rw [rounds_succ]
  go_wp2
  refine wp_loop_rounds 2 ?_
  rw [rounds_succ]
  go_wp2
  go_quiet (first | (go_at_call 134; refine Calls.quiet_of_same (unhide HL _)))
  go_wp2
  go_region
  all_goals go_wp2
  all_goals rw [rounds_succ]
  all_goals go_wp2
  all_goals go_quiet (fail)
  all_goals go_wp2
  all_goals rw [rounds_succ]
  all_goals go_wp2
  all_goals refine bodyPost_end (results_none rfl _ _ _) rfl ?_
  all_goals exact ⟨rfl, unhide HG _ _⟩

set_option maxRecDepth 100000 in
set_option maxHeartbeats 1000000 in
theorem sort2_any (x y : Int) (hxy : x ≠ y) (g cap : Nat) (cur : Array Value) (T : TypeId) (w : World) (hg : w.heap[g]? = some (.cells cur T (0, 0))) (c0 : w.cell? ⟨g, 0, none⟩ = some (.int .i32 x)) (c1 : w.cell? ⟨g, 1, none⟩ = some (.int .i32 y)) :
    Calls Tryz.prog 84 #[.slice (some ⟨g, 0, none⟩) 2 cap] w fun e w' => e = .returned (.tuple #[]) ∧ w'.cell? ⟨g, 0, none⟩ = some (.int .i32 (min x y)) ∧ w'.cell? ⟨g, 1, none⟩ = some (.int .i32 (max x y)) ∧ ButB g w w' ∧ ∃ L, w'.heap[g]? = some (.cells L T (0, 0)) := by
  have hins : ∀ W : World, W = w → Calls Tryz.prog 128 #[.slice (some ⟨g, 0, none⟩) 2 cap, .int .i64 0, .int .i64 2] W fun e w' => e = .returned (.tuple #[]) ∧ w'.cell? ⟨g, 0, none⟩ = some (.int .i32 (min x y)) ∧ w'.cell? ⟨g, 1, none⟩ = some (.int .i32 (max x y)) ∧ ButB g w w' ∧ ∃ L, w'.heap[g]? = some (.cells L T (0, 0)) := by
    rintro W rfl
    by_cases h : y < x
    · have e1 : min x y = y := by omega
      have e2 : max x y = x := by omega
      rw [e1, e2]
      exact ins2_swap x y h g cap cur T W hg c0 c1
    · have e1 : min x y = x := by omega
      have e2 : max x y = y := by omega
      rw [e1, e2]
      refine (ins2_keep x y h g cap W c0 c1).mono ?_
      rintro e w' ⟨rfl, hb⟩
      have hlt := (Array.getElem?_eq_some_iff.1 hg).1
      exact ⟨rfl, (hb.cell (p := ⟨g, 0, none⟩) hlt).trans c0, (hb.cell (p := ⟨g, 1, none⟩) hlt).trans c1, ButB.of_below hb, _, (hb.block g hlt).trans hg⟩
  have HI := hide hins
  have HLE := hide (fun W => Tryz.bits_Len 2 W (by decide) (by decide))
  have hpdq : ∀ lim : Int, Calls Tryz.prog 107 #[.slice (some ⟨g, 0, none⟩) 2 cap, .int .i64 0, .int .i64 2, .int .i64 lim] w fun e w' => e = .returned (.tuple #[]) ∧ w'.cell? ⟨g, 0, none⟩ = some (.int .i32 (min x y)) ∧ w'.cell? ⟨g, 1, none⟩ = some (.int .i32 (max x y)) ∧ ButB g w w' ∧ ∃ L, w'.heap[g]? = some (.cells L T (0, 0)) := by
    intro lim
    clear hins hg c0 c1 HLE
    go_enter Tryz.func107, Tryz.ntmps107
    go_wp2
    refine wp_loop_rounds 1 ?_
    rw [rounds_succ]
    go_wp2_with (go_at_call 128; with_reducible refine (unhide HI _ rfl).mono ?_; rintro e w' ⟨rfl, h⟩; have HH := hide h; clear h)
    refine bodyPost_ret (results_none rfl _ _ _) rfl ?_
    exact ⟨rfl, unhide HH⟩
  have HP := hide hpdq
  clear hins hpdq hg c0 c1 HI
  go_enter Tryz.func84, Tryz.ntmps84
  go_wp2_with (first | (go_at_call 108; with_reducible refine (unhide HLE _).mono ?_; rintro e w' ⟨rfl, rfl⟩) | (go_at_call 107; with_reducible refine (unhide HP _).mono ?_; rintro e w' ⟨rfl, h⟩; have HH := hide h; clear h))
  refine bodyPost_end (results_none rfl _ _ _) rfl ?_
  exact ⟨rfl, unhide HH⟩
end Go.Proofs.YtijiiapnbeljnaaGreatDoor

/-
  The small functions of package brackets: what a row is, the look-ups of a book.
-/
import Derived.Test.YtijiiapnbeljnaaGreatDoorBrW
import Derived.Shelf.RegionOpen
import Derived.WalkLawsBesides
import Derived.Handy
import Derived.PlainAid
import Derived.Deep.QuietTactic
import Derived.Deep.RegionWith
import Derived.Deep.RegionHeld
import Derived.BigQuiet
import Derived.Lib.QuietBelow
namespace Go.Proofs.YtijiiapnbeljnaaGreatDoor
open Go.RowKit Go.PlainAid
set_option linter.unusedVariables false
set_option linter.unusedSimpArgs false

theorem isPoint_any (r : Int) (w : World) : Calls Tryz.prog 82 #[.int .i32 r] w fun e w' => e = .returned (.bool (isPt r)) ∧ w' = w := by
  go_enter Tryz.func82, Tryz.ntmps82
  go_wp2
  all_goals go_ret
  all_goals exact ⟨by simp [isPt]; omega, rfl⟩
theorem known_any (r : Int) (w : World) : Calls Tryz.prog 48 #[.int .i32 r] w fun e w' => e = .returned (.int .i32 (knownP r)) ∧ w' = w := by
  have hP := isPoint_any r w
  cases h : isPt r
  all_goals
    rw [h] at hP
    have HP := hideB hP
    clear hP
    go_enter Tryz.func48, Tryz.ntmps48
    go_wp2_with (go_at_call 82; refine (unhideB HP).mono ?_; rintro e w' ⟨rfl, rfl⟩)
    go_ret
    exact ⟨by simp [knownP, h], rfl⟩
theorem opposite_any (s : Int) (w : World) : Calls Tryz.prog 90 #[.int .u8 s] w fun e w' => e = .returned (.int .u8 (oppP s)) ∧ w' = w := by
  by_cases h1 : s = 1
  · subst h1
    go_enter Tryz.func90, Tryz.ntmps90
    go_wp2
    go_ret
    exact ⟨rfl, rfl⟩
  · by_cases h2 : s = 2
    · subst h2
      go_enter Tryz.func90, Tryz.ntmps90
      go_wp2
      go_ret
      exact ⟨rfl, rfl⟩
    · have d1 : (s == 1) = false := by simpa using h1
      have d2 : (s == 2) = false := by simpa using h2
      go_enter Tryz.func90, Tryz.ntmps90
      go_wp2
      go_ret
      exact ⟨by simp [oppP, h1, h2], rfl⟩
theorem isRow_any (x : BrD) (w : World) : Calls Tryz.prog 89 #[brV x] w fun e w' => e = .returned (.bool (isRowP x)) ∧ Below w.heap.size w w' := by
  obtain ⟨a, o, s⟩ := x
  have hA := fun w => isPoint_any a w
  have hO := fun w => isPoint_any o w
  have hS := fun w => opposite_any s w
  have HE : Hid (isRowP ⟨a, o, s⟩ = (isPt a && (isPt o && (decide (a ≠ o) && decide (oppP s ≠ 0))))) := rfl
  cases h1 : isPt a
  · rw [h1] at hA HE
    have HA := hideB hA
    clear hA hO hS h1
    go_enter Tryz.func89, Tryz.ntmps89
    go_wp2_with (go_at_call 82; refine (unhideB HA _).mono ?_; rintro e w' ⟨rfl, rfl⟩)
    go_ret
    exact ⟨by rw [HE.out]; simp, by go_grown⟩
  · cases h2 : isPt o
    · rw [h1] at hA HE
      rw [h2] at hO HE
      have HA := hideB hA
      have HO := hideB hO
      clear hA hO hS h1 h2
      have tok : True := trivial
      go_enter Tryz.func89, Tryz.ntmps89
      go_wp2_with (first | (go_at_call 82; have _t := tok; refine (unhideB HA _).mono ?_; rintro e w' ⟨rfl, rfl⟩; clear tok) | (go_at_call 82; refine (unhideB HO _).mono ?_; rintro e w' ⟨rfl, rfl⟩))
      go_ret
      exact ⟨by rw [HE.out]; simp, by go_grown⟩
    · rw [h1] at hA HE
      rw [h2] at hO HE
      by_cases h3 : a = o
      · have d3 : (a == o) = true := by simpa using h3
        have d3' : (a != o) = false := by simpa using h3
        have HE' : Hid (isRowP ⟨a, o, s⟩ = false) := by show _ = _; rw [HE.out]; simp [h3]
        have HA := hideB hA
        have HO := hideB hO
        clear hA hO hS h1 h2 HE h3
        have tok : True := trivial
        go_enter Tryz.func89, Tryz.ntmps89
        go_wp2_with (first | (go_at_call 82; have _t := tok; refine (unhideB HA _).mono ?_; rintro e w' ⟨rfl, rfl⟩; clear tok) | (go_at_call 82; refine (unhideB HO _).mono ?_; rintro e w' ⟨rfl, rfl⟩))
        go_ret
        exact ⟨by rw [HE'.out]; rfl, by go_grown⟩
      · have d3 : (a == o) = false := by simpa using h3
        have d3' : (a != o) = true := by simpa using h3
        have HE' : Hid (isRowP ⟨a, o, s⟩ = (oppP s != 0)) := by show _ = _; rw [HE.out]; simp [h3]; cases h : decide (oppP s = 0) <;> simp_all
        have HA := hideB hA
        have HO := hideB hO
        have HS := hideB hS
        clear hA hO hS h1 h2 HE h3
        generalize hq : oppP s = q at *
        have tok : True := trivial
        go_enter Tryz.func89, Tryz.ntmps89
        go_wp2_with (first | (go_at_call 82; have _t := tok; refine (unhideB HA _).mono ?_; rintro e w' ⟨rfl, rfl⟩; clear tok) | (go_at_call 82; refine (unhideB HO _).mono ?_; rintro e w' ⟨rfl, rfl⟩) | (go_at_call 90; refine (unhideB HS _).mono ?_; rintro e w' ⟨rfl, rfl⟩))
        all_goals go_ret
        all_goals exact ⟨by rw [HE'.out]; rfl, by go_grown⟩
theorem made_nil (w : World) : Calls Tryz.prog 37 #[.pointer none] w fun e w' => e = .returned (.bool false) ∧ w' = w := by
  go_enter Tryz.func37, Tryz.ntmps37
  go_wp2
  go_ret
  exact ⟨rfl, rfl⟩
theorem map_nil (m : Nat) (w : World) : Sem.run Tryz.prog (binOp BinOp.neq 81 (.map (some m)) (.map none)) w = .ok (.bool true) w := by
  have he : Sem.run Tryz.prog (Op.equal 81 (.map (some m)) (.map none)) w = .ok false w := by
    unfold Op.equal Op.maxDepth
    rw [show (10000 : Nat) = 9999 + 1 from rfl]
    unfold Op.equalIn
    simp [go_sem]
  simp [binOp, go_sem, he]
theorem made_book (B m : Nat) (tv : Value) (w : World) (h : w.heap[B]? = some (.cells #[.map (some m), tv] 85 (0, 0))) : Calls Tryz.prog 37 #[.pointer (some ⟨B, 0, none⟩)] w fun e w' => e = .returned (.bool true) ∧ w' = w := by
  have c0 : w.cell? ⟨B, 0, none⟩ = some (.map (some m)) := by simp [World.cell?, h]
  clear h
  have hmn := map_nil m w
  go_enter Tryz.func37, Tryz.ntmps37
  go_wp2
  go_ret
  exact ⟨rfl, rfl⟩
theorem bracket_nil (r : Int) (w : World) : Calls Tryz.prog 20 #[.pointer none, .int .i32 r] w fun e w' => e = .returned (.tuple #[.int .i32 0, .int .u8 0]) ∧ w' = w := by
  have HM := hideB (made_nil w)
  go_enter Tryz.func20, Tryz.ntmps20
  go_wp2_with (go_at_call 37; refine (unhideB HM).mono ?_; rintro e w' ⟨rfl, rfl⟩)
  go_ret2
  exact ⟨rfl, rfl⟩
theorem twin_nil (r : Int) (w : World) : Calls Tryz.prog 22 #[.pointer none, .int .i32 r] w fun e w' => e = .returned (.int .i32 r) ∧ w' = w := by
  have HM := hideB (made_nil w)
  go_enter Tryz.func22, Tryz.ntmps22
  go_wp2_with (go_at_call 37; refine (unhideB HM).mono ?_; rintro e w' ⟨rfl, rfl⟩)
  go_ret
  exact ⟨rfl, rfl⟩
theorem matches_nil (r q : Int) (w : World) : Calls Tryz.prog 23 #[.pointer none, .int .i32 r, .int .i32 q] w fun e w' => e = .returned (.bool false) ∧ w' = w := by
  have HM := hideB (fun x => bracket_nil x w)
  go_enter Tryz.func23, Tryz.ntmps23
  go_wp2_with (go_at_call 20; refine (unhideB HM _).mono ?_; rintro e w' ⟨rfl, rfl⟩)
  go_ret
  exact ⟨rfl, rfl⟩
theorem twin_book (B : Nat) (rows : List BrD) (tw : List (Int × Int)) (r : Int) (hr : i32Ok r) (w : World) (h : Book w B rows tw) : Calls Tryz.prog 22 #[.pointer (some ⟨B, 0, none⟩), .int .i32 r] w fun e w' => e = .returned (.int .i32 (twnP tw r)) ∧ w' = w := by
  obtain ⟨m, tv, h1, h2, h3⟩ := h.ex
  have HM := hideB (made_book B m tv w h1)
  have HK := hideB (known_any r w)
  have c1 : w.cell? ⟨B, 1, none⟩ = some tv := by simp [World.cell?, h1]
  have hl := h3.look (known_ok r hr)
  have HE : Hid (twnP tw r = (findT tw (knownP r)).getD (knownP r)) := rfl
  clear h1 h2 h3 h
  generalize knownP r = k at *
  cases hf : findT tw k with
  | none =>
    rw [hf] at hl HE
    simp only [Option.getD_none, Option.isSome_none] at hl HE
    clear hf
    go_enter Tryz.func22, Tryz.ntmps22
    go_wp2_with (first | (go_at_call 37; refine (unhideB HM).mono ?_; rintro e w' ⟨rfl, rfl⟩) | (go_at_call 48; refine (unhideB HK).mono ?_; rintro e w' ⟨rfl, rfl⟩))
    go_ret
    exact ⟨by rw [HE.out]; rfl, rfl⟩
  | some x =>
    rw [hf] at hl HE
    simp only [Option.getD_some, Option.isSome_some] at hl HE
    clear hf
    go_enter Tryz.func22, Tryz.ntmps22
    go_wp2_with (first | (go_at_call 37; refine (unhideB HM).mono ?_; rintro e w' ⟨rfl, rfl⟩) | (go_at_call 48; refine (unhideB HK).mono ?_; rintro e w' ⟨rfl, rfl⟩))
    go_ret
    exact ⟨by rw [HE.out]; rfl, rfl⟩


/-- a fact that hangs on the blocks m and B alone stays where new blocks are laid and written -/
theorem keepS {S : World → Prop} {w : World} {m B : Nat} (hS : ∀ X : World, X.heap[m]? = w.heap[m]? → X.heap[B]? = w.heap[B]? → S X) (hm : m < w.heap.size) (hB : B < w.heap.size) :
    S w.drew ∧ (∀ o, S (w.alloc o).drew) ∧ (∀ o, S (w.drew.alloc o)) ∧ (∀ o k v, S (((w.alloc o).drew).setCell ⟨w.heap.size, k, none⟩ v)) ∧ (∀ o k v, S (((w.alloc o).setCell ⟨w.heap.size, k, none⟩ v).drew)) := by
  refine ⟨hS _ rfl rfl, fun o => hS _ (Below.heap_alloc _ _ _ hm) (Below.heap_alloc _ _ _ hB), fun o => hS _ (Below.heap_alloc _ _ _ hm) (Below.heap_alloc _ _ _ hB), fun o k v => hS _ ?_ ?_, fun o k v => hS _ ?_ ?_⟩
  · exact (Below.heap_setCell _ _ _ _ (by simp; omega)).trans (Below.heap_alloc _ _ _ hm)
  · exact (Below.heap_setCell _ _ _ _ (by simp; omega)).trans (Below.heap_alloc _ _ _ hB)
  · exact (Below.heap_setCell _ _ _ _ (by simp; omega)).trans (Below.heap_alloc _ _ _ hm)
  · exact (Below.heap_setCell _ _ _ _ (by simp; omega)).trans (Below.heap_alloc _ _ _ hB)

end Go.Proofs.YtijiiapnbeljnaaGreatDoor

/-
  Bracket of a book.
-/
import Derived.Test.YtijiiapnbeljnaaGreatDoorBrA
namespace Go.Proofs.YtijiiapnbeljnaaGreatDoor
open Go.RowKit Go.PlainAid
set_option linter.unusedVariables false
set_option linter.unusedSimpArgs false

theorem bdrN {B : Nat} {w V : World} (h : Below B w V) (n : Nat) : Below B w (V.drewN n) := h.trans ⟨rfl, rfl, rfl, Nat.le_refl _, fun _ _ => rfl⟩
set_option maxHeartbeats 1000000 in
set_option maxRecDepth 100000 in
theorem bracket_book (B : Nat) (rows : List BrD) (tw : List (Int × Int)) (r : Int) (hr : i32Ok r) (w : World) (h : Book w B rows tw) : Calls Tryz.prog 20 #[.pointer (some ⟨B, 0, none⟩), .int .i32 r] w fun e w' => e = .returned (.tuple #[.int .i32 (brkP rows r).1, .int .u8 (brkP rows r).2]) ∧ Below w.heap.size w w' := by
  obtain ⟨m, tv, h1, h2, h3⟩ := h.ex
  have HM := hideB (made_book B m tv w h1)
  have HK := hideB (fun W => known_any r W)
  obtain ⟨x, b, hx, hE⟩ : ∃ x b, (∀ X : World, X.heap[m]? = w.heap[m]? → (Instr.lookup 81 (.map (some m)) (.int .i32 (knownP r)) true).run Tryz.prog X = .ok (.tuple #[brV x, .bool b]) X) ∧ brkP rows r = if b then (x.oth, x.side) else (0, 0) := by
    refine ⟨_, _, fun X hX => (h2.same hX).look (known_ok r hr), ?_⟩
    unfold brkP
    cases findB rows (knownP r) <;> simp
  have HE := hideB hE
  have hB := (Array.getElem?_eq_some_iff.1 h1).1
  have hl := hx w.drew rfl
  have hl1 := fun o => hx (w.alloc o).drew (Below.heap_alloc _ _ _ h2.lt)
  have c0 : w.cell? ⟨B, 0, none⟩ = some (.map (some m)) := by simp [World.cell?, h1]
  have c1 : ∀ o, (w.alloc o).cell? ⟨B, 0, none⟩ = some (.map (some m)) := fun o => by rw [World.cell?_alloc_lt _ _ ⟨B, 0, none⟩ hB]; exact c0
  clear h1 h2 h3 h hx hE
  generalize knownP r = k at *
  obtain ⟨x1, x2, x3⟩ := x
  cases b with
  | false =>
    go_enter Tryz.func20, Tryz.ntmps20
    go_wp2_with (go_at_call 37; with_reducible refine (unhideB HM).mono ?_; rintro e w' ⟨rfl, rfl⟩)
    go_region_held (fun X => X.cell? ⟨B, 0, none⟩ = some (.map (some m)))
      (first | exact c0 | exact c1 _ | go_keep) (first | (go_at_call 48; with_reducible refine (unhideB HK _).mono ?_; rintro e w' ⟨rfl, rfl⟩))
    all_goals go_wp2
    all_goals go_ret2
    all_goals exact ⟨by rw [HE.out]; rfl, by go_grown⟩
  | true =>
    go_enter Tryz.func20, Tryz.ntmps20
    go_wp2_with (go_at_call 37; with_reducible refine (unhideB HM).mono ?_; rintro e w' ⟨rfl, rfl⟩)
    go_region_held (fun X => X.cell? ⟨B, 0, none⟩ = some (.map (some m)))
      (first | exact c0 | exact c1 _ | go_keep) (first | (go_at_call 48; with_reducible refine (unhideB HK _).mono ?_; rintro e w' ⟨rfl, rfl⟩))
    all_goals go_wp2
    all_goals go_quiet (fail)
    all_goals go_wp2
    all_goals go_ret2
    all_goals exact ⟨by rw [HE.out]; rfl, bdrN (by go_grown) _⟩

/-- add: the row is put, or refused -/
theorem add_no (B : Nat) (rows : List BrD) (tw : List (Int × Int)) (x : BrD) (hx : BrOk x) (w : World) (h : Book w B rows tw) (hE : addE rows x ≠ 0) : Calls Tryz.prog 55 #[.pointer (some ⟨B, 0, none⟩), brV x] w fun e w' => e = .returned (.int .i64 (addE rows x)) ∧ Below w.heap.size w w' := by
  obtain ⟨m, tv, h1, h2, h3⟩ := h.ex
  obtain ⟨x1, x2, x3⟩ := x
  obtain ⟨o1, o2, o3⟩ := hx
  simp only at o1 o2 o3
  have HR := hideB (fun W => isRow_any ⟨x1, x2, x3⟩ W)
  cases hr : isRowP ⟨x1, x2, x3⟩ with
  | false =>
    have HE := hideB (show addE rows ⟨x1, x2, x3⟩ = 80 by simp [addE, hr])
    rw [hr] at HR
    clear h h1 h2 h3 hE hr o1 o2 o3
    go_enter Tryz.func55, Tryz.ntmps55
    go_wp2_with (go_at_call 89; with_reducible refine (unhideB HR _).mono ?_; rintro e w1 ⟨rfl, hb⟩)
    go_ret
    exact ⟨by rw [HE.out]; rfl, ((Below.refl _ w).alloc (Nat.le_refl _) _).trans (hb.mono (by simp))⟩
  | true =>
    have hs : (findB rows x1).isSome = true := by
      cases hf : (findB rows x1).isSome
      · exact absurd (by simp [addE, hr, hf]) hE
      · rfl
    have HE := hideB (show addE rows ⟨x1, x2, x3⟩ = 81 by simp [addE, hr, hs])
    rw [hr] at HR
    obtain ⟨y, hy⟩ : ∃ y, (findB rows x1).getD zeroB = y := ⟨_, rfl⟩
    have hlk : ∀ X : World, X.heap[m]? = w.heap[m]? → (Instr.lookup 81 (.map (some m)) (.int .i32 x1) true).run Tryz.prog X = .ok (.tuple #[brV y, .bool true]) X := fun X hX => by
      have := (h2.same hX).look o1
      rw [hs, hy] at this
      exact this
    obtain ⟨y1, y2, y3⟩ := y
    have hB := (Array.getElem?_eq_some_iff.1 h1).1
    have hm := h2.lt
    have HX : Hid (∀ w1, Below (w.alloc (.cells #[.int .i32 x1, .int .i32 x2, .int .u8 x3] 26)).heap.size (w.alloc (.cells #[.int .i32 x1, .int .i32 x2, .int .u8 x3] 26)) w1 →
        w1.cell? ⟨w.heap.size, 0, none⟩ = some (.int .i32 x1) ∧ w1.cell? ⟨B, 0, none⟩ = some (.map (some m)) ∧ (∀ X : World, X.heap[m]? = w1.heap[m]? → (Instr.lookup 81 (.map (some m)) (.int .i32 x1) true).run Tryz.prog X = .ok (.tuple #[.agg #[.int .i32 y1, .int .i32 y2, .int .u8 y3], .bool true]) X) ∧ B < w1.heap.size ∧ w.heap.size < w1.heap.size ∧ m < w1.heap.size ∧ Below w.heap.size w w1) := fun w1 hb => by
      have e0 := (hb.block w.heap.size (by simp)).trans (heap_alloc_new w _)
      have e1 := (hb.block B (by simp; omega)).trans ((Below.heap_alloc w _ _ hB).trans h1)
      have e2 := (hb.block m (by simp; omega)).trans (Below.heap_alloc w _ _ hm)
      have hsz := hb.size
      simp only [World.size_alloc] at hsz
      refine ⟨by simp [World.cell?, e0], by simp [World.cell?, e1], fun X hX => hlk X (hX.trans e2), by omega, by omega, by omega, ((Below.refl _ w).alloc (Nat.le_refl _) _).trans (hb.mono (by simp))⟩
    clear h h1 h2 h3 hE hr o1 o2 o3 hs hy hlk
    go_enter Tryz.func55, Tryz.ntmps55
    go_wp2_with (go_at_call 89; with_reducible refine (unhideB HR _).mono ?_; rintro e w1 ⟨rfl, hb⟩)
    obtain ⟨c0, cB, hl, l1, l2, l3, hbw⟩ := unhideB HX _ hb
    have hl0 := hl w1.drew rfl
    have hl1 := fun o => hl (w1.alloc o).drew (Below.heap_alloc _ _ _ l3)
    have d1 : ∀ o, (w1.alloc o).cell? ⟨B, 0, none⟩ = some (.map (some m)) := fun o => by rw [World.cell?_alloc_lt _ _ ⟨B, 0, none⟩ l1]; exact cB
    have d0 : ∀ o, (w1.alloc o).cell? ⟨w.heap.size, 0, none⟩ = some (.int .i32 x1) := fun o => by rw [World.cell?_alloc_lt _ _ ⟨w.heap.size, 0, none⟩ l2]; exact c0
    have HBW := hideB hbw
    clear hb hl hbw HX HR
    go_region_held (fun X => X.cell? ⟨B, 0, none⟩ = some (.map (some m)) ∧ X.cell? ⟨w.heap.size, 0, none⟩ = some (.int .i32 x1))
      (first | exact ⟨cB, c0⟩ | exact ⟨d1 _, d0 _⟩ | go_keep) (fail)
    all_goals go_wp2
    all_goals go_ret
    all_goals exact ⟨by rw [HE.out]; rfl, (unhideB HBW).trans (by go_grown)⟩
end Go.Proofs.YtijiiapnbeljnaaGreatDoor

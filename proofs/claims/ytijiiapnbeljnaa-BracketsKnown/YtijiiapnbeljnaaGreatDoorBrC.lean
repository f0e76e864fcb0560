/-
  Matches of a book; add of a row that may be; isLone.
-/
import Derived.Test.YtijiiapnbeljnaaGreatDoorBrB
namespace Go.Proofs.YtijiiapnbeljnaaGreatDoor
open Go.RowKit Go.PlainAid
set_option linter.unusedVariables false
set_option linter.unusedSimpArgs false

theorem brk_ok (rows : List BrD) (hrs : ∀ x ∈ rows, BrOk x) (r : Int) : i32Ok (brkP rows r).1 ∧ u8Ok (brkP rows r).2 := by
  unfold brkP
  cases hf : findB rows (knownP r) with
  | none => exact ⟨⟨by show (-2147483648 : Int) ≤ 0; omega, by show (0 : Int) ≤ _; omega⟩, ⟨by show (0 : Int) ≤ 0; omega, by show (0 : Int) ≤ _; omega⟩⟩
  | some x => have := hrs x (findB_mem hf); exact ⟨this.2.1, this.2.2⟩
set_option maxRecDepth 100000 in
theorem matches_book (B : Nat) (rows : List BrD) (tw : List (Int × Int)) (hrs : ∀ x ∈ rows, BrOk x) (o c : Int) (ho : i32Ok o) (hc : i32Ok c) (w : World) (h : Book w B rows tw) : Calls Tryz.prog 23 #[.pointer (some ⟨B, 0, none⟩), .int .i32 o, .int .i32 c] w fun e w' => e = .returned (.bool (matP rows tw o c)) ∧ Below w.heap.size w w' := by
  have hk1 := brk_ok rows hrs o
  have HB := hideB (fun (V : World) (hb : Below w.heap.size w V) => bracket_book B rows tw o ho V (h.below hb))
  have HC := hideB (fun (V : World) (hb : Below w.heap.size w V) => bracket_book B rows tw c hc V (h.below hb))
  have HT := hideB (fun (V : World) (hb : Below w.heap.size w V) => twin_book B rows tw (brkP rows o).1 hk1.1 V (h.below hb))
  have HS := hideB (fun (V : World) (hb : Below w.heap.size w V) => twin_book B rows tw c hc V (h.below hb))
  have HE : Hid (matP rows tw o c = (decide ((brkP rows o).2 = 1) && (decide ((brkP rows c).2 = 2) && decide (twnP tw (brkP rows o).1 = twnP tw c)))) := rfl
  generalize brkP rows o = p at *
  generalize brkP rows c = q at *
  obtain ⟨p1, p2⟩ := p
  obtain ⟨q1, q2⟩ := q
  simp only at HB HC HT HE
  clear h hk1
  by_cases e1 : p2 = 1
  · by_cases e2 : q2 = 2
    · subst e1; subst e2
      generalize twnP tw p1 = t1 at *
      generalize twnP tw c = t2 at *
      have HE' : Hid (matP rows tw o c = (t1 == t2)) := by
        show _ = _
        rw [HE.out]
        simp
        cases h : decide (t1 = t2) <;> simp_all
      clear HE
      have tok : True := trivial
      have tik : True := trivial
      go_enter Tryz.func23, Tryz.ntmps23
      go_wp2_with (first | (go_at_call 20; have _t := tok; with_reducible refine (unhideB HB _ (Below.refl _ _)).mono ?_; rintro e w1 ⟨rfl, hb1⟩; clear tok) | (go_at_call 20; with_reducible refine (unhideB HC _ hb1).mono ?_; rintro e w2 ⟨rfl, hb2⟩; have hb3 := hb1.trans (hb2.mono hb1.size)) | (go_at_call 22; have _t := tik; with_reducible refine (unhideB HT _ hb3).mono ?_; rintro e w3 ⟨rfl, rfl⟩; clear tik) | (go_at_call 22; with_reducible refine (unhideB HS _ hb3).mono ?_; rintro e w4 ⟨rfl, rfl⟩))
      all_goals go_ret
      all_goals exact ⟨by rw [HE'.out]; rfl, hb3⟩
    · have HE' : Hid (matP rows tw o c = false) := by show _ = _; rw [HE.out]; simp [e2]
      have d2 : (q2 == 2) = false := by simpa using e2
      subst e1
      clear HE e2
      have tok : True := trivial
      go_enter Tryz.func23, Tryz.ntmps23
      go_wp2_with (first | (go_at_call 20; have _t := tok; with_reducible refine (unhideB HB _ (Below.refl _ _)).mono ?_; rintro e w1 ⟨rfl, hb1⟩; clear tok) | (go_at_call 20; with_reducible refine (unhideB HC _ hb1).mono ?_; rintro e w2 ⟨rfl, hb2⟩; have hb3 := hb1.trans (hb2.mono hb1.size)))
      all_goals go_ret
      all_goals exact ⟨by rw [HE'.out]; rfl, hb3⟩
  · have HE' : Hid (matP rows tw o c = false) := by show _ = _; rw [HE.out]; simp [e1]
    have d2 : (p2 == 1) = false := by simpa using e1
    clear HE e1
    have tok : True := trivial
    go_enter Tryz.func23, Tryz.ntmps23
    go_wp2_with (first | (go_at_call 20; have _t := tok; with_reducible refine (unhideB HB _ (Below.refl _ _)).mono ?_; rintro e w1 ⟨rfl, hb1⟩; clear tok) | (go_at_call 20; with_reducible refine (unhideB HC _ hb1).mono ?_; rintro e w2 ⟨rfl, hb2⟩; have hb3 := hb1.trans (hb2.mono hb1.size)))
    all_goals go_ret
    all_goals exact ⟨by rw [HE'.out]; rfl, hb3⟩

/-- isLone: over the look-up of a book -/
theorem lone_book (x : BrD) (hx : BrOk x) (B : Nat) (rows : List BrD) (tw : List (Int × Int)) (w : World) (h : Book w B rows tw) :
    Calls Tryz.prog 56 #[brV x, .func (.func 20) #[.pointer (some ⟨B, 0, none⟩)] #[]] w fun e w' => e = .returned (.bool (loneP rows x)) ∧ Below w.heap.size w w' := by
  obtain ⟨x1, x2, x3⟩ := x
  have HB := hideB (fun (V : World) (hb : Below w.heap.size w V) => bracket_book B rows tw x2 hx.2.1 V (h.below hb))
  have HO := hideB (fun W => opposite_any x3 W)
  have HE : Hid (loneP rows ⟨x1, x2, x3⟩ = (decide ((brkP rows x2).1 ≠ x1) || decide ((brkP rows x2).2 ≠ oppP x3))) := rfl
  have hA : Below w.heap.size w (w.alloc (.cells #[.int .i32 x1, .int .i32 x2, .int .u8 x3] 26)) := (Below.refl _ w).alloc (Nat.le_refl _) _
  have HCC : Hid (∀ w1, Below (w.alloc (.cells #[.int .i32 x1, .int .i32 x2, .int .u8 x3] 26)).heap.size (w.alloc (.cells #[.int .i32 x1, .int .i32 x2, .int .u8 x3] 26)) w1 → w1.cell? ⟨w.heap.size, 0, none⟩ = some (.int .i32 x1) ∧ w1.cell? ⟨w.heap.size, 2, none⟩ = some (.int .u8 x3) ∧ Below w.heap.size w w1) := fun w1 hb => by
    have e0 := (hb.block w.heap.size (by simp)).trans (heap_alloc_new w _)
    exact ⟨by simp [World.cell?, e0], by simp [World.cell?, e0], hA.trans (hb.mono (by simp))⟩
  clear h hx
  generalize brkP rows x2 = p at *
  obtain ⟨p1, p2⟩ := p
  simp only at HB HE
  generalize oppP x3 = o at *
  by_cases e1 : p1 = x1
  · subst e1
    have HE' : Hid (loneP rows ⟨p1, x2, x3⟩ = (p2 != o)) := by
      show _ = _
      rw [HE.out]
      cases h : decide (p2 = o) <;> simp_all
    clear HE
    go_enter Tryz.func56, Tryz.ntmps56
    go_wp2_with (first | (go_at_call 90; with_reducible refine (unhideB HO _).mono ?_; rintro e w' ⟨rfl, rfl⟩) | (with_reducible refine (unhideB HB _ hA).mono ?_; rintro e w1 ⟨rfl, hb1⟩; obtain ⟨c0, c2, hbw⟩ := unhideB HCC _ hb1))
    all_goals go_ret
    all_goals exact ⟨by rw [HE'.out]; rfl, hbw⟩
  · have HE' : Hid (loneP rows ⟨x1, x2, x3⟩ = true) := by show _ = _; rw [HE.out]; simp [e1]
    have d1 : (p1 != x1) = true := by simpa using e1
    have d2 : (p1 == x1) = false := by simpa using e1
    clear HE e1
    go_enter Tryz.func56, Tryz.ntmps56
    go_wp2_with (first | (go_at_call 90; with_reducible refine (unhideB HO _).mono ?_; rintro e w' ⟨rfl, rfl⟩) | (with_reducible refine (unhideB HB _ hA).mono ?_; rintro e w1 ⟨rfl, hb1⟩; obtain ⟨c0, c2, hbw⟩ := unhideB HCC _ hb1))
    all_goals go_ret
    all_goals exact ⟨by rw [HE'.out]; rfl, hbw⟩

/-- nothing but block b is another one, of what was there -/
structure ButB (b : Nat) (w w' : World) : Prop where
  os : w'.os = w.os
  tape : w'.tape = w.tape
  output : w'.output = w.output
  size : w.heap.size ≤ w'.heap.size
  block : ∀ k, k < w.heap.size → k ≠ b → w'.heap[k]? = w.heap[k]?
theorem ButB.of_below {b : Nat} {w w' : World} (h : Below w.heap.size w w') : ButB b w w' := ⟨h.os, h.tape, h.output, h.size, fun k hk _ => h.block k hk⟩
theorem ButB.trans {b : Nat} {u v w : World} (h : ButB b u v) (k : ButB b v w) : ButB b u w :=
  ⟨k.os.trans h.os, k.tape.trans h.tape, k.output.trans h.output, Nat.le_trans h.size k.size, fun i hi hb => (k.block i (Nat.lt_of_lt_of_le hi h.size) hb).trans (h.block i hi hb)⟩
theorem ButB.of_grown {b : Nat} {w w' : World} (h : w.grownBy w' (some b)) : ButB b w w' := ⟨h.os, h.tape, h.output, h.size, fun k hk hb => h.block k hk (fun e => hb (Option.some.inj e))⟩

set_option maxRecDepth 100000 in
theorem add_yes (B m : Nat) (tv : Value) (rows : List BrD) (x : BrD) (hx : BrOk x) (w : World) (h1 : w.heap[B]? = some (.cells #[.map (some m), tv] 85 (0, 0))) (h2 : BrMap w m rows) (hE : addE rows x = 0) (hlen : rows.length < maxLen) :
    Calls Tryz.prog 55 #[.pointer (some ⟨B, 0, none⟩), brV x] w fun e w' => e = .returned (.int .i64 0) ∧ BrMap w' m (rows ++ [x]) ∧ ButB m w w' := by
  obtain ⟨x1, x2, x3⟩ := x
  obtain ⟨o1, o2, o3⟩ := hx
  simp only at o1 o2 o3
  have HR := hideB (fun W => isRow_any ⟨x1, x2, x3⟩ W)
  have hr : isRowP ⟨x1, x2, x3⟩ = true := by
    cases h : isRowP ⟨x1, x2, x3⟩
    · simp [addE, h] at hE
    · rfl
  have hs : (findB rows x1).isSome = false := by
    cases hf : (findB rows x1).isSome
    · rfl
    · simp [addE, hr, hf] at hE
  rw [hr] at HR
  obtain ⟨y, hy⟩ : ∃ y, (findB rows x1).getD zeroB = y := ⟨_, rfl⟩
  have hlk : ∀ X : World, X.heap[m]? = w.heap[m]? → (Instr.lookup 81 (.map (some m)) (.int .i32 x1) true).run Tryz.prog X = .ok (.tuple #[brV y, .bool false]) X := fun X hX => by
    have := (h2.same hX).look o1
    rw [hs, hy] at this
    exact this
  have hput : ∀ X : World, X.heap[m]? = w.heap[m]? → ∃ w', (Instr.mapUpdate 81 (.map (some m)) (.int .i32 x1) (.agg #[.int .i32 x1, .int .i32 x2, .int .u8 x3])).run Tryz.prog X = .ok () w' ∧ BrMap w' m (rows ++ [⟨x1, x2, x3⟩]) ∧ X.grownBy w' (some m) := fun X hX => (h2.same hX).put ⟨x1, x2, x3⟩ o1 hlen
  obtain ⟨y1, y2, y3⟩ := y
  have hB := (Array.getElem?_eq_some_iff.1 h1).1
  have hm := h2.lt
  have hBm : B ≠ m := by
    intro e
    obtain ⟨es, c, hb, _⟩ := h2
    rw [e, hb] at h1; cases h1
  have HX : Hid (∀ w1, Below (w.alloc (.cells #[.int .i32 x1, .int .i32 x2, .int .u8 x3] 26)).heap.size (w.alloc (.cells #[.int .i32 x1, .int .i32 x2, .int .u8 x3] 26)) w1 →
      w1.heap[w.heap.size]? = some (.cells #[.int .i32 x1, .int .i32 x2, .int .u8 x3] 26) ∧ w1.cell? ⟨B, 0, none⟩ = some (.map (some m)) ∧ (∀ X : World, X.heap[m]? = w1.heap[m]? → (Instr.lookup 81 (.map (some m)) (.int .i32 x1) true).run Tryz.prog X = .ok (.tuple #[.agg #[.int .i32 y1, .int .i32 y2, .int .u8 y3], .bool false]) X) ∧
      (∀ X : World, X.heap[m]? = w1.heap[m]? → ∃ w', (Instr.mapUpdate 81 (.map (some m)) (.int .i32 x1) (.agg #[.int .i32 x1, .int .i32 x2, .int .u8 x3])).run Tryz.prog X = .ok () w' ∧ BrMap w' m (rows ++ [⟨x1, x2, x3⟩]) ∧ X.grownBy w' (some m)) ∧ B < w1.heap.size ∧ w.heap.size < w1.heap.size ∧ m < w1.heap.size ∧ Below w.heap.size w w1) := fun w1 hb => by
    have e0 := (hb.block w.heap.size (by simp)).trans (heap_alloc_new w _)
    have e1 := (hb.block B (by simp; omega)).trans ((Below.heap_alloc w _ _ hB).trans h1)
    have e2 := (hb.block m (by simp; omega)).trans (Below.heap_alloc w _ _ hm)
    have hsz := hb.size
    simp only [World.size_alloc] at hsz
    refine ⟨e0, by simp [World.cell?, e1], fun X hX => hlk X (hX.trans e2), fun X hX => hput X (hX.trans e2), by omega, by omega, by omega, ((Below.refl _ w).alloc (Nat.le_refl _) _).trans (hb.mono (by simp))⟩
  clear h1 h2 hE hr o1 o2 o3 hs hy hlk hput hlen
  go_enter Tryz.func55, Tryz.ntmps55
  go_wp2_with (go_at_call 89; with_reducible refine (unhideB HR _).mono ?_; rintro e w1 ⟨rfl, hb⟩)
  obtain ⟨hx0, cB, hl, hput, l1, l2, l3, hbw⟩ := unhideB HX _ hb
  have c0 : w1.cell? ⟨w.heap.size, 0, none⟩ = some (.int .i32 x1) := by simp [World.cell?, hx0]
  have hl0 := hl w1.drew rfl
  have hl1 := fun o => hl (w1.alloc o).drew (Below.heap_alloc _ _ _ l3)
  have d1 : ∀ o, (w1.alloc o).cell? ⟨B, 0, none⟩ = some (.map (some m)) := fun o => by rw [World.cell?_alloc_lt _ _ ⟨B, 0, none⟩ l1]; exact cB
  have d0 : ∀ o, (w1.alloc o).cell? ⟨w.heap.size, 0, none⟩ = some (.int .i32 x1) := fun o => by rw [World.cell?_alloc_lt _ _ ⟨w.heap.size, 0, none⟩ l2]; exact c0
  obtain ⟨W2, hW2⟩ : ∃ W2, (w1.alloc (Obj.cells #[Value.int IntKind.i32 y1, Value.int IntKind.i32 y2, Value.int IntKind.u8 y3] 26)).drew = W2 := ⟨_, rfl⟩
  have HW2 := hideB hW2
  have HBW := hideB hbw
  clear hb hl hbw HX HR
  clear hW2
  go_region_held (fun X => X.cell? ⟨B, 0, none⟩ = some (.map (some m)) ∧ X.cell? ⟨w.heap.size, 0, none⟩ = some (.int .i32 x1))
    (first | exact ⟨cB, c0⟩ | exact ⟨d1 _, d0 _⟩ | go_keep) (fail)
  all_goals go_wp2
  all_goals
    have hx1 : (w1.alloc (Obj.cells #[Value.int IntKind.i32 y1, Value.int IntKind.i32 y2, Value.int IntKind.u8 y3] 26)).heap[w.heap.size]? = _ := (Below.heap_alloc _ _ _ l2).trans hx0
    obtain ⟨w9, hrun, hbm, hgr⟩ := hput (w1.alloc (Obj.cells #[Value.int IntKind.i32 y1, Value.int IntKind.i32 y2, Value.int IntKind.u8 y3] 26)).drew.drew (Below.heap_alloc _ _ _ l3)
    have f0 : (w1.alloc (Obj.cells #[Value.int IntKind.i32 y1, Value.int IntKind.i32 y2, Value.int IntKind.u8 y3] 26)).cell? ⟨w.heap.size, 0, none⟩ = some (.int .i32 x1) := by simp [World.cell?, hx1]
    have f1 : (w1.alloc (Obj.cells #[Value.int IntKind.i32 y1, Value.int IntKind.i32 y2, Value.int IntKind.u8 y3] 26)).cell? ⟨w.heap.size, 1, none⟩ = some (.int .i32 x2) := by simp [World.cell?, hx1]
    have f2 : (w1.alloc (Obj.cells #[Value.int IntKind.i32 y1, Value.int IntKind.i32 y2, Value.int IntKind.u8 y3] 26)).cell? ⟨w.heap.size, 2, none⟩ = some (.int .u8 x3) := by simp [World.cell?, hx1]
    have f3 := d1 (Obj.cells #[Value.int IntKind.i32 y1, Value.int IntKind.i32 y2, Value.int IntKind.u8 y3] 26)
    have HF := hideB (⟨hbm, (ButB.of_below (unhideB HBW)).trans ((ButB.of_below (((Below.refl _ w1).alloc (Nat.le_refl _) _).trans (c := (w1.alloc (Obj.cells #[Value.int IntKind.i32 y1, Value.int IntKind.i32 y2, Value.int IntKind.u8 y3] 26)).drew.drew) ⟨rfl, rfl, rfl, Nat.le_refl _, fun _ _ => rfl⟩)).trans (ButB.of_grown hgr))⟩ : BrMap w9 m (rows ++ [⟨x1, x2, x3⟩]) ∧ ButB m w w9)
    clear hput hbm hgr hl0 hl1 d0 d1 hx1 HBW HW2
    go_region
    all_goals go_wp2
    all_goals go_ret
    all_goals exact ⟨rfl, unhideB HF⟩
end Go.Proofs.YtijiiapnbeljnaaGreatDoor

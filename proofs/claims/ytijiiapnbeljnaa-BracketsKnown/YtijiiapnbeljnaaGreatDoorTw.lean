/-
  These texts, one behind the other: BrT, BrT2, BrT3, BrPm.
-/
import Derived.Test.YtijiiapnbeljnaaGreatDoorBrC
import Derived.Shelf.SlMaps.Clone
import Derived.Test.YtijiiapnbeljnaaGreatDoorBrP
/-
  Twins of package brackets: a copy of a map of brackets; addTwin.
-/
namespace Go.Proofs.YtijiiapnbeljnaaGreatDoor
open Go.RowKit Go.PlainAid Go.Maps
set_option linter.unusedVariables false
set_option linter.unusedSimpArgs false

set_option maxRecDepth 100000 in
theorem clone_any (b : Nat) (l : List BrD) (w : World) (h : BrMap w b l) : Calls Tryz.prog 38 #[.map (some b)] w fun e w' => e = .returned (.map (some w.heap.size)) ∧ BrMap w' w.heap.size l ∧ Below w.heap.size w w' := by
  obtain ⟨es, clock, hb, F, hs, hD⟩ := h
  have hq := fun w => run_eql_map_nil_sl (P := Tryz.prog) w 81 _ _ (some b) Tryz.underlying81
  have hB : Below w.heap.size w (w.alloc (.map es clock)) := (Below.refl _ w).alloc (Nat.le_refl _) _
  have HF : Hid (BrMap (w.alloc (.map es clock)) w.heap.size l) := ⟨es, clock, (MapKept.heap_alloc w _).1, F, hs, hD⟩
  have HB := hideB hb
  clear hb F hs hD
  go_enter Tryz.func38, Tryz.ntmps38
  go_wp2
  rw [run_callFunc_extern Tryz.func66 (by kernel_rfl) (by kernel_rfl) (by kernel_rfl) (e := Extern.MapsClone.clone) (by kernel_rfl), run_maps_clone_sl w 81 (unhideB HB)]
  simp only [Result.andThen]
  rw [Oper.upon_value]
  go_wp2
  rw [run_typeAssert_map_sl _ 81 _ _ _ _ Tryz.underlying81]
  simp only [Result.andThen]
  rw [Oper.upon_value]
  go_wp2
  go_ret
  exact ⟨rfl, unhideB HF, hB⟩

/-- what is taken up of a twin -/
def addT (rows : List BrD) (tw : List (Int × Int)) (t : Int × Int) : List (Int × Int) := if (findB rows t.1).isSome && (findT tw t.1).isNone then tw ++ [t] else tw

set_option maxHeartbeats 1000000 in
set_option maxRecDepth 100000 in
theorem addTwin_any (B m mt : Nat) (rows : List BrD) (tw : List (Int × Int)) (t1 t2 : Int) (o1 : i32Ok t1) (o2 : i32Ok t2) (w : World) (h1 : w.heap[B]? = some (.cells #[.map (some m), .map (some mt)] 85 (0, 0))) (h2 : BrMap w m rows) (h3 : TwMap w mt tw) (hlen : tw.length < maxLen) :
    Calls Tryz.prog 39 #[.pointer (some ⟨B, 0, none⟩), .agg #[.int .i32 t1, .int .i32 t2]] w fun e w' => e = .returned (.tuple #[]) ∧ TwMap w' mt (addT rows tw (t1, t2)) ∧ ButB mt w w' := by
  obtain ⟨y, b1, hl, hb1⟩ : ∃ y b1, (∀ X : World, X.heap[m]? = w.heap[m]? → (Instr.lookup 81 (.map (some m)) (.int .i32 t1) true).run Tryz.prog X = .ok (.tuple #[brV y, .bool b1]) X) ∧ (findB rows t1).isSome = b1 := ⟨_, _, fun X hX => (h2.same hX).look o1, rfl⟩
  obtain ⟨z, b2, hk, hb2⟩ : ∃ z b2, (∀ X : World, X.heap[mt]? = w.heap[mt]? → (Instr.lookup 83 (.map (some mt)) (.int .i32 t1) true).run Tryz.prog X = .ok (.tuple #[.int .i32 z, .bool b2]) X) ∧ (findT tw t1).isSome = b2 := ⟨_, _, fun X hX => (h3.same hX).look o1, rfl⟩
  have hput : ∀ X : World, X.heap[mt]? = w.heap[mt]? → ∃ w', (Instr.mapUpdate 83 (.map (some mt)) (.int .i32 t1) (.int .i32 t2)).run Tryz.prog X = .ok () w' ∧ TwMap w' mt (tw ++ [(t1, t2)]) ∧ X.grownBy w' (some mt) := fun X hX => (h3.same hX).put (t1, t2) o1 o2 hlen
  have hT : ∀ X : World, X.heap[mt]? = w.heap[mt]? → TwMap X mt tw := fun X hX => h3.same hX
  have hE : addT rows tw (t1, t2) = if b1 && !b2 then tw ++ [(t1, t2)] else tw := by
    unfold addT
    rw [← hb1, ← hb2]
    simp
  obtain ⟨y1, y2, y3⟩ := y
  have hB := (Array.getElem?_eq_some_iff.1 h1).1
  have hm := h2.lt
  have hmt := h3.lt
  obtain ⟨w1, hw1⟩ : ∃ w1, w.alloc (.cells #[.int .i32 t1, .int .i32 t2] 40) = w1 := ⟨_, rfl⟩
  have hbw : Below w.heap.size w w1 := by rw [← hw1]; exact (Below.refl _ w).alloc (Nat.le_refl _) _
  have e0 : w1.heap[w.heap.size]? = some (.cells #[.int .i32 t1, .int .i32 t2] 40 (0, 0)) := by rw [← hw1]; exact heap_alloc_new w _
  have hs1 : w1.heap.size = w.heap.size + 1 := by rw [← hw1]; simp
  have e1 : w1.heap[B]? = _ := (hbw.block B hB).trans h1
  have em := hbw.block m hm
  have emt := hbw.block mt hmt
  have c0 : w1.cell? ⟨w.heap.size, 0, none⟩ = some (.int .i32 t1) := by simp [World.cell?, e0]
  have cB : w1.cell? ⟨B, 0, none⟩ = some (.map (some m)) := by simp [World.cell?, e1]
  have hl0 := hl w1.drew em
  have hl1 := fun o => hl (w1.alloc o).drew ((Below.heap_alloc _ _ _ (by omega)).trans em)
  have d1 : ∀ o, (w1.alloc o).cell? ⟨B, 0, none⟩ = some (.map (some m)) := fun o => by rw [World.cell?_alloc_lt _ _ ⟨B, 0, none⟩ (by show B < _; omega)]; exact cB
  have d0 : ∀ o, (w1.alloc o).cell? ⟨w.heap.size, 0, none⟩ = some (.int .i32 t1) := fun o => by rw [World.cell?_alloc_lt _ _ ⟨w.heap.size, 0, none⟩ (by show w.heap.size < _; omega)]; exact c0
  obtain ⟨w2, hw2⟩ : ∃ w2, w1.alloc (Obj.cells #[Value.int IntKind.i32 y1, Value.int IntKind.i32 y2, Value.int IntKind.u8 y3] 26) = w2 := ⟨_, rfl⟩
  have hbw2 : Below w.heap.size w w2 := by rw [← hw2]; exact hbw.alloc hbw.size _
  have hs2 : w2.heap.size = w.heap.size + 2 := by rw [← hw2]; simp [hs1]
  have e02 : w2.heap[w.heap.size]? = some (.cells #[.int .i32 t1, .int .i32 t2] 40 (0, 0)) := by rw [← hw2]; exact (Below.heap_alloc _ _ _ (by omega)).trans e0
  have e12 : w2.heap[B]? = _ := (hbw2.block B hB).trans h1
  have emt2 := hbw2.block mt hmt
  have f0 : w2.cell? ⟨w.heap.size, 0, none⟩ = some (.int .i32 t1) := by simp [World.cell?, e02]
  have f1 : w2.cell? ⟨w.heap.size, 1, none⟩ = some (.int .i32 t2) := by simp [World.cell?, e02]
  have f2 : w2.cell? ⟨B, 1, none⟩ = some (.map (some mt)) := by simp [World.cell?, e12]
  have hk0 := hk w2.drew emt2
  have hk1 := hk w2.drew.drew emt2
  obtain ⟨w9, hrun, hbm, hgr⟩ := hput w2.drew.drew.drew emt2
  have HW : Hid (TwMap w9 mt (tw ++ [(t1, t2)]) ∧ ButB mt w w9) := ⟨hbm, (ButB.of_below hbw2).trans ((ButB.of_below (w := w2) (w' := w2.drew.drew.drew) ⟨rfl, rfl, rfl, Nat.le_refl _, fun _ _ => rfl⟩).trans (ButB.of_grown hgr))⟩
  have HN : Hid (TwMap w2.drew.drew mt tw ∧ ButB mt w w2.drew.drew) := ⟨hT _ emt2, (ButB.of_below hbw2).trans (ButB.of_below (w := w2) (w' := w2.drew.drew) ⟨rfl, rfl, rfl, Nat.le_refl _, fun _ _ => rfl⟩)⟩
  have HE := hideB hE
  have HW2 := hideB hw2
  clear h1 h2 h3 hlen hl hk hput hT hE e0 e1 em emt e02 e12 emt2 hbw hbw2 hbm hgr hw2 hb1 hb2 o1 o2
  cases b1
  case false =>
    have HE' : Hid (addT rows tw (t1, t2) = tw) := by show _ = _; rw [unhideB HE]; simp
    clear HE HW hrun
    go_enter Tryz.func39, Tryz.ntmps39
    go_wp2
    clear hw1
    go_region_held (fun X => X.cell? ⟨B, 0, none⟩ = some (.map (some m)) ∧ X.cell? ⟨w.heap.size, 0, none⟩ = some (.int .i32 t1))
      (first | exact ⟨cB, c0⟩ | exact ⟨d1 _, d0 _⟩ | go_keep) (fail)
    all_goals (try rw [unhideB HW2])
    all_goals go_wp2
    all_goals go_region
    all_goals go_wp2
    all_goals (refine bodyPost_end (results_none rfl _ _ _) rfl ?_)
    all_goals exact ⟨rfl, by rw [unhideB HE']; exact (unhideB HN).1, (unhideB HN).2⟩
  case true =>
    cases b2
    case true =>
      have HE' : Hid (addT rows tw (t1, t2) = tw) := by show _ = _; rw [unhideB HE]; simp
      clear HE HW hrun
      go_enter Tryz.func39, Tryz.ntmps39
      go_wp2
      clear hw1
      go_region_held (fun X => X.cell? ⟨B, 0, none⟩ = some (.map (some m)) ∧ X.cell? ⟨w.heap.size, 0, none⟩ = some (.int .i32 t1))
        (first | exact ⟨cB, c0⟩ | exact ⟨d1 _, d0 _⟩ | go_keep) (fail)
      all_goals (try rw [unhideB HW2])
      all_goals go_wp2
      all_goals go_region
      all_goals go_wp2
      all_goals (refine bodyPost_end (results_none rfl _ _ _) rfl ?_)
      all_goals exact ⟨rfl, by rw [unhideB HE']; exact (unhideB HN).1, (unhideB HN).2⟩
    case false =>
      have HE' : Hid (addT rows tw (t1, t2) = tw ++ [(t1, t2)]) := by show _ = _; rw [unhideB HE]; simp
      clear HE HN
      go_enter Tryz.func39, Tryz.ntmps39
      go_wp2
      clear hw1
      go_region_held (fun X => X.cell? ⟨B, 0, none⟩ = some (.map (some m)) ∧ X.cell? ⟨w.heap.size, 0, none⟩ = some (.int .i32 t1))
        (first | exact ⟨cB, c0⟩ | exact ⟨d1 _, d0 _⟩ | go_keep) (fail)
      all_goals (try rw [unhideB HW2])
      all_goals go_wp2
      all_goals go_region
      all_goals go_wp2
      all_goals go_region
      all_goals go_wp2
      all_goals (refine bodyPost_end (results_none rfl _ _ _) rfl ?_)
      all_goals exact ⟨rfl, by rw [unhideB HE']; exact (unhideB HW).1, (unhideB HW).2⟩
end Go.Proofs.YtijiiapnbeljnaaGreatDoor
/-
  Twins of package brackets: allows.
-/
namespace Go.Proofs.YtijiiapnbeljnaaGreatDoor
open Go.RowKit Go.PlainAid Go.Maps
set_option linter.unusedVariables false
set_option linter.unusedSimpArgs false

theorem bdr3N {B : Nat} {w V : World} (h : Below B w V) (n : Nat) : Below B w (V.drew.drew.drew.drewN n) := h.trans ⟨rfl, rfl, rfl, Nat.le_refl _, fun _ _ => rfl⟩
/-- whether a twin may be -/
def allowsP (rows : List BrD) (tw : List (Int × Int)) (t : Int × Int) : Bool := match findB rows t.1 with
  | none => true
  | some x => match findB rows t.2 with
    | none => false
    | some y => (findT tw t.2).isNone && (decide (y.side = x.side) && decide (twnP tw x.oth = y.oth))

set_option maxHeartbeats 2000000 in
set_option maxRecDepth 100000 in
theorem allows_any (B : Nat) (rows : List BrD) (tw : List (Int × Int)) (hrs : ∀ x ∈ rows, BrOk x) (t1 t2 : Int) (o1 : i32Ok t1) (o2 : i32Ok t2) (w : World) (h : Book w B rows tw) :
    Calls Tryz.prog 40 #[.pointer (some ⟨B, 0, none⟩), .agg #[.int .i32 t1, .int .i32 t2]] w fun e w' => e = .returned (.bool (allowsP rows tw (t1, t2))) ∧ Below w.heap.size w w' := by
  obtain ⟨m, tv, h1, h2, h3⟩ := h.ex
  have hB := (Array.getElem?_eq_some_iff.1 h1).1
  have hm := h2.lt
  obtain ⟨w1, hw1⟩ : ∃ w1, w.alloc (.cells #[.int .i32 t1, .int .i32 t2] 40) = w1 := ⟨_, rfl⟩
  have hbw : Below w.heap.size w w1 := by rw [← hw1]; exact (Below.refl _ w).alloc (Nat.le_refl _) _
  have e0 : w1.heap[w.heap.size]? = some (.cells #[.int .i32 t1, .int .i32 t2] 40 (0, 0)) := by rw [← hw1]; exact heap_alloc_new w _
  have hs1 : w1.heap.size = w.heap.size + 1 := by rw [← hw1]; simp
  have k2 := h2.below hbw
  have e1 : w1.heap[B]? = _ := (hbw.block B hB).trans h1
  have c0 : w1.cell? ⟨w.heap.size, 0, none⟩ = some (.int .i32 t1) := by simp [World.cell?, e0]
  have cB : w1.cell? ⟨B, 0, none⟩ = some (.map (some m)) := by simp [World.cell?, e1]
  have d1 : ∀ o, (w1.alloc o).cell? ⟨B, 0, none⟩ = some (.map (some m)) := fun o => by rw [World.cell?_alloc_lt _ _ ⟨B, 0, none⟩ (by show B < _; omega)]; exact cB
  have d0 : ∀ o, (w1.alloc o).cell? ⟨w.heap.size, 0, none⟩ = some (.int .i32 t1) := fun o => by rw [World.cell?_alloc_lt _ _ ⟨w.heap.size, 0, none⟩ (by show w.heap.size < _; omega)]; exact c0
  have hl0 := (k2.same (w' := w1.drew) rfl).look o1
  have hl1 := fun o => (k2.same (w' := (w1.alloc o).drew) (Below.heap_alloc _ _ _ (by omega))).look o1
  cases hf : findB rows t1 with
  | none =>
    rw [hf] at hl0 hl1
    simp only [Option.getD_none, Option.isSome_none] at hl0 hl1
    have HE : Hid (allowsP rows tw (t1, t2) = true) := by show _ = _; unfold allowsP; rw [hf]
    have HB := hideB hbw
    clear h h1 h2 h3 e0 e1 k2 hbw hf
    go_enter Tryz.func40, Tryz.ntmps40
    go_wp2
    clear hw1
    go_region_held (fun X => X.cell? ⟨B, 0, none⟩ = some (.map (some m)) ∧ X.cell? ⟨w.heap.size, 0, none⟩ = some (.int .i32 t1))
      (first | exact ⟨cB, c0⟩ | exact ⟨d1 _, d0 _⟩ | go_keep) (fail)
    all_goals go_wp2
    all_goals go_ret
    all_goals exact ⟨by rw [unhideB HE]; rfl, (unhideB HB).trans (Below.mono (by go_grown) (unhideB HB).size)⟩
  | some x =>
    have hx := hrs x (findB_mem hf)
    obtain ⟨x1, x2, x3⟩ := x
    rw [hf] at hl0 hl1
    simp only [Option.getD_some, Option.isSome_some] at hl0 hl1
    obtain ⟨w2, hw2⟩ : ∃ w2, w1.alloc (Obj.cells #[Value.int IntKind.i32 x1, Value.int IntKind.i32 x2, Value.int IntKind.u8 x3] 26) = w2 := ⟨_, rfl⟩
    have hbw2 : Below w.heap.size w w2 := by rw [← hw2]; exact hbw.alloc hbw.size _
    have hs2 : w2.heap.size = w.heap.size + 2 := by rw [← hw2]; simp [hs1]
    have e02 : w2.heap[w.heap.size]? = some (.cells #[.int .i32 t1, .int .i32 t2] 40 (0, 0)) := by rw [← hw2]; exact (Below.heap_alloc _ _ _ (by omega)).trans e0
    have e12 : w2.heap[B]? = _ := (hbw2.block B hB).trans h1
    have ex2 : w2.heap[w.heap.size + 1]? = some (.cells #[.int .i32 x1, .int .i32 x2, .int .u8 x3] 26 (0, 0)) := by rw [← hw2, ← hs1]; exact heap_alloc_new w1 _
    have k3 := h2.below hbw2
    have f1 : w2.cell? ⟨w.heap.size, 1, none⟩ = some (.int .i32 t2) := by simp [World.cell?, e02]
    have f2 : w2.cell? ⟨B, 0, none⟩ = some (.map (some m)) := by simp [World.cell?, e12]
    have g1 : ∀ o, (w2.alloc o).cell? ⟨w.heap.size, 1, none⟩ = some (.int .i32 t2) := fun o => by rw [World.cell?_alloc_lt _ _ ⟨w.heap.size, 1, none⟩ (by show w.heap.size < _; omega)]; exact f1
    have g2 : ∀ o, (w2.alloc o).cell? ⟨B, 0, none⟩ = some (.map (some m)) := fun o => by rw [World.cell?_alloc_lt _ _ ⟨B, 0, none⟩ (by show B < _; omega)]; exact f2
    have j1 : ∀ o, (w2.drew.alloc o).cell? ⟨w.heap.size, 1, none⟩ = some (.int .i32 t2) := g1
    have j2 : ∀ o, (w2.drew.alloc o).cell? ⟨B, 0, none⟩ = some (.map (some m)) := g2
    have hp0 := (k3.same (w' := w2.drew.drew) rfl).look o2
    have hp1 := fun o => (k3.same (w' := (w2.alloc o).drew.drew) (Below.heap_alloc _ _ _ (by omega))).look o2
    have hp2 := fun o => (k3.same (w' := (w2.drew.alloc o).drew) (Below.heap_alloc w2 _ _ (by omega))).look o2
    obtain ⟨y, b1, hy, hE⟩ : ∃ y b1, (y = (findB rows t2).getD zeroB ∧ b1 = (findB rows t2).isSome) ∧ allowsP rows tw (t1, t2) = (b1 && ((findT tw t2).isNone && (decide (y.side = x3) && decide (twnP tw x2 = y.oth)))) := by
      refine ⟨_, _, ⟨rfl, rfl⟩, ?_⟩
      unfold allowsP
      rw [hf]
      cases findB rows t2 <;> simp
    rw [← hy.1, ← hy.2] at hp0 hp1 hp2
    obtain ⟨y1, y2, y3⟩ := y
    simp only at hE
    obtain ⟨w3, hw3⟩ : ∃ w3, w2.alloc (Obj.cells #[Value.int IntKind.i32 y1, Value.int IntKind.i32 y2, Value.int IntKind.u8 y3] 26) = w3 := ⟨_, rfl⟩
    have hbw3 : Below w.heap.size w w3 := by rw [← hw3]; exact hbw2.alloc hbw2.size _
    have hs3 : w3.heap.size = w.heap.size + 3 := by rw [← hw3]; simp [hs2]
    have hB3 := h.below hbw3
    have e13 : w3.heap[B]? = _ := (hbw3.block B hB).trans h1
    have e03 : w3.heap[w.heap.size]? = some (.cells #[.int .i32 t1, .int .i32 t2] 40 (0, 0)) := by rw [← hw3]; exact (Below.heap_alloc _ _ _ (by omega)).trans e02
    have ex3 : w3.heap[w.heap.size + 1]? = some (.cells #[.int .i32 x1, .int .i32 x2, .int .u8 x3] 26 (0, 0)) := by rw [← hw3]; exact (Below.heap_alloc _ _ _ (by omega)).trans ex2
    have ey3 : w3.heap[w.heap.size + 2]? = some (.cells #[.int .i32 y1, .int .i32 y2, .int .u8 y3] 26 (0, 0)) := by rw [← hw3, ← hs2]; exact heap_alloc_new w2 _
    have a1 : w3.cell? ⟨w.heap.size, 1, none⟩ = some (.int .i32 t2) := by simp [World.cell?, e03]
    have a2 : w3.cell? ⟨B, 1, none⟩ = some tv := by simp [World.cell?, e13]
    have a3 : w3.cell? ⟨w.heap.size + 1, 1, none⟩ = some (.int .i32 x2) := by simp [World.cell?, ex3]
    have a4 : w3.cell? ⟨w.heap.size + 1, 2, none⟩ = some (.int .u8 x3) := by simp [World.cell?, ex3]
    have a5 : w3.cell? ⟨w.heap.size + 2, 1, none⟩ = some (.int .i32 y2) := by simp [World.cell?, ey3]
    have a6 : w3.cell? ⟨w.heap.size + 2, 2, none⟩ = some (.int .u8 y3) := by simp [World.cell?, ey3]
    have hT := h3.below hbw3
    have sameT : ∀ X : World, X.heap = w3.heap → TwAt X tv tw := fun X hX => hT.imp id fun ⟨mt, e, hh⟩ => ⟨mt, e, hh.same (by rw [hX])⟩
    have sameB : ∀ X : World, X.heap = w3.heap → Book X B rows tw := fun X hX => by
      obtain ⟨m', tv', q1, q2, q3⟩ := hB3.ex
      exact ⟨m', tv', by rw [hX]; exact q1, q2.same (by rw [hX]), q3.imp id fun ⟨mt, e, hh⟩ => ⟨mt, e, hh.same (by rw [hX])⟩⟩
    have hq0 := (sameT w3.drew.drew rfl).look o2
    have hq1 := (sameT w3.drew.drew.drew rfl).look o2
    have HTW := hideB (fun n => twin_book B rows tw x2 hx.2.1 (w3.drewN n) (sameB _ rfl))
    have HW2 := hideB hw2
    have HW3 := hideB hw3
    have HB3 := hideB hbw3
    have hu : ∀ b2 : Bool, (findT tw t2).isSome = b2 → (findT tw t2).isNone = !b2 := fun b2 e => by rw [← e]; cases findT tw t2 <;> rfl
    obtain ⟨zz, hzz⟩ : ∃ zz, (findT tw t2).getD 0 = zz := ⟨_, rfl⟩
    obtain ⟨b2, hb2⟩ : ∃ b2, (findT tw t2).isSome = b2 := ⟨_, rfl⟩
    rw [hu b2 hb2] at hE
    rw [hzz, hb2] at hq0 hq1
    generalize twnP tw x2 = tt at *
    have HE := hideB hE
    clear h h1 h2 h3 e0 e1 k2 hbw hf hx hw2 hw3 hbw2 hbw3 hB3 e02 e12 ex2 k3 e13 e03 ex3 ey3 hT sameT sameB hu hzz hb2 hE hy o1 o2 hrs
    cases b1
    case false =>
      have HE' : Hid (allowsP rows tw (t1, t2) = false) := by show _ = _; rw [unhideB HE]; rfl
      clear HE HTW
      go_enter Tryz.func40, Tryz.ntmps40
      go_wp2
      clear hw1
      go_region_held (fun X => X.cell? ⟨B, 0, none⟩ = some (.map (some m)) ∧ X.cell? ⟨w.heap.size, 0, none⟩ = some (.int .i32 t1))
        (first | exact ⟨cB, c0⟩ | exact ⟨d1 _, d0 _⟩ | go_keep) (fail)
      all_goals (try rw [unhideB HW2])
      all_goals go_wp2
      all_goals
        go_region_held (fun X => X.cell? ⟨B, 0, none⟩ = some (.map (some m)) ∧ X.cell? ⟨w.heap.size, 1, none⟩ = some (.int .i32 t2))
          (first | exact ⟨f2, f1⟩ | exact ⟨g2 _, g1 _⟩ | exact ⟨j2 _, j1 _⟩ | go_keep) (fail)
      all_goals (try rw [unhideB HW3])
      all_goals go_wp2
      all_goals go_region
      all_goals go_wp2
      all_goals go_quiet (fail)
      all_goals go_wp2
      all_goals go_ret
      all_goals exact ⟨by rw [unhideB HE']; rfl, bdr3N (unhideB HB3) _⟩
    case true =>
      cases b2
      case true =>
        have HE' : Hid (allowsP rows tw (t1, t2) = false) := by show _ = _; rw [unhideB HE]; rfl
        clear HE HTW
        go_enter Tryz.func40, Tryz.ntmps40
        go_wp2
        clear hw1
        go_region_held (fun X => X.cell? ⟨B, 0, none⟩ = some (.map (some m)) ∧ X.cell? ⟨w.heap.size, 0, none⟩ = some (.int .i32 t1))
          (first | exact ⟨cB, c0⟩ | exact ⟨d1 _, d0 _⟩ | go_keep) (fail)
        all_goals (try rw [unhideB HW2])
        all_goals go_wp2
        all_goals
          go_region_held (fun X => X.cell? ⟨B, 0, none⟩ = some (.map (some m)) ∧ X.cell? ⟨w.heap.size, 1, none⟩ = some (.int .i32 t2))
            (first | exact ⟨f2, f1⟩ | exact ⟨g2 _, g1 _⟩ | exact ⟨j2 _, j1 _⟩ | go_keep) (fail)
        all_goals (try rw [unhideB HW3])
        all_goals go_wp2
        all_goals go_region
        all_goals go_wp2
        all_goals go_quiet (fail)
        all_goals go_wp2
        all_goals go_ret
        all_goals exact ⟨by rw [unhideB HE']; rfl, bdr3N (unhideB HB3) _⟩
      case false =>
        by_cases h3 : y3 = x3
        · have d3 : (y3 == x3) = true := by simpa using h3
          have HE' : Hid (allowsP rows tw (t1, t2) = (tt == y2)) := by show _ = _; rw [unhideB HE]; cases h : decide (tt = y2) <;> simp_all
          clear HE h3
          go_enter Tryz.func40, Tryz.ntmps40
          go_wp2
          clear hw1
          go_region_held (fun X => X.cell? ⟨B, 0, none⟩ = some (.map (some m)) ∧ X.cell? ⟨w.heap.size, 0, none⟩ = some (.int .i32 t1))
            (first | exact ⟨cB, c0⟩ | exact ⟨d1 _, d0 _⟩ | go_keep) (fail)
          all_goals (try rw [unhideB HW2])
          all_goals go_wp2
          all_goals
            go_region_held (fun X => X.cell? ⟨B, 0, none⟩ = some (.map (some m)) ∧ X.cell? ⟨w.heap.size, 1, none⟩ = some (.int .i32 t2))
              (first | exact ⟨f2, f1⟩ | exact ⟨g2 _, g1 _⟩ | exact ⟨j2 _, j1 _⟩ | go_keep) (fail)
          all_goals (try rw [unhideB HW3])
          all_goals go_wp2
          all_goals go_region
          all_goals go_wp2
          all_goals go_quiet (first | (go_at_call 22; exact (unhideB HTW _).mono fun e w' h => ⟨h.1, _, h.2⟩))
          all_goals go_wp2
          all_goals go_ret
          all_goals exact ⟨by rw [unhideB HE']; rfl, bdr3N (unhideB HB3) _⟩
        · have d3 : (y3 == x3) = false := by simpa using h3
          have d3' : decide (y3 = x3) = false := by simpa using h3
          have HE' : Hid (allowsP rows tw (t1, t2) = false) := by show _ = _; rw [unhideB HE, d3']; rfl
          clear HE HTW
          go_enter Tryz.func40, Tryz.ntmps40
          go_wp2
          clear hw1
          go_region_held (fun X => X.cell? ⟨B, 0, none⟩ = some (.map (some m)) ∧ X.cell? ⟨w.heap.size, 0, none⟩ = some (.int .i32 t1))
            (first | exact ⟨cB, c0⟩ | exact ⟨d1 _, d0 _⟩ | go_keep) (fail)
          all_goals (try rw [unhideB HW2])
          all_goals go_wp2
          all_goals
            go_region_held (fun X => X.cell? ⟨B, 0, none⟩ = some (.map (some m)) ∧ X.cell? ⟨w.heap.size, 1, none⟩ = some (.int .i32 t2))
              (first | exact ⟨f2, f1⟩ | exact ⟨g2 _, g1 _⟩ | exact ⟨j2 _, j1 _⟩ | go_keep) (fail)
          all_goals (try rw [unhideB HW3])
          all_goals go_wp2
          all_goals go_region
          all_goals go_wp2
          all_goals go_quiet (fail)
          all_goals go_wp2
          all_goals go_ret
          all_goals exact ⟨by rw [unhideB HE']; rfl, bdr3N (unhideB HB3) _⟩
end Go.Proofs.YtijiiapnbeljnaaGreatDoor
/-
  Twins of a book.
-/
namespace Go.Proofs.YtijiiapnbeljnaaGreatDoor
open Go.RowKit Go.PlainAid Go.Maps
set_option linter.unusedVariables false
set_option linter.unusedSimpArgs false

/-- twins in memory, wherever they lie -/
def TwMem (w : World) (a : Option Addr) (l : List (Int × Int)) : Prop := ∀ (i : Nat) (x : Int × Int), l[i]? = some x → ∃ g off, a = some ⟨g, off, none⟩ ∧ w.cell? ⟨g, off + i * 2, none⟩ = some (.int .i32 x.1) ∧ w.cell? ⟨g, off + i * 2 + 1, none⟩ = some (.int .i32 x.2)
theorem TwMem.below {w w' : World} {a : Option Addr} {l : List (Int × Int)} (h : TwMem w a l) (hb : Below w.heap.size w w') : TwMem w' a l := fun i x hx => by
  obtain ⟨g, off, rfl, h0, h1⟩ := h i x hx
  exact ⟨g, off, rfl, (hb.cell (World.block_lt_of_cell? _ _ h0)).trans h0, (hb.cell (World.block_lt_of_cell? _ _ h1)).trans h1⟩
def twinsL (rows : List BrD) (l : List (Int × Int)) : List (Int × Int) := l.foldl (addT rows) []
theorem addT_len (rows : List BrD) (tw : List (Int × Int)) (t : Int × Int) : (addT rows tw t).length ≤ tw.length + 1 := by
  unfold addT
  split <;> simp
theorem foldT_len (rows : List BrD) (l : List (Int × Int)) : ∀ tw, (l.foldl (addT rows) tw).length ≤ tw.length + l.length := by
  induction l with
  | nil => intro tw; simp
  | cons t l ih => intro tw; simp only [List.foldl_cons, List.length_cons]; have := ih (addT rows tw t); have := addT_len rows tw t; omega
theorem takeT_snoc {α : Type} {l : List α} {i : Nat} {x : α} (h : l[i]? = some x) : l.take (i + 1) = l.take i ++ [x] := by rw [List.take_add_one, h]; rfl
/-- the first twin that may not be -/
def badT (rows : List BrD) (tw l : List (Int × Int)) : Option Nat := l.findIdx? (fun t => !allowsP rows tw t)
theorem badT_none {rows : List BrD} {tw l : List (Int × Int)} (h : ∀ t ∈ l, allowsP rows tw t = true) : badT rows tw l = none := by
  unfold badT
  rw [List.findIdx?_eq_none_iff]
  intro t ht
  simp [h t ht]
theorem badT_some {rows : List BrD} {tw l : List (Int × Int)} {i : Nat} {x : Int × Int} (hx : l[i]? = some x) (h : ∀ t ∈ l.take i, allowsP rows tw t = true) (hb : allowsP rows tw x = false) : badT rows tw l = some i := by
  unfold badT
  obtain ⟨hi, e⟩ := List.getElem?_eq_some_iff.1 hx
  rw [List.findIdx?_eq_some_iff_getElem]
  refine ⟨hi, by rw [e]; simp [hb], fun j hj => ?_⟩
  have : l[j] ∈ l.take i := by rw [List.mem_take_iff_getElem]; exact ⟨j, by omega, rfl⟩
  simp [h _ this]

set_option maxHeartbeats 2000000 in
set_option maxRecDepth 100000 in
theorem twins_any (B : Nat) (rows : List BrD) (tw : List (Int × Int)) (hrs : ∀ x ∈ rows, BrOk x) (l : List (Int × Int)) (a : Option Addr) (nn c : Nat) (hl : l.length = nn) (hnb : nn ≤ 1099511627776) (hok : ∀ t ∈ l, i32Ok t.1 ∧ i32Ok t.2) (w : World) (h : Book w B rows tw) (hm : TwMem w a l) :
    Calls Tryz.prog 15 #[.pointer (some ⟨B, 0, none⟩), .slice a nn c] w fun e w' => Below w.heap.size w w' ∧
      ((∃ k : Nat, badT rows (twinsL rows l) l = some k ∧ e = .returned (.tuple #[.pointer none, .int .i64 k, .int .i64 83])) ∨
        (badT rows (twinsL rows l) l = none ∧ ∃ B' : Nat, e = .returned (.tuple #[.pointer (some ⟨B', 0, none⟩), .int .i64 0, .int .i64 0]) ∧ Book w' B' rows (twinsL rows l))) := by
  obtain ⟨m, tv, h1, h2, h3⟩ := h.ex
  have HM := hideB (made_book B m tv w h1)
  have HC := hideB (clone_any m rows w h2)
  have c0 : w.cell? ⟨B, 0, none⟩ = some (.map (some m)) := by simp [World.cell?, h1]
  have HL := hideB hl
  have HTM := hideB hm
  have HOK := hideB hok
  have HRS := hideB hrs
  obtain ⟨TL, hTL⟩ : ∃ TL, twinsL rows l = TL := ⟨_, rfl⟩
  have HTL := hideB hTL
  rw [hTL]
  clear hTL
  have hmm := @run_makeMap Tryz.prog
  clear h h1 h2 h3 hl hm hok hrs
  go_enter Tryz.func15, Tryz.ntmps15
  go_wp2_with (first | (go_at_call 37; with_reducible refine (unhideB HM).mono ?_; rintro e w' ⟨rfl, h⟩; cases h) | (go_at_call 38; with_reducible refine (unhideB HC).mono ?_; rintro e w1 ⟨rfl, hcm, hb1⟩; have HCM := hideB hcm; have HB1 := hideB hb1; clear hcm hb1))
  clear hmm HM HC c0
  obtain ⟨W0, hW0⟩ : ∃ W0, (w1.alloc (.map #[] 0)).alloc (.cells #[.map (some w.heap.size), .map (some w1.heap.size)] 85) = W0 := ⟨_, rfl⟩
  have hb0 : Below w1.heap.size w1 W0 := by rw [← hW0]; exact ((Below.refl _ w1).alloc (Nat.le_refl _) _).alloc (by simp) _
  have hbw := (unhideB HB1).trans (hb0.mono (unhideB HB1).size)
  have hbk : W0.heap[w1.heap.size + 1]? = some (.cells #[.map (some w.heap.size), .map (some w1.heap.size)] 85 (0, 0)) := by
    have h := heap_alloc_new (w1.alloc (.map #[] 0)) (.cells #[.map (some w.heap.size), .map (some w1.heap.size)] 85)
    rw [World.size_alloc] at h
    rw [← hW0]; exact h
  have hbr : BrMap W0 w.heap.size rows := (unhideB HCM).below hb0
  have htw : TwMap W0 w1.heap.size [] := by
    rw [← hW0]
    exact (TwMap.new w1).same (Below.heap_alloc _ _ _ (by simp))
  have hs1 : w.heap.size < w1.heap.size := (unhideB HCM).lt
  rw [hW0]
  have HI0 : Hid (W0.heap[w1.heap.size + 1]? = some (.cells #[.map (some w.heap.size), .map (some w1.heap.size)] 85 (0, 0)) ∧ BrMap W0 w.heap.size rows ∧ TwMap W0 w1.heap.size [] ∧ Below w.heap.size w W0) := ⟨hbk, hbr, htw, hbw⟩
  clear hW0 hb0 hbw hbk hbr htw HCM HB1
  go_loopw [25] (fun v25 wr => ∃ i : Nat, v25 = .int .i64 i ∧ i ≤ nn ∧ Hid (wr.heap[w1.heap.size + 1]? = some (.cells #[.map (some w.heap.size), .map (some w1.heap.size)] 85 (0, 0)) ∧ BrMap wr w.heap.size rows ∧ TwMap wr w1.heap.size (twinsL rows (l.take i)) ∧ Below w.heap.size w wr)) (fun v25 _ => nn - (RowKit.intOf v25).toNat)
  case atStart => exact ⟨0, rfl, Nat.zero_le _, HI0⟩
  case round =>
    obtain ⟨i, rfl, hi, HI⟩ := hrel
    by_cases hlt : i < nn
    · obtain ⟨x, hx⟩ : ∃ x, l[i]? = some x := ⟨_, List.getElem?_eq_getElem (by rw [unhideB HL]; exact hlt)⟩
      obtain ⟨k1, k2, k3, k4⟩ := unhideB HI
      obtain ⟨g, off, rfl, cx0, cx1⟩ := ((unhideB HTM).below k4) i x hx
      obtain ⟨o1, o2⟩ := unhideB HOK x (List.mem_of_getElem? hx)
      obtain ⟨x1, x2⟩ := x
      simp only at cx0 cx1 o1 o2
      have hlt' : (i : Int) < (nn : Int) := by omega
      have hq1 : IntKind.i64.wrap ((i : Int) + 1) = (i : Int) + 1 := by rw [IntKind.wrap_i64]; omega
      have hb2 : Below wr.heap.size wr (wr.alloc (.cells #[.int .i32 x1, .int .i32 x2] 40)) := (Below.refl _ wr).alloc (Nat.le_refl _) _
      have hlen : (twinsL rows (l.take i)).length < maxLen := by
        have := foldT_len rows (l.take i) []
        have h2 : (l.take i).length ≤ i := by simp; omega
        unfold maxLen
        unfold twinsL
        simp only [List.length_nil] at this
        omega
      have HA := hideB (addTwin_any (w1.heap.size + 1) w.heap.size w1.heap.size rows (twinsL rows (l.take i)) x1 x2 o1 o2 (wr.alloc (.cells #[.int .i32 x1, .int .i32 x2] 40)) ((hb2.block _ (Array.getElem?_eq_some_iff.1 k1).1).trans k1) (k2.below hb2) (k3.below hb2) hlen)
      have HF : Hid (∀ w2, TwMap w2 w1.heap.size (addT rows (twinsL rows (l.take i)) (x1, x2)) → ButB w1.heap.size (wr.alloc (.cells #[.int .i32 x1, .int .i32 x2] 40)) w2 → w2.heap[w1.heap.size + 1]? = some (.cells #[.map (some w.heap.size), .map (some w1.heap.size)] 85 (0, 0)) ∧ BrMap w2 w.heap.size rows ∧ TwMap w2 w1.heap.size (twinsL rows (l.take (i + 1))) ∧ Below w.heap.size w w2) := fun w2 ht hb => by
        have l1 := (Array.getElem?_eq_some_iff.1 k1).1
        have l2 := k2.lt
        refine ⟨(hb.block _ (by simp; omega) (by omega)).trans ((hb2.block _ l1).trans k1), (k2.below hb2).same (hb.block _ (by simp; omega) (by omega)), ?_, ?_⟩
        · have e : twinsL rows (l.take (i + 1)) = addT rows (twinsL rows (l.take i)) (x1, x2) := by
            unfold twinsL
            rw [takeT_snoc hx, List.foldl_append]
            rfl
          rw [e]; exact ht
        · have hbb := k4.trans (hb2.mono k4.size)
          exact ⟨hb.os.trans hbb.os, hb.tape.trans hbb.tape, hb.output.trans hbb.output, Nat.le_trans hbb.size hb.size, fun k hk => (hb.block k (by have := hbb.size; omega) (by omega)).trans (hbb.block k hk)⟩
      clear HI k1 k2 k3 k4 hx hlen hb2
      go_wp2_with (go_at_call 39; with_reducible refine (unhideB HA).mono ?_; rintro e w2 ⟨rfl, ht, hbt⟩; have HFF := hideB (unhideB HF w2 ht hbt); clear ht hbt)
      go_roundw
      case rel => exact ⟨i + 1, by go_num, by omega, HFF⟩
      case measure => simp [RowKit.intOf]; omega
    · obtain rfl : nn = i := by omega
      have etk : l.take nn = l := List.take_of_length_le (by rw [unhideB HL]; exact Nat.le_refl _)
      obtain ⟨k1, k2, k3, k4⟩ := unhideB HI
      rw [etk, unhideB HTL] at k3
      generalize hBB : w1.heap.size + 1 = BB at *
      have HBK : Hid (Book wr BB rows TL ∧ Below w.heap.size w wr) := ⟨⟨_, _, k1, k2, .inr ⟨_, rfl, k3⟩⟩, k4⟩
      clear HTL
      clear HI0 HI k1 k2 k3 k4 etk hi hlt hBB
      generalize hwr : wr = wq at *
      clear hwr
      go_wp2
      go_loopw [35] (fun v35 wr => ∃ i : Nat, v35 = .int .i64 i ∧ i ≤ nn ∧ Hid ((Book wr BB rows TL ∧ Below w.heap.size w wr) ∧ ∀ t ∈ l.take i, allowsP rows TL t = true)) (fun v35 _ => nn - (RowKit.intOf v35).toNat)
      case atStart => exact ⟨0, rfl, Nat.zero_le _, ⟨unhideB HBK, fun t ht => by simp at ht⟩⟩
      case round =>
        obtain ⟨i, rfl, hi, HI⟩ := hrel
        by_cases hlt : i < nn
        · obtain ⟨x, hx⟩ : ∃ x, l[i]? = some x := ⟨_, List.getElem?_eq_getElem (by rw [unhideB HL]; exact hlt)⟩
          obtain ⟨⟨k1, k4⟩, k5⟩ := unhideB HI
          obtain ⟨g, off, rfl, cx0, cx1⟩ := ((unhideB HTM).below k4) i x hx
          obtain ⟨o1, o2⟩ := unhideB HOK x (List.mem_of_getElem? hx)
          obtain ⟨x1, x2⟩ := x
          simp only at cx0 cx1 o1 o2
          have hlt' : (i : Int) < (nn : Int) := by omega
          have hq1 : IntKind.i64.wrap ((i : Int) + 1) = (i : Int) + 1 := by rw [IntKind.wrap_i64]; omega
          have hb2 : Below wr.heap.size wr (wr.alloc (.cells #[.int .i32 x1, .int .i32 x2] 40)) := (Below.refl _ wr).alloc (Nat.le_refl _) _
          have hA := allows_any BB rows TL (unhideB HRS) x1 x2 o1 o2 (wr.alloc (.cells #[.int .i32 x1, .int .i32 x2] 40)) (k1.below hb2)
          have HF : Hid (∀ w2, Below (wr.alloc (.cells #[.int .i32 x1, .int .i32 x2] 40)).heap.size (wr.alloc (.cells #[.int .i32 x1, .int .i32 x2] 40)) w2 → Book w2 BB rows TL ∧ Below w.heap.size w w2) := fun w2 hb => by
            have hbb := hb2.trans (hb.mono hb2.size)
            exact ⟨k1.below hbb, k4.trans (hbb.mono k4.size)⟩
          cases hal : allowsP rows TL (x1, x2) with
          | true =>
            rw [hal] at hA
            have HA := hideB hA
            have HK : Hid (∀ t ∈ l.take (i + 1), allowsP rows TL t = true) := fun t ht => by
              rw [takeT_snoc hx] at ht
              rcases List.mem_append.1 ht with ht | ht
              · exact k5 t ht
              · rw [List.mem_singleton.1 ht]; exact hal
            clear HI k1 k4 k5 hx hb2 hA hal HBK
            go_wp2_with (go_at_call 40; with_reducible refine (unhideB HA).mono ?_; rintro e w2 ⟨rfl, hbt⟩; have HFF := hideB (unhideB HF w2 hbt); clear hbt)
            go_roundw
            case rel => exact ⟨i + 1, by go_num, by omega, ⟨unhideB HFF, unhideB HK⟩⟩
            case measure => simp [RowKit.intOf]; omega
          | false =>
            rw [hal] at hA
            have HA := hideB hA
            have HK := hideB (badT_some hx k5 hal)
            clear HI k1 k4 k5 hx hb2 hA hal HBK
            go_wp2_with (go_at_call 40; with_reducible refine (unhideB HA).mono ?_; rintro e w2 ⟨rfl, hbt⟩; have HFF := hideB (unhideB HF w2 hbt); clear hbt)
            go_ret3
            exact ⟨(unhideB HFF).2, .inl ⟨i, unhideB HK, rfl⟩⟩
        · obtain rfl : nn = i := by omega
          obtain ⟨⟨k1, k4⟩, k5⟩ := unhideB HI
          have HK : Hid (badT rows TL l = none) := badT_none fun t ht => k5 t (by rw [List.take_of_length_le (by rw [unhideB HL]; exact Nat.le_refl _)]; exact ht)
          have HFF := hideB (⟨k1, k4⟩ : Book wr BB rows TL ∧ Below w.heap.size w wr)
          clear HI k1 k4 k5 HBK
          go_wp2
          go_ret3
          exact ⟨(unhideB HFF).2, .inr ⟨unhideB HK, BB, rfl, (unhideB HFF).1⟩⟩
end Go.Proofs.YtijiiapnbeljnaaGreatDoor
/-
  A book that may be: its brackets stand in pairs, and its twins too.
-/
namespace Go.Proofs.YtijiiapnbeljnaaGreatDoor
set_option linter.unusedVariables false
set_option linter.unusedSimpArgs false

theorem badOf_zero {R : List BrD} {t : ItD} (h : badOf R t = 0) : isRowP t.row = true ∧ findB R t.row.at_ = none := by
  unfold badOf at h
  by_cases hw : t.why = 0
  · rw [if_pos hw] at h
    unfold addE at h
    cases hr : isRowP t.row
    · rw [hr] at h; simp at h
    · rw [hr] at h
      simp only [if_true] at h
      cases hf : findB R t.row.at_ with
      | none => exact ⟨rfl, rfl⟩
      | some x => rw [hf] at h; simp at h
  · rw [if_neg hw] at h; exact absurd h hw
theorem findB_stays {x : BrD} {r : Int} (l : List ItD) : ∀ R, findB R r = some x → bad1 R l = none → findB (R ++ l.map (·.row)) r = some x := by
  induction l with
  | nil => intro R h _; simpa using h
  | cons t l ih =>
    intro R h hb
    rw [bad1] at hb
    by_cases h0 : badOf R t = 0
    · rw [if_pos h0] at hb
      have h1 := (badOf_zero h0).2
      have hne : t.row.at_ ≠ r := by intro e; rw [e, h] at h1; cases h1
      have := ih (R ++ [t.row]) (by rw [findB_snoc, if_neg hne]; exact h) hb
      simpa using this
    · rw [if_neg h0] at hb; cases hb
theorem bad1_all (l : List ItD) : ∀ R, bad1 R l = none → ∀ t ∈ l, isRowP t.row = true ∧ findB (R ++ l.map (·.row)) t.row.at_ = some t.row := by
  induction l with
  | nil => intro R _ t ht; cases ht
  | cons t l ih =>
    intro R hb u hu
    rw [bad1] at hb
    by_cases h0 : badOf R t = 0
    · rw [if_pos h0] at hb
      rcases List.mem_cons.1 hu with rfl | hu
      · refine ⟨(badOf_zero h0).1, ?_⟩
        have := findB_stays l (R ++ [u.row]) (by rw [findB_snoc, if_pos rfl]) hb
        simpa using this
      · have := ih (R ++ [t.row]) hb u hu
        simpa using this
    · rw [if_neg h0] at hb; cases hb
theorem gath_rows {rows : List BrD} (h : gathP (placedL rows) = none) : ∀ x ∈ rows, isRowP x = true ∧ findB rows x.at_ = some x ∧ brkP rows x.oth = (x.at_, oppP x.side) := by
  intro x hx
  have hr : (placedL rows).map (·.row) = rows := placedI_row rows 0
  unfold gathP at h
  cases h1 : bad1 [] (placedL rows) with
  | some e => rw [h1] at h; cases h
  | none =>
    rw [h1, hr] at h
    have hx' : x ∈ (placedL rows).map (·.row) := by rw [hr]; exact hx
    obtain ⟨t, ht, rfl⟩ := List.mem_map.1 hx'
    obtain ⟨k1, k2⟩ := bad1_all _ _ h1 t ht
    rw [List.nil_append, hr] at k2
    refine ⟨k1, k2, ?_⟩
    unfold bad2 at h
    simp only [Option.map_eq_none_iff] at h
    have h2 := List.find?_eq_none.1 h t ht
    have h3 : loneP rows t.row = false := by simpa using h2
    unfold loneP at h3
    simp only [Bool.or_eq_false_iff, decide_eq_false_iff_not, ne_eq, Decidable.not_not] at h3
    exact Prod.ext h3.1 h3.2
theorem row_parts {x : BrD} (h : isRowP x = true) : isPt x.at_ = true ∧ isPt x.oth = true ∧ (x.side = 1 ∨ x.side = 2) := by
  unfold isRowP at h
  simp only [Bool.and_eq_true, decide_eq_true_eq] at h
  exact ⟨h.1, h.2.1, (opp_ne _).1 h.2.2.2⟩
theorem brk_row {rows : List BrD} {x : BrD} (h : isPt x.at_ = true) (hf : findB rows x.at_ = some x) : brkP rows x.at_ = (x.oth, x.side) := by
  unfold brkP
  rw [known_of_pt h, hf]
theorem findT_mem {tw : List (Int × Int)} {r z : Int} (h : findT tw r = some z) : (r, z) ∈ tw := by
  unfold findT at h
  obtain ⟨p, hp, e⟩ := Option.map_eq_some_iff.1 h
  have h1 := List.mem_of_find?_eq_some hp
  have h2 := List.find?_some hp
  simp only [decide_eq_true_eq] at h2
  have : p = (r, z) := Prod.ext h2 e
  rw [← this]
  simpa using h1
theorem foldT_mem (rows : List BrD) (l : List (Int × Int)) : ∀ tw t, t ∈ l.foldl (addT rows) tw → t ∈ tw ∨ t ∈ l := by
  induction l with
  | nil => intro tw t h; exact .inl h
  | cons u l ih =>
    intro tw t h
    rw [List.foldl_cons] at h
    rcases ih _ _ h with h | h
    · unfold addT at h
      split at h
      · rcases List.mem_append.1 h with h | h
        · exact .inl h
        · exact .inr (by rw [List.mem_singleton.1 h]; exact List.mem_cons_self ..)
      · exact .inl h
    · exact .inr (List.mem_cons_of_mem _ h)
theorem twins_all {rows : List BrD} {l : List (Int × Int)} (h : badT rows (twinsL rows l) l = none) : ∀ t ∈ twinsL rows l, allowsP rows (twinsL rows l) t = true := by
  intro t ht
  unfold badT at h
  rw [List.findIdx?_eq_none_iff] at h
  rcases foldT_mem rows l [] t ht with h1 | h1
  · cases h1
  · simpa using h t h1
theorem allows_parts {rows : List BrD} {tw : List (Int × Int)} {r z : Int} {x : BrD} (h : allowsP rows tw (r, z) = true) (hx : findB rows r = some x) : ∃ y, findB rows z = some y ∧ findT tw z = none ∧ y.side = x.side ∧ twnP tw x.oth = y.oth := by
  unfold allowsP at h
  simp only [hx] at h
  cases hy : findB rows z with
  | none => rw [hy] at h; cases h
  | some y =>
    rw [hy] at h
    simp only [Bool.and_eq_true, decide_eq_true_eq, Option.isNone_iff_eq_none] at h
    exact ⟨y, rfl, h.1, h.2.1, h.2.2⟩

/-- what the law asks of a row -/
structure PairF (rows : List BrD) (tw : List (Int × Int)) (x : BrD) : Prop where
  b1 : brkP rows x.at_ = (x.oth, x.side)
  b2 : brkP rows x.oth = (x.at_, oppP x.side)
  b3 : brkP rows (twnP tw x.at_) = (twnP tw x.oth, x.side)
  b4 : twnP tw (twnP tw x.at_) = twnP tw x.at_
  b5 : x.side = 1 ∨ x.side = 2
theorem pair_all {rows : List BrD} {tw : List (Int × Int)} (hg : gathP (placedL rows) = none) (ha : ∀ t ∈ tw, allowsP rows tw t = true) {x : BrD} (hx : x ∈ rows) : PairF rows tw x := by
  obtain ⟨r1, r2, r3⟩ := gath_rows hg x hx
  obtain ⟨p1, p2, p3⟩ := row_parts r1
  have b1 := brk_row p1 r2
  refine ⟨b1, r3, ?_, ?_, p3⟩
  all_goals
    cases hf : findT tw x.at_ with
    | none =>
      have e1 : twnP tw x.at_ = x.at_ := by unfold twnP; rw [known_of_pt p1, hf]; rfl
      first
      | (rw [e1, b1]
         have e2 : findT tw x.oth = none := by
           cases h2 : findT tw x.oth with
           | none => rfl
           | some z =>
             exfalso
             have hfo : ∃ x', findB rows x.oth = some x' := by
               unfold brkP at r3
               rw [known_of_pt p2] at r3
               cases hh : findB rows x.oth with
               | none => rw [hh] at r3; simp only [Prod.mk.injEq] at r3; have := (opp_ne x.side).2 p3; omega
               | some x' => exact ⟨x', rfl⟩
             obtain ⟨x', hx'⟩ := hfo
             have q1 : x'.oth = x.at_ := by
               unfold brkP at r3
               rw [known_of_pt p2, hx'] at r3
               exact (Prod.mk.inj r3).1
             obtain ⟨y, y1, y2, y3, y4⟩ := allows_parts (ha _ (findT_mem h2)) hx'
             rw [q1, e1] at y4
             have hy := findB_mem y1
             obtain ⟨s1, s2, s3⟩ := gath_rows hg y hy
             rw [← y4, b1] at s3
             have : x.oth = y.at_ := (Prod.mk.inj s3).1
             have hz := findB_at y1
             rw [← hz, ← this, h2] at y2
             cases y2
         have e3 : twnP tw x.oth = x.oth := by unfold twnP; rw [known_of_pt p2, e2]; rfl
         rw [e3])
      | rw [e1, e1]
    | some z =>
      have e1 : twnP tw x.at_ = z := by unfold twnP; rw [known_of_pt p1, hf]; rfl
      obtain ⟨y, y1, y2, y3, y4⟩ := allows_parts (ha _ (findT_mem hf)) r2
      have hy := findB_mem y1
      have hz := findB_at y1
      obtain ⟨s1, s2, s3⟩ := gath_rows hg y hy
      obtain ⟨t1, t2, t3⟩ := row_parts s1
      subst hz
      first
      | (rw [e1, brk_row t1 s2, y3, y4])
      | (rw [e1]; unfold twnP; rw [known_of_pt t1, y2]; rfl)
theorem mat1 {rows : List BrD} {tw : List (Int × Int)} {x : BrD} (h : PairF rows tw x) : matP rows tw x.at_ x.oth = decide (x.side = 1) := by
  unfold matP
  rw [h.b1, h.b2]
  rcases h.b5 with e | e <;> rw [e] <;> simp [oppP]
theorem mat2 {rows : List BrD} {tw : List (Int × Int)} {x : BrD} (h : PairF rows tw x) : matP rows tw x.oth x.at_ = decide (x.side = 2) := by
  unfold matP
  rw [h.b1, h.b2]
  rcases h.b5 with e | e <;> rw [e] <;> simp [oppP]
theorem mat3 {rows : List BrD} {tw : List (Int × Int)} {x : BrD} {q : Int} (hq : (brkP rows q).2 = 0) : matP rows tw x.at_ q = false ∧ matP rows tw q x.at_ = false := by
  unfold matP
  rw [hq]
  simp
end Go.Proofs.YtijiiapnbeljnaaGreatDoor

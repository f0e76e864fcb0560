/-
  A new maker.
-/
import Derived.Test.YtokillomaemocaaTrAddI
import Derived.Test.YtokillomaemocaaTrRepI
import Derived.Test.YtokillomaemocaaTrRepW
import Derived.Deep.RegionWith
namespace Go.Proofs.Ytokillomaemocaa.VI
open Go.RowKit Go.PlainAid Go.Lib Go.PRow Go.Maps Go.TrM
set_option linter.unusedVariables false
set_option linter.unusedSimpArgs false
theorem NumAt.al {w : World} {B bn m : Nat} {v : Value} {bs : List (List El)} (h : NumAt w B bn m v bs) (o : Obj) : NumAt (w.alloc o) B bn m v bs := h.below ((Below.refl _ w).alloc (Nat.le_refl _) _)
theorem heap_al {w : World} {g : Nat} {x : Obj} (h : w.heap[g]? = some x) (o : Obj) : (w.alloc o).heap[g]? = some x := (Below.heap_alloc w o g (Array.getElem?_eq_some_iff.1 h).1).trans h
theorem heap_at {w : World} {g : Nat} (o : Array Value) (t : TypeId) (e : g = w.heap.size) : (w.alloc (.cells o t)).heap[g]? = some (.cells o t (0, 0)) := by subst e; exact heap_alloc_new w _
theorem heap_be {w w' : World} {g n : Nat} {x : Obj} (b : Below n w w') (hn : g < n) (h : w.heap[g]? = some x) : w'.heap[g]? = some x := (b.block g hn).trans h
theorem drewH (W : World) : W.drew.heap = W.heap := rfl
/-- a maker that was given nothing -/
theorem mak_new {V : World} {B bn m gl gb mk : Nat} (e : V.heap.size = mk) {M1 M2 : Array Value} (hN : NumAt V B bn m (.slice none 0 0) []) (h1 : V.heap[gl]? = some (.cells M1 34 (0, 0))) (h2 : V.heap[gb]? = some (.cells M2 3 (0, 0))) (s1 : M1.size = 17408) (s2 : M2.size = 64) (b1 : B ≤ gl) (b2 : B ≤ gb) :
    MakV (V.alloc (.cells #[.pointer (some ⟨bn, 0, none⟩), .slice (some ⟨gl, 0, none⟩) 0 17408, .slice (some ⟨gb, 0, none⟩) 0 64] 229)) B mk (Own mk bn m (.slice none 0 0) (.slice (some ⟨gl, 0, none⟩) 0 17408) (.slice (some ⟨gb, 0, none⟩) 0 64)) [] := by
  subst e
  refine ⟨bn, m, _, _, _, rfl, ⟨heap_alloc_new V _, hN.al _, VW.RowE.of b1 (heap_al h1 _) rfl (Nat.zero_le _) (by unfold maxLen; omega) s1 rfl, RowE.of b2 (heap_al h2 _) rfl (Nat.zero_le _) (by unfold maxLen; omega) s2 rfl, Nat.le_trans hN.bB (Nat.le_of_lt hN.lt.1), fun g e => by rw [blk_zero] at e; cases e⟩, fun x hx => by cases hx⟩
set_option maxRecDepth 100000 in
set_option maxHeartbeats 4000000 in
theorem newMaker_any (Q : Ending → World → Prop) (w : World) (hQ : Hid (∀ w' mk o, MakV w' w.heap.size mk o [] → Below w.heap.size w w' → Q (.returned (.pointer (some ⟨mk, 0, none⟩))) w')) : Calls Try.prog 111 #[] w Q := by
  obtain ⟨M1, hM1, hmk1⟩ := VW.make_row 0 17408 (by omega) (by omega)
  obtain ⟨M2, hM2, hmk2⟩ := make_row 0 64 (by omega) (by omega)
  have hk1 : ∀ W : World, (Instr.makeSlice 24 (.int .i64 0) (.int .i64 17408)).run Try.prog W = .ok (.slice (some ⟨W.heap.size, 0, none⟩) 0 17408) (W.alloc (.cells M1 34)) := hmk1
  have hk2 : ∀ W : World, (Instr.makeSlice 39 (.int .i64 0) (.int .i64 64)).run Try.prog W = .ok (.slice (some ⟨W.heap.size, 0, none⟩) 0 64) (W.alloc (.cells M2 3)) := hmk2
  clear hmk1 hmk2
  have HNN := hide (fun W (hW : w.heap.size ≤ W.heap.size) => newNum_any W w.heap.size hW)
  go_enter Try.func111, Try.ntmps111
  go_wp2_with fail
  go_region_with (go_at_call 129; refine (unhide HNN _ (by simp <;> omega)).mono ?_; rintro e w4 ⟨rfl, hN4, hs4, hB4⟩; have HN4 := hide (And.intro hN4 (And.intro hs4 hB4)); clear hN4 hs4 hB4)
  all_goals clear hk1 hk2 HNN
  all_goals go_wp2
  all_goals go_ret
  all_goals obtain ⟨hN4, hs4, hB4⟩ := unhide HN4
  all_goals simp only [World.size_alloc, drewH] at hN4 hs4 hB4
  all_goals (
    refine unhide hQ _ _ _ (mak_new (M1 := M1) (M2 := M2) (by (first | omega | (simp only [World.size_alloc, drewH]; done) | (simp only [World.size_alloc, drewH]; omega))) (by first | exact hN4 | exact hN4.al _ | exact (hN4.al _).al _) ?_ ?_ hM1 hM2 ?_ ?_) ?_
    · first
        | exact heap_at _ _ (by (first | omega | (simp only [World.size_alloc, drewH]; done) | (simp only [World.size_alloc, drewH]; omega)))
        | exact heap_al (heap_at _ _ (by (first | omega | (simp only [World.size_alloc, drewH]; done) | (simp only [World.size_alloc, drewH]; omega)))) _
        | exact heap_be hB4 (by (first | omega | (simp only [World.size_alloc, drewH]; done) | (simp only [World.size_alloc, drewH]; omega))) (heap_at (w := w.drew) _ _ (by rfl))
        | exact heap_be hB4 (by (first | omega | (simp only [World.size_alloc, drewH]; done) | (simp only [World.size_alloc, drewH]; omega))) (heap_al (heap_at (w := w.drew) _ _ (by rfl)) _)
        | exact heap_be hB4 (by (first | omega | (simp only [World.size_alloc, drewH]; done) | (simp only [World.size_alloc, drewH]; omega))) (heap_at (w := w.drew.alloc _) _ _ (by (first | omega | (simp only [World.size_alloc, drewH]; done) | (simp only [World.size_alloc, drewH]; omega))))
        | exact heap_al (heap_be hB4 (by (first | omega | (simp only [World.size_alloc, drewH]; done) | (simp only [World.size_alloc, drewH]; omega))) (heap_at (w := w.drew) _ _ (by rfl))) _
    · first
        | exact heap_at _ _ (by (first | omega | (simp only [World.size_alloc, drewH]; done) | (simp only [World.size_alloc, drewH]; omega)))
        | exact heap_al (heap_at _ _ (by (first | omega | (simp only [World.size_alloc, drewH]; done) | (simp only [World.size_alloc, drewH]; omega)))) _
        | exact heap_be hB4 (by (first | omega | (simp only [World.size_alloc, drewH]; done) | (simp only [World.size_alloc, drewH]; omega))) (heap_at (w := w.drew) _ _ (by rfl))
        | exact heap_be hB4 (by (first | omega | (simp only [World.size_alloc, drewH]; done) | (simp only [World.size_alloc, drewH]; omega))) (heap_al (heap_at (w := w.drew) _ _ (by rfl)) _)
        | exact heap_be hB4 (by (first | omega | (simp only [World.size_alloc, drewH]; done) | (simp only [World.size_alloc, drewH]; omega))) (heap_at (w := w.drew.alloc _) _ _ (by (first | omega | (simp only [World.size_alloc, drewH]; done) | (simp only [World.size_alloc, drewH]; omega))))
        | exact heap_al (heap_be hB4 (by (first | omega | (simp only [World.size_alloc, drewH]; done) | (simp only [World.size_alloc, drewH]; omega))) (heap_at (w := w.drew) _ _ (by rfl))) _
    · (first | omega | (simp only [World.size_alloc, drewH]; done) | (simp only [World.size_alloc, drewH]; omega))
    · (first | omega | (simp only [World.size_alloc, drewH]; done) | (simp only [World.size_alloc, drewH]; omega))
    · first
        | exact ((((Below.refl w.heap.size w).drew.trans (hB4.mono (by (first | omega | (simp only [World.size_alloc, drewH]; done) | (simp only [World.size_alloc, drewH]; omega))))).alloc (by (first | omega | (simp only [World.size_alloc, drewH]; done) | (simp only [World.size_alloc, drewH]; omega))) _).alloc (by (first | omega | (simp only [World.size_alloc, drewH]; done) | (simp only [World.size_alloc, drewH]; omega))) _).alloc (by (first | omega | (simp only [World.size_alloc, drewH]; done) | (simp only [World.size_alloc, drewH]; omega))) _
        | exact ((((Below.refl w.heap.size w).drew.alloc (by (first | omega | (simp only [World.size_alloc, drewH]; done) | (simp only [World.size_alloc, drewH]; omega))) _).trans (hB4.mono (by (first | omega | (simp only [World.size_alloc, drewH]; done) | (simp only [World.size_alloc, drewH]; omega))))).alloc (by (first | omega | (simp only [World.size_alloc, drewH]; done) | (simp only [World.size_alloc, drewH]; omega))) _).alloc (by (first | omega | (simp only [World.size_alloc, drewH]; done) | (simp only [World.size_alloc, drewH]; omega))) _
        | exact ((((Below.refl w.heap.size w).drew.alloc (by (first | omega | (simp only [World.size_alloc, drewH]; done) | (simp only [World.size_alloc, drewH]; omega))) _).alloc (by (first | omega | (simp only [World.size_alloc, drewH]; done) | (simp only [World.size_alloc, drewH]; omega))) _).trans (hB4.mono (by (first | omega | (simp only [World.size_alloc, drewH]; done) | (simp only [World.size_alloc, drewH]; omega))))).alloc (by (first | omega | (simp only [World.size_alloc, drewH]; done) | (simp only [World.size_alloc, drewH]; omega))) _)
end Go.Proofs.Ytokillomaemocaa.VI

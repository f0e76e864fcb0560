/-
  PointsTexts: the law's walk.
-/
import Derived.Test.YtebppdcnfbflkaaDoorPTexts
namespace Go.Proofs.YtebppdcnfbflkaaDoor
open Go.RowKit Go.PlainAid Go.Lib Go.Shelf Go.PHexM
set_option linter.unusedVariables false

set_option maxRecDepth 100000 in
set_option maxHeartbeats 4000000 in
theorem texts_walk (m : Int) (s : ByteArray) (r lo hi : Int) (w : World) (hs : s.size < 4294967281) (hm : w.cell? ⟨2, 0, none⟩ = some (.int .i64 m)) (hg : tz16At w) :
    Calls Tryd.prog 3 #[.string s, .int .i32 r, .agg #[.int .i32 lo, .int .i32 hi]] w fun e w' => e = .returned (.bool true) ∧ Below w.heap.size w w' := by
  have hmB : 2 < w.heap.size := World.block_lt_of_cell? _ _ hm
  have hgB : 6 < w.heap.size := World.block_lt_of_cell? _ _ hg
  obtain ⟨hx, he, hH⟩ := hexV_form s.data.toList
  obtain ⟨sx, sy, se, hSp⟩ := spanV_form s.data.toList
  obtain ⟨S, ce, hS1, hS2⟩ := show_both r
  obtain ⟨T, de, hT1, hT2⟩ := showSpan_both lo hi
  have hX1 := hex_any s
  have hX2 := refRead_any4 s
  rw [hH] at hX1 hX2
  have HG : Hid (∀ V, Below w.heap.size w V → tz16At V) := fun V hV => (hV.cell hgB).trans hg
  have HM : Hid (∀ V, Below w.heap.size w V → V.cell? ⟨2, 0, none⟩ = some (.int .i64 m)) := fun V hV => (hV.cell hmB).trans hm
  have HP1 : Hid (∀ V, Below w.heap.size w V → Calls Tryd.prog 11 #[.string s] V fun e w' => e = .returned (spanE sx sy se) ∧ Below V.heap.size V w') := fun V hV => by
    have := span_any m s V hs (unhide HM V hV)
    rwa [hSp] at this
  have HP2 : Hid (∀ V, Calls Tryd.prog 12 #[.string s] V fun e w' => e = .returned (spanE sx sy se) ∧ Below V.heap.size V w') := fun V => by
    have := refSpan_any s V (by omega)
    rwa [hSp] at this
  have HX1 := hide hX1
  have HX2 := hide hX2
  have HS1 := hide hS1
  have HS2 := hide hS2
  have HT1 := hide hT1
  have HT2 := hide hT2
  clear hm hg hmB hgB hs hH hSp hS1 hS2 hT1 hT2 hX1 hX2
  have b0 := (Below.refl w.heap.size w).alloc (Nat.le_refl _) (.cells #[.int .i32 lo, .int .i32 hi] 23)
  have x0 : (w.alloc (.cells #[.int .i32 lo, .int .i32 hi] 23)).heap[w.heap.size]? = some (.cells #[.int .i32 lo, .int .i32 hi] 23 (0, 0)) := heap_alloc_new w _
  have HB0 := hide b0
  have HX0 := hide x0
  clear b0 x0
  go_enter Tryd.func3, Tryd.ntmps3
  go_wp2_with fail
  generalize w.alloc (.cells #[.int .i32 lo, .int .i32 hi] 23) = W at HB0 HX0 ⊢
  refine (unhide HX1 _).mono ?_
  rintro e w' ⟨rfl, h⟩
  obtain rfl : W = w' := h.symm
  go_wp2_with fail
  refine (unhide HX2 _).mono ?_
  rintro e w' ⟨rfl, h⟩
  obtain rfl : W = w' := h.symm
  have hlt : w.heap.size < W.heap.size := (Array.getElem?_eq_some_iff.1 (unhide HX0)).1
  go_wp2_with fail
  refine (unhide HS1 W (unhide HG W (unhide HB0))).mono ?_
  rintro e W1 ⟨rfl, hb1⟩
  have HX3 := hide ((hb1.block w.heap.size hlt).trans (unhide HX0))
  have HB3 := hide ((unhide HB0).trans (hb1.mono (unhide HB0).size))
  have hlt1 : w.heap.size < W1.heap.size := Nat.lt_of_lt_of_le hlt hb1.size
  clear hb1 hlt
  go_wp2_with fail
  refine (unhide HS2 W1).mono ?_
  rintro e W2 ⟨rfl, hb2⟩
  have HX4 := hide ((hb2.block w.heap.size hlt1).trans (unhide HX3))
  have HB4 := hide ((unhide HB3).trans (hb2.mono (unhide HB3).size))
  have hlt2 : w.heap.size < W2.heap.size := Nat.lt_of_lt_of_le hlt1 hb2.size
  clear hb2 hlt1 HX3 HB3 HX0 HB0
  have d0 : W2.cell? ⟨w.heap.size, 0, none⟩ = some (.int .i32 lo) := by simp [World.cell?, unhide HX4]
  have d1 : W2.cell? ⟨w.heap.size, 1, none⟩ = some (.int .i32 hi) := by simp [World.cell?, unhide HX4]
  have HY1 : Hid (∀ V : World, Calls Tryd.prog 9 #[.agg #[.int .i32 lo, .int .i32 hi]] V fun e w' => e = .returned (.bool (mayB lo hi)) ∧ Below V.heap.size V w') := fun V => (may_any lo hi V).mono fun e w' ⟨h1, h2⟩ => ⟨h1, by rw [h2]; exact (Below.refl _ V).alloc (Nat.le_refl _) _⟩
  have HY2 : Hid (∀ V : World, Calls Tryd.prog 10 #[.agg #[.int .i32 lo, .int .i32 hi]] V fun e w' => e = .returned (.bool (mayB lo hi)) ∧ Below V.heap.size V w') := fun V => (refMay_any lo hi V).mono fun e w' ⟨h1, h2⟩ => ⟨h1, by rw [h2]; exact (Below.refl _ V).alloc (Nat.le_refl _) _⟩
  have y0 := fun d os => cell_regrown d0 d os
  have y1 := fun d os => cell_regrown d1 d os
  go_wp2_with fail
  refine wp_region_quiet_below (by kernel_rfl) (by kernel_rfl) ?_
  repeat (go_big_quiet_step (first | (go_at_call 9; exact Calls.regrown_of (unhide HY1 _)) | (go_at_call 10; exact Calls.regrown_of (unhide HY2 _))))
  refine wpQuiet_nil ?_
  intro _ hw'
  obtain ⟨⟨dq, osq⟩, hw''⟩ := hw'
  subst hw''
  have hb5 : Below W2.heap.size W2 (Sort.grow (redrawn W2 dq) osq) := below_regrown W2 dq osq
  generalize Sort.grow (redrawn W2 dq) osq = W5 at hb5 ⊢
  clear y0 y1 d0 d1
  have HX5 := hide ((hb5.block w.heap.size hlt2).trans (unhide HX4))
  have HB5 := hide ((unhide HB4).trans (hb5.mono (unhide HB4).size))
  have hlt5 : w.heap.size < W5.heap.size := Nat.lt_of_lt_of_le hlt2 hb5.size
  clear hb5 hlt2
  simp only [Exit.then]
  go_wp2_with fail
  refine (unhide HP1 W5 (unhide HB5)).mono ?_
  rintro e W6 ⟨rfl, hb6⟩
  have HX6 := hide ((hb6.block w.heap.size hlt5).trans (unhide HX5))
  have HB6 := hide ((unhide HB5).trans (hb6.mono (unhide HB5).size))
  have hlt6 : w.heap.size < W6.heap.size := Nat.lt_of_lt_of_le hlt5 hb6.size
  clear hb6 hlt5
  go_wp2_with fail
  have b7 := (unhide HB6).alloc (unhide HB6).size (.cells #[.int .i32 sx, .int .i32 sy] 23)
  have x7 : (W6.alloc (.cells #[.int .i32 sx, .int .i32 sy] 23)).heap[W6.heap.size]? = some (.cells #[.int .i32 sx, .int .i32 sy] 23 (0, 0)) := heap_alloc_new W6 _
  have r7 : (W6.alloc (.cells #[.int .i32 sx, .int .i32 sy] 23)).heap[w.heap.size]? = some (.cells #[.int .i32 lo, .int .i32 hi] 23 (0, 0)) := (Below.heap_alloc W6 _ _ hlt6).trans (unhide HX6)
  generalize W6.alloc (.cells #[.int .i32 sx, .int .i32 sy] 23) = W7 at b7 x7 r7 ⊢
  generalize W6.heap.size = n6 at x7 ⊢
  clear hlt6
  refine (unhide HP2 W7).mono ?_
  rintro e W8 ⟨rfl, hb8⟩
  have b8 := b7.trans (hb8.mono b7.size)
  have x8 := (hb8.block n6 (Array.getElem?_eq_some_iff.1 x7).1).trans x7
  have r8 := (hb8.block w.heap.size (Array.getElem?_eq_some_iff.1 r7).1).trans r7
  have HB8 := hide b8
  have HX8 := hide x8
  have HR8 := hide r8
  clear hb8 b7 x7 r7 b8 x8 r8
  have c0 : (W8.alloc (.cells #[.int .i32 sx, .int .i32 sy] 23)).cell? ⟨w.heap.size, 0, none⟩ = some (.int .i32 lo) := cell_alloc_sl _ (by simp [World.cell?, unhide HR8])
  have c1 : (W8.alloc (.cells #[.int .i32 sx, .int .i32 sy] 23)).cell? ⟨w.heap.size, 1, none⟩ = some (.int .i32 hi) := cell_alloc_sl _ (by simp [World.cell?, unhide HR8])
  go_wp2_with fail
  clear c0 c1
  have b9 := (unhide HB8).alloc (unhide HB8).size (.cells #[.int .i32 sx, .int .i32 sy] 23)
  have z9 : (W8.alloc (.cells #[.int .i32 sx, .int .i32 sy] 23)).heap[W8.heap.size]? = some (.cells #[.int .i32 sx, .int .i32 sy] 23 (0, 0)) := heap_alloc_new W8 _
  have x9 : (W8.alloc (.cells #[.int .i32 sx, .int .i32 sy] 23)).heap[n6]? = some (.cells #[.int .i32 sx, .int .i32 sy] 23 (0, 0)) := (Below.heap_alloc W8 _ _ (Array.getElem?_eq_some_iff.1 (unhide HX8)).1).trans (unhide HX8)
  have r9 : (W8.alloc (.cells #[.int .i32 sx, .int .i32 sy] 23)).heap[w.heap.size]? = some (.cells #[.int .i32 lo, .int .i32 hi] 23 (0, 0)) := (Below.heap_alloc W8 _ _ (Array.getElem?_eq_some_iff.1 (unhide HR8)).1).trans (unhide HR8)
  generalize W8.alloc (.cells #[.int .i32 sx, .int .i32 sy] 23) = W9 at b9 z9 x9 r9 ⊢
  generalize W8.heap.size = n8 at z9 ⊢
  refine (unhide HT1 W9 (unhide HG W9 b9)).mono ?_
  rintro e Wa ⟨rfl, hba⟩
  have ba := b9.trans (hba.mono b9.size)
  have za := (hba.block n8 (Array.getElem?_eq_some_iff.1 z9).1).trans z9
  have xa := (hba.block n6 (Array.getElem?_eq_some_iff.1 x9).1).trans x9
  have ra := (hba.block w.heap.size (Array.getElem?_eq_some_iff.1 r9).1).trans r9
  have HBa := hide ba
  have HZa := hide za
  have HXa := hide xa
  have HRa := hide ra
  have c0 : Wa.cell? ⟨w.heap.size, 0, none⟩ = some (.int .i32 lo) := by simp [World.cell?, ra]
  have c1 : Wa.cell? ⟨w.heap.size, 1, none⟩ = some (.int .i32 hi) := by simp [World.cell?, ra]
  clear hba b9 z9 x9 r9 ba za xa ra HB8 HX8 HR8
  go_wp2_with fail
  refine (unhide HT2 Wa).mono ?_
  rintro e Wb ⟨rfl, hbb⟩
  have HBb := hide ((unhide HBa).trans (hbb.mono (unhide HBa).size))
  have zb := (hbb.block n8 (Array.getElem?_eq_some_iff.1 (unhide HZa)).1).trans (unhide HZa)
  have xb := (hbb.block n6 (Array.getElem?_eq_some_iff.1 (unhide HXa)).1).trans (unhide HXa)
  have p0 : Wb.cell? ⟨n6, 0, none⟩ = some (.int .i32 sx) := by simp [World.cell?, xb]
  have p1 : Wb.cell? ⟨n6, 1, none⟩ = some (.int .i32 sy) := by simp [World.cell?, xb]
  have q0 : Wb.cell? ⟨n8, 0, none⟩ = some (.int .i32 sx) := by simp [World.cell?, zb]
  have q1 : Wb.cell? ⟨n8, 1, none⟩ = some (.int .i32 sy) := by simp [World.cell?, zb]
  clear hbb zb xb c0 c1 HZa HXa HRa HBa
  have HLv := hide (lives_any m Wb (unhide HM Wb (unhide HBb)))
  go_wp2_with (go_at_call 15; refine (unhide HLv).mono ?_; rintro e Wc ⟨rfl, hbc⟩)
  go_ret
  exact ⟨rfl, (unhide HBb).trans (hbc.mono (unhide HBb).size)⟩
end Go.Proofs.YtebppdcnfbflkaaDoor

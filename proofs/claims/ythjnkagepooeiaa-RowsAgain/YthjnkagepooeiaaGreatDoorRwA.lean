/-
  What every program tells of a small file: the law's function awake answers true.
-/
import Derived.Test.YthjnkagepooeiaaGreatDoorRwA0
import Derived.Test.YthjnkagepooeiaaGreatDoorLAwake
namespace Go.Proofs.YthjnkagepooeiaaGreatDoor
open Go.RowKit Go.PlainAid Go.Lib Go.PHexM Go.Shelf
set_option linter.unusedVariables false
set_option linter.unusedSimpArgs false

set_option maxRecDepth 100000 in
set_option maxHeartbeats 4000000 in
theorem awake6_any (w : World) (hg : Glob w) : Calls Tryz.prog 16 #[] w fun e w' => e = .returned (.bool true) ∧ Below w.heap.size w w' := by
  have hR1 := fun w hg => read6_any ⟨#[102]⟩ texta w hg (by decide)
  have hR2 := fun w hg => read6_any ⟨#[102]⟩ textb w hg (by decide)
  rw [rows1] at hR1
  simp only [rows2] at hR2
  have HR1 := hide hR1
  have HR2 := hide hR2
  clear hR1 hR2
  go_enter Tryz.func16, Tryz.ntmps16
  go_wp2_with fail
  refine (unhide HR1 _ hg).mono ?_
  rintro e w1 ⟨hb1, (⟨_, v, rfl, hrow⟩ | ⟨no, code, fb, h, _⟩)⟩
  case inr => cases h
  obtain ⟨a, c, rfl, hlc, hmem⟩ := rowsAt_mem hrow
  obtain ⟨g, off, rfl, hc⟩ := hmem 1 rowBB rfl
  have k2 := hc 2 _ rfl
  have k3 := hc 3 _ rfl
  have k6 := hc 6 _ rfl
  have k8 := hc 8 _ rfl
  have k1 := hc 1 _ rfl
  simp only [Nat.one_mul] at k1 k2 k3 k6 k8
  have hg1 := hg.below hb1
  have HF := hide (find_any [rowAA, rowBB] (some ⟨g, off, none⟩) 2 c 13568 w1 rfl (by decide) hmem)
  rw [find1] at HF
  simp only [Option.getD_some, Option.isSome_some] at HF
  clear hrow hmem hc
  go_wp2_with fail
  refine (unhide HF).mono ?_
  rintro e w2 ⟨rfl, hb2⟩
  have hg2 := hg1.below hb2
  have hB2 : Below w.heap.size w w2 := hb1.trans (hb2.mono hb1.size)
  clear k1 k2 k3 k6 k8
  go_wp2_with fail
  have hB2a := hB2.alloc hB2.size (.cells #[.int .i64 2, .int .i32 13312, .int .i32 19893, .string (S [88]), .string (S [76, 111]), .int .u8 0, .int .u8 2, .int .i32 0, .bool true] 29)
  have hg2a := hg2.below (Below.refl w2.heap.size w2 |>.alloc (Nat.le_refl _) (.cells #[.int .i64 2, .int .i32 13312, .int .i32 19893, .string (S [88]), .string (S [76, 111]), .int .u8 0, .int .u8 2, .int .i32 0, .bool true] 29))
  refine (unhide HR2 _ hg2a).mono ?_
  rintro e w3 ⟨hb3, (⟨h, _⟩ | ⟨no, code, fb, hno, rfl, hfb, hfc⟩)⟩
  · cases h
  obtain ⟨rfl, rfl⟩ : no = 2 ∧ code = 50 := by
    have := Option.some.inj hno
    exact ⟨(congrArg Prod.fst this).symm, (congrArg Prod.snd this).symm⟩
  have hg3 := hg2a.below hb3
  have hB3 : Below w.heap.size w w3 := hB2a.trans (hb3.mono hB2a.size)
  have hflt : fb < w3.heap.size := (Array.getElem?_eq_some_iff.1 hfc).1
  have hg4 : errTypeAt (w3.alloc (.cells #[.pointer none] 44)) := (hg3.below (Below.refl w3.heap.size w3 |>.alloc (Nat.le_refl _) _)).err
  have HAS := hide (as_any ⟨fb, 0, none⟩ w3.heap.size (w3.alloc (.cells #[.pointer none] 44)) hg4 (Boxed.new w3 _ _))
  have hlt2 : w2.heap.size < w3.heap.size := by have := hb3.size; simp at this; omega
  have q0 : (w3.alloc (.cells #[.pointer none] 44)).cell? ⟨w2.heap.size, 0, none⟩ = some (.int .i64 2) := (World.cell?_alloc_lt _ _ ⟨w2.heap.size, 0, none⟩ hlt2).trans ((hb3.cell (p := ⟨w2.heap.size, 0, none⟩) (by simp)).trans (World.cell?_alloc_at _ _ _ _ rfl))
  have q1 : (w3.alloc (.cells #[.pointer none] 44)).cell? ⟨w2.heap.size, 1, none⟩ = some (.int .i32 13312) := (World.cell?_alloc_lt _ _ ⟨w2.heap.size, 1, none⟩ hlt2).trans ((hb3.cell (p := ⟨w2.heap.size, 1, none⟩) (by simp)).trans (World.cell?_alloc_at _ _ _ _ rfl))
  have q2 : (w3.alloc (.cells #[.pointer none] 44)).cell? ⟨w2.heap.size, 2, none⟩ = some (.int .i32 19893) := (World.cell?_alloc_lt _ _ ⟨w2.heap.size, 2, none⟩ hlt2).trans ((hb3.cell (p := ⟨w2.heap.size, 2, none⟩) (by simp)).trans (World.cell?_alloc_at _ _ _ _ rfl))
  have q3 : (w3.alloc (.cells #[.pointer none] 44)).cell? ⟨w2.heap.size, 3, none⟩ = some (.string (S [88])) := (World.cell?_alloc_lt _ _ ⟨w2.heap.size, 3, none⟩ hlt2).trans ((hb3.cell (p := ⟨w2.heap.size, 3, none⟩) (by simp)).trans (World.cell?_alloc_at _ _ _ _ rfl))
  have q4 : (w3.alloc (.cells #[.pointer none] 44)).cell? ⟨w2.heap.size, 4, none⟩ = some (.string (S [76, 111])) := (World.cell?_alloc_lt _ _ ⟨w2.heap.size, 4, none⟩ hlt2).trans ((hb3.cell (p := ⟨w2.heap.size, 4, none⟩) (by simp)).trans (World.cell?_alloc_at _ _ _ _ rfl))
  have q5 : (w3.alloc (.cells #[.pointer none] 44)).cell? ⟨w2.heap.size, 5, none⟩ = some (.int .u8 0) := (World.cell?_alloc_lt _ _ ⟨w2.heap.size, 5, none⟩ hlt2).trans ((hb3.cell (p := ⟨w2.heap.size, 5, none⟩) (by simp)).trans (World.cell?_alloc_at _ _ _ _ rfl))
  have q6 : (w3.alloc (.cells #[.pointer none] 44)).cell? ⟨w2.heap.size, 6, none⟩ = some (.int .u8 2) := (World.cell?_alloc_lt _ _ ⟨w2.heap.size, 6, none⟩ hlt2).trans ((hb3.cell (p := ⟨w2.heap.size, 6, none⟩) (by simp)).trans (World.cell?_alloc_at _ _ _ _ rfl))
  have q7 : (w3.alloc (.cells #[.pointer none] 44)).cell? ⟨w2.heap.size, 7, none⟩ = some (.int .i32 0) := (World.cell?_alloc_lt _ _ ⟨w2.heap.size, 7, none⟩ hlt2).trans ((hb3.cell (p := ⟨w2.heap.size, 7, none⟩) (by simp)).trans (World.cell?_alloc_at _ _ _ _ rfl))
  have q8 : (w3.alloc (.cells #[.pointer none] 44)).cell? ⟨w2.heap.size, 8, none⟩ = some (.bool true) := (World.cell?_alloc_lt _ _ ⟨w2.heap.size, 8, none⟩ hlt2).trans ((hb3.cell (p := ⟨w2.heap.size, 8, none⟩) (by simp)).trans (World.cell?_alloc_at _ _ _ _ rfl))
  have HFC := hide hfc
  clear hno hfc hg1 hg2 hg3 hg4 hg hg2a hb3 hb2 hb1 hB2 hB2a HF HR1 HR2
  go_wp2_with fail
  refine (unhide HAS).mono ?_
  rintro e w4 ⟨rfl, hbx, hold, hbel⟩
  have n0 := hbx.cell
  have hf3 : w4.heap[fb]? = some (.cells #[.string ⟨#[102]⟩, .int .i64 (2 : Nat), .int .i64 50] 48) := (hold fb (by simp; omega) (by omega)).trans ((Below.heap_alloc _ _ _ hflt).trans (unhide HFC))
  have r0 : w4.cell? ⟨fb, 0, none⟩ = some (.string ⟨#[102]⟩) := by simp [World.cell?, hf3]
  have r1 : w4.cell? ⟨fb, 1, none⟩ = some (.int .i64 2) := by simp [World.cell?, hf3]
  have r2 : w4.cell? ⟨fb, 2, none⟩ = some (.int .i64 50) := by simp [World.cell?, hf3]
  have hB4 := hbel w.heap.size w hB3.size (hB3.alloc hB3.size _)
  clear hold hbel hf3
  go_wp2
  go_ret
  exact ⟨rfl, hB4⟩
end Go.Proofs.YthjnkagepooeiaaGreatDoor

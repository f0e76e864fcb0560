/-
  What every program tells of a small file: the law's function awake answers true.
-/
import Derived.Test.YtnabbahdmajfpaaGreatDoorMrR
import Derived.Test.YtnabbahdmajfpaaGreatDoorMrX
import Derived.Test.YtnabbahdmajfpaaGreatDoorLAwake
namespace Go.Proofs.YtnabbahdmajfpaaGreatDoor
open Go.RowKit Go.PlainAid Go.Lib Go.PHexM Go.Shelf
set_option linter.unusedVariables false
set_option linter.unusedSimpArgs false

abbrev textMa : ByteArray := ⟨#[48, 48, 50, 56, 59, 32, 48, 48, 50, 57, 10, 48, 48, 50, 57, 59, 32, 48, 48, 50, 56, 32, 35, 32, 91, 66, 69, 83, 84, 32, 70, 73, 84, 93, 10]⟩
abbrev textMb : ByteArray := ⟨#[48, 48, 50, 56, 59, 32, 48, 48, 50, 57, 10]⟩
abbrev brksM : List MirD := [⟨0, 40, 41, false⟩, ⟨0, 41, 40, false⟩, ⟨0, 171, 187, false⟩, ⟨0, 187, 171, false⟩]
set_option maxRecDepth 100000 in
theorem mirs1 : mirsS textMa = ([⟨1, 40, 41, false⟩, ⟨2, 41, 40, true⟩], none) := by decide +kernel
set_option maxRecDepth 100000 in
theorem mirs2 : (mirsS textMb).2 = some (1, 90) := by decide +kernel
set_option maxRecDepth 100000 in
theorem out1 : outR brksM ⟨#[97, 40, 255]⟩ 0 = (⟨#[97, 41, 255]⟩, 1) := by decide +kernel

theorem brackets_any (w : World) : Calls Tryz.prog 35 #[] w fun e w' => ∃ g, e = .returned (.slice (some ⟨g, 0, none⟩) 4 4) ∧ MrMem w' (some ⟨g, 0, none⟩) brksM ∧ Below w.heap.size w w' := by
  go_enter Tryz.func35, Tryz.ntmps35
  go_wp2
  go_ret
  refine ⟨_, rfl, ?_, by go_grown⟩
  have hh := heap_alloc_new w (.cells (mirsC brksM).toArray 27)
  intro i x hx
  refine ⟨_, 0, rfl, fun j v hv => ?_⟩
  have hj : j < 4 := by have := (List.getElem?_eq_some_iff.1 hv).1; simpa using this
  have e := mirsC_at hx j hj
  rw [hv] at e
  rw [Nat.zero_add]
  show (w.alloc (.cells (mirsC brksM).toArray 27)).cell? _ = _
  simp only [World.cell?, hh]
  simpa using e

set_option maxRecDepth 100000 in
set_option maxHeartbeats 4000000 in
theorem awake9_any (w : World) (hg : errTypeAt w) : Calls Tryz.prog 15 #[] w fun e w' => e = .returned (.bool true) ∧ Below w.heap.size w w' := by
  have HR1 := hide (fun w => read9_any ⟨#[102]⟩ textMa w (by decide))
  have HR2 := hide (fun w => read9_any ⟨#[102]⟩ textMb w (by decide))
  have hkeep : ∀ V, Below w.heap.size w V → errTypeAt V := fun V hb => (hb.cell (World.block_lt_of_cell? _ _ hg)).trans hg
  have HK := hide hkeep
  clear hkeep hg
  go_enter Tryz.func15, Tryz.ntmps15
  go_wp2_with fail
  refine (unhide HR1 _).mono ?_
  rintro e w1 ⟨hb1, (⟨_, v, rfl, hrow⟩ | ⟨no, code, fb, h, _⟩)⟩
  case inr => rw [mirs1] at h; cases h
  rw [mirs1] at hrow
  obtain ⟨a, c, rfl, hlc, hmem⟩ := mirsAt_mem hrow
  obtain ⟨g, off, rfl, hc⟩ := hmem 1 ⟨2, 41, 40, true⟩ rfl
  have k1 := hc 1 _ rfl
  have k3 := hc 3 _ rfl
  have hgl : g < w1.heap.size := World.block_lt_of_cell? _ _ k1
  simp only [Nat.one_mul] at k1 k3
  have HM1 : Hid (∀ V, Below w1.heap.size w1 V → V.cell? ⟨g, off + 4 + 1, none⟩ = some (.int .i32 41) ∧ V.cell? ⟨g, off + 4 + 3, none⟩ = some (.bool true)) := fun V hb => ⟨(hb.cell (p := ⟨g, off + 4 + 1, none⟩) hgl).trans k1, (hb.cell (p := ⟨g, off + 4 + 3, none⟩) hgl).trans k3⟩
  clear hrow hmem hc k1 k3
  simp only [List.length_cons, List.length_nil, Nat.reduceAdd]
  go_wp2_with fail
  refine (unhide HR2 _).mono ?_
  rintro e w2 ⟨hb2, (⟨h, _⟩ | ⟨no, code, fb, hno, rfl, hfb, hfc⟩)⟩
  · rw [mirs2] at h; cases h
  rw [mirs2] at hno
  obtain ⟨rfl, rfl⟩ : no = 1 ∧ code = 90 := by
    have := Option.some.inj hno
    exact ⟨(congrArg Prod.fst this).symm, (congrArg Prod.snd this).symm⟩
  have hflt : fb < w2.heap.size := (Array.getElem?_eq_some_iff.1 hfc).1
  clear hno HR1 HR2
  have HB2 := hide (hb1.trans (hb2.mono hb1.size))
  have HB12 := hide hb2
  have HFC := hide hfc
  clear hb1 hb2 hfc
  have HBR := hide (brackets_any w2)
  have HTX := hide (fun V g' hm => text9_any brksM (some ⟨g', 0, none⟩) 4 4 ⟨#[97, 40, 255]⟩ V rfl (by decide) (by intro x hx; simp at hx; rcases hx with rfl | rfl | rfl | rfl <;> exact ⟨⟨by decide, by decide⟩, ⟨by decide, by decide⟩⟩) hm (by decide))
  rw [out1] at HTX
  go_wp2_with fail
  refine (unhide HBR).mono ?_
  rintro e w3 ⟨g', rfl, hm3, hb3⟩
  go_wp2_with fail
  refine (unhide HTX _ _ hm3).mono ?_
  rintro e w4 ⟨rfl, hb4⟩
  have hb24 : Below w2.heap.size w2 w4 := hb3.trans (hb4.mono hb3.size)
  have hB4 : Below w.heap.size w w4 := (unhide HB2).trans (hb24.mono (unhide HB2).size)
  have hb14 : Below w1.heap.size w1 w4 := (unhide HB12).trans (hb24.mono (unhide HB12).size)
  have hfc4 := (hb24.block fb hflt).trans (unhide HFC)
  have hfl4 : fb < w4.heap.size := Nat.lt_of_lt_of_le hflt hb24.size
  have hg4 : errTypeAt (w4.alloc (.cells #[.pointer none] 53)) := unhide HK _ (hB4.alloc hB4.size _)
  have HAS := hide (as_any ⟨fb, 0, none⟩ w4.heap.size (w4.alloc (.cells #[.pointer none] 53)) hg4 (Boxed.new w4 _ _))
  have hbA : Below w1.heap.size w1 (w4.alloc (.cells #[.pointer none] 53)) := hb14.alloc hb14.size _
  obtain ⟨q1, q3⟩ := unhide HM1 _ hbA
  have HFC4 := hide hfc4
  have HB4 := hide hB4
  clear hfc4 hg4 hb14 hb24 hB4 hm3 hb3 hb4 HBR HTX HFC HB2 HB12
  go_wp2_with fail
  refine (unhide HAS).mono ?_
  rintro e w5 ⟨rfl, hbx, hold, hbel⟩
  have n0 := hbx.cell
  have hf3 : w5.heap[fb]? = some (.cells #[.string ⟨#[102]⟩, .int .i64 1, .int .i64 90] 57) := (hold fb (by simp; omega) (by omega)).trans ((Below.heap_alloc _ _ _ hfl4).trans (unhide HFC4))
  have r2 : w5.cell? ⟨fb, 2, none⟩ = some (.int .i64 90) := by simp [World.cell?, hf3]
  have hB5 := hbel w.heap.size w (unhide HB4).size ((unhide HB4).alloc (unhide HB4).size _)
  clear hold hbel hf3
  go_wp2
  go_ret
  exact ⟨rfl, hB5⟩
end Go.Proofs.YtnabbahdmajfpaaGreatDoor

/-
  The law's own file, read and asked.
-/
import Derived.Test.YtlgolaoabgmijaaGreatDoorClRe
import Derived.Test.YtlgolaoabgmijaaGreatDoorClA
namespace Go.Proofs.YtlgolaoabgmijaaGreatDoor
open Go.RowKit Go.PlainAid Go.Lib Go.PHexM Go.Shelf Go.PRow
set_option linter.unusedVariables false
set_option linter.unusedSimpArgs false
set_option maxRecDepth 100000

abbrev textL7 : ByteArray := ⟨#[35, 32, 64, 109, 105, 115, 115, 105, 110, 103, 58, 32, 48, 48, 48, 48, 46, 46, 49, 48, 70, 70, 70, 70, 59, 32, 76, 101, 102, 116, 95, 84, 111, 95, 82, 105, 103, 104, 116, 10, 35, 32, 64, 109, 105, 115, 115, 105, 110, 103, 58, 32, 48, 53, 57, 48, 46, 46, 48, 53, 70, 70, 59, 32, 82, 10, 10, 48, 48, 51, 48, 46, 46, 48, 48, 51, 57, 32, 59, 32, 69, 78, 32, 35, 32, 100, 105, 103, 105, 116, 115, 10, 48, 53, 68, 48, 32, 59, 32, 82, 105, 103, 104, 116, 32, 84, 111, 32, 76, 101, 102, 116, 10]⟩
theorem live_a : (tabS textL7).2 = none := by decide +kernel
theorem live_b : classT (tabS textL7).1 49 = 4 := by decide +kernel
theorem live_c : classT (tabS textL7).1 1425 = 2 := by decide +kernel
theorem live_d : classT (tabS textL7).1 1536 = 1 := by decide +kernel
theorem live_e : givenT (tabS textL7).1 49 = some (4, 4) := by decide +kernel
theorem live_f : ((givenT (tabS textL7).1 1488).getD (0, 0)).2 = 5 := by decide +kernel

set_option maxHeartbeats 2000000 in
theorem awake7_any (w : World) (hm : MaxAt w) :
    Calls Tryz.prog 10 #[] w fun e w' => e = .returned (.bool true) ∧ Below w.heap.size w w' := by
  have HR := hide (read7_any ⟨#[102]⟩ textL7 w (by decide) hm)
  go_enter Tryz.func10, Tryz.ntmps10
  go_wp2_with fail
  refine (unhide HR).mono ?_
  rintro e w1 ⟨hb1, (⟨hnone, bt, rfl, hT⟩ | ⟨no, code, fb, hsome, rfl, hfb, hfc⟩)⟩
  · have HG := hide (fun V (hV : Below w1.heap.size w1 V) => given7_any (hT.below hV) 49)
    have HC1 := hide (fun V (hV : Below w1.heap.size w1 V) => class7_any (hT.below hV) 49)
    have HC2 := hide (fun V (hV : Below w1.heap.size w1 V) => class7_any (hT.below hV) 1425)
    have HC3 := hide (fun V (hV : Below w1.heap.size w1 V) => class7_any (hT.below hV) 1536)
    have HL := hide (fun V (hV : Below w1.heap.size w1 V) => line7_any (hT.below hV) 1488)
    rw [live_e] at HG
    rw [live_b] at HC1
    rw [live_c] at HC2
    rw [live_d] at HC3
    rw [live_f] at HL
    simp only [Option.getD_some, Option.isSome_some] at HG
    clear hT hnone HR
    go_wp2_with fail
    refine (unhide HG _ (Below.refl _ _)).mono ?_
    rintro e w2 ⟨rfl, hb2⟩
    go_wp2_with fail
    refine (unhide HC1 _ hb2).mono ?_
    rintro e w3 ⟨rfl, hb3⟩
    have hb3' := hb2.trans (hb3.mono hb2.size)
    go_wp2_with fail
    refine (unhide HC2 _ hb3').mono ?_
    rintro e w4 ⟨rfl, hb4⟩
    have hb4' := hb3'.trans (hb4.mono hb3'.size)
    go_wp2_with fail
    refine (unhide HC3 _ hb4').mono ?_
    rintro e w5 ⟨rfl, hb5⟩
    have hb5' := hb4'.trans (hb5.mono hb4'.size)
    go_wp2_with fail
    refine (unhide HL _ hb5').mono ?_
    rintro e w6 ⟨rfl, hb6⟩
    have hb6' := hb5'.trans (hb6.mono hb5'.size)
    go_wp2
    go_ret
    exact ⟨rfl, hb1.trans (hb6'.mono hb1.size)⟩
  · rw [live_a] at hsome
    cases hsome
end Go.Proofs.YtlgolaoabgmijaaGreatDoor

/-
  The law's lives; ImageNames walked.
-/
import Derived.Test.YteakbnogfnbpkaaGreatDoorImLd
namespace Go.Proofs.YteakbnogfnbpkaaGreatDoor.Im
open Go.RowKit Go.PlainAid Go.Lib Go.Shelf Go.SuM
set_option linter.unusedVariables false
set_option linter.unusedSimpArgs false
abbrev headT : ByteArray := ⟨#[70, 85, 82, 82, 79, 87, 1, 0]⟩
theorem load_none (w : World) : Calls Tryz.prog 5 #[.string ⟨#[]⟩] w fun e w' => e = .returned (.tuple #[noK, .int .i64 120]) ∧ Below w.heap.size w w' :=
  load_gave ⟨#[]⟩ ⟨#[]⟩ 120 (by decide) w fun W _ => (open_short ⟨#[]⟩ (by decide) W).mono fun e w' h => ⟨h.1, by rw [h.2]; exact Below.refl _ _⟩
theorem load_head (w : World) (hf : FoursAt w) : Calls Tryz.prog 5 #[.string headT] w fun e w' => e = .returned (.tuple #[noK, .int .i64 121]) ∧ Below w.heap.size w w' :=
  load_gave headT ⟨#[]⟩ 121 (by decide) w fun W hW => open_no headT (by decide) (by decide) (by decide +kernel) W (hf.below hW)
set_option maxRecDepth 100000 in
set_option maxHeartbeats 4000000 in
theorem lives_any (w : World) (hf : FoursAt w) : Calls Tryz.prog 4 #[] w fun e w' => e = .returned (.bool true) ∧ Below w.heap.size w w' := by
  have HF := hide hf
  clear hf
  go_enter Tryz.func4, Tryz.ntmps4
  go_wp2_with fail
  refine (load_none w).mono ?_
  rintro e w1 ⟨rfl, hb1⟩
  have HB1 := hide hb1
  clear hb1
  have hal : ∀ X : World, Below X.heap.size X (X.alloc (.cells #[.slice none 0 0, .slice none 0 0, .slice none 0 0, .slice none 0 0, .slice none 0 0, .slice none 0 0, .slice none 0 0, .slice none 0 0, .slice none 0 0, .slice none 0 0, .slice none 0 0, .slice none 0 0] 31)) := fun X => (Below.refl _ X).alloc (Nat.le_refl _) _
  have HAL := hide hal
  clear hal
  have hb1' := (unhide HB1).trans ((unhide HAL w1).mono (unhide HB1).size)
  have HL2 := hide (load_head _ ((unhide HF).below hb1'))
  have HB1' := hide hb1'
  clear hb1'
  go_wp2_with fail
  refine (unhide HL2).mono ?_
  rintro e w2 ⟨rfl, hb2⟩
  have HB2 := hide ((unhide HB1').trans (hb2.mono (unhide HB1').size))
  clear hb2 HL2 HB1' HB1
  go_wp2_with fail
  have hb3' := (unhide HB2).trans ((unhide HAL w2).mono (unhide HB2).size)
  refine (pack_nil _).mono ?_
  rintro e w3 ⟨rfl, hb3⟩
  have HB3 := hide (hb3'.trans (hb3.mono hb3'.size))
  clear hb3 hb3' HB2
  go_wp2_with fail
  have hb4' := (unhide HB3).trans ((unhide HAL w3).mono (unhide HB3).size)
  have hbd : ∀ W : World, (Instr.build 31 #[]).run Tryz.prog W = .ok noK W := fun W => by kernel_rfl
  have HB4 := hide hb4'
  clear hb4'
  go_wp2_with fail
  refine (check_none _).mono ?_
  rintro e w4 ⟨rfl, hb4⟩
  have HB5 := hide ((unhide HB4).trans (hb4.mono (unhide HB4).size))
  clear hb4 HB4 HB3
  go_wp2
  go_ret
  exact ⟨rfl, unhide HB5⟩
theorem names_walk (w : World) (hf : FoursAt w) : Calls Tryz.prog 3 #[] w fun e w' => e = .returned (.bool true) ∧ Below w.heap.size w w' := by
  have HL := hide (lives_any w hf)
  go_enter Tryz.func3, Tryz.ntmps3
  go_wp2_with fail
  refine (unhide HL).mono ?_
  rintro e w1 ⟨rfl, hb1⟩
  have HB := hide hb1
  clear hb1
  go_wp2
  go_ret
  exact ⟨rfl, unhide HB⟩
end Go.Proofs.YteakbnogfnbpkaaGreatDoor.Im

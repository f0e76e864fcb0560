/-
  The law's awake.
-/
import Derived.Test.YtdbfpmelhokeoaaDoorSuO2
namespace Go.Proofs.YtdbfpmelhokeoaaDoor
open Go.RowKit Go.PlainAid Go.Lib Go.SuM
set_option linter.unusedVariables false
set_option linter.unusedSimpArgs false
theorem sealedAb : BA (sealL (LS ⟨#[97, 98]⟩)) = ⟨#[97, 98, 109, 72, 131, 158]⟩ := by decide +kernel
theorem crc2 (w : World) (hf : FoursAt w) : Calls Tryd.prog 16 #[.slice (some ⟨w.heap.size, 0, none⟩) 2 2] (w.alloc (.cells #[.string ⟨#[49, 50, 51, 52]⟩, .string ⟨#[53, 54, 55, 56, 57]⟩] 9)) fun e w' => e = .returned (.int .u32 3421780262) ∧ w' = w.alloc (.cells #[.string ⟨#[49, 50, 51, 52]⟩, .string ⟨#[53, 54, 55, 56, 57]⟩] 9) := by
  have hb1 : Below w.heap.size w (w.alloc (.cells #[.string ⟨#[49, 50, 51, 52]⟩, .string ⟨#[53, 54, 55, 56, 57]⟩] 9)) := (Below.refl _ _).alloc (Nat.le_refl _) _
  have h := crc_any [⟨#[49, 50, 51, 52]⟩, ⟨#[53, 54, 55, 56, 57]⟩] (some ⟨w.heap.size, 0, none⟩) 2 _ (hf.below hb1) ⟨fun _ => ⟨_, _, rfl, fun i hi => by
    match i, hi with
    | 0, _ => simp
    | 1, _ => simp⟩, fun x hx => by
      simp at hx
      rcases hx with rfl | rfl <;> simp [maxLen, ByteArray.size]⟩ (by simp [maxLen]) (by simp [maxLen])
  rw [show crcL [⟨#[49, 50, 51, 52]⟩, ⟨#[53, 54, 55, 56, 57]⟩] = 3421780262 by decide +kernel] at h
  exact h
set_option maxHeartbeats 1000000 in
theorem awake_any (w : World) (hf : FoursAt w) : Calls Tryd.prog 20 #[] w fun e w' => e = .returned (.bool true) ∧ Below w.heap.size w w' := by
  have hs1 := seal_any ⟨#[97, 98]⟩ (by simp [maxLen, ByteArray.size]) w hf
  rw [sealedAb] at hs1
  have HS := hide hs1
  have HF := hide hf
  have HO1 : Hid (∀ W, FoursAt W → Calls Tryd.prog 38 #[.string ⟨#[97, 98, 109, 72, 131, 158]⟩] W fun e w' => e = .returned (.tuple #[.string ⟨#[97, 98]⟩, .int .i64 0]) ∧ Below W.heap.size W w') := fun W h =>
    open_yes ⟨#[97, 98, 109, 72, 131, 158]⟩ (by simp [ByteArray.size]) (by simp [maxLen, ByteArray.size]) (by decide +kernel) W h
  have HO2 : Hid (∀ W, FoursAt W → Calls Tryd.prog 38 #[.string ⟨#[97, 98, 99, 100, 101]⟩] W fun e w' => e = .returned (.tuple #[.string ⟨#[]⟩, .int .i64 121]) ∧ Below W.heap.size W w') := fun W h =>
    open_no ⟨#[97, 98, 99, 100, 101]⟩ (by simp [ByteArray.size]) (by simp [maxLen, ByteArray.size]) (by decide +kernel) W h
  have HC := hide crc2
  clear hf hs1
  go_enter Tryd.func20, Tryd.ntmps20
  go_wp2_with fail
  with_reducible refine (unhide HS).mono ?_
  rintro e w1 ⟨rfl, hb1⟩
  have hf1 := (unhide HF).below hb1
  have H1 := hide (unhide HO1 w1 hf1)
  have HF1 := hide hf1
  have HB1 := hide hb1
  clear hf1 hb1
  go_wp2_with fail
  with_reducible refine (unhide H1).mono ?_
  rintro e w2 ⟨rfl, hb2⟩
  have hf2 := (unhide HF1).below hb2
  have H2 := hide (unhide HO2 w2 hf2)
  have HF2 := hide hf2
  have HB2 := hide ((unhide HB1).trans (hb2.mono (unhide HB1).size))
  clear hf2 hb2
  go_wp2_with fail
  with_reducible refine (unhide H2).mono ?_
  rintro e w3 ⟨rfl, hb3⟩
  have H3 := hide (unhide HC w3 ((unhide HF2).below hb3))
  have HB3 := hide ((unhide HB2).trans (hb3.mono (unhide HB2).size))
  clear hb3
  go_wp2_with fail
  with_reducible refine (unhide H3).mono ?_
  rintro e w4 ⟨rfl, rfl⟩
  go_wp2
  go_ret
  exact ⟨rfl, (unhide HB3).alloc (unhide HB3).size _⟩
theorem names_walk (w : World) (hf : FoursAt w) : Calls Tryd.prog 15 #[] w fun e w' => e = .returned (.bool true) ∧ Below w.heap.size w w' := by
  have HA := hide (awake_any w hf)
  clear hf
  go_enter Tryd.func15, Tryd.ntmps15
  go_wp2_with (go_at_call 20; with_reducible refine (unhide HA).mono ?_; rintro e w1 ⟨rfl, hb⟩)
  go_ret
  exact ⟨rfl, hb⟩
end Go.Proofs.YtdbfpmelhokeoaaDoor

/-
  The law SumsOpens, walked.
-/
import Derived.Test.YtdbfpmelhokeoaaDoorSuRb
import Derived.Test.YtdbfpmelhokeoaaDoorSuK
namespace Go.Proofs.YtdbfpmelhokeoaaDoor
open Go.RowKit Go.PlainAid Go.Lib Go.SuM
set_option linter.unusedVariables false
set_option linter.unusedSimpArgs false
/-- both Opens answer the same -/
theorem opens_both (s : ByteArray) (hs : s.size ≤ maxLen) : ∃ (o : ByteArray) (c : Int), (∀ w, FoursAt w → Calls Tryd.prog 38 #[.string s] w fun e w' => e = .returned (.tuple #[.string o, .int .i64 c]) ∧ Below w.heap.size w w') ∧ (∀ w, Calls Tryd.prog 39 #[.string s] w fun e w' => e = .returned (.tuple #[.string o, .int .i64 c]) ∧ Below w.heap.size w w') := by
  by_cases h4 : s.size < 4
  · exact ⟨_, _, fun w _ => (open_short s h4 w).mono fun e w' h => ⟨h.1, by rw [h.2]; exact Below.refl _ _⟩, fun w => (ropen_short s h4 w).mono fun e w' h => ⟨h.1, by rw [h.2]; exact Below.refl _ _⟩⟩
  · cases hy : sealedB (LS s) with
    | true => exact ⟨_, _, fun w hf => open_yes s h4 hs hy w hf, fun w => ropen_yes s h4 hs hy w⟩
    | false => exact ⟨_, _, fun w hf => open_no s h4 hs hy w hf, fun w => ropen_no s h4 hs hy w⟩
set_option maxHeartbeats 1000000 in
theorem opens_walk (s : ByteArray) (hs : s.size ≤ 140737488351232) (w : World) (hf : FoursAt w) : Calls Tryd.prog 8 #[.string s] w fun e w' => e = .returned (.bool true) ∧ Below w.heap.size w w' := by
  obtain ⟨o, c, h1, h2⟩ := opens_both s (by unfold maxLen; omega)
  have H1 := hide h1
  have H2 := hide h2
  have H3 := hide (fun W hW => seal_any s (by unfold maxLen; omega) W hW)
  have H4 := hide (fun W => rseal_any s (by unfold maxLen; omega) W)
  have HA := hide awake_any
  have HF := hide hf
  generalize BA (sealL (LS s)) = u at *
  clear h1 h2 hf hs
  go_enter Tryd.func8, Tryd.ntmps8
  go_wp2_with fail
  with_reducible refine (unhide H1 w (unhide HF)).mono ?_
  rintro e w1 ⟨rfl, hb1⟩
  have HF1 := hide ((unhide HF).below hb1)
  have HB1 := hide hb1
  clear hb1
  go_wp2_with fail
  with_reducible refine (unhide H2 w1).mono ?_
  rintro e w2 ⟨rfl, hb2⟩
  have HF2 := hide ((unhide HF1).below hb2)
  have HB2 := hide ((unhide HB1).trans (hb2.mono (unhide HB1).size))
  clear hb2
  go_wp2_with fail
  with_reducible refine (unhide H3 w2 (unhide HF2)).mono ?_
  rintro e w3 ⟨rfl, hb3⟩
  have HF3 := hide ((unhide HF2).below hb3)
  have HB3 := hide ((unhide HB2).trans (hb3.mono (unhide HB2).size))
  clear hb3
  go_wp2_with fail
  with_reducible refine (unhide H4 w3).mono ?_
  rintro e w4 ⟨rfl, hb4⟩
  have HF4 := hide ((unhide HF3).below hb4)
  have HB4 := hide ((unhide HB3).trans (hb4.mono (unhide HB3).size))
  clear hb4
  go_wp2_with fail
  with_reducible refine (unhide HA w4 (unhide HF4)).mono ?_
  rintro e w5 ⟨rfl, hb5⟩
  go_wp2
  go_ret
  exact ⟨rfl, (unhide HB4).trans (hb5.mono (unhide HB4).size)⟩
end Go.Proofs.YtdbfpmelhokeoaaDoor

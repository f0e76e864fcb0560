/-
  The law SumsOne, walked.
-/
import Derived.Test.YtdbfpmelhokeoaaDoorSuBu
import Derived.Test.YtdbfpmelhokeoaaDoorSuK
namespace Go.Proofs.YtdbfpmelhokeoaaDoor
open Go.RowKit Go.PlainAid Go.Lib Go.SuM
set_option linter.unusedVariables false
set_option linter.unusedSimpArgs false
def opens (s : ByteArray) : Bool := decide (4 ≤ s.size) && sealedB (LS s)
theorem open_gen (s : ByteArray) (hs : s.size ≤ maxLen) (w : World) (hf : FoursAt w) : Calls Tryd.prog 38 #[.string s] w fun e w' => ∃ (o : ByteArray) (c : Int), e = .returned (.tuple #[.string o, .int .i64 c]) ∧ (c != 0) = !opens s ∧ Below w.heap.size w w' := by
  unfold opens
  by_cases h4 : s.size < 4
  · refine (open_short s h4 w).mono ?_
    rintro e w' ⟨rfl, rfl⟩
    exact ⟨_, _, rfl, by rw [decide_eq_false (by omega)]; rfl, Below.refl _ _⟩
  · rw [decide_eq_true (by omega), Bool.true_and]
    cases hy : sealedB (LS s) with
    | true =>
      refine (open_yes s h4 hs hy w hf).mono ?_
      rintro e w' ⟨rfl, hb⟩
      exact ⟨_, _, rfl, rfl, hb⟩
    | false =>
      refine (open_no s h4 hs hy w hf).mono ?_
      rintro e w' ⟨rfl, hb⟩
      exact ⟨_, _, rfl, rfl, hb⟩
theorem opens_reg {s : ByteArray} (h : opens s = true) : regR 4294967295 (LS s) = stn 32 4294967295 := by
  unfold opens at h
  have h2 := of_decide_eq_true (Bool.and_eq_true_iff.1 h).2
  rw [← h2]
  exact seal_reg _
/-- what the law asks of Burst -/
theorem burst_gen (a b : ByteArray) (hs : a.size ≤ 1152921504606846975) (w : World) : Calls Tryd.prog 42 #[.string a, .string b] w fun e w' => ∃ x y z : Int, e = .returned (.tuple #[.int .i64 x, .int .i64 y, .int .i64 z]) ∧ Hid (opens a = true → opens b = true → z = 0 → y ≠ 0 → 32 < y) ∧ Below w.heap.size w w' := by
  by_cases hl : a.size = b.size
  · by_cases he : a = b
    · subst he
      refine (burst_same a w).mono ?_
      rintro e w' ⟨rfl, rfl⟩
      exact ⟨_, _, _, rfl, fun _ _ _ h => absurd rfl h, Below.refl _ _⟩
    · refine (burst_any a b hl he hs w).mono ?_
      rintro e w' ⟨⟨f, l, hE, rfl⟩, hb⟩
      refine ⟨_, _, _, rfl, fun ha hb' _ _ => ?_, hb⟩
      rcases Nat.lt_or_ge 32 (l - f + 1) with h | h
      · omega
      · exact (apart (by rw [LS_len, LS_len, hl]) (opens_reg ha) (opens_reg hb') hE h).elim
  · refine (burst_len a b hl w).mono ?_
    rintro e w' ⟨rfl, rfl⟩
    exact ⟨_, _, _, rfl, fun _ _ h _ => absurd h (by decide), Below.refl _ _⟩
set_option maxHeartbeats 1000000 in
theorem one_walk (a b : ByteArray) (ha : a.size ≤ 140737488351232) (hb : b.size ≤ 140737488351232) (w : World) (hf : FoursAt w) : Calls Tryd.prog 12 #[.string a, .string b] w fun e w' => e = .returned (.bool true) ∧ Below w.heap.size w w' := by
  have HA := hide (awake_any w hf)
  have HF := hide hf
  have H1 := hide (fun W hW => open_gen a (by unfold maxLen; omega) W hW)
  have H2 := hide (fun W hW => open_gen b (by unfold maxLen; omega) W hW)
  have H3 := hide (burst_gen a b (by omega))
  clear hf ha hb
  go_enter Tryd.func12, Tryd.ntmps12
  go_wp2_with fail
  with_reducible refine (unhide HA).mono ?_
  rintro e w1 ⟨rfl, hb1⟩
  have HF1 := hide ((unhide HF).below hb1)
  have HB1 := hide hb1
  clear hb1
  go_wp2_with fail
  with_reducible refine (unhide H1 w1 (unhide HF1)).mono ?_
  rintro e w2 ⟨o1, c1, rfl, q1, hb2⟩
  have HF2 := hide ((unhide HF1).below hb2)
  have HB2 := hide ((unhide HB1).trans (hb2.mono (unhide HB1).size))
  clear hb2
  have Q1 := hide q1
  clear q1
  go_wp2_with fail
  with_reducible refine (unhide H2 w2 (unhide HF2)).mono ?_
  rintro e w3 ⟨o2, c2, rfl, q2, hb3⟩
  have HB3 := hide ((unhide HB2).trans (hb3.mono (unhide HB2).size))
  clear hb3
  have Q2 := hide q2
  clear q2
  go_wp2_with fail
  with_reducible refine (unhide H3 w3).mono ?_
  rintro e w4 ⟨x, y, z, rfl, HY, hb4⟩
  have HB4 := hide ((unhide HB3).trans (hb4.mono (unhide HB3).size))
  clear hb4
  cases k1 : (c1 != 0) with
  | true =>
    go_wp2
    go_ret
    exact ⟨rfl, unhide HB4⟩
  | false =>
    cases k2 : (c2 != 0) with
    | true =>
      go_wp2
      go_ret
      exact ⟨rfl, unhide HB4⟩
    | false =>
      cases k3 : (z != 0) with
      | true =>
        go_wp2
        go_ret
        exact ⟨rfl, unhide HB4⟩
      | false =>
        cases k4 : (y == 0) with
        | true =>
          go_wp2
          go_ret
          exact ⟨rfl, unhide HB4⟩
        | false =>
          have h32 : 32 < y := unhide HY (by have := unhide Q1; rw [k1] at this; simpa using this.symm) (by have := unhide Q2; rw [k2] at this; simpa using this.symm) (by simpa using k3) (by simpa using k4)
          go_wp2
          go_ret
          exact ⟨rfl, unhide HB4⟩
end Go.Proofs.YtdbfpmelhokeoaaDoor

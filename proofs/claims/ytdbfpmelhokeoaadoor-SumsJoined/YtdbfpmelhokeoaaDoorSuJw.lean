/-
  The law SumsJoined, walked.
-/
import Derived.Test.YtdbfpmelhokeoaaDoorSuJ2
import Derived.Test.YtdbfpmelhokeoaaDoorSuK
namespace Go.Proofs.YtdbfpmelhokeoaaDoor
open Go.RowKit Go.PlainAid Go.Lib Go.SuM
set_option linter.unusedVariables false
set_option linter.unusedSimpArgs false
set_option maxHeartbeats 1000000 in
theorem joined_walk (a b : Nat) (ha : a < 4294967296) (hb : b < 4294967296) (n : Int) (h0 : -9223372036854775808 ≤ n) (h1 : n ≤ 9223372036854775807) (w : World) (hf : FoursAt w) : Calls Tryd.prog 4 #[.int .u32 (a : Int), .int .u32 (b : Int), .int .i64 n] w fun e w' => e = .returned (.bool true) ∧ Below w.heap.size w w' := by
  have HA := hide awake_any
  have HF := hide hf
  by_cases hn : n < 0
  · have HJ := hide (joined_no a b n hn w)
    clear hf
    go_enter Tryd.func4, Tryd.ntmps4
    go_wp2_with (first | (go_at_call 21; with_reducible refine (unhide HJ).mono ?_; rintro e w' ⟨rfl, hww⟩; obtain rfl : w = w' := hww.symm) | (go_at_call 20; with_reducible refine (unhide HA w (unhide HF)).mono ?_; rintro e w5 ⟨rfl, hb5⟩))
    go_ret
    exact ⟨rfl, hb5⟩
  · obtain ⟨k, rfl⟩ : ∃ k : Nat, n = (k : Int) := ⟨n.toNat, by omega⟩
    have hk : k < 9223372036854775808 := by omega
    have HJ := hide (joined_any a b k ha hb hk w)
    have HR := hide (rjoined_any a b k ha hb hk w)
    have hk0 : ¬ ((k : Int) < 0) := by omega
    generalize zer k a ^^^ b = z at *
    clear hf h0 h1 hn
    go_enter Tryd.func4, Tryd.ntmps4
    go_wp2_with (first | (go_at_call 21; with_reducible refine (unhide HJ).mono ?_; rintro e w' ⟨rfl, hww⟩; obtain rfl : w = w' := hww.symm) | (go_at_call 22; with_reducible refine (unhide HR).mono ?_; rintro e w4 ⟨rfl, hb4⟩; have HF4 := hide ((unhide HF).below hb4); have HB4 := hide hb4; clear hb4) | (go_at_call 20; with_reducible refine (unhide HA _ (unhide HF4)).mono ?_; rintro e w5 ⟨rfl, hb5⟩))
    go_ret
    exact ⟨rfl, (unhide HB4).trans (hb5.mono (unhide HB4).size)⟩
end Go.Proofs.YtdbfpmelhokeoaaDoor

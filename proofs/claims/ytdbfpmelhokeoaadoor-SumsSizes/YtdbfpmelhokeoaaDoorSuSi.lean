/-
  The law SumsSizes, walked.
-/
import Derived.Test.YtdbfpmelhokeoaaDoorSuK
import Derived.Test.YtdbfpmelhokeoaaDoorSuSU
import Derived.Test.YtdbfpmelhokeoaaDoorSuSM
namespace Go.Proofs.YtdbfpmelhokeoaaDoor
open Go.RowKit Go.PlainAid Go.Lib Go.SuM
set_option linter.unusedVariables false
set_option linter.unusedSimpArgs false
theorem sizes_walk (n : Int) (h0 : -9223372036854775808 ≤ n) (h1 : n ≤ 9223372036854775807) (w : World) (hf : FoursAt w) : Calls Tryd.prog 6 #[.int .i64 n] w fun e w' => e = .returned (.bool true) ∧ Below w.heap.size w w' := by
  have HA := hide (awake_any w hf)
  clear hf
  by_cases hb : 536870912 < n
  · go_enter Tryd.func6, Tryd.ntmps6
    go_wp2_with (go_at_call 20; with_reducible refine (unhide HA).mono ?_; rintro e w1 ⟨rfl, hb⟩)
    go_ret
    exact ⟨rfl, hb⟩
  · have HU := hide (NU.size_any n h0 (by omega) w)
    have HM := hide (NM.size_any n h0 (by omega) w)
    have HD := hide (ND.size_any n h0 (by omega) w)
    have hm0 : 0 ≤ max n 0 := by omega
    have hm1 : max n 0 ≤ 536870912 := by omega
    obtain ⟨m, hm⟩ : ∃ m, m = max n 0 := ⟨_, rfl⟩
    rw [← hm] at hm0 hm1
    rw [← hm] at HU HM HD
    have hmx : (if n < 0 then 0 else n) = m := by rw [hm]; split <;> omega
    have HMX := hide hm
    by_cases hn : 0 < n
    · have e : m = n := by omega
      subst e
      clear hmx hm
      go_enter Tryd.func6, Tryd.ntmps6
      go_wp2_with (first | (go_at_call 29; with_reducible refine (unhide HU).mono ?_; rintro e w' ⟨rfl, hww⟩; obtain rfl : w = w' := hww.symm) | (go_at_call 30; with_reducible refine (unhide HM).mono ?_; rintro e w' ⟨rfl, hww⟩; obtain rfl : w = w' := hww.symm) | (go_at_call 31; with_reducible refine (unhide HD).mono ?_; rintro e w' ⟨rfl, hww⟩; obtain rfl : w = w' := hww.symm) | (go_at_call 20; with_reducible refine (unhide HA).mono ?_; rintro e w1 ⟨rfl, hb⟩))
      go_ret
      exact ⟨rfl, hb⟩
    · have e : m = 0 := by omega
      subst e
      clear hmx hm
      by_cases hz : n = 0
      · subst hz
        clear hn hb
        go_enter Tryd.func6, Tryd.ntmps6
        go_wp2_with (first | (go_at_call 29; with_reducible refine (unhide HU).mono ?_; rintro e w' ⟨rfl, hww⟩; obtain rfl : w = w' := hww.symm) | (go_at_call 30; with_reducible refine (unhide HM).mono ?_; rintro e w' ⟨rfl, hww⟩; obtain rfl : w = w' := hww.symm) | (go_at_call 31; with_reducible refine (unhide HD).mono ?_; rintro e w' ⟨rfl, hww⟩; obtain rfl : w = w' := hww.symm) | (go_at_call 20; with_reducible refine (unhide HA).mono ?_; rintro e w1 ⟨rfl, hb⟩))
        go_ret
        exact ⟨rfl, hb⟩
      · have hneg : n < 0 := by omega
        clear hn hb hz
        go_enter Tryd.func6, Tryd.ntmps6
        go_wp2_with (first | (go_at_call 29; with_reducible refine (unhide HU).mono ?_; rintro e w' ⟨rfl, hww⟩; obtain rfl : w = w' := hww.symm) | (go_at_call 30; with_reducible refine (unhide HM).mono ?_; rintro e w' ⟨rfl, hww⟩; obtain rfl : w = w' := hww.symm) | (go_at_call 31; with_reducible refine (unhide HD).mono ?_; rintro e w' ⟨rfl, hww⟩; obtain rfl : w = w' := hww.symm) | (go_at_call 20; with_reducible refine (unhide HA).mono ?_; rintro e w1 ⟨rfl, hb⟩))
        go_ret
        exact ⟨rfl, hb⟩
end Go.Proofs.YtdbfpmelhokeoaaDoor

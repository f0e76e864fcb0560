/-
  The law SumsTakes, walked.
-/
import Derived.Test.YtdbfpmelhokeoaaDoorGrU
import Derived.Test.YtdbfpmelhokeoaaDoorGrH
import Derived.Test.YtdbfpmelhokeoaaDoorSuToD
import Derived.Test.YtdbfpmelhokeoaaDoorGrS
import Derived.Test.YtdbfpmelhokeoaaDoorGrM
import Derived.Test.YtdbfpmelhokeoaaDoorGrL
import Derived.Test.YtdbfpmelhokeoaaDoorSuK
namespace Go.Proofs.YtdbfpmelhokeoaaDoor
open Go.RowKit Go.PlainAid Go.Lib Go.SuM
set_option linter.unusedVariables false
set_option linter.unusedSimpArgs false
set_option maxHeartbeats 2000000 in
theorem takes_walk (s : ByteArray) (hs : s.size ≤ 1048576) (a n : Int) (hn : n ≤ 9223372036854775807) (w : World) (hf : FoursAt w) : Calls Tryd.prog 7 #[.string s, .int .i64 a, .int .i64 n] w fun e w' => e = .returned (.bool true) ∧ Below w.heap.size w w' := by
  have HU := hide (NU.took_any s hs a n hn)
  have HH := hide (NH.took_any s hs a n hn)
  have HD := hide (ND.took_any s hs a n hn)
  have HS := hide (NS.took_any s hs a n hn)
  have HM := hide (NM.took_any s hs a n hn)
  have HL := hide (NL.took_any s hs a n hn)
  have HA := hide awake_any
  have HF := hide hf
  have HB0 := hide (Below.refl w.heap.size w)
  clear hf
  go_enter Tryd.func7, Tryd.ntmps7
  go_wp2_with fail
  with_reducible refine (unhide HU w).mono ?_
  rintro e w1 ⟨rfl, hb1⟩
  have HB1 := hide ((unhide HB0).trans (hb1.mono (unhide HB0).size))
  clear hb1
  go_wp2_with fail
  with_reducible refine (unhide HH w1).mono ?_
  rintro e w2 ⟨rfl, hb2⟩
  have HB2 := hide ((unhide HB1).trans (hb2.mono (unhide HB1).size))
  clear hb2
  go_wp2_with fail
  with_reducible refine (unhide HD w2).mono ?_
  rintro e w3 ⟨rfl, hb3⟩
  have HB3 := hide ((unhide HB2).trans (hb3.mono (unhide HB2).size))
  clear hb3
  go_wp2_with fail
  with_reducible refine (unhide HS w3).mono ?_
  rintro e w4 ⟨rfl, hb4⟩
  have HB4 := hide ((unhide HB3).trans (hb4.mono (unhide HB3).size))
  clear hb4
  go_wp2_with fail
  with_reducible refine (unhide HM w4).mono ?_
  rintro e w5 ⟨rfl, hb5⟩
  have HB5 := hide ((unhide HB4).trans (hb5.mono (unhide HB4).size))
  clear hb5
  go_wp2_with fail
  with_reducible refine (unhide HL w5).mono ?_
  rintro e w6 ⟨rfl, hb6⟩
  have HB6 := hide ((unhide HB5).trans (hb6.mono (unhide HB5).size))
  clear hb6
  have HF6 := hide ((unhide HF).below (unhide HB6))
  go_wp2_with fail
  with_reducible refine (unhide HA w6 (unhide HF6)).mono ?_
  rintro e w7 ⟨rfl, hb7⟩
  go_wp2
  go_ret
  exact ⟨rfl, (unhide HB6).trans (hb7.mono (unhide HB6).size)⟩
end Go.Proofs.YtdbfpmelhokeoaaDoor

/-
  The law SumsPuts, walked.
-/
import Derived.Test.YtdbfpmelhokeoaaDoorGqU
import Derived.Test.YtdbfpmelhokeoaaDoorGqH
import Derived.Test.YtdbfpmelhokeoaaDoorSuLaD
import Derived.Test.YtdbfpmelhokeoaaDoorGqS
import Derived.Test.YtdbfpmelhokeoaaDoorGqM
import Derived.Test.YtdbfpmelhokeoaaDoorGqL
import Derived.Test.YtdbfpmelhokeoaaDoorSuK
namespace Go.Proofs.YtdbfpmelhokeoaaDoor
open Go.RowKit Go.PlainAid Go.Lib Go.SuM
set_option linter.unusedVariables false
set_option linter.unusedSimpArgs false
set_option maxHeartbeats 2000000 in
theorem puts_walk (b : ByteArray) (hb : b.size ≤ 1048576) (l : List Nat) (a : Option Addr) (n cap : Nat) (hn : l.length = n) (hn2 : n ≤ 1048576) (hnc : n ≤ cap) (hcap : cap ≤ maxLen) (w : World) (ht : ND.NumsAt w a l) (hf : FoursAt w) : Calls Tryd.prog 5 #[.string b, .slice a n cap] w fun e w' => e = .returned (.bool true) ∧ Below w.heap.size w w' := by
  have HU := hide (fun W (h : Below w.heap.size w W) => NU.laid_walk b hb l a n cap hn hn2 hnc hcap W (ht.below h))
  have HH := hide (fun W (h : Below w.heap.size w W) => NH.laid_walk b hb l a n cap hn hn2 hnc hcap W (ht.below h))
  have HD := hide (fun W (h : Below w.heap.size w W) => ND.laid_walk b hb l a n cap hn hn2 hnc hcap W (ht.below h))
  have HS := hide (fun W (h : Below w.heap.size w W) => NS.laid_walk b hb l a n cap hn hn2 hnc hcap W (ht.below h))
  have HM := hide (fun W (h : Below w.heap.size w W) => NM.laid_walk b hb l a n cap hn hn2 hnc hcap W (ht.below h))
  have HL := hide (fun W (h : Below w.heap.size w W) => NL.laid_walk b hb l a n cap hn hn2 hnc hcap W (ht.below h))
  have HA := hide awake_any
  have HF := hide hf
  have HB0 := hide (Below.refl w.heap.size w)
  clear hf hn hn2 hb ht
  go_enter Tryd.func5, Tryd.ntmps5
  go_wp2_with fail
  with_reducible refine (unhide HU w (unhide HB0)).mono ?_
  rintro e w1 ⟨rfl, hb1⟩
  have HB1 := hide ((unhide HB0).trans (hb1.mono (unhide HB0).size))
  clear hb1
  go_wp2_with fail
  with_reducible refine (unhide HH w1 (unhide HB1)).mono ?_
  rintro e w2 ⟨rfl, hb2⟩
  have HB2 := hide ((unhide HB1).trans (hb2.mono (unhide HB1).size))
  clear hb2
  go_wp2_with fail
  with_reducible refine (unhide HD w2 (unhide HB2)).mono ?_
  rintro e w3 ⟨rfl, hb3⟩
  have HB3 := hide ((unhide HB2).trans (hb3.mono (unhide HB2).size))
  clear hb3
  go_wp2_with fail
  with_reducible refine (unhide HS w3 (unhide HB3)).mono ?_
  rintro e w4 ⟨rfl, hb4⟩
  have HB4 := hide ((unhide HB3).trans (hb4.mono (unhide HB3).size))
  clear hb4
  go_wp2_with fail
  with_reducible refine (unhide HM w4 (unhide HB4)).mono ?_
  rintro e w5 ⟨rfl, hb5⟩
  have HB5 := hide ((unhide HB4).trans (hb5.mono (unhide HB4).size))
  clear hb5
  go_wp2_with fail
  with_reducible refine (unhide HL w5 (unhide HB5)).mono ?_
  rintro e w6 ⟨rfl, hb6⟩
  have HB6 := hide ((unhide HB5).trans (hb6.mono (unhide HB5).size))
  clear hb6
  have HF6 := hide ((unhide HF).below (unhide HB6))
  go_wp2_with fail
  with_reducible refine (unhide HA w6 (unhide HF6)).mono ?_
  rintro e w7 ⟨rfl, hb7⟩
  go_wp2
  go_ret
  exact ⟨rfl, (unhide HB6).trans (hb7.mono (unhide HB6).size)⟩
end Go.Proofs.YtdbfpmelhokeoaaDoor

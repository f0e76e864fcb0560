/-
  rising: spans sorted by their beginnings, in a list of their own.
-/
import Derived.Test.YtokillomaemocaaTrSo
import Derived.Test.YtokillomaemocaaTrRe
namespace Go.Proofs.Ytokillomaemocaa.VK
open Go.RowKit Go.PlainAid Go.Lib Go.PRow
set_option linter.unusedVariables false
set_option linter.unusedSimpArgs false
theorem rising_any (a : Option Addr) (cap : Nat) (ps : List (Pc Int)) (n : Nat) (hn : ps.length = n) (hn2 : n ≤ 1099511627776) (hc : n ≤ cap) (w : World) (h : SpAt w a ps) :
    Calls Try.prog 47 #[.slice a n cap] w fun e w' => ∃ v, e = .returned v ∧ ∃ qs : List (Pc Int), qs.Perm ps ∧ qs.Pairwise (fun p q => p.lo ≤ q.lo) ∧ RowP w' w.heap.size v qs ∧ Below w.heap.size w w' := by
  have HC := hide (clone_any a cap ps n hn (by omega) w h hc)
  have HN := hide hn
  clear h hn
  go_enter Try.func47, Try.ntmps47
  go_wp2_with fail
  with_reducible refine (unhide HC).mono ?_
  rintro e w1 ⟨v, rfl, hr, hb⟩
  have HS := hide (sort_row w.heap.size v ps w1 hr (by rw [unhide HN]; omega))
  have HB := hide hb
  have HL := hide (fun k hk => (RowV.lt hr k hk).1)
  clear hr hb
  go_wp2_with fail
  with_reducible refine (unhide HS).mono ?_
  rintro e w2 ⟨rfl, qs, h1, h2, h3, h4⟩
  have HF := hide (And.intro h1 (And.intro h2 (And.intro h3 ((unhide HB).grown h4 (unhide HB).size (unhide HL)))))
  clear h1 h2 h3 h4
  go_wp2
  go_ret
  exact ⟨_, rfl, qs, unhide HF⟩
end Go.Proofs.Ytokillomaemocaa.VK

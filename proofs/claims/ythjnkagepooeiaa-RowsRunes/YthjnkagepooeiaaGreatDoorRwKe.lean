/-
  Rows that were lent are kept; the law RowsFinds.
-/
import Derived.Test.YthjnkagepooeiaaGreatDoorRwLe
import Derived.Test.YthjnkagepooeiaaGreatDoorRwSa
import Derived.Test.YthjnkagepooeiaaGreatDoorRwFi
import Derived.Test.YthjnkagepooeiaaGreatDoorRwA
namespace Go.Proofs.YthjnkagepooeiaaGreatDoor
open Go.RowKit Go.PlainAid Go.Lib Go.PHexM Go.Shelf
set_option linter.unusedVariables false
set_option linter.unusedSimpArgs false

theorem RwMem.left {w : World} {a : Option Addr} {rs ts : List RowD} (h : RwMem w a (rs ++ ts)) : RwMem w a rs := fun i x hx =>
  h i x (by rw [List.getElem?_append_left (List.getElem?_eq_some_iff.1 hx).1]; exact hx)

set_option maxRecDepth 100000 in
set_option maxHeartbeats 2000000 in
theorem kept_yes (rs : List RowD) (g cap : Nat) (a : Option Addr) (n c : Nat) (w : World) (hn : rs.length = n) (hnb : n ≤ 1099511627776) (hcap : n + 1 ≤ cap) (hc : cap ≤ 9223372036854775807) (hf : RwMem w (some ⟨g, 0, none⟩) (rs ++ [markR])) (h : RwMem w a rs) :
    Calls Tryz.prog 26 #[.slice (some ⟨g, 0, none⟩) n cap, .slice a n c] w fun e w' => e = .returned (.bool true) ∧ Below w.heap.size w w' := by
  have HS := hide (sameRows_yes rs (some ⟨g, 0, none⟩) a n cap c w hn hnb hf.left h)
  obtain ⟨g', off', e, hcl⟩ := hf n markR (by rw [List.getElem?_append_right (by omega), hn, Nat.sub_self]; rfl)
  simp only [Option.some.injEq, Addr.mk.injEq] at e
  obtain ⟨rfl, rfl, _⟩ := e
  have k0 := hcl 0 _ rfl
  simp only [Nat.zero_add, Nat.add_zero] at k0
  have hlt := World.block_lt_of_cell? _ _ k0
  have hlt' : g < w.heap.size := hlt
  have hq1 : IntKind.i64.wrap ((n : Int) + 1) = (n : Int) + 1 := by rw [IntKind.wrap_i64]; omega
  have K0 := hide k0
  clear hf h hcl hn k0 hlt
  go_enter Tryz.func26, Tryz.ntmps26
  go_wp2_with (go_at_call 20; refine (unhide HS).mono ?_; rintro e w1 ⟨rfl, hb1⟩; have q0 : w1.cell? ⟨g, n * 9, none⟩ = some (.int .i64 (-77)) := (hb1.cell (p := ⟨g, n * 9, none⟩) hlt').trans (unhide K0); clear K0)
  go_ret
  exact ⟨rfl, hb1⟩
end Go.Proofs.YthjnkagepooeiaaGreatDoor

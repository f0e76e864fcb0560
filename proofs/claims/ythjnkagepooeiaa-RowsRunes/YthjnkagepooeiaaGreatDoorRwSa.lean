/-
  Two lists of the same rows are the same, by the law's own look.
-/
import Derived.Test.YthjnkagepooeiaaGreatDoorRwA0
import Derived.BigQuiet
import Derived.Laws.StructEq
namespace Go.Proofs.YthjnkagepooeiaaGreatDoor
open Go.RowKit Go.PlainAid Go.Lib Go.PHexM Go.Shelf
set_option linter.unusedVariables false
set_option linter.unusedSimpArgs false

set_option maxRecDepth 100000 in
set_option maxHeartbeats 4000000 in
theorem sameRows_yes (rs : List RowD) (a b : Option Addr) (n ca cb : Nat) (w : World) (hn : rs.length = n) (hnb : n ≤ 1099511627776) (ha : RwMem w a rs) (hb : RwMem w b rs) :
    Calls Tryz.prog 20 #[.slice a n ca, .slice b n cb] w fun e w' => e = .returned (.bool true) ∧ Below w.heap.size w w' := by
  have HA := hide ha
  have HB := hide hb
  have HN := hide hn
  clear ha hb hn
  have hnn : ((n : Int) != (n : Int)) = false := by simp
  go_enter Tryz.func20, Tryz.ntmps20
  go_wp2
  go_loopw [5] (fun v5 wr => ∃ i m : Nat, i ≤ n ∧ v5 = .int .i64 i ∧ wr = w.drewN m) (fun v5 _ => n - (RowKit.intOf v5).toNat)
  case atStart => exact ⟨0, 0, Nat.zero_le _, rfl, rfl⟩
  case round =>
    obtain ⟨i, m, hi, rfl, rfl⟩ := hrel
    obtain ⟨WX, hWX⟩ : ∃ WX, w.drewN m = WX := ⟨_, rfl⟩
    by_cases hlt : i < n
    · obtain ⟨x, hx⟩ : ∃ x, rs[i]? = some x := ⟨_, List.getElem?_eq_getElem (by rw [unhide HN]; exact hlt)⟩
      have hbx : Below w.heap.size w WX := by rw [← hWX]; exact below_drewN (Below.refl _ _) m
      obtain ⟨g, off, rfl, hc⟩ := ((unhide HA).below hbx) i x hx
      obtain ⟨g', off', rfl, hd⟩ := ((unhide HB).below hbx) i x hx
      have cx0 := hc 0 _ rfl
      have cx1 := hc 1 _ rfl
      have cx2 := hc 2 _ rfl
      have cx3 := hc 3 _ rfl
      have cx4 := hc 4 _ rfl
      have cx5 := hc 5 _ rfl
      have cx6 := hc 6 _ rfl
      have cx7 := hc 7 _ rfl
      have cx8 := hc 8 _ rfl
      have dx0 := hd 0 _ rfl
      have dx1 := hd 1 _ rfl
      have dx2 := hd 2 _ rfl
      have dx3 := hd 3 _ rfl
      have dx4 := hd 4 _ rfl
      have dx5 := hd 5 _ rfl
      have dx6 := hd 6 _ rfl
      have dx7 := hd 7 _ rfl
      have dx8 := hd 8 _ rfl
      simp only [Nat.add_zero] at cx0 dx0
      have hlt' : (i : Int) < (n : Int) := by omega
      have hq1 : IntKind.i64.wrap ((i : Int) + 1) = (i : Int) + 1 := by rw [IntKind.wrap_i64]; omega
      rw [hWX]
      have HWX := hide hWX
      clear hWX hc hd hx hbx
      go_wp2
      go_quiet (fail)
      go_wp2
      go_roundw
      case rel => exact ⟨i + 1, m + nq, by omega, by go_num, by rw [← unhide HWX]; exact World.drewN_drewN _ _ _⟩
      case measure => simp [RowKit.intOf]; omega
    · rw [hWX]
      have HWX := hide hWX
      clear hWX
      obtain rfl : i = n := by omega
      go_wp2
      go_ret
      exact ⟨rfl, by rw [← unhide HWX]; exact below_drewN (Below.refl _ _) m⟩
end Go.Proofs.YthjnkagepooeiaaGreatDoor

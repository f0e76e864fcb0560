/-
  How many numbers rows have: the law's points.
-/
import Derived.Test.YthjnkagepooeiaaGreatDoorRwA0
import Derived.Test.YthjnkagepooeiaaGreatDoorRwOneM
import Derived.Lib.MinMax
namespace Go.Proofs.YthjnkagepooeiaaGreatDoor
open Go.RowKit Go.PlainAid Go.Lib Go.PHexM Go.Shelf
set_option linter.unusedVariables false
set_option linter.unusedSimpArgs false

theorem drop_next {rs : List RowD} {i : Nat} {x : RowD} (hx : rs[i]? = some x) : rs.drop i = x :: rs.drop (i + 1) := by
  obtain ⟨hl, he⟩ := List.getElem?_eq_some_iff.1 hx
  rw [List.drop_eq_getElem_cons hl, he]

set_option maxRecDepth 100000 in
set_option maxHeartbeats 4000000 in
theorem points_any (rs : List RowD) (a : Option Addr) (n c : Nat) (w : World) (hn : rs.length = n) (hnb : n ≤ 1099511627776) (hm : RwMem w a rs) :
    Calls Tryz.prog 29 #[.slice a n c] w fun e w' => e = .returned (.int .i64 (ptsR rs 0 : Nat)) ∧ Below w.heap.size w w' := by
  have HN := hide hn
  have HM := hide hm
  clear hn hm
  go_enter Tryz.func29, Tryz.ntmps29
  go_wp2
  go_loopw [3, 4] (fun v3 v4 wr => ∃ (i m : Nat), v4 = .int .i64 i ∧ v3 = .int .i64 m ∧ i ≤ n ∧ m ≤ 5308416 ∧ Hid (ptsR rs 0 = ptsR (rs.drop i) m) ∧ Below w.heap.size w wr) (fun _ v4 _ => n - (RowKit.intOf v4).toNat)
  case atStart => exact ⟨0, 0, rfl, rfl, Nat.zero_le _, by omega, by show _ = _; simp, Below.refl _ _⟩
  case round =>
    obtain ⟨i, m, rfl, rfl, hi, hmb, HP, hb⟩ := hrel
    by_cases hlt : i < n
    · have hlt' : (i : Int) < (n : Int) := by omega
      have hd1 : decide ((i : Int) < (n : Int)) = true := decide_eq_true hlt'
      obtain ⟨x, hx⟩ : ∃ x, rs[i]? = some x := ⟨_, List.getElem?_eq_getElem (by rw [unhide HN]; exact hlt)⟩
      have hP := unhide HP
      rw [drop_next hx, ptsR] at hP
      by_cases hle : m ≤ 4194304
      · have hle' : (m : Int) ≤ 4194304 := by omega
        rw [if_pos hle] at hP
        obtain ⟨g, off, rfl, hc⟩ := ((unhide HM).below hb) i x hx
        have cx1 := hc 1 _ rfl
        have cx2 := hc 2 _ rfl
        have hq1 : IntKind.i64.wrap ((i : Int) + 1) = (i : Int) + 1 := by rw [IntKind.wrap_i64]; omega
        have hcl := cnt_le x
        obtain ⟨lo, hlo⟩ : ∃ lo, max x.first 0 = lo := ⟨_, rfl⟩
        obtain ⟨hi2, hhi⟩ : ∃ h, min x.last 1114111 = h := ⟨_, rfl⟩
        have hlo0 : 0 ≤ lo := by omega
        have hhim : hi2 ≤ 1114111 := by omega
        have hcn : cntR x = (hi2 + 1 - lo).toNat := by unfold cntR loR hiR; rw [hlo, hhi]
        have HPP := hide hP
        have HCN := hide hcn
        have HB := hide hb
        clear hc hx HP hP hcn hb
        by_cases hge : lo ≤ hi2
        · have hw1 : IntKind.i32.wrap (hi2 - lo) = hi2 - lo := by rw [IntKind.wrap_i32]; omega
          have hw2 : IntKind.i64.wrap (hi2 - lo) = hi2 - lo := by rw [IntKind.wrap_i64]; omega
          have hw3 : IntKind.i64.wrap (hi2 - lo + 1) = hi2 - lo + 1 := by rw [IntKind.wrap_i64]; omega
          have hw4 : IntKind.i64.wrap ((m : Int) + (hi2 - lo + 1)) = (m : Int) + (hi2 - lo + 1) := by rw [IntKind.wrap_i64]; omega
          go_wp2
          go_region
          all_goals go_wp2
          all_goals go_roundw
          case rel =>
            refine ⟨i + 1, m + cntR x, by go_num, ?_, by omega, by omega, unhide HPP, (unhide HB).trans ⟨rfl, rfl, rfl, Nat.le_refl _, fun _ _ => rfl⟩⟩
            rw [unhide HCN]
            exact congrArg (Value.int .i64) (by omega)
          case measure => simp [RowKit.intOf]; omega
        · have hge' : hi2 < lo := by omega
          go_wp2
          go_region
          all_goals go_wp2
          all_goals go_roundw
          case rel =>
            have e0 : cntR x = 0 := by rw [unhide HCN]; omega
            have hp := unhide HPP
            rw [e0] at hp
            exact ⟨i + 1, m, by go_num, rfl, by omega, by omega, hp, (unhide HB).trans ⟨rfl, rfl, rfl, Nat.le_refl _, fun _ _ => rfl⟩⟩
          case measure => simp [RowKit.intOf]; omega
      · have hle' : (4194304 : Int) < (m : Int) := by omega
        rw [if_neg hle] at hP
        have HPP := hide hP
        clear hP hx HP
        go_wp2
        go_ret
        exact ⟨by rw [unhide HPP]; rfl, hb⟩
    · obtain rfl : i = n := by omega
      have hdn : rs.drop i = [] := List.drop_eq_nil_of_le (by rw [unhide HN]; exact Nat.le_refl _)
      have hP := unhide HP
      rw [hdn, ptsR] at hP
      have HPP := hide hP
      clear hP hdn HP
      go_wp2
      go_ret
      exact ⟨by rw [unhide HPP]; rfl, hb⟩
end Go.Proofs.YthjnkagepooeiaaGreatDoor

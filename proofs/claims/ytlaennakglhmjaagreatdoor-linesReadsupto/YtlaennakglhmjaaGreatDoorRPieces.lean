/-
  The document's Marked and Pieces (furrowref03), for every text.
-/
import Derived.Test.YtlaennakglhmjaaGreatDoorRPiM
namespace Go.Proofs.YtlaennakglhmjaaGreatDoor
open Go.RowKit Go.PlainAid Go.Lib Go.Shelf
set_option linter.unusedVariables false

theorem refMarked_any (s : ByteArray) (w : World) (hs : s.size ≤ maxLen) :
    Calls Tryz.prog 34 #[.string s] w fun e w' => e = .returned (.int .i64 (markN s : Nat)) ∧ w' = w := by
  unfold maxLen at hs
  rw [markN_eq]
  by_cases h3 : 3 ≤ s.size
  · have hl0 : 0 < s.size := by omega
    have hl1 : 1 < s.size := by omega
    have hl2 : 2 < s.size := by omega
    have hv0 : (s[0]'hl0).toNat = bN s 0 := by rw [bN, get_in s 0 hl0]
    have hv1 : (s[1]'hl1).toNat = bN s 1 := by rw [bN, get_in s 1 hl1]
    have hv2 : (s[2]'hl2).toNat = bN s 2 := by rw [bN, get_in s 2 hl2]
    go_enter Tryz.func34, Tryz.ntmps34
    go_wp2
    all_goals go_ret
    all_goals refine ⟨ret_int ?_, rfl⟩
    all_goals simp only [beq_iff_eq, beq_eq_false_iff_ne, ne_eq] at *
    all_goals (repeat' split)
    all_goals omega
  · rw [if_neg (by omega)]
    have h3' : ¬ (3 : Int) ≤ (s.size : Int) := by omega
    go_enter Tryz.func34, Tryz.ntmps34
    go_wp2
    go_ret
    exact ⟨rfl, rfl⟩

theorem infoPiece : (Tryz.prog.info? 58).map (fun i => (i.zero, i.size, i.bytes)) = some (some (.agg #[.int .i64 0, .int .i64 0, .int .i64 0]), 3, 24) := by kernel_rfl
def pieceCs (s : ByteArray) (l : List (Nat × Nat × Nat)) : List Value := l.flatMap fun x => [.int .i64 (x.2.1 : Nat), .int .i64 (x.2.2 : Nat), .int .i64 (endNext s x.2.1 : Nat)]
theorem pieceCs_snoc (s : ByteArray) (l : List (Nat × Nat × Nat)) (no a t : Nat) : pieceCs s (l ++ [(no, a, t)]) = pieceCs s l ++ [.int .i64 (a : Nat), .int .i64 (t : Nat), .int .i64 (endNext s a : Nat)] := by simp [pieceCs]
theorem cell_three_new (w : World) (a b c : Value) (t : TypeId) : ∀ j u, [a, b, c][j]? = some u → (w.alloc (.cells #[a, b, c] t)).cell? ((⟨w.heap.size, 0, none⟩ : Addr).add j) = some u := by
  intro j u hj
  match j, hj with
  | 0, hj => simp at hj; subst hj; simp [Addr.add]
  | 1, hj => simp at hj; subst hj; simp [Addr.add]
  | 2, hj => simp at hj; subst hj; simp [Addr.add]
  | j + 3, hj => simp at hj

set_option maxRecDepth 100000 in
set_option maxHeartbeats 2000000 in
theorem refPieces_any (s : ByteArray) (w : World) (hs : s.size ≤ 1099511627776) :
    Calls Tryz.prog 18 #[.string s] w fun e w' => ∃ v, e = .returned v ∧ w'.ownsRow w.heap.size 58 3 v (linesL s).length (pieceCs s (linesL s)) ∧ Below w.heap.size w w' := by
  obtain ⟨i0, hi0, hz0, hz1, hz2⟩ := info_parts infoPiece
  have HM := hide (fun w => refMarked_any s w (by unfold maxLen; omega))
  have hml := mark_le s
  have hll := lines_len s
  have H0 : Hid (([] : List (Nat × Nat × Nat)) ++ linesI s (0 + 1) (markN s) = linesL s) := rfl
  generalize markN s = m at *
  go_enter Tryz.func18, Tryz.ntmps18
  go_wp2_with fail
  refine (unhide HM _).mono ?_
  rintro e w1 ⟨rfl, hw1⟩
  obtain rfl : w = w1 := hw1.symm
  go_wp2
  go_loopw [3, 4, 5] (fun v3 v4 v5 wr => ∃ (a i : Nat) (pre : List (Nat × Nat × Nat)), v3 = v3 ∧ v4 = .int .i64 (a : Nat) ∧ v5 = .int .i64 (i : Nat) ∧ a ≤ i ∧ i ≤ s.size ∧ Hid (∀ j, a ≤ j → j < i → bN s j ≠ 10) ∧ Hid (pre ++ linesI s (pre.length + 1) a = linesL s) ∧ wr.ownsRow w.heap.size 58 3 v3 pre.length (pieceCs s pre) ∧ Below w.heap.size w wr) (fun _ _ v5 _ => s.size - (RowKit.intOf v5).toNat)
  case atStart => exact ⟨m, m, [], rfl, rfl, rfl, Nat.le_refl _, hml, (by intro j h1 h2; omega), H0, World.ownsRow_nil _ _ _ _, Below.refl _ _⟩
  case round =>
    clear hml H0
    obtain ⟨a, i, pre, _, rfl, rfl, hai, his, HN, HP, hrow, hB⟩ := hrel
    have hBs := hB.size
    have hpl : pre.length ≤ s.size := by
      have := congrArg List.length HP.out
      rw [List.length_append] at this; omega
    obtain ⟨ad, c, rfl⟩ := row_slice2 hrow
    by_cases hlt : i < s.size
    · have hv : (s[i]'hlt).toNat = bN s i := by rw [bN, get_in s i hlt]
      by_cases h10 : bN s i = 10
      · have d1 : ((bN s i : Int) != 10) = false := by simp; omega
        obtain ⟨f1, f2, f3⟩ := linesI_found s (pre.length + 1) a i hai hlt h10 HN.out
        have HP2 : Hid (pre ++ [(pre.length + 1, a, endTo s a)] ++ linesI s ((pre ++ [(pre.length + 1, a, endTo s a)]).length + 1) (i + 1) = linesL s) := by
          show _ = _
          rw [← HP.out, f1]; simp
        have HNx := hide f3
        have hpl2 : pre.length + 1 ≤ s.size := by
          have := congrArg List.length HP2.out
          simp at this; omega
        by_cases ha : a < i
        · have hl1 : i - 1 < s.size := by omega
          have hv1 : (s[i - 1]'hl1).toNat = bN s (i - 1) := by rw [bN, get_in s _ hl1]
          have hix : ((i : Int) - 1).toNat = i - 1 := by omega
          have da : decide ((a : Int) < (i : Int)) = true := decide_eq_true (by omega)
          have da' : (a : Int) < (i : Int) := by omega
          by_cases h13 : bN s (i - 1) = 13
          · have d2 : ((bN s (i - 1) : Int) == 13) = true := by simp; omega
            have e1 : (i : Int) - 1 = ((i - 1 : Nat) : Int) := by omega
            have HTo : Hid (endTo s a = i - 1) := by show _ = _; rw [f2, if_pos ⟨ha, h13⟩]
            clear f1 f2 f3
            go_wp2_with (at_builtin; refine wpList_append_own _ rfl _ _ 55 rfl w.heap.size 58 i0 (.agg #[.int .i64 0, .int .i64 0, .int .i64 0]) 3 24 Tryz.underlying55 hi0 hz0 hz1 hz2 rfl (by decide) _ _ _ rfl (hrow.alloc _) ⟨wr.heap.size, 0, none⟩ 1 1 [.int .i64 (a : Nat), .int .i64 (i - 1 : Nat), .int .i64 ((i : Int) + 1)] rfl rfl (by simpa using cell_three_new wr (.int .i64 (a : Nat)) (.int .i64 (i - 1 : Nat)) (.int .i64 ((i : Int) + 1)) 58) (by simp [Value.oneCell']) (by unfold maxLen; omega) (by omega) (by simp; omega) ?_; intro v' w4 hown' hgrow _)
            have hB4 := belowG (hB.alloc hBs _) (by simp; omega) (hrow.alloc _) hgrow
            have hrow4 : w4.ownsRow w.heap.size 58 3 v' (pre ++ [(pre.length + 1, a, endTo s a)]).length (pieceCs s (pre ++ [(pre.length + 1, a, endTo s a)])) := by
              rw [pieceCs_snoc, List.length_append, HTo.out, HNx.out]; exact hown'
            go_roundw
            case rel => exact ⟨i + 1, i + 1, _, trivial, by go_num, by go_num, Nat.le_refl _, by omega, (by intro j h1 h2; omega), HP2, hrow4, hB4⟩
            case measure => simp [RowKit.intOf]; omega
          · have d2 : ((bN s (i - 1) : Int) == 13) = false := by simp; omega
            have HTo : Hid (endTo s a = i) := by show _ = _; rw [f2, if_neg (fun h => h13 h.2)]
            clear f1 f2 f3
            go_wp2_with (at_builtin; refine wpList_append_own _ rfl _ _ 55 rfl w.heap.size 58 i0 (.agg #[.int .i64 0, .int .i64 0, .int .i64 0]) 3 24 Tryz.underlying55 hi0 hz0 hz1 hz2 rfl (by decide) _ _ _ rfl (hrow.alloc _) ⟨wr.heap.size, 0, none⟩ 1 1 [.int .i64 (a : Nat), .int .i64 (i : Nat), .int .i64 ((i : Int) + 1)] rfl rfl (by simpa using cell_three_new wr (.int .i64 (a : Nat)) (.int .i64 (i : Nat)) (.int .i64 ((i : Int) + 1)) 58) (by simp [Value.oneCell']) (by unfold maxLen; omega) (by omega) (by simp; omega) ?_; intro v' w4 hown' hgrow _)
            have hB4 := belowG (hB.alloc hBs _) (by simp; omega) (hrow.alloc _) hgrow
            have hrow4 : w4.ownsRow w.heap.size 58 3 v' (pre ++ [(pre.length + 1, a, endTo s a)]).length (pieceCs s (pre ++ [(pre.length + 1, a, endTo s a)])) := by
              rw [pieceCs_snoc, List.length_append, HTo.out, HNx.out]; exact hown'
            go_roundw
            case rel => exact ⟨i + 1, i + 1, _, trivial, by go_num, by go_num, Nat.le_refl _, by omega, (by intro j h1 h2; omega), HP2, hrow4, hB4⟩
            case measure => simp [RowKit.intOf]; omega
        · obtain rfl : a = i := by omega
          have da : decide ((a : Int) < (a : Int)) = false := decide_eq_false (by omega)
          have HTo : Hid (endTo s a = a) := by show _ = _; rw [f2, if_neg (fun h => ha h.1)]
          clear f1 f2 f3
          go_wp2_with (at_builtin; refine wpList_append_own _ rfl _ _ 55 rfl w.heap.size 58 i0 (.agg #[.int .i64 0, .int .i64 0, .int .i64 0]) 3 24 Tryz.underlying55 hi0 hz0 hz1 hz2 rfl (by decide) _ _ _ rfl (hrow.alloc _) ⟨wr.heap.size, 0, none⟩ 1 1 [.int .i64 (a : Nat), .int .i64 (a : Nat), .int .i64 ((a : Int) + 1)] rfl rfl (by simpa using cell_three_new wr (.int .i64 (a : Nat)) (.int .i64 (a : Nat)) (.int .i64 ((a : Int) + 1)) 58) (by simp [Value.oneCell']) (by unfold maxLen; omega) (by omega) (by simp; omega) ?_; intro v' w4 hown' hgrow _)
          have hB4 := belowG (hB.alloc hBs _) (by simp; omega) (hrow.alloc _) hgrow
          have hrow4 : w4.ownsRow w.heap.size 58 3 v' (pre ++ [(pre.length + 1, a, endTo s a)]).length (pieceCs s (pre ++ [(pre.length + 1, a, endTo s a)])) := by
            rw [pieceCs_snoc, List.length_append, HTo.out, HNx.out]; exact hown'
          go_roundw
          case rel => exact ⟨a + 1, a + 1, _, trivial, by go_num, by go_num, Nat.le_refl _, by omega, (by intro j h1 h2; omega), HP2, hrow4, hB4⟩
          case measure => simp [RowKit.intOf]; omega
      · have d1 : ((bN s i : Int) != 10) = true := by simp; omega
        have HN2 : Hid (∀ j, a ≤ j → j < i + 1 → bN s j ≠ 10) := by
          intro j h1 h2
          rcases Nat.lt_succ_iff_lt_or_eq.1 h2 with h | h
          · exact HN.out j h1 h
          · rw [h]; exact h10
        go_wp2
        go_roundw
        case rel => exact ⟨a, i + 1, pre, trivial, rfl, by go_num, by omega, by omega, HN2, HP, hrow, hB⟩
        case measure => simp [RowKit.intOf]; omega
    · obtain rfl : i = s.size := by omega
      by_cases ha : a < s.size
      · have da : (a : Int) < (s.size : Int) := by omega
        obtain ⟨f1, f2⟩ := linesI_last s (pre.length + 1) a ha HN.out
        have HE : Hid (linesL s = pre ++ [(pre.length + 1, a, s.size)]) := by show _ = _; rw [← HP.out, f1]
        have HNx := hide f2
        have hpl2 : pre.length + 1 ≤ s.size := by
          have := congrArg List.length HE.out
          simp at this; omega
        clear f1 f2
        go_wp2_with (at_builtin; refine wpList_append_own _ rfl _ _ 55 rfl w.heap.size 58 i0 (.agg #[.int .i64 0, .int .i64 0, .int .i64 0]) 3 24 Tryz.underlying55 hi0 hz0 hz1 hz2 rfl (by decide) _ _ _ rfl (hrow.alloc _) ⟨wr.heap.size, 0, none⟩ 1 1 [.int .i64 (a : Nat), .int .i64 (s.size : Nat), .int .i64 (s.size : Nat)] rfl rfl (by simpa using cell_three_new wr (.int .i64 (a : Nat)) (.int .i64 (s.size : Nat)) (.int .i64 (s.size : Nat)) 58) (by simp [Value.oneCell']) (by unfold maxLen; omega) (by omega) (by simp; omega) ?_; intro v' w4 hown' hgrow _)
        have hB4 := belowG (hB.alloc hBs _) (by simp; omega) (hrow.alloc _) hgrow
        go_ret
        refine ⟨_, rfl, ?_, hB4⟩
        rw [HE.out, pieceCs_snoc, List.length_append, HNx.out]; exact hown'
      · have da : ¬ (a : Int) < (s.size : Int) := by omega
        obtain rfl : a = s.size := by omega
        have HE : Hid (linesL s = pre) := by show _ = _; rw [← HP.out, linesI_end]; simp
        go_wp2
        go_ret
        exact ⟨_, rfl, by rw [HE.out]; exact hrow, hB⟩

end Go.Proofs.YtlaennakglhmjaaGreatDoor

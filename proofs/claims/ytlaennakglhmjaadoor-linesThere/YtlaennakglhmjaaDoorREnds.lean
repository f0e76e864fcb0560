/-
  The document's ends (furrowref03): the lines as Where and Place see them.
-/
import Derived.Test.YtlaennakglhmjaaDoorLTold
import Derived.BigQuiet
namespace Go.Proofs.YtlaennakglhmjaaDoor
open Go.RowKit Go.PlainAid Go.Lib Go.Shelf
set_option linter.unusedVariables false

theorem end_size (s : ByteArray) : endTo s s.size = s.size ∧ endNext s s.size = s.size ∧ hasEnd s s.size = false := by
  have hn := nl_none s s.size (fun j h1 h2 => by omega)
  refine ⟨by unfold endTo; rw [hn]; rfl, by unfold endNext; rw [hn]; rfl, by unfold hasEnd; rw [hn]; rfl⟩
theorem ends_spec (s : ByteArray) : ∀ (k no i : Nat), s.size - i ≤ k → i ≤ s.size →
    (extsI s no i = linesI s no i ∧ ∃ x, (linesI s no i).getLast? = some x ∧ ¬ x.2.2 < endNext s x.2.1) ∨
    (extsI s no i = linesI s no i ++ [(no + (linesI s no i).length, s.size, s.size)] ∧ ((linesI s no i = [] ∧ i = s.size) ∨ ∃ x, (linesI s no i).getLast? = some x ∧ x.2.2 < endNext s x.2.1 ∧ endNext s x.2.1 = s.size)) := by
  intro k
  induction k with
  | zero =>
    intro no i hk hi
    obtain rfl : i = s.size := by omega
    have he := end_size s
    right
    rw [linesI_end, extsI_step s no _ (Nat.le_refl _), he.1, he.2.2]
    exact ⟨by simp, .inl ⟨rfl, rfl⟩⟩
  | succ k ih =>
    intro no i hk hi
    by_cases hz : i = s.size
    · subst hz
      have he := end_size s
      right
      rw [linesI_end, extsI_step s no _ (Nat.le_refl _), he.1, he.2.2]
      exact ⟨by simp, .inl ⟨rfl, rfl⟩⟩
    · have hb := end_bounds s i hi
      have hl : linesI s no i = (no, i, endTo s i) :: (if hasEnd s i = true then linesI s (no + 1) (endNext s i) else []) := by
        unfold linesI
        rw [extsI_step s no i hi, List.takeWhile_cons, if_pos (by simpa using hz)]
        split <;> rfl
      rw [hl, extsI_step s no i hi]
      cases he : hasEnd s i with
      | false =>
        left
        have := hb.2.2.2.2.2 he
        refine ⟨by simp, (no, i, endTo s i), by simp, ?_⟩
        simp only []; omega
      | true =>
        have h5 := hb.2.2.2.2.1 he
        simp only [if_true]
        rcases ih (no + 1) (endNext s i) (by omega) hb.2.2.2.1 with ⟨h1, x, h2, h3⟩ | ⟨h1, h2⟩
        · left
          refine ⟨by rw [h1], x, ?_, h3⟩
          rw [List.getLast?_cons, h2]; rfl
        · right
          refine ⟨by rw [h1]; simp [Nat.add_assoc, Nat.add_comm], .inr ?_⟩
          rcases h2 with ⟨h3, h4⟩ | ⟨x, h3, h4, h6⟩
          · rw [h3]
            exact ⟨(no, i, endTo s i), by simp, h5.1, h4⟩
          · exact ⟨x, by rw [List.getLast?_cons, h3]; rfl, h4, h6⟩

set_option maxRecDepth 100000 in
set_option maxHeartbeats 4000000 in
theorem refEnds_any (s : ByteArray) (w : World) (hs : s.size ≤ 1099511627776) :
    Calls Tryd.prog 49 #[.string s] w fun e w' => ∃ v, e = .returned v ∧ w'.ownsRow w.heap.size 61 3 v (extsL s).length (pieceCs s (extsL s)) ∧ Below w.heap.size w w' := by
  obtain ⟨i0, hi0, hz0, hz1, hz2⟩ := info_parts infoPiece
  have hsp := ends_spec s _ 1 (markN s) (Nat.le_refl _) (mark_le s)
  rw [linesL_I] at hsp
  have hee : extsI s 1 (markN s) = extsL s := rfl
  rw [hee] at hsp
  clear hee
  have hll := lines_len s
  have HPI := hide (fun w => refPieces_any s w hs)
  have HMK := hide (fun w => (refMarked_any s w (by unfold maxLen; omega)).mono fun e w' (h : _ ∧ w' = w) => (⟨h.1, h.2.symm⟩ : _ ∧ w = w'))
  have hes := (end_size s).2.1
  obtain ⟨N, hN⟩ : ∃ N, (linesL s).length = N := ⟨_, rfl⟩
  have snoc : ∀ no, pieceCs s (linesL s ++ [(no, s.size, s.size)]) = pieceCs s (linesL s) ++ [.int .i64 (s.size : Nat), .int .i64 (s.size : Nat), .int .i64 (s.size : Nat)] := fun no => by rw [pieceCs_snoc, hes]
  go_enter Tryd.func49, Tryd.ntmps49
  go_wp2_with fail
  refine (unhide HPI _).mono ?_
  rintro e w1 ⟨v, rfl, hrow, hb1⟩
  obtain ⟨a, c, rfl, hat⟩ := pi_row hrow
  rw [hN] at hrow hll
  rw [hN]
  have hBs := hb1.size
  have lastAt : ∀ x, (linesL s).getLast? = some x → (linesL s)[N - 1]? = some x := fun x h => by rw [List.getLast?_eq_getElem?, hN] at h; exact h
  have pos : ∀ x, (linesL s).getLast? = some x → 0 < N := fun x h => by
    rw [← hN]
    cases hl : linesL s with
    | nil => rw [hl] at h; cases h
    | cons a l => simp
  rcases hsp with ⟨h1, x, h2, h3⟩ | ⟨h1, (⟨h2, h3⟩ | ⟨x, h2, h3, h4⟩)⟩
  · have hx := lastAt x h2
    have hN0 : 0 < N := pos _ h2
    obtain ⟨g, rfl, p0, p1, p2⟩ := hat (N - 1) x hx
    obtain ⟨X, F, T⟩ := x
    simp only [] at p0 p1 p2 h3
    have hrow2 : w1.ownsRow w.heap.size 61 3 (.slice (some ⟨g, 0, none⟩) N c) (extsL s).length (pieceCs s (extsL s)) := by rw [h1, hN]; exact hrow
    generalize endNext s F = Nx at *
    have d0 : ((N : Int) == 0) = false := by simp; omega
    have dl : decide ((T : Int) < (Nx : Int)) = false := decide_eq_false (by omega)
    have dl' : ¬ (T : Int) < (Nx : Int) := by omega
    have hix : ((N : Int) - 1).toNat = N - 1 := by omega
    have HR := hide hrow2
    clear hat lastAt h1 h2 h3 hx hrow hrow2 hN snoc hes pos
    go_wp2
    go_quiet (fail)
    go_wp2
    go_ret
    exact ⟨_, rfl, unhide HR, below_drewN hb1 _⟩
  · have hN0 : N = 0 := by rw [← hN, h2]; rfl
    subst hN0
    rw [h3] at HMK
    have HE : Hid (extsL s = linesL s ++ [(1 + 0, s.size, s.size)]) := by show _ = _; rw [h1, hN]
    have HS := hide snoc
    have HN := hide hN
    clear hat lastAt h1 h2 h3 snoc hes hN pos
    have dN : (((0 : Nat) : Int) == 0) = true := by simp
    rcases Nat.eq_zero_or_pos s.size with hz | hz
    · have e0 : ¬ (0 : Int) < (s.size : Int) := by omega
      have HZ := hide hz
      go_wp2
      go_quiet (fail)
      obtain ⟨W2, hW2⟩ : ∃ W2, w1.drewN nq = W2 := ⟨_, rfl⟩
      have hrow2 : W2.ownsRow w.heap.size 61 3 (.slice a 0 c) 0 (pieceCs s (linesL s)) := by rw [← hW2]; exact hrow
      have hB2 : Below w.heap.size w W2 := by rw [← hW2]; exact below_drewN hb1 nq
      have hBs2 := hB2.size
      rw [hW2]
      clear hW2 hrow hb1
      go_wp2_with (first
        | (go_at_call 31; refine (unhide HMK _).mono ?_; rintro e w2 ⟨rfl, rfl⟩)
        | (at_builtin; refine wpList_append_own _ rfl _ _ 23 rfl w.heap.size 61 i0 (.agg #[.int .i64 0, .int .i64 0, .int .i64 0]) 3 24 Tryd.underlying23 hi0 hz0 hz1 hz2 rfl (by decide) _ _ _ rfl (hrow2.alloc _) ⟨W2.heap.size, 0, none⟩ 1 1 [.int .i64 0, .int .i64 0, .int .i64 0] rfl rfl (by simpa using cell_three_new W2 (.int .i64 0) (.int .i64 0) (.int .i64 0) 61) (by simp [Value.oneCell']) (by unfold maxLen; omega) (by omega) (by simp; omega) ?_; intro v' w4 hown' hgrow _))
      go_ret
      refine ⟨_, rfl, ?_, belowG (hB2.alloc hBs2 _) (by simp; omega) (hrow2.alloc _) hgrow⟩
      rw [HE.out, unhide HS, List.length_append, unhide HN, unhide HZ]; exact hown'
    · have e0 : (0 : Int) < (s.size : Int) := by omega
      go_wp2
      go_quiet (fail)
      obtain ⟨W2, hW2⟩ : ∃ W2, w1.drewN nq = W2 := ⟨_, rfl⟩
      have hrow2 : W2.ownsRow w.heap.size 61 3 (.slice a 0 c) 0 (pieceCs s (linesL s)) := by rw [← hW2]; exact hrow
      have hB2 : Below w.heap.size w W2 := by rw [← hW2]; exact below_drewN hb1 nq
      have hBs2 := hB2.size
      rw [hW2]
      clear hW2 hrow hb1
      go_wp2_with (first
        | (go_at_call 31; refine (unhide HMK _).mono ?_; rintro e w2 ⟨rfl, rfl⟩)
        | (at_builtin; refine wpList_append_own _ rfl _ _ 23 rfl w.heap.size 61 i0 (.agg #[.int .i64 0, .int .i64 0, .int .i64 0]) 3 24 Tryd.underlying23 hi0 hz0 hz1 hz2 rfl (by decide) _ _ _ rfl (hrow2.alloc _) ⟨W2.heap.size, 0, none⟩ 1 1 [.int .i64 (s.size : Nat), .int .i64 (s.size : Nat), .int .i64 (s.size : Nat)] rfl rfl (by simpa using cell_three_new W2 (.int .i64 (s.size : Nat)) (.int .i64 (s.size : Nat)) (.int .i64 (s.size : Nat)) 61) (by simp [Value.oneCell']) (by unfold maxLen; omega) (by omega) (by simp; omega) ?_; intro v' w4 hown' hgrow _))
      go_ret
      refine ⟨_, rfl, ?_, belowG (hB2.alloc hBs2 _) (by simp; omega) (hrow2.alloc _) hgrow⟩
      rw [HE.out, unhide HS, List.length_append, unhide HN]; exact hown'
  · have hx := lastAt x h2
    have hN0 : 0 < N := pos _ h2
    obtain ⟨g, rfl, p0, p1, p2⟩ := hat (N - 1) x hx
    obtain ⟨X, F, T⟩ := x
    simp only [] at p0 p1 p2 h3 h4
    rw [h4] at p2 h3
    have d0 : ((N : Int) == 0) = false := by simp; omega
    have d0' : (0 : Int) < (N : Int) := by omega
    have dl : decide ((T : Int) < (s.size : Int)) = true := decide_eq_true (by omega)
    have dl' : (T : Int) < (s.size : Int) := by omega
    have hix : ((N : Int) - 1).toNat = N - 1 := by omega
    have HE : Hid (extsL s = linesL s ++ [(1 + N, s.size, s.size)]) := by show _ = _; rw [h1, hN]
    have HS := hide snoc
    have HN := hide hN
    clear hat lastAt h1 h2 h3 h4 hx snoc hes hN pos
    generalize markN s = mk at *
    rcases Nat.eq_zero_or_pos mk with hz | hz
    · have e0 : ¬ (0 : Int) < (mk : Int) := by omega
      go_wp2
      go_quiet (fail)
      obtain ⟨W2, hW2⟩ : ∃ W2, w1.drewN nq = W2 := ⟨_, rfl⟩
      have hrow2 : W2.ownsRow w.heap.size 61 3 (.slice (some ⟨g, 0, none⟩) N c) N (pieceCs s (linesL s)) := by rw [← hW2]; exact hrow
      have hB2 : Below w.heap.size w W2 := by rw [← hW2]; exact below_drewN hb1 nq
      have hBs2 := hB2.size
      have p2w : W2.cell? ⟨g, (N - 1) * 3 + 2, none⟩ = some (.int .i64 (s.size : Nat)) := by rw [← hW2]; exact p2
      rw [hW2]
      clear hW2 hrow hb1
      go_wp2_with (first
        | (go_at_call 31; refine (unhide HMK _).mono ?_; rintro e w2 ⟨rfl, rfl⟩)
        | (at_builtin; refine wpList_append_own _ rfl _ _ 23 rfl w.heap.size 61 i0 (.agg #[.int .i64 0, .int .i64 0, .int .i64 0]) 3 24 Tryd.underlying23 hi0 hz0 hz1 hz2 rfl (by decide) _ _ _ rfl (hrow2.alloc _) ⟨W2.heap.size, 0, none⟩ 1 1 [.int .i64 (s.size : Nat), .int .i64 (s.size : Nat), .int .i64 (s.size : Nat)] rfl rfl (by simpa using cell_three_new W2 (.int .i64 (s.size : Nat)) (.int .i64 (s.size : Nat)) (.int .i64 (s.size : Nat)) 61) (by simp [Value.oneCell']) (by unfold maxLen; omega) (by omega) (by simp; omega) ?_; intro v' w4 hown' hgrow _))
      go_ret
      refine ⟨_, rfl, ?_, belowG (hB2.alloc hBs2 _) (by simp; omega) (hrow2.alloc _) hgrow⟩
      rw [HE.out, unhide HS, List.length_append, unhide HN]; exact hown'
    · have e0 : (0 : Int) < (mk : Int) := by omega
      go_wp2
      go_quiet (fail)
      obtain ⟨W2, hW2⟩ : ∃ W2, w1.drewN nq = W2 := ⟨_, rfl⟩
      have hrow2 : W2.ownsRow w.heap.size 61 3 (.slice (some ⟨g, 0, none⟩) N c) N (pieceCs s (linesL s)) := by rw [← hW2]; exact hrow
      have hB2 : Below w.heap.size w W2 := by rw [← hW2]; exact below_drewN hb1 nq
      have hBs2 := hB2.size
      have p2w : W2.cell? ⟨g, (N - 1) * 3 + 2, none⟩ = some (.int .i64 (s.size : Nat)) := by rw [← hW2]; exact p2
      rw [hW2]
      clear hW2 hrow hb1
      go_wp2_with (first
        | (go_at_call 31; refine (unhide HMK _).mono ?_; rintro e w2 ⟨rfl, rfl⟩)
        | (at_builtin; refine wpList_append_own _ rfl _ _ 23 rfl w.heap.size 61 i0 (.agg #[.int .i64 0, .int .i64 0, .int .i64 0]) 3 24 Tryd.underlying23 hi0 hz0 hz1 hz2 rfl (by decide) _ _ _ rfl (hrow2.alloc _) ⟨W2.heap.size, 0, none⟩ 1 1 [.int .i64 (s.size : Nat), .int .i64 (s.size : Nat), .int .i64 (s.size : Nat)] rfl rfl (by simpa using cell_three_new W2 (.int .i64 (s.size : Nat)) (.int .i64 (s.size : Nat)) (.int .i64 (s.size : Nat)) 61) (by simp [Value.oneCell']) (by unfold maxLen; omega) (by omega) (by simp; omega) ?_; intro v' w4 hown' hgrow _))
      go_ret
      refine ⟨_, rfl, ?_, belowG (hB2.alloc hBs2 _) (by simp; omega) (hrow2.alloc _) hgrow⟩
      rw [HE.out, unhide HS, List.length_append, unhide HN]; exact hown'

end Go.Proofs.YtlaennakglhmjaaDoor

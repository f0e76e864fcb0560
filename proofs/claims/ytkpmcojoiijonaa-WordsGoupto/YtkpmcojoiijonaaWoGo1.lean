/-
  The law's own loose form, by Go's range.
-/
import Derived.Test.YtkpmcojoiijonaaWoG
import Derived.Test.YtkpmcojoiijonaaRefSpots
namespace Go.Proofs.Ytkpmcojoiijonaa
open Go.RowKit Go.PlainAid Go.Lib
attribute [local go_sem] World.iter
set_option linter.unusedVariables false

set_option maxRecDepth 100000 in
set_option maxHeartbeats 2000000 in
theorem lawLoose_any (s : ByteArray) (w : World) (hs : s.size ≤ 1099511627776) :
    Calls Try.prog 36 #[.string s] w fun e w' => e = .returned (.string (looseB s)) ∧ Below w.heap.size w w' := by
  have hcl := chars_length s 0
  obtain ⟨i0, hi, hz0, hz1, hz2⟩ := info_parts infoRune
  have HLB : Hid (looseB s = runesBytes (looseL (numsOf (chars s 0)))) := rfl
  generalize hL : (chars s 0).length = L at *
  have HL : Hid ((chars s 0).length = L) := hL
  clear hL
  go_enter Try.func36, Try.ntmps36
  go_wp2
  go_loopw [3] (fun v wr => ∃ (pos : Nat) (pre : List (Nat × Nat)), Hid (pre ++ chars s pos = chars s 0) ∧ wr.ownsRow w.heap.size 21 1 v (looseV pre).length (looseV pre) ∧ wr.heap[w.heap.size]? = some (.stringIter s pos) ∧ Below w.heap.size w wr) (fun _ wr => s.size - wr.iterPos w.heap.size)
  case atStart => exact ⟨0, [], rfl, by simpa [looseV, looseL] using World.ownsRow_nil _ _ _ _, heap_alloc_new w _, (Below.refl _ _).alloc (Nat.le_refl _) _⟩
  case round =>
    obtain ⟨pos, pre, HP, hrow, hit, hB⟩ := hrel
    obtain ⟨a', n', c', rfl⟩ : ∃ a' n' c', u3 = .slice a' n' c' := by
      rcases hrow.2 with ⟨rfl, _⟩ | ⟨g, cap, cur, rfl, _⟩
      · exact ⟨_, _, _, rfl⟩
      · exact ⟨_, _, _, rfl⟩
    by_cases hlt : pos < s.size
    · have hnx := fun ty => run_next_any_at (P := Try.prog) wr w.heap.size s pos ty hit hlt
      have hb := dec_bounds s pos hlt
      have HP2 : Hid (pre ++ [(pos, (Utf8.decode s pos).1)] ++ chars s (pos + (Utf8.decode s pos).2) = chars s 0) := by
        show _ = _
        rw [← HP.out, chars_step s pos hlt]; simp
      have hpl : (looseV pre).length + 1 ≤ L := by
        have := congrArg List.length HP2.out
        have h2 := looseL_len (numsOf pre)
        simp only [looseV, numsOf, List.length_map] at h2 ⊢
        rw [HL.out] at this; simp at this; omega
      have hrow2 := row_iterAt hrow hit (pos + (Utf8.decode s pos).2)
      have hit2 := iterAt_heap wr w.heap.size s pos (pos + (Utf8.decode s pos).2) hit
      have hB2 : Below w.heap.size w (wr.iterAt w.heap.size s (pos + (Utf8.decode s pos).2)) := below_iterAt hB (Nat.le_refl _) s _
      have hmeas : s.size - (pos + (Utf8.decode s pos).2) < s.size - wr.iterPos w.heap.size := by rw [iterPos_of hit]; omega
      have hsc := dec_scalar s pos hlt
      generalize hW3 : wr.iterAt w.heap.size s (pos + (Utf8.decode s pos).2) = W3 at *
      clear hW3
      have hr01 : 0 ≤ (((Utf8.decode s pos).1 : Nat) : Int) ∧ (((Utf8.decode s pos).1 : Nat) : Int) ≤ 1114111 := by unfold scalarB at hsc; simp at hsc; omega
      obtain ⟨hr0, hr1⟩ := hr01
      have hVy := looseV_yes pre (pos, (Utf8.decode s pos).1)
      have hVn := looseV_no pre (pos, (Utf8.decode s pos).1)
      dsimp only at hVy hVn
      have hBs2 := hB2.size
      obtain ⟨x, hx⟩ : ∃ x, looseV (pre ++ [(pos, (Utf8.decode s pos).1)]) = x := ⟨_, rfl⟩
      rw [hx] at hVy hVn
      have HXX := hide hx
      clear hx hsc
      generalize hr : (((Utf8.decode s pos).1 : Nat) : Int) = r at *
      clear hr
      cases hbl : blankB r with
      | true =>
        have HV := hide (hVn (by unfold countsB; rw [hbl]; simp))
        have HB := hide hbl
        clear hVn hVy hbl
        go_wp2_with (go_at_call 13; refine (blank_any _ W3).mono ?_; rintro e w' ⟨rfl, hw⟩; obtain rfl : W3 = w' := hw.symm; rw [unhide HB])
        go_roundw
        case rel => exact ⟨pos + (Utf8.decode s pos).2, pre ++ [(pos, (Utf8.decode s pos).1)], HP2, by rw [unhide HXX, unhide HV]; exact hrow2, hit2, hB2⟩
        case measure => rw [iterPos_of hit2]; exact hmeas
      | false =>
        by_cases h95 : r = 95
        · subst h95
          have HV := hide (hVn (by decide))
          have HB := hide hbl
          clear hVn hVy hbl
          go_wp2_with (go_at_call 13; refine (blank_any _ W3).mono ?_; rintro e w' ⟨rfl, hw⟩; obtain rfl : W3 = w' := hw.symm; rw [unhide HB])
          go_roundw
          case rel => exact ⟨pos + (Utf8.decode s pos).2, pre ++ [(pos, (Utf8.decode s pos).1)], HP2, by rw [unhide HXX, unhide HV]; exact hrow2, hit2, hB2⟩
          case measure => rw [iterPos_of hit2]; exact hmeas
        · by_cases h45 : r = 45
          · subst h45
            have HV := hide (hVn (by decide))
            have HB := hide hbl
            clear hVn hVy hbl h95
            go_wp2_with (go_at_call 13; refine (blank_any _ W3).mono ?_; rintro e w' ⟨rfl, hw⟩; obtain rfl : W3 = w' := hw.symm; rw [unhide HB])
            go_roundw
            case rel => exact ⟨pos + (Utf8.decode s pos).2, pre ++ [(pos, (Utf8.decode s pos).1)], HP2, by rw [unhide HXX, unhide HV]; exact hrow2, hit2, hB2⟩
            case measure => rw [iterPos_of hit2]; exact hmeas
          · have g95 : (r == 95) = false := by simp [h95]
            have g45 : (r == 45) = false := by simp [h45]
            have hct : countsB r = true := by unfold countsB; simp [h95, h45, hbl]
            have hVy' := hVy hct
            have HB := hide hbl
            have hcap : (65 ≤ r ∧ r ≤ 90 ∧ smallN r = r + 32) ∨ (r < 65 ∧ smallN r = r) ∨ (65 ≤ r ∧ 90 < r ∧ smallN r = r) := by unfold smallN; split <;> omega
            clear hbl hVn hVy hct h95 h45
            generalize looseV pre = lv at *
            rcases hcap with ⟨q1, q2, hsm⟩ | ⟨q1, hsm⟩ | ⟨q1, q2, hsm⟩
            · rw [hsm] at hVy'
              have HV := hide hVy'
              clear hVy' hsm
              go_wp2_with (first | (go_at_call 13; refine (blank_any _ W3).mono ?_; rintro e w' ⟨rfl, hw⟩; obtain rfl : W3 = w' := hw.symm; rw [unhide HB]) | (at_builtin; refine wpList_append_own _ rfl _ _ 64 rfl w.heap.size 21 i0 (.int .i32 0) 1 4 Try.underlying64 hi hz0 hz1 hz2 rfl (by decide) _ _ _ rfl (hrow2.alloc _) ⟨W3.heap.size, 0, none⟩ 1 1 [.int .i32 (r + 32)] rfl rfl (cell_one_new _ _ _) (by simp [Value.oneCell']) (by unfold maxLen; omega) (by omega) (by simp; omega) ?_; intro v' w4 hown' hgrow _))
              go_roundw
              case rel => exact ⟨pos + (Utf8.decode s pos).2, pre ++ [(pos, (Utf8.decode s pos).1)], HP2, by rw [unhide HXX, unhide HV, List.length_append]; exact hown', iter_grown hrow2 hgrow hit2, below_grown hB2 hBs2 hrow2 hgrow⟩
              case measure => rw [iterPos_of (iter_grown hrow2 hgrow hit2)]; exact hmeas
            all_goals
              rw [hsm] at hVy'
              have HV := hide hVy'
              clear hVy' hsm
              go_wp2_with (first | (go_at_call 13; refine (blank_any _ W3).mono ?_; rintro e w' ⟨rfl, hw⟩; obtain rfl : W3 = w' := hw.symm; rw [unhide HB]) | (at_builtin; refine wpList_append_own _ rfl _ _ 64 rfl w.heap.size 21 i0 (.int .i32 0) 1 4 Try.underlying64 hi hz0 hz1 hz2 rfl (by decide) _ _ _ rfl (hrow2.alloc _) ⟨W3.heap.size, 0, none⟩ 1 1 [.int .i32 r] rfl rfl (cell_one_new _ _ _) (by simp [Value.oneCell']) (by unfold maxLen; omega) (by omega) (by simp; omega) ?_; intro v' w4 hown' hgrow _))
              go_roundw
              case rel => exact ⟨pos + (Utf8.decode s pos).2, pre ++ [(pos, (Utf8.decode s pos).1)], HP2, by rw [unhide HXX, unhide HV, List.length_append]; exact hown', iter_grown hrow2 hgrow hit2, below_grown hB2 hBs2 hrow2 hgrow⟩
              case measure => rw [iterPos_of (iter_grown hrow2 hgrow hit2)]; exact hmeas
    · have hnx := fun ty => run_next_end_at (P := Try.prog) wr w.heap.size s pos ty hit hlt
      have hpe : pre = chars s 0 := by have := HP.out; rw [chars_end s pos hlt] at this; simpa using this
      have hlen : (looseV (chars s 0)).length = (looseL (numsOf (chars s 0))).length := List.length_map _
      rw [hpe, hlen] at hrow
      have hcv := conv_own hrow
      clear hpe hlen HP hrow
      generalize looseL (numsOf (chars s 0)) = zs at *
      go_wp2
      go_ret
      exact ⟨ret_str HLB.out.symm, hB⟩
end Go.Proofs.Ytkpmcojoiijonaa

/-
  Scan of package lines, for every text: what a line is.
-/
import Derived.Test.YtlaennakglhmjaaGreatDoorLCut
import Derived.Test.YtlaennakglhmjaaGreatDoorLCheck
import Derived.BigQuiet
namespace Go.Proofs.YtlaennakglhmjaaGreatDoor
open Go.RowKit Go.PlainAid Go.Lib Go.Shelf
attribute [local go_sem] World.iter
set_option linter.unusedVariables false

theorem toList_empty (s : ByteArray) : s.toList.isEmpty = decide (s.size = 0) := by
  rw [toList_data, Bool.eq_iff_iff, List.isEmpty_iff, ← List.length_eq_zero_iff, show s.data.toList.length = s.size from L_len s]; simp
/-- may a number stand in an order's name -/
def nameSignB (r : Int) : Bool := (decide (65 ≤ r) && decide (r ≤ 90)) || (decide (97 ≤ r) && decide (r ≤ 122)) || (decide (48 ≤ r) && decide (r ≤ 57)) || decide (r = 95) || decide (r = 45)
set_option maxRecDepth 100000 in
theorem isNameSign_any (r : Int) (w : World) :
    Calls Tryz.prog 71 #[.int .i32 r] w fun e w' => e = .returned (.bool (nameSignB r)) ∧ w' = w := by
  go_enter Tryz.func71, Tryz.ntmps71
  go_wp2
  all_goals go_ret
  all_goals refine ⟨ret_bool ?_, rfl⟩
  all_goals (unfold nameSignB; rw [Bool.eq_iff_iff]; simp_all)
  all_goals omega

def nameB (s : ByteArray) : Bool := (chars s 0).all (fun p => nameSignB (p.2 : Int)) && decide (0 < s.size)
set_option maxRecDepth 100000 in
theorem isName_any (s : ByteArray) (w : World) (hs : s.size ≤ maxLen) :
    Calls Tryz.prog 52 #[.string s] w fun e w' => e = .returned (.bool (nameB s)) ∧ Below w.heap.size w w' := by
  unfold maxLen at hs
  obtain ⟨A, hA⟩ : ∃ A, nameB s = A := ⟨_, rfl⟩
  rw [hA]
  have HA : Hid (((chars s 0).all (fun p => nameSignB (p.2 : Int)) && decide (0 < s.size)) = A) := hA
  clear hA
  go_enter Tryz.func52, Tryz.ntmps52
  go_wp2
  go_loopw [] (fun wr => ∃ pos : Nat, wr.heap[w.heap.size]? = some (.stringIter s pos) ∧ Below w.heap.size w wr ∧ Hid (((chars s pos).all (fun p => nameSignB (p.2 : Int)) && decide (0 < s.size)) = A)) (fun wr => s.size - wr.iterPos w.heap.size)
  case atStart => exact ⟨0, heap_alloc_new w _, (Below.refl _ _).alloc (Nat.le_refl _) _, HA⟩
  case round =>
    obtain ⟨pos, hit, hB, HC⟩ := hrel
    by_cases hlt : pos < s.size
    · have hnx := fun ty => run_next_any_at (P := Tryz.prog) wr w.heap.size s pos ty hit hlt
      have hb := dec_bounds s pos hlt
      have hit2 := iterAt_heap wr w.heap.size s pos (pos + (Utf8.decode s pos).2) hit
      have hB2 : Below w.heap.size w (wr.iterAt w.heap.size s (pos + (Utf8.decode s pos).2)) := hB.grown (grownBy_iterAt wr w.heap.size s _) hB.size (fun k e => by cases e; exact Nat.le_refl _)
      have hmeas : s.size - (pos + (Utf8.decode s pos).2) < s.size - wr.iterPos w.heap.size := by rw [iterPos_of hit]; omega
      have HS : Hid (((nameSignB ((Utf8.decode s pos).1 : Int) && (chars s (pos + (Utf8.decode s pos).2)).all (fun p => nameSignB (p.2 : Int))) && decide (0 < s.size)) = A) := by
        show _ = _
        have := HC.out; rw [chars_step s pos hlt, List.all_cons] at this; exact this
      generalize hW3 : wr.iterAt w.heap.size s (pos + (Utf8.decode s pos).2) = W3 at *
      clear hW3 HC
      generalize hR : (Utf8.decode s pos).1 = R at *
      generalize hD : (Utf8.decode s pos).2 = D at *
      cases hc : nameSignB (R : Int) with
      | true =>
        have hCt : ∀ w, Calls Tryz.prog 71 #[.int .i32 (R : Nat)] w fun e w' => e = .returned (.bool true) ∧ w = w' := fun w => (isNameSign_any (R : Int) w).mono fun e w' ⟨a, b⟩ => ⟨by rw [a, hc], b.symm⟩
        have HC3 : Hid (((chars s (pos + D)).all (fun p => nameSignB (p.2 : Int)) && decide (0 < s.size)) = A) := by show _ = _; have := HS.out; rw [hc, Bool.true_and] at this; exact this
        clear hc HS hR hD
        go_wp2_with (go_at_call 71; refine (hCt _).mono ?_; rintro e w5 ⟨rfl, rfl⟩)
        go_roundw
        case rel => exact ⟨_, hit2, hB2, HC3⟩
        case measure => rw [iterPos_of hit2]; exact hmeas
      | false =>
        have hCt : ∀ w, Calls Tryz.prog 71 #[.int .i32 (R : Nat)] w fun e w' => e = .returned (.bool false) ∧ w = w' := fun w => (isNameSign_any (R : Int) w).mono fun e w' ⟨a, b⟩ => ⟨by rw [a, hc], b.symm⟩
        have HE : Hid (A = false) := by show _ = _; have := HS.out; rw [hc, Bool.false_and, Bool.false_and] at this; exact this.symm
        clear hc HS hR hD
        go_wp2_with (go_at_call 71; refine (hCt _).mono ?_; rintro e w5 ⟨rfl, rfl⟩)
        go_ret
        exact ⟨by rw [HE.out]; rfl, hB2⟩
    · have hnx := fun ty => run_next_end_at (P := Tryz.prog) wr w.heap.size s pos ty hit hlt
      have HE : Hid (A = decide (0 < s.size)) := by
        show _ = _
        have := HC.out
        rw [chars_end s pos hlt] at this; simpa using this.symm
      go_wp2
      go_ret
      refine ⟨ret_bool ?_, hB⟩
      rw [HE.out, toList_empty]
      cases Nat.eq_zero_or_pos s.size with
      | inl h => rw [h]; rfl
      | inr h => rw [decide_eq_true h, decide_eq_false (by omega)]; rfl

/-- what stands ahead of a byte's first place, what behind it, whether it is there -/
def untilB (c : UInt8) : List UInt8 → List UInt8 × List UInt8 × Bool
  | [] => ([], [], false)
  | b :: l => if b = c then ([], l, true) else (b :: (untilB c l).1, (untilB c l).2.1, (untilB c l).2.2)
theorem until_index : ∀ (l : List UInt8) (c : UInt8), (indexByte l c = -1 ∧ untilB c l = (l, [], false)) ∨ (∃ n : Nat, indexByte l c = (n : Int) ∧ n < l.length ∧ untilB c l = (l.take n, l.drop (n + 1), true))
  | [], c => .inl ⟨rfl, rfl⟩
  | b :: l, c => by
    by_cases h : b = c
    · exact .inr ⟨0, by simp [indexByte, h], by simp, by simp [untilB, h]⟩
    · rcases until_index l c with ⟨h1, h2⟩ | ⟨n, h1, h2, h3⟩
      · exact .inl ⟨by simp [indexByte, h, h1], by simp [untilB, h, h2]⟩
      · refine .inr ⟨n + 1, by simp [indexByte, h, h1], by simpa using h2, by simp [untilB, h, h3]⟩

set_option maxRecDepth 100000 in
theorem liteCut_any (s : ByteArray) (w : World) (hs : s.size ≤ maxLen) :
    Calls Tryz.prog 70 #[.string s, .string ⟨#[58]⟩] w fun e w' => e = .returned (.tuple #[.string (S (untilB 58 (L s)).1), .string (S (untilB 58 (L s)).2.1), .bool (untilB 58 (L s)).2.2]) ∧ ∃ n, w' = w.drewN n := by
  unfold maxLen at hs
  have hI := fun w => Tryz.stringslite_Index_one s 58 w
  have hLl := L_len s
  rcases until_index (L s) 58 with ⟨h1, h2⟩ | ⟨n, h1, h2, h3⟩
  · rw [show indexByte s.data.toList 58 = -1 from h1] at hI
    rw [h2, S_L]
    clear h1 h2
    go_enter Tryz.func70, Tryz.ntmps70
    go_wp2_with (go_at_call 80; refine (hI _).mono ?_; rintro e w' ⟨rfl, rfl⟩)
    go_returns
    exact ⟨rfl, 0, rfl⟩
  · rw [show indexByte s.data.toList 58 = (n : Int) from h1] at hI
    rw [hLl] at h2
    have e1 : s.extract 0 n = S ((L s).take n) := by rw [extract_eq]; simp
    have e2 : s.extract (n + 1) s.size = S ((L s).drop (n + 1)) := by
      rw [extract_eq, List.take_of_length_le (by rw [List.length_drop, hLl]; omega)]
    rw [h3]
    have E1 := hide e1
    have E2 := hide e2
    clear h1 h3 hLl e1 e2
    go_enter Tryz.func70, Tryz.ntmps70
    go_wp2_with (go_at_call 80; refine (hI _).mono ?_; rintro e w' ⟨rfl, rfl⟩)
    go_region
    all_goals
      go_wp2
      go_returns
      exact ⟨by rw [← unhide E1, ← unhide E2]; rfl, 1, rfl⟩

set_option maxRecDepth 100000 in
theorem strCut_any (s : ByteArray) (w : World) (hs : s.size ≤ maxLen) :
    Calls Tryz.prog 51 #[.string s, .string ⟨#[58]⟩] w fun e w' => e = .returned (.tuple #[.string (S (untilB 58 (L s)).1), .string (S (untilB 58 (L s)).2.1), .bool (untilB 58 (L s)).2.2]) ∧ Below w.heap.size w w' := by
  have hI := fun w => liteCut_any s w hs
  generalize untilB 58 (L s) = U at *
  go_enter Tryz.func51, Tryz.ntmps51
  go_wp2_with (go_at_call 70; refine (hI _).mono ?_; rintro e w' ⟨rfl, n, rfl⟩)
  go_returns
  exact ⟨rfl, below_drewN (Below.refl _ _) n⟩

end Go.Proofs.YtlaennakglhmjaaGreatDoor

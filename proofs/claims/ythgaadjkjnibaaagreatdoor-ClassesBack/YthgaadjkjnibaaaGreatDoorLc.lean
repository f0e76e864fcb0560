/-
  These texts, one behind the other: LCut, LCheck.
-/
import Derived.Test.YthgaadjkjnibaaaGreatDoorLb
import Derived.WalkMore
/-
  Cut of package lines, for every text.
-/
namespace Go.Proofs.YthgaadjkjnibaaaGreatDoor
open Go.RowKit Go.PlainAid Go.Lib Go.Shelf
set_option linter.unusedVariables false

theorem infoStr : (Tryz.prog.info? 9).map (fun i => (i.zero, i.size, i.bytes)) = some (some (.string ⟨#[]⟩), 1, 16) := by kernel_rfl
/-- texts as values -/
abbrev strVs (l : List ByteArray) : List Value := l.map Value.string
theorem strVs_snoc (l : List ByteArray) (x : ByteArray) : strVs (l ++ [x]) = strVs l ++ [.string x] := by simp
/-- what is left makes A, the fields fs being there -/
def CutM (s : ByteArray) (fs : List ByteArray) (A : List ByteArray × ByteArray) (cur pend : List UInt8) (q : Nat) : Prop :=
  fs ++ (mach fs.length cur pend ((L s).drop q)).1.map S = A.1 ∧ S (mach fs.length cur pend ((L s).drop q)).2 = A.2
def cutMu (s : ByteArray) (l : Nat) (a' : Act) (_ : World) : Nat := 2 * (s.size - (RowKit.intOf (a'.tmps.getD 4 undef)).toNat) + (if l = 0 then 1 else 0)
abbrev CutJ (s : ByteArray) (w : World) (A : List ByteArray × ByteArray) (l : Nat) (a' : Act) (w' : World) : Prop :=
  (l = 0 ∧ ∃ (fs : List ByteArray) (a : Option Addr) (n' c : Nat) (Q : Int) (q : Nat) (u : Nat → Value), (u = fun i => a'.tmps.getD i undef) ∧ a' = { tmps := #[.string s, undef, .slice a n' c, .string ⟨#[]⟩, .int .i64 Q, u 5, u 6, u 7, u 8, u 9, u 10, u 11, u 12, u 13, u 14, u 15, u 16, u 17, u 18, u 19, u 20, u 21, u 22, u 23, u 24, u 25, u 26, u 27, u 28, u 29, u 30, u 31, u 32, u 33, u 34, u 35, u 36, u 37, u 38, u 39, u 40, u 41, u 42, u 43, u 44, u 45, u 46, u 47, u 48, u 49, u 50, u 51, u 52, u 53, u 54, u 55, u 56, u 57, u 58, u 59, u 60, u 61, u 62, u 63], defers := [] } ∧ n' = fs.length ∧ Q = (q : Nat) ∧ q ≤ s.size ∧ fs.length ≤ q ∧ w'.ownsRow w.heap.size 9 1 (.slice a n' c) fs.length (strVs fs) ∧ Below w.heap.size w w' ∧ Hid (CutM s fs A [] [] q)) ∨
  (l = 1 ∧ ∃ (fs : List ByteArray) (a : Option Addr) (n' c : Nat) (Q F T : Int) (q fr to : Nat) (u : Nat → Value), (u = fun i => a'.tmps.getD i undef) ∧ a' = { tmps := #[.string s, undef, .slice a n' c, .string ⟨#[]⟩, .int .i64 Q, .int .i64 F, .int .i64 T, u 7, u 8, u 9, u 10, u 11, u 12, u 13, u 14, u 15, u 16, u 17, u 18, u 19, u 20, u 21, u 22, u 23, u 24, u 25, u 26, u 27, u 28, u 29, u 30, u 31, u 32, u 33, u 34, u 35, u 36, u 37, u 38, u 39, u 40, u 41, u 42, u 43, u 44, u 45, u 46, u 47, u 48, u 49, u 50, u 51, u 52, u 53, u 54, u 55, u 56, u 57, u 58, u 59, u 60, u 61, u 62, u 63], defers := [] } ∧ n' = fs.length ∧ Q = (q : Nat) ∧ F = (fr : Nat) ∧ T = (to : Nat) ∧ q ≤ s.size ∧ fs.length ≤ fr ∧ fr ≤ to ∧ to ≤ q ∧ (fr < to ∨ fr = q ∧ to = q ∧ signN s q ≠ 0) ∧ w'.ownsRow w.heap.size 9 1 (.slice a n' c) fs.length (strVs fs) ∧ Below w.heap.size w w' ∧ Hid (CutM s fs A (sl s fr to) (sl s to q) q))

theorem cut_fin {s : ByteArray} {w' : World} {base : Nat} {v : Value} {fs : List ByteArray} (hE : (cutS s).1.map S = fs) (h : w'.ownsRow base 9 1 v fs.length (strVs fs)) : w'.ownsRow base 9 1 v (cutS s).1.length (strVs ((cutS s).1.map S)) := by
  rw [hE, ← List.length_map (f := S), hE]; exact h

set_option maxRecDepth 100000 in
set_option maxHeartbeats 4000000 in
theorem cut_any (s : ByteArray) (w : World) (hs : s.size ≤ 1099511627776) :
    Calls Tryz.prog 56 #[.string s] w fun e w' => ∃ v, e = .returned (.tuple #[v, .string (S (cutS s).2)]) ∧ w'.ownsRow w.heap.size 9 1 v (cutS s).1.length (strVs ((cutS s).1.map S)) ∧ Below w.heap.size w w' := by
  have hmx : s.size ≤ maxLen := by unfold maxLen; omega
  obtain ⟨i0, hi0, hz0, hz1, hz2⟩ := info_parts infoStr
  obtain ⟨A, hA⟩ : ∃ A : List ByteArray × ByteArray, A = ((cutS s).1.map S, S (cutS s).2) := ⟨_, rfl⟩
  have HA := hide hA
  have H0 : Hid (CutM s [] A [] [] 0) := by
    show CutM _ _ _ _ _ _
    unfold CutM; rw [hA]; exact ⟨rfl, rfl⟩
  have hT := fun (t : ByteArray) (X : World) (h : t.size ≤ maxLen) => trim_any t X h
  clear hA
  go_enter Tryz.func56, Tryz.ntmps56
  go_wp2
  refine wp_scope_led (CutJ s w A) (cutMu s) ?_ rfl ?_
  · go_wp2
    exact .inl ⟨rfl, [], none, 0, 0, _, 0, _, rfl, rfl, rfl, rfl, Nat.zero_le _, Nat.le_refl _, by simpa using World.ownsRow_nil w _ _ _, Below.refl _ _, H0⟩
  · rintro l a' w' (⟨rfl, fs, a, _, c, _, q, u, -, rfl, rfl, rfl, hq, hnf, hrow, hB, HM⟩ | ⟨rfl, fs, a, _, c, _, _, _, q, fr, to, u, -, rfl, rfl, rfl, rfl, rfl, hq, hnf, h1, h2, hor, hrow, hB, HM⟩)
    · refine ⟨_, rfl, ?_⟩
      rcases sign_cases s q with kk | kk | kk | kk
      · -- a blank, ahead of a field
        have hlt : q < s.size := sign_lt s q hq (by rw [kk]; decide)
        have HM2 : Hid (CutM s fs A [] [] (q + 1)) := by
          have h := HM.out; unfold CutM at h ⊢
          rw [mach_blank s q _ _ _ hlt kk, if_pos rfl] at h; exact h
        have hSg : ∀ X, Calls Tryz.prog 87 #[.string s, .int .i64 (q : Nat)] X fun e w' => e = .returned (.int .u8 0) ∧ X = w' := fun X => (signAt_any s q X hmx hq).mono fun e w' ⟨a, b⟩ => ⟨by rw [a, kk], b.symm⟩
        clear kk
        go_wp2_with (go_at_call 87; refine (hSg _).mono ?_; rintro e w5 ⟨rfl, rfl⟩)
        go_step3
        exact ⟨(.inl ⟨rfl, fs, a, _, c, _, q + 1, _, rfl, rfl, rfl, by simp, by omega, by omega, hrow, hB, HM2⟩), by simp [cutMu, RowKit.intOf]; omega⟩
      · -- a sign of a field
        have h1 : q ≤ q := Nat.le_refl _
        have h2 : q ≤ q := Nat.le_refl _
        have hlt : q < s.size := sign_lt s q hq (by rw [kk]; decide)
        have HM2 : Hid (CutM s fs A (sl s q (q + 1)) (sl s (q + 1) (q + 1)) (q + 1)) := by
          have h := HM.out; unfold CutM at h ⊢
          rw [mach_plain s q _ _ _ hlt kk, show [] ++ [] ++ [s.get! q] = sl s q (q + 1) from (sl_one s q hlt).symm] at h; rw [sl_self s (q + 1)]; exact h
        have hSg : ∀ X, Calls Tryz.prog 87 #[.string s, .int .i64 (q : Nat)] X fun e w' => e = .returned (.int .u8 1) ∧ X = w' := fun X => (signAt_any s q X hmx hq).mono fun e w' ⟨a, b⟩ => ⟨by rw [a, kk], b.symm⟩
        clear kk
        go_wp2_with (go_at_call 87; refine (hSg _).mono ?_; rintro e w5 ⟨rfl, rfl⟩)
        go_step3
        go_wp2_with (go_at_call 87; refine (hSg _).mono ?_; rintro e w5 ⟨rfl, rfl⟩)
        go_step3
        exact ⟨(.inr ⟨rfl, fs, a, _, c, _, _, _, q + 1, q, q + 1, _, rfl, rfl, rfl, by simp, rfl, by simp, by omega, by omega, by omega, by omega, .inl (by omega), hrow, hB, HM2⟩), by simp [cutMu, RowKit.intOf]; omega⟩
      · -- between two fields
        have h1 : q ≤ q := Nat.le_refl _
        have h2 : q ≤ q := Nat.le_refl _
        have hlt : q < s.size := sign_lt s q hq (by rw [kk]; decide)
        have HM2 : Hid (CutM s (fs ++ [ByteArray.empty]) A [] [] (q + 1)) := by
          have h := HM.out; unfold CutM at h ⊢
          rw [mach_div s q _ _ _ hlt kk] at h; rw [List.length_append, List.length_singleton, List.append_assoc]; exact h
        have hSg : ∀ X, Calls Tryz.prog 87 #[.string s, .int .i64 (q : Nat)] X fun e w' => e = .returned (.int .u8 2) ∧ X = w' := fun X => (signAt_any s q X hmx hq).mono fun e w' ⟨a, b⟩ => ⟨by rw [a, kk], b.symm⟩
        clear kk
        go_wp2_with (first | (go_at_call 87; refine (hSg _).mono ?_; rintro e w5 ⟨rfl, rfl⟩) | (at_builtin; refine wpList_append_own _ rfl _ _ 51 rfl w.heap.size 9 i0 (.string ⟨#[]⟩) 1 16 Tryz.underlying51 hi0 hz0 hz1 hz2 rfl (by decide) _ _ _ rfl (hrow.alloc _) ⟨w'.heap.size, 0, none⟩ 1 1 [.string ByteArray.empty] rfl rfl (cell_one_new _ _ _) (by simp [Value.oneCell']) (by unfold maxLen; omega) (by omega) (by have := hB.size; simp; omega) ?_; intro v' w4 hown hgrow _; obtain ⟨a4, c4, rfl⟩ := row_slice2 hown))
        go_step3
        go_wp2_with (first | (go_at_call 87; refine (hSg _).mono ?_; rintro e w5 ⟨rfl, rfl⟩) | (at_builtin; refine wpList_append_own _ rfl _ _ 51 rfl w.heap.size 9 i0 (.string ⟨#[]⟩) 1 16 Tryz.underlying51 hi0 hz0 hz1 hz2 rfl (by decide) _ _ _ rfl (hrow.alloc _) ⟨w'.heap.size, 0, none⟩ 1 1 [.string ByteArray.empty] rfl rfl (cell_one_new _ _ _) (by simp [Value.oneCell']) (by unfold maxLen; omega) (by omega) (by have := hB.size; simp; omega) ?_; intro v' w4 hown hgrow _; obtain ⟨a4, c4, rfl⟩ := row_slice2 hown))
        go_step3
        exact ⟨(.inl ⟨rfl, fs ++ [ByteArray.empty], _, _, _, _, q + 1, _, rfl, rfl, by simp, by simp, by omega, by simp; omega, by rw [List.length_append, strVs_snoc]; exact hown, belowG (hB.alloc hB.size _) (by have := hB.size; simp; omega) (hrow.alloc _) hgrow, HM2⟩), by simp [cutMu, RowKit.intOf]; omega⟩
      · -- the end of the head
        have h1 : q ≤ q := Nat.le_refl _
        have h2 : q ≤ q := Nat.le_refl _
        have hSg : ∀ X, Calls Tryz.prog 87 #[.string s, .int .i64 (q : Nat)] X fun e w' => e = .returned (.int .u8 3) ∧ X = w' := fun X => (signAt_any s q X hmx hq).mono fun e w' ⟨a, b⟩ => ⟨by rw [a, kk], b.symm⟩
        rcases Nat.eq_zero_or_pos fs.length with hl0 | hl0
        · obtain rfl : fs = [] := List.length_eq_zero_iff.1 hl0
          have d0 : decide ((0 : Int) < 0) = false := rfl
          have hlf : lastF ([] : List ByteArray).length [] = [] := by
            unfold lastF
            rw [if_neg (by rintro (h | h); exact absurd h (by simp); exact h rfl)]
          by_cases hend : q = s.size
          · have HE : Hid ((cutS s).1.map S = ([] : List ByteArray) ++ [] ∧ (cutS s).2 = []) := by
              have h := HM.out; unfold CutM at h; rw [unhide HA] at h
              rw [mach_end2 s q _ _ _ hend, hlf] at h
              exact ⟨h.1.symm, by have := congrArg L h.2; rw [L_S, L_S] at this; exact this.symm⟩
            clear kk hlf HM
            subst hend
            go_wp2_with (go_at_call 87; refine (hSg _).mono ?_; rintro e w5 ⟨rfl, rfl⟩)
            go_step3
            go_wp2_with (go_at_call 87; refine (hSg _).mono ?_; rintro e w5 ⟨rfl, rfl⟩)
            simp only [Exit.jumps]
            go_ret2
            exact ⟨_, by rw [HE.out.2]; rfl, cut_fin HE.out.1 (by simpa using hrow), hB⟩
          · have HE : Hid ((cutS s).1.map S = ([] : List ByteArray) ++ [] ∧ (cutS s).2 = trimB ((L s).drop (q + 1))) := by
              have h := HM.out; unfold CutM at h; rw [unhide HA] at h
              rw [mach_hash s q _ _ _ (by omega) kk, hlf] at h
              exact ⟨h.1.symm, by have := congrArg L h.2; rw [L_S, L_S] at this; exact this.symm⟩
            have hlt : q < s.size := by omega
            have HTr : Hid (∀ X, Calls Tryz.prog 54 #[.string (s.extract (q + 1) s.size)] X fun e w' => e = .returned (.string (S (trimB ((L s).drop (q + 1))))) ∧ Below X.heap.size X w') := by
              intro X; have h := hT (s.extract (q + 1) s.size) X (by rw [extract_size]; omega)
              rw [L_extract, List.take_of_length_le (by rw [List.length_drop, L_len]; omega)] at h; exact h
            clear kk hlf HM
            go_wp2_with (first | (go_at_call 87; refine (hSg _).mono ?_; rintro e w5 ⟨rfl, rfl⟩) | (go_at_call 54; refine (unhide HTr _).mono ?_; rintro e w6 ⟨rfl, hb6⟩))
            go_step3
            go_wp2_with (first | (go_at_call 87; refine (hSg _).mono ?_; rintro e w5 ⟨rfl, rfl⟩) | (go_at_call 54; refine (unhide HTr _).mono ?_; rintro e w6 ⟨rfl, hb6⟩))
            simp only [Exit.jumps]
            go_ret2
            exact ⟨_, by rw [HE.out.2]; rfl, cut_fin HE.out.1 (rowB (by simpa using hrow) hb6), hB.trans (hb6.mono hB.size)⟩
        · have d0 : decide ((0 : Int) < (fs.length : Int)) = true := by simpa using hl0
          have hlf : lastF fs.length [] = [[]] := by
            unfold lastF
            rw [if_pos (.inl hl0)]
          by_cases hend : q = s.size
          · have HE : Hid ((cutS s).1.map S = fs ++ [ByteArray.empty] ∧ (cutS s).2 = []) := by
              have h := HM.out; unfold CutM at h; rw [unhide HA] at h
              rw [mach_end2 s q _ _ _ hend, hlf] at h
              exact ⟨h.1.symm, by have := congrArg L h.2; rw [L_S, L_S] at this; exact this.symm⟩
            clear kk hlf HM
            subst hend
            go_wp2_with (first | (go_at_call 87; refine (hSg _).mono ?_; rintro e w5 ⟨rfl, rfl⟩) | (at_builtin; refine wpList_append_own _ rfl _ _ 51 rfl w.heap.size 9 i0 (.string ⟨#[]⟩) 1 16 Tryz.underlying51 hi0 hz0 hz1 hz2 rfl (by decide) _ _ _ rfl (hrow.alloc _) ⟨w'.heap.size, 0, none⟩ 1 1 [.string ByteArray.empty] rfl rfl (cell_one_new _ _ _) (by simp [Value.oneCell']) (by unfold maxLen; omega) (by omega) (by have := hB.size; simp; omega) ?_; intro v' w4 hown hgrow _; obtain ⟨a4, c4, rfl⟩ := row_slice2 hown))
            go_step3
            go_wp2_with (first | (go_at_call 87; refine (hSg _).mono ?_; rintro e w5 ⟨rfl, rfl⟩) | (at_builtin; refine wpList_append_own _ rfl _ _ 51 rfl w.heap.size 9 i0 (.string ⟨#[]⟩) 1 16 Tryz.underlying51 hi0 hz0 hz1 hz2 rfl (by decide) _ _ _ rfl (hrow.alloc _) ⟨w'.heap.size, 0, none⟩ 1 1 [.string ByteArray.empty] rfl rfl (cell_one_new _ _ _) (by simp [Value.oneCell']) (by unfold maxLen; omega) (by omega) (by have := hB.size; simp; omega) ?_; intro v' w4 hown hgrow _; obtain ⟨a4, c4, rfl⟩ := row_slice2 hown))
            simp only [Exit.jumps]
            go_ret2
            exact ⟨_, by rw [HE.out.2]; rfl, cut_fin HE.out.1 (by rw [List.length_append, strVs_snoc]; exact hown), (belowG (hB.alloc hB.size _) (by have := hB.size; simp; omega) (hrow.alloc _) hgrow)⟩
          · have HE : Hid ((cutS s).1.map S = fs ++ [ByteArray.empty] ∧ (cutS s).2 = trimB ((L s).drop (q + 1))) := by
              have h := HM.out; unfold CutM at h; rw [unhide HA] at h
              rw [mach_hash s q _ _ _ (by omega) kk, hlf] at h
              exact ⟨h.1.symm, by have := congrArg L h.2; rw [L_S, L_S] at this; exact this.symm⟩
            have hlt : q < s.size := by omega
            have HTr : Hid (∀ X, Calls Tryz.prog 54 #[.string (s.extract (q + 1) s.size)] X fun e w' => e = .returned (.string (S (trimB ((L s).drop (q + 1))))) ∧ Below X.heap.size X w') := by
              intro X; have h := hT (s.extract (q + 1) s.size) X (by rw [extract_size]; omega)
              rw [L_extract, List.take_of_length_le (by rw [List.length_drop, L_len]; omega)] at h; exact h
            clear kk hlf HM
            go_wp2_with (first | (go_at_call 87; refine (hSg _).mono ?_; rintro e w5 ⟨rfl, rfl⟩) | (at_builtin; refine wpList_append_own _ rfl _ _ 51 rfl w.heap.size 9 i0 (.string ⟨#[]⟩) 1 16 Tryz.underlying51 hi0 hz0 hz1 hz2 rfl (by decide) _ _ _ rfl (hrow.alloc _) ⟨w'.heap.size, 0, none⟩ 1 1 [.string ByteArray.empty] rfl rfl (cell_one_new _ _ _) (by simp [Value.oneCell']) (by unfold maxLen; omega) (by omega) (by have := hB.size; simp; omega) ?_; intro v' w4 hown hgrow _; obtain ⟨a4, c4, rfl⟩ := row_slice2 hown) | (go_at_call 54; refine (unhide HTr _).mono ?_; rintro e w6 ⟨rfl, hb6⟩))
            go_step3
            go_wp2_with (first | (go_at_call 87; refine (hSg _).mono ?_; rintro e w5 ⟨rfl, rfl⟩) | (at_builtin; refine wpList_append_own _ rfl _ _ 51 rfl w.heap.size 9 i0 (.string ⟨#[]⟩) 1 16 Tryz.underlying51 hi0 hz0 hz1 hz2 rfl (by decide) _ _ _ rfl (hrow.alloc _) ⟨w'.heap.size, 0, none⟩ 1 1 [.string ByteArray.empty] rfl rfl (cell_one_new _ _ _) (by simp [Value.oneCell']) (by unfold maxLen; omega) (by omega) (by have := hB.size; simp; omega) ?_; intro v' w4 hown hgrow _; obtain ⟨a4, c4, rfl⟩ := row_slice2 hown) | (go_at_call 54; refine (unhide HTr _).mono ?_; rintro e w6 ⟨rfl, hb6⟩))
            simp only [Exit.jumps]
            go_ret2
            exact ⟨_, by rw [HE.out.2]; rfl, cut_fin HE.out.1 (rowB (by rw [List.length_append, strVs_snoc]; exact hown) hb6), (belowG (hB.alloc hB.size _) (by have := hB.size; simp; omega) (hrow.alloc _) hgrow).trans (hb6.mono (belowG (hB.alloc hB.size _) (by have := hB.size; simp; omega) (hrow.alloc _) hgrow).size)⟩
    · refine ⟨_, rfl, ?_⟩
      rcases sign_cases s q with kk | kk | kk | kk
      · -- a blank
        have hft : fr < to := by rcases hor with h | ⟨_, _, h⟩; exact h; exact absurd kk h
        have hlt : q < s.size := sign_lt s q hq (by rw [kk]; decide)
        have HM2 : Hid (CutM s fs A (sl s fr to) (sl s to (q + 1)) (q + 1)) := by
          have h := HM.out; unfold CutM at h ⊢
          rw [mach_blank s q _ _ _ hlt kk, if_neg (sl_empty s _ _ hft (by omega)), sl_snoc s _ q (by omega) hlt] at h; exact h
        have hSg : ∀ X, Calls Tryz.prog 87 #[.string s, .int .i64 (q : Nat)] X fun e w' => e = .returned (.int .u8 0) ∧ X = w' := fun X => (signAt_any s q X hmx hq).mono fun e w' ⟨a, b⟩ => ⟨by rw [a, kk], b.symm⟩
        clear kk hor
        go_wp2_with (go_at_call 87; refine (hSg _).mono ?_; rintro e w5 ⟨rfl, rfl⟩)
        go_step3
        exact ⟨(.inr ⟨rfl, fs, a, _, c, _, _, _, q + 1, fr, to, _, rfl, rfl, rfl, by simp, rfl, rfl, by omega, by omega, by omega, by omega, .inl hft, hrow, hB, HM2⟩), by simp [cutMu, RowKit.intOf]; omega⟩
      · -- a sign of a field
        have hlt : q < s.size := sign_lt s q hq (by rw [kk]; decide)
        have HM2 : Hid (CutM s fs A (sl s fr (q + 1)) (sl s (q + 1) (q + 1)) (q + 1)) := by
          have h := HM.out; unfold CutM at h ⊢
          rw [mach_plain s q _ _ _ hlt kk, sl_app s _ _ _ (by omega) (by omega), sl_snoc s _ q (by omega) hlt] at h; rw [sl_self s (q + 1)]; exact h
        have hSg : ∀ X, Calls Tryz.prog 87 #[.string s, .int .i64 (q : Nat)] X fun e w' => e = .returned (.int .u8 1) ∧ X = w' := fun X => (signAt_any s q X hmx hq).mono fun e w' ⟨a, b⟩ => ⟨by rw [a, kk], b.symm⟩
        clear kk hor
        go_wp2_with (go_at_call 87; refine (hSg _).mono ?_; rintro e w5 ⟨rfl, rfl⟩)
        go_step3
        exact ⟨(.inr ⟨rfl, fs, a, _, c, _, _, _, q + 1, fr, q + 1, _, rfl, rfl, rfl, by simp, rfl, by simp, by omega, by omega, by omega, by omega, .inl (by omega), hrow, hB, HM2⟩), by simp [cutMu, RowKit.intOf]; omega⟩
      · -- between two fields
        have hlt : q < s.size := sign_lt s q hq (by rw [kk]; decide)
        have HM2 : Hid (CutM s (fs ++ [(S (sl s fr to))]) A [] [] (q + 1)) := by
          have h := HM.out; unfold CutM at h ⊢
          rw [mach_div s q _ _ _ hlt kk] at h; rw [List.length_append, List.length_singleton, List.append_assoc]; exact h
        have hSg : ∀ X, Calls Tryz.prog 87 #[.string s, .int .i64 (q : Nat)] X fun e w' => e = .returned (.int .u8 2) ∧ X = w' := fun X => (signAt_any s q X hmx hq).mono fun e w' ⟨a, b⟩ => ⟨by rw [a, kk], b.symm⟩
        clear kk hor
        have hex := sl_S s fr to
        go_wp2_with (first | (go_at_call 87; refine (hSg _).mono ?_; rintro e w5 ⟨rfl, rfl⟩) | (at_builtin; refine wpList_append_own _ rfl _ _ 51 rfl w.heap.size 9 i0 (.string ⟨#[]⟩) 1 16 Tryz.underlying51 hi0 hz0 hz1 hz2 rfl (by decide) _ _ _ rfl (hrow.alloc _) ⟨w'.heap.size, 0, none⟩ 1 1 [.string (S (sl s fr to))] rfl rfl (cell_one_new _ _ _) (by simp [Value.oneCell']) (by unfold maxLen; omega) (by omega) (by have := hB.size; simp; omega) ?_; intro v' w4 hown hgrow _; obtain ⟨a4, c4, rfl⟩ := row_slice2 hown))
        go_step3
        exact ⟨(.inl ⟨rfl, fs ++ [(S (sl s fr to))], _, _, _, _, q + 1, _, rfl, rfl, by simp, by simp, by omega, by simp; omega, by rw [List.length_append, strVs_snoc]; exact hown, belowG (hB.alloc hB.size _) (by have := hB.size; simp; omega) (hrow.alloc _) hgrow, HM2⟩), by simp [cutMu, RowKit.intOf]; omega⟩
      · -- the end of the head
        have hSg : ∀ X, Calls Tryz.prog 87 #[.string s, .int .i64 (q : Nat)] X fun e w' => e = .returned (.int .u8 3) ∧ X = w' := fun X => (signAt_any s q X hmx hq).mono fun e w' ⟨a, b⟩ => ⟨by rw [a, kk], b.symm⟩
        have hex := sl_S s fr to
        rcases Nat.eq_zero_or_pos fs.length with hl0 | hl0
        · obtain rfl : fs = [] := List.length_eq_zero_iff.1 hl0
          by_cases hft : fr < to
          · have d0 : decide ((fr : Int) < (to : Int)) = true := by simpa using hft
            have hlf : lastF ([] : List ByteArray).length (sl s fr to) = [(sl s fr to)] := by
              unfold lastF
              rw [if_pos (.inr (sl_empty s _ _ hft (by omega)))]
            by_cases hend : q = s.size
            · have HE : Hid ((cutS s).1.map S = ([] : List ByteArray) ++ [(S (sl s fr to))] ∧ (cutS s).2 = []) := by
                have h := HM.out; unfold CutM at h; rw [unhide HA] at h
                rw [mach_end2 s q _ _ _ hend, hlf] at h
                exact ⟨h.1.symm, by have := congrArg L h.2; rw [L_S, L_S] at this; exact this.symm⟩
              clear kk hlf HM hor
              subst hend
              go_wp2_with (first | (go_at_call 87; refine (hSg _).mono ?_; rintro e w5 ⟨rfl, rfl⟩) | (at_builtin; refine wpList_append_own _ rfl _ _ 51 rfl w.heap.size 9 i0 (.string ⟨#[]⟩) 1 16 Tryz.underlying51 hi0 hz0 hz1 hz2 rfl (by decide) _ _ _ rfl (hrow.alloc _) ⟨w'.heap.size, 0, none⟩ 1 1 [.string (S (sl s fr to))] rfl rfl (cell_one_new _ _ _) (by simp [Value.oneCell']) (by unfold maxLen; omega) (by omega) (by have := hB.size; simp; omega) ?_; intro v' w4 hown hgrow _; obtain ⟨a4, c4, rfl⟩ := row_slice2 hown))
              simp only [Exit.jumps]
              go_ret2
              exact ⟨_, by rw [HE.out.2]; rfl, cut_fin HE.out.1 (by rw [List.length_append, strVs_snoc]; exact hown), (belowG (hB.alloc hB.size _) (by have := hB.size; simp; omega) (hrow.alloc _) hgrow)⟩
            · have HE : Hid ((cutS s).1.map S = ([] : List ByteArray) ++ [(S (sl s fr to))] ∧ (cutS s).2 = trimB ((L s).drop (q + 1))) := by
                have h := HM.out; unfold CutM at h; rw [unhide HA] at h
                rw [mach_hash s q _ _ _ (by omega) kk, hlf] at h
                exact ⟨h.1.symm, by have := congrArg L h.2; rw [L_S, L_S] at this; exact this.symm⟩
              have hlt : q < s.size := by omega
              have HTr : Hid (∀ X, Calls Tryz.prog 54 #[.string (s.extract (q + 1) s.size)] X fun e w' => e = .returned (.string (S (trimB ((L s).drop (q + 1))))) ∧ Below X.heap.size X w') := by
                intro X; have h := hT (s.extract (q + 1) s.size) X (by rw [extract_size]; omega)
                rw [L_extract, List.take_of_length_le (by rw [List.length_drop, L_len]; omega)] at h; exact h
              clear kk hlf HM hor
              go_wp2_with (first | (go_at_call 87; refine (hSg _).mono ?_; rintro e w5 ⟨rfl, rfl⟩) | (at_builtin; refine wpList_append_own _ rfl _ _ 51 rfl w.heap.size 9 i0 (.string ⟨#[]⟩) 1 16 Tryz.underlying51 hi0 hz0 hz1 hz2 rfl (by decide) _ _ _ rfl (hrow.alloc _) ⟨w'.heap.size, 0, none⟩ 1 1 [.string (S (sl s fr to))] rfl rfl (cell_one_new _ _ _) (by simp [Value.oneCell']) (by unfold maxLen; omega) (by omega) (by have := hB.size; simp; omega) ?_; intro v' w4 hown hgrow _; obtain ⟨a4, c4, rfl⟩ := row_slice2 hown) | (go_at_call 54; refine (unhide HTr _).mono ?_; rintro e w6 ⟨rfl, hb6⟩))
              simp only [Exit.jumps]
              go_ret2
              exact ⟨_, by rw [HE.out.2]; rfl, cut_fin HE.out.1 (rowB (by rw [List.length_append, strVs_snoc]; exact hown) hb6), (belowG (hB.alloc hB.size _) (by have := hB.size; simp; omega) (hrow.alloc _) hgrow).trans (hb6.mono (belowG (hB.alloc hB.size _) (by have := hB.size; simp; omega) (hrow.alloc _) hgrow).size)⟩
          · have d0 : decide ((fr : Int) < (to : Int)) = false := by simpa using hft
            have hlf : lastF ([] : List ByteArray).length (sl s fr to) = [] := by
              unfold lastF
              rw [if_neg (by rintro (h | h); exact absurd h (by simp); exact h (by rw [show to = fr by omega, sl_self]))]
            by_cases hend : q = s.size
            · have HE : Hid ((cutS s).1.map S = ([] : List ByteArray) ++ [] ∧ (cutS s).2 = []) := by
                have h := HM.out; unfold CutM at h; rw [unhide HA] at h
                rw [mach_end2 s q _ _ _ hend, hlf] at h
                exact ⟨h.1.symm, by have := congrArg L h.2; rw [L_S, L_S] at this; exact this.symm⟩
              clear kk hlf HM hor
              subst hend
              go_wp2_with (go_at_call 87; refine (hSg _).mono ?_; rintro e w5 ⟨rfl, rfl⟩)
              simp only [Exit.jumps]
              go_ret2
              exact ⟨_, by rw [HE.out.2]; rfl, cut_fin HE.out.1 (by simpa using hrow), hB⟩
            · have HE : Hid ((cutS s).1.map S = ([] : List ByteArray) ++ [] ∧ (cutS s).2 = trimB ((L s).drop (q + 1))) := by
                have h := HM.out; unfold CutM at h; rw [unhide HA] at h
                rw [mach_hash s q _ _ _ (by omega) kk, hlf] at h
                exact ⟨h.1.symm, by have := congrArg L h.2; rw [L_S, L_S] at this; exact this.symm⟩
              have hlt : q < s.size := by omega
              have HTr : Hid (∀ X, Calls Tryz.prog 54 #[.string (s.extract (q + 1) s.size)] X fun e w' => e = .returned (.string (S (trimB ((L s).drop (q + 1))))) ∧ Below X.heap.size X w') := by
                intro X; have h := hT (s.extract (q + 1) s.size) X (by rw [extract_size]; omega)
                rw [L_extract, List.take_of_length_le (by rw [List.length_drop, L_len]; omega)] at h; exact h
              clear kk hlf HM hor
              go_wp2_with (first | (go_at_call 87; refine (hSg _).mono ?_; rintro e w5 ⟨rfl, rfl⟩) | (go_at_call 54; refine (unhide HTr _).mono ?_; rintro e w6 ⟨rfl, hb6⟩))
              simp only [Exit.jumps]
              go_ret2
              exact ⟨_, by rw [HE.out.2]; rfl, cut_fin HE.out.1 (rowB (by simpa using hrow) hb6), hB.trans (hb6.mono hB.size)⟩
        · have d0 : decide ((0 : Int) < (fs.length : Int)) = true := by simpa using hl0
          have hlf : lastF fs.length (sl s fr to) = [(sl s fr to)] := by
            unfold lastF
            rw [if_pos (.inl hl0)]
          by_cases hend : q = s.size
          · have HE : Hid ((cutS s).1.map S = fs ++ [(S (sl s fr to))] ∧ (cutS s).2 = []) := by
              have h := HM.out; unfold CutM at h; rw [unhide HA] at h
              rw [mach_end2 s q _ _ _ hend, hlf] at h
              exact ⟨h.1.symm, by have := congrArg L h.2; rw [L_S, L_S] at this; exact this.symm⟩
            clear kk hlf HM hor
            subst hend
            go_wp2_with (first | (go_at_call 87; refine (hSg _).mono ?_; rintro e w5 ⟨rfl, rfl⟩) | (at_builtin; refine wpList_append_own _ rfl _ _ 51 rfl w.heap.size 9 i0 (.string ⟨#[]⟩) 1 16 Tryz.underlying51 hi0 hz0 hz1 hz2 rfl (by decide) _ _ _ rfl (hrow.alloc _) ⟨w'.heap.size, 0, none⟩ 1 1 [.string (S (sl s fr to))] rfl rfl (cell_one_new _ _ _) (by simp [Value.oneCell']) (by unfold maxLen; omega) (by omega) (by have := hB.size; simp; omega) ?_; intro v' w4 hown hgrow _; obtain ⟨a4, c4, rfl⟩ := row_slice2 hown))
            simp only [Exit.jumps]
            go_ret2
            exact ⟨_, by rw [HE.out.2]; rfl, cut_fin HE.out.1 (by rw [List.length_append, strVs_snoc]; exact hown), (belowG (hB.alloc hB.size _) (by have := hB.size; simp; omega) (hrow.alloc _) hgrow)⟩
          · have HE : Hid ((cutS s).1.map S = fs ++ [(S (sl s fr to))] ∧ (cutS s).2 = trimB ((L s).drop (q + 1))) := by
              have h := HM.out; unfold CutM at h; rw [unhide HA] at h
              rw [mach_hash s q _ _ _ (by omega) kk, hlf] at h
              exact ⟨h.1.symm, by have := congrArg L h.2; rw [L_S, L_S] at this; exact this.symm⟩
            have hlt : q < s.size := by omega
            have HTr : Hid (∀ X, Calls Tryz.prog 54 #[.string (s.extract (q + 1) s.size)] X fun e w' => e = .returned (.string (S (trimB ((L s).drop (q + 1))))) ∧ Below X.heap.size X w') := by
              intro X; have h := hT (s.extract (q + 1) s.size) X (by rw [extract_size]; omega)
              rw [L_extract, List.take_of_length_le (by rw [List.length_drop, L_len]; omega)] at h; exact h
            clear kk hlf HM hor
            go_wp2_with (first | (go_at_call 87; refine (hSg _).mono ?_; rintro e w5 ⟨rfl, rfl⟩) | (at_builtin; refine wpList_append_own _ rfl _ _ 51 rfl w.heap.size 9 i0 (.string ⟨#[]⟩) 1 16 Tryz.underlying51 hi0 hz0 hz1 hz2 rfl (by decide) _ _ _ rfl (hrow.alloc _) ⟨w'.heap.size, 0, none⟩ 1 1 [.string (S (sl s fr to))] rfl rfl (cell_one_new _ _ _) (by simp [Value.oneCell']) (by unfold maxLen; omega) (by omega) (by have := hB.size; simp; omega) ?_; intro v' w4 hown hgrow _; obtain ⟨a4, c4, rfl⟩ := row_slice2 hown) | (go_at_call 54; refine (unhide HTr _).mono ?_; rintro e w6 ⟨rfl, hb6⟩))
            simp only [Exit.jumps]
            go_ret2
            exact ⟨_, by rw [HE.out.2]; rfl, cut_fin HE.out.1 (rowB (by rw [List.length_append, strVs_snoc]; exact hown) hb6), (belowG (hB.alloc hB.size _) (by have := hB.size; simp; omega) (hrow.alloc _) hgrow).trans (hb6.mono (belowG (hB.alloc hB.size _) (by have := hB.size; simp; omega) (hrow.alloc _) hgrow).size)⟩
end Go.Proofs.YthgaadjkjnibaaaGreatDoor
/-
  Check of package lines, for every text.
-/
namespace Go.Proofs.YthgaadjkjnibaaaGreatDoor
open Go.RowKit Go.PlainAid Go.Lib Go.Shelf
attribute [local go_sem] World.iter
set_option linter.unusedVariables false

/-- where a line is wrong first, and why: what is left of its characters, the places from k on -/
def chk (s : ByteArray) : Nat → List (Nat × Nat) → Nat × Int
  | _, [] => (0, 0)
  | k, (i, r) :: l => if k = 4096 then (k, 32) else if r = 65533 ∧ (Utf8.decode s i).2 = 1 then (k, 30) else if ctrlB (r : Int) = true then (k, 31) else chk s (k + 1) l
def chkS (s : ByteArray) : Nat × Int := chk s 0 (chars s 0)

set_option maxRecDepth 100000 in
set_option maxHeartbeats 1000000 in
theorem check3_any (s : ByteArray) (w : World) (hs : s.size ≤ maxLen) :
    Calls Tryz.prog 52 #[.string s] w fun e w' => e = .returned (.tuple #[.int .i64 ((chkS s).1 : Nat), .int .i64 (chkS s).2]) ∧ Below w.heap.size w w' := by
  have hmx := hs
  have hW := fun i w (hi : i < s.size) => isWrong_any s i w hs hi
  have HW := hide hW
  clear hW
  unfold maxLen at hs
  have hcl := chars_length s 0
  obtain ⟨A, hA⟩ : ∃ A, chkS s = A := ⟨_, rfl⟩
  rw [hA]
  have HA : Hid (chk s 0 (chars s 0) = A) := hA
  clear hA
  go_enter Tryz.func52, Tryz.ntmps52
  go_wp2
  go_loopw [4] (fun v wr => ∃ pos k : Nat, v = .int .i64 k ∧ wr.heap[w.heap.size]? = some (.stringIter s pos) ∧ Below w.heap.size w wr ∧ Hid (chk s k (chars s pos) = A) ∧ Hid (k + (chars s pos).length ≤ s.size)) (fun _ wr => s.size - wr.iterPos w.heap.size)
  case atStart => exact ⟨0, 0, rfl, heap_alloc_new w _, (Below.refl _ _).alloc (Nat.le_refl _) _, HA, by show _ ≤ _; omega⟩
  case round =>
    obtain ⟨pos, k, rfl, hit, hB, HC, HK⟩ := hrel
    by_cases hlt : pos < s.size
    · have hnx := fun ty => run_next_any_at (P := Tryz.prog) wr w.heap.size s pos ty hit hlt
      have hb := dec_bounds s pos hlt
      have hit2 := iterAt_heap wr w.heap.size s pos (pos + (Utf8.decode s pos).2) hit
      have hB2 : Below w.heap.size w (wr.iterAt w.heap.size s (pos + (Utf8.decode s pos).2)) := hB.grown (grownBy_iterAt wr w.heap.size s _) hB.size (fun k e => by cases e; exact Nat.le_refl _)
      have hmeas : s.size - (pos + (Utf8.decode s pos).2) < s.size - wr.iterPos w.heap.size := by rw [iterPos_of hit]; omega
      have HS : Hid (chk s k ((pos, (Utf8.decode s pos).1) :: chars s (pos + (Utf8.decode s pos).2)) = A) := by
        show _ = _
        rw [← chars_step s pos hlt]; exact HC.out
      have HK2 : Hid (k + 1 + (chars s (pos + (Utf8.decode s pos).2)).length ≤ s.size) := by
        show _ ≤ _
        have := HK.out; rw [chars_step s pos hlt, List.length_cons] at this; omega
      have hk : k < s.size := by have := HK2.out; omega
      have hks : (chars s (pos + (Utf8.decode s pos).2)).length + k + 1 ≤ s.size := by have := HK2.out; omega
      generalize hW3 : wr.iterAt w.heap.size s (pos + (Utf8.decode s pos).2) = W3 at *
      clear hW3 HC HK
      have hWp := unhide HW pos
      generalize hR : (Utf8.decode s pos).1 = R at *
      generalize hD : (Utf8.decode s pos).2 = D at *
      by_cases k1 : k = 4096
      · have d1 : ((k : Int) == 4096) = true := by simp; omega
        have HE : Hid (A = (k, 32)) := by show _ = _; rw [← HS.out]; simp [chk, k1]
        go_wp2
        go_ret2
        exact ⟨by rw [HE.out]; rfl, hB2⟩
      · have d1 : ((k : Int) == 4096) = false := by simp; omega
        have ends : ∀ W5, Below W3.heap.size W3 W5 → Below w.heap.size w W5 ∧ W5.heap[w.heap.size]? = some (.stringIter s (pos + D)) := fun W5 h5 =>
          ⟨hB2.trans (h5.mono hB2.size), (h5.block _ (Array.getElem?_eq_some_iff.1 hit2).1).trans hit2⟩
        have ENDS := hide ends
        clear ends
        have HC2 : Hid (ctrlB (R : Int) = false → ¬ (R = 65533 ∧ D = 1) → chk s (k + 1) (chars s (pos + D)) = A) := by
          intro h1 h2
          rw [← HS.out]; simp only [chk, k1, if_false, hD, h2, h1]; simp
        by_cases k2 : R = 65533 ∧ D = 1
        · have d2 : ((R : Int) == 65533) = true := by simp; omega
          have hWt : ∀ w, Calls Tryz.prog 81 #[.string s, .int .i64 (pos : Nat)] w fun e w' => e = .returned (.bool true) ∧ Below w.heap.size w w' := fun w => (hWp w hlt).mono fun e w' ⟨a, b⟩ => ⟨by rw [a, k2.2]; rfl, b⟩
          have HE : Hid (A = (k, 30)) := by show _ = _; rw [← HS.out]; simp only [chk, k1, if_false, hD, k2.1, k2.2]; simp
          have HWt := hide hWt
          clear hWp hWt HS HC2 hR hD
          obtain ⟨rfl, rfl⟩ := k2
          go_wp2_with (go_at_call 81; refine (unhide HWt _).mono ?_; rintro e w5 ⟨rfl, hb5⟩)
          go_ret2
          exact ⟨by rw [HE.out]; rfl, (unhide ENDS _ hb5).1⟩
        · cases hc : ctrlB (R : Int) with
          | true =>
            have HE : Hid (A = (k, 31)) := by show _ = _; rw [← HS.out]; simp only [chk, k1, if_false, hD, k2, hc]; simp
            have hCt : ∀ w, Calls Tryz.prog 82 #[.int .i32 (R : Nat)] w fun e w' => e = .returned (.bool true) ∧ w' = w := fun w => (isControl_any (R : Int) w).mono fun e w' ⟨a, b⟩ => ⟨by rw [a, hc], b⟩
            have HCt := hide hCt
            have k3 : R ≠ 65533 := by intro e; rw [e] at hc; exact absurd hc (by decide)
            have d2 : ((R : Int) == 65533) = false := by simp; omega
            clear hCt hc HS HC2 hWp hR hD k3 k2
            go_wp2_with (go_at_call 82; refine (unhide HCt _).mono ?_; rintro e w5 ⟨rfl, rfl⟩)
            go_ret2
            exact ⟨by rw [HE.out]; rfl, hB2⟩
          | false =>
            have HC3 := hide (HC2.out hc k2)
            have hCt : ∀ w, Calls Tryz.prog 82 #[.int .i32 (R : Nat)] w fun e w' => e = .returned (.bool false) ∧ w' = w := fun w => (isControl_any (R : Int) w).mono fun e w' ⟨a, b⟩ => ⟨by rw [a, hc], b⟩
            have HCt := hide hCt
            by_cases k3 : R = 65533
            · have hWt : ∀ w, Calls Tryz.prog 81 #[.string s, .int .i64 (pos : Nat)] w fun e w' => e = .returned (.bool false) ∧ Below w.heap.size w w' := fun w => (hWp w hlt).mono fun e w' ⟨a, b⟩ => ⟨by rw [a, decide_eq_false (fun h => k2 ⟨k3, h⟩)], b⟩
              have HWt := hide hWt
              have d2 : ((R : Int) == 65533) = true := by simp; omega
              clear hCt hc HS HC2 hWp hWt hR k2 hD
              subst k3
              go_wp2_with (first | (go_at_call 81; refine (unhide HWt _).mono ?_; rintro e w5 ⟨rfl, hb5⟩) | (go_at_call 82; refine (unhide HCt _).mono ?_; rintro e w6 ⟨rfl, rfl⟩))
              go_roundw
              case rel => exact ⟨_, k + 1, by go_num, (unhide ENDS _ hb5).2, (unhide ENDS _ hb5).1, HC3, HK2⟩
              case measure => rw [iterPos_of (unhide ENDS _ hb5).2]; exact hmeas
            · have d2 : ((R : Int) == 65533) = false := by simp; omega
              clear hCt hc HS HC2 hWp hR k2 k3 hD
              go_wp2_with (go_at_call 82; refine (unhide HCt _).mono ?_; rintro e w5 ⟨rfl, rfl⟩)
              go_roundw
              case rel => exact ⟨_, k + 1, by go_num, hit2, hB2, HC3, HK2⟩
              case measure => rw [iterPos_of hit2]; exact hmeas
    · have hnx := fun ty => run_next_end_at (P := Tryz.prog) wr w.heap.size s pos ty hit hlt
      have HE : Hid (A = (0, 0)) := by
        show _ = _
        have := HC.out
        rw [chars_end s pos hlt] at this; exact this.symm
      go_wp2
      go_ret2
      exact ⟨by rw [HE.out]; rfl, hB⟩
end Go.Proofs.YthgaadjkjnibaaaGreatDoor

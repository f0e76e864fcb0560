/-
  Cut of package lines, for every text.
-/
import Derived.Test.YtlgolaoabgmijaaGreatDoorLb
import Derived.WalkMore
namespace Go.Proofs.YtlgolaoabgmijaaGreatDoor
open Go.RowKit Go.PlainAid Go.Lib Go.Shelf
set_option linter.unusedVariables false

theorem infoStr : (Tryz.prog.info? 9).map (fun i => (i.zero, i.size, i.bytes)) = some (some (.string ⟨#[]⟩), 1, 16) := by kernel_rfl
/-- texts as values -/
abbrev strVs (l : List ByteArray) : List Value := l.map Value.string
theorem strVs_snoc (l : List ByteArray) (x : ByteArray) : strVs (l ++ [x]) = strVs l ++ [.string x] := by simp
/-- what is left makes A, the fields fs being there -/
def CutM (s : ByteArray) (fs : List ByteArray) (A : List ByteArray × ByteArray) (cur pend : List UInt8) (q : Nat) : Prop :=
  fs ++ (mach fs.length cur pend ((L s).drop q)).1.map S = A.1 ∧ S (mach fs.length cur pend ((L s).drop q)).2 = A.2
def cutMu (s : ByteArray) (l : Nat) (a' : Act) (_ : World) : Nat := 2 * (s.size - (RowKit.intOf (a'.tmps.getD 4 undef)).toNat) + (if l = 0 then 1 else 0)
abbrev CutJ (s : ByteArray) (w : World) (A : List ByteArray × ByteArray) (l : Nat) (a' : Act) (w' : World) : Prop :=
  (l = 0 ∧ ∃ (fs : List ByteArray) (a : Option Addr) (n' c : Nat) (Q : Int) (q : Nat) (u : Nat → Value), (u = fun i => a'.tmps.getD i undef) ∧ a' = { tmps := #[.string s, undef, .slice a n' c, .string ⟨#[]⟩, .int .i64 Q, u 5, u 6, u 7, u 8, u 9, u 10, u 11, u 12, u 13, u 14, u 15, u 16, u 17, u 18, u 19, u 20, u 21, u 22, u 23, u 24, u 25, u 26, u 27, u 28, u 29, u 30, u 31, u 32, u 33, u 34, u 35, u 36, u 37, u 38, u 39, u 40, u 41, u 42, u 43, u 44, u 45, u 46, u 47, u 48, u 49, u 50, u 51, u 52, u 53, u 54, u 55, u 56, u 57, u 58, u 59, u 60, u 61, u 62, u 63], defers := [] } ∧ n' = fs.length ∧ Q = (q : Nat) ∧ q ≤ s.size ∧ fs.length ≤ q ∧ w'.ownsRow w.heap.size 9 1 (.slice a n' c) fs.length (strVs fs) ∧ Below w.heap.size w w' ∧ Hid (CutM s fs A [] [] q)) ∨
  (l = 1 ∧ ∃ (fs : List ByteArray) (a : Option Addr) (n' c : Nat) (Q F T : Int) (q fr to : Nat) (u : Nat → Value), (u = fun i => a'.tmps.getD i undef) ∧ a' = { tmps := #[.string s, undef, .slice a n' c, .string ⟨#[]⟩, .int .i64 Q, .int .i64 F, .int .i64 T, u 7, u 8, u 9, u 10, u 11, u 12, u 13, u 14, u 15, u 16, u 17, u 18, u 19, u 20, u 21, u 22, u 23, u 24, u 25, u 26, u 27, u 28, u 29, u 30, u 31, u 32, u 33, u 34, u 35, u 36, u 37, u 38, u 39, u 40, u 41, u 42, u 43, u 44, u 45, u 46, u 47, u 48, u 49, u 50, u 51, u 52, u 53, u 54, u 55, u 56, u 57, u 58, u 59, u 60, u 61, u 62, u 63], defers := [] } ∧ n' = fs.length ∧ Q = (q : Nat) ∧ F = (fr : Nat) ∧ T = (to : Nat) ∧ q ≤ s.size ∧ fs.length ≤ fr ∧ fr ≤ to ∧ to ≤ q ∧ (fr < to ∨ fr = q ∧ to = q ∧ signN s q ≠ 0) ∧ w'.ownsRow w.heap.size 9 1 (.slice a n' c) fs.length (strVs fs) ∧ Below w.heap.size w w' ∧ Hid (CutM s fs A (sl s fr to) (sl s to q) q))

theorem cut_fin {s : ByteArray} {w' : World} {base : Nat} {v : Value} {fs : List ByteArray} (hE : (cutS s).1.map S = fs) (h : w'.ownsRow base 9 1 v fs.length (strVs fs)) : w'.ownsRow base 9 1 v (cutS s).1.length (strVs ((cutS s).1.map S)) := by
  rw [hE, ← List.length_map (f := S), hE]; exact h

set_option maxRecDepth 100000 in
set_option maxHeartbeats 4000000 in
theorem cut_any (s : ByteArray) (w : World) (hs : s.size ≤ 1099511627776) :
    Calls Tryz.prog 92 #[.string s] w fun e w' => ∃ v, e = .returned (.tuple #[v, .string (S (cutS s).2)]) ∧ w'.ownsRow w.heap.size 9 1 v (cutS s).1.length (strVs ((cutS s).1.map S)) ∧ Below w.heap.size w w' := by
  have hmx : s.size ≤ maxLen := by unfold maxLen; omega
  obtain ⟨i0, hi0, hz0, hz1, hz2⟩ := info_parts infoStr
  obtain ⟨A, hA⟩ : ∃ A : List ByteArray × ByteArray, A = ((cutS s).1.map S, S (cutS s).2) := ⟨_, rfl⟩
  have HA := hide hA
  have H0 : Hid (CutM s [] A [] [] 0) := by
    show CutM _ _ _ _ _ _
    unfold CutM; rw [hA]; exact ⟨rfl, rfl⟩
  have hT := fun (t : ByteArray) (X : World) (h : t.size ≤ maxLen) => trim_any t X h
  clear hA
  go_enter Tryz.func92, Tryz.ntmps92
  go_wp2
  refine wp_scope_led (CutJ s w A) (cutMu s) ?_ rfl ?_
  · go_wp2
    exact .inl ⟨rfl, [], none, 0, 0, _, 0, _, rfl, rfl, rfl, rfl, Nat.zero_le _, Nat.le_refl _, by simpa using World.ownsRow_nil w _ _ _, Below.refl _ _, H0⟩
  · rintro l a' w' (⟨rfl, fs, a, _, c, _, q, u, -, rfl, rfl, rfl, hq, hnf, hrow, hB, HM⟩ | ⟨rfl, fs, a, _, c, _, _, _, q, fr, to, u, -, rfl, rfl, rfl, rfl, rfl, hq, hnf, h1, h2, hor, hrow, hB, HM⟩)
    · refine ⟨_, rfl, ?_⟩
      rcases sign_cases s q with kk | kk | kk | kk
      · -- a blank, ahead of a field
        have hlt : q < s.size := sign_lt s q hq (by rw [kk]; decide)
        have HM2 : Hid (CutM s fs A [] [] (q + 1)) := by
          have h := HM.out; unfold CutM at h ⊢
          rw [mach_blank s q _ _ _ hlt kk, if_pos rfl] at h; exact h
        have hSg : ∀ X, Calls Tryz.prog 135 #[.string s, .int .i64 (q : Nat)] X fun e w' => e = .returned (.int .u8 0) ∧ X = w' := fun X => (signAt_any s q X hmx hq).mono fun e w' ⟨a, b⟩ => ⟨by rw [a, kk], b.symm⟩
        clear kk
        go_wp2_with (go_at_call 135; refine (hSg _).mono ?_; rintro e w5 ⟨rfl, rfl⟩)
        go_step3
        exact ⟨(.inl ⟨rfl, fs, a, _, c, _, q + 1, _, rfl, rfl, rfl, by simp, by omega, by omega, hrow, hB, HM2⟩), by simp [cutMu, RowKit.intOf]; omega⟩
      · -- a sign of a field
        have h1 : q ≤ q := Nat.le_refl _
        have h2 : q ≤ q := Nat.le_refl _
        have hlt : q < s.size := sign_lt s q hq (by rw [kk]; decide)
        have HM2 : Hid (CutM s fs A (sl s q (q + 1)) (sl s (q + 1) (q + 1)) (q + 1)) := by
          have h := HM.out; unfold CutM at h ⊢
          rw [mach_plain s q _ _ _ hlt kk, show [] ++ [] ++ [s.get! q] = sl s q (q + 1) from (sl_one s q hlt).symm] at h; rw [sl_self s (q + 1)]; exact h
        have hSg : ∀ X, Calls Tryz.prog 135 #[.string s, .int .i64 (q : Nat)] X fun e w' => e = .returned (.int .u8 1) ∧ X = w' := fun X => (signAt_any s q X hmx hq).mono fun e w' ⟨a, b⟩ => ⟨by rw [a, kk], b.symm⟩
        clear kk
        go_wp2_with (go_at_call 135; refine (hSg _).mono ?_; rintro e w5 ⟨rfl, rfl⟩)
        go_step3
        go_wp2_with (go_at_call 135; refine (hSg _).mono ?_; rintro e w5 ⟨rfl, rfl⟩)
        go_step3
        exact ⟨(.inr ⟨rfl, fs, a, _, c, _, _, _, q + 1, q, q + 1, _, rfl, rfl, rfl, by simp, rfl, by simp, by omega, by omega, by omega, by omega, .inl (by omega), hrow, hB, HM2⟩), by simp [cutMu, RowKit.intOf]; omega⟩
      · -- between two fields
        have h1 : q ≤ q := Nat.le_refl _
        have h2 : q ≤ q := Nat.le_refl _
        have hlt : q < s.size := sign_lt s q hq (by rw [kk]; decide)
        have HM2 : Hid (CutM s (fs ++ [ByteArray.empty]) A [] [] (q + 1)) := by
          have h := HM.out; unfold CutM at h ⊢
          rw [mach_div s q _ _ _ hlt kk] at h; rw [List.length_append, List.length_singleton, List.append_assoc]; exact h
        have hSg : ∀ X, Calls Tryz.prog 135 #[.string s, .int .i64 (q : Nat)] X fun e w' => e = .returned (.int .u8 2) ∧ X = w' := fun X => (signAt_any s q X hmx hq).mono fun e w' ⟨a, b⟩ => ⟨by rw [a, kk], b.symm⟩
        clear kk
        go_wp2_with (first | (go_at_call 135; refine (hSg _).mono ?_; rintro e w5 ⟨rfl, rfl⟩) | (at_builtin; refine wpList_append_own _ rfl _ _ 65 rfl w.heap.size 9 i0 (.string ⟨#[]⟩) 1 16 Tryz.underlying65 hi0 hz0 hz1 hz2 rfl (by decide) _ _ _ rfl (hrow.alloc _) ⟨w'.heap.size, 0, none⟩ 1 1 [.string ByteArray.empty] rfl rfl (cell_one_new _ _ _) (by simp [Value.oneCell']) (by unfold maxLen; omega) (by omega) (by have := hB.size; simp; omega) ?_; intro v' w4 hown hgrow _; obtain ⟨a4, c4, rfl⟩ := row_slice2 hown))
        go_step3
        go_wp2_with (first | (go_at_call 135; refine (hSg _).mono ?_; rintro e w5 ⟨rfl, rfl⟩) | (at_builtin; refine wpList_append_own _ rfl _ _ 65 rfl w.heap.size 9 i0 (.string ⟨#[]⟩) 1 16 Tryz.underlying65 hi0 hz0 hz1 hz2 rfl (by decide) _ _ _ rfl (hrow.alloc _) ⟨w'.heap.size, 0, none⟩ 1 1 [.string ByteArray.empty] rfl rfl (cell_one_new _ _ _) (by simp [Value.oneCell']) (by unfold maxLen; omega) (by omega) (by have := hB.size; simp; omega) ?_; intro v' w4 hown hgrow _; obtain ⟨a4, c4, rfl⟩ := row_slice2 hown))
        go_step3
        exact ⟨(.inl ⟨rfl, fs ++ [ByteArray.empty], _, _, _, _, q + 1, _, rfl, rfl, by simp, by simp, by omega, by simp; omega, by rw [List.length_append, strVs_snoc]; exact hown, belowG (hB.alloc hB.size _) (by have := hB.size; simp; omega) (hrow.alloc _) hgrow, HM2⟩), by simp [cutMu, RowKit.intOf]; omega⟩
      · -- the end of the head
        have h1 : q ≤ q := Nat.le_refl _
        have h2 : q ≤ q := Nat.le_refl _
        have hSg : ∀ X, Calls Tryz.prog 135 #[.string s, .int .i64 (q : Nat)] X fun e w' => e = .returned (.int .u8 3) ∧ X = w' := fun X => (signAt_any s q X hmx hq).mono fun e w' ⟨a, b⟩ => ⟨by rw [a, kk], b.symm⟩
        rcases Nat.eq_zero_or_pos fs.length with hl0 | hl0
        · obtain rfl : fs = [] := List.length_eq_zero_iff.1 hl0
          have d0 : decide ((0 : Int) < 0) = false := rfl
          have hlf : lastF ([] : List ByteArray).length [] = [] := by
            unfold lastF
            rw [if_neg (by rintro (h | h); exact absurd h (by simp); exact h rfl)]
          by_cases hend : q = s.size
          · have HE : Hid ((cutS s).1.map S = ([] : List ByteArray) ++ [] ∧ (cutS s).2 = []) := by
              have h := HM.out; unfold CutM at h; rw [unhide HA] at h
              rw [mach_end2 s q _ _ _ hend, hlf] at h
              exact ⟨h.1.symm, by have := congrArg L h.2; rw [L_S, L_S] at this; exact this.symm⟩
            clear kk hlf HM
            subst hend
            go_wp2_with (go_at_call 135; refine (hSg _).mono ?_; rintro e w5 ⟨rfl, rfl⟩)
            go_step3
            go_wp2_with (go_at_call 135; refine (hSg _).mono ?_; rintro e w5 ⟨rfl, rfl⟩)
            simp only [Exit.jumps]
            go_ret2
            exact ⟨_, by rw [HE.out.2]; rfl, cut_fin HE.out.1 (by simpa using hrow), hB⟩
          · have HE : Hid ((cutS s).1.map S = ([] : List ByteArray) ++ [] ∧ (cutS s).2 = trimB ((L s).drop (q + 1))) := by
              have h := HM.out; unfold CutM at h; rw [unhide HA] at h
              rw [mach_hash s q _ _ _ (by omega) kk, hlf] at h
              exact ⟨h.1.symm, by have := congrArg L h.2; rw [L_S, L_S] at this; exact this.symm⟩
            have hlt : q < s.size := by omega
            have HTr : Hid (∀ X, Calls Tryz.prog 90 #[.string (s.extract (q + 1) s.size)] X fun e w' => e = .returned (.string (S (trimB ((L s).drop (q + 1))))) ∧ Below X.heap.size X w') := by
              intro X; have h := hT (s.extract (q + 1) s.size) X (by rw [extract_size]; omega)
              rw [L_extract, List.take_of_length_le (by rw [List.length_drop, L_len]; omega)] at h; exact h
            clear kk hlf HM
            go_wp2_with (first | (go_at_call 135; refine (hSg _).mono ?_; rintro e w5 ⟨rfl, rfl⟩) | (go_at_call 90; refine (unhide HTr _).mono ?_; rintro e w6 ⟨rfl, hb6⟩))
            go_step3
            go_wp2_with (first | (go_at_call 135; refine (hSg _).mono ?_; rintro e w5 ⟨rfl, rfl⟩) | (go_at_call 90; refine (unhide HTr _).mono ?_; rintro e w6 ⟨rfl, hb6⟩))
            simp only [Exit.jumps]
            go_ret2
            exact ⟨_, by rw [HE.out.2]; rfl, cut_fin HE.out.1 (rowB (by simpa using hrow) hb6), hB.trans (hb6.mono hB.size)⟩
        · have d0 : decide ((0 : Int) < (fs.length : Int)) = true := by simpa using hl0
          have hlf : lastF fs.length [] = [[]] := by
            unfold lastF
            rw [if_pos (.inl hl0)]
          by_cases hend : q = s.size
          · have HE : Hid ((cutS s).1.map S = fs ++ [ByteArray.empty] ∧ (cutS s).2 = []) := by
              have h := HM.out; unfold CutM at h; rw [unhide HA] at h
              rw [mach_end2 s q _ _ _ hend, hlf] at h
              exact ⟨h.1.symm, by have := congrArg L h.2; rw [L_S, L_S] at this; exact this.symm⟩
            clear kk hlf HM
            subst hend
            go_wp2_with (first | (go_at_call 135; refine (hSg _).mono ?_; rintro e w5 ⟨rfl, rfl⟩) | (at_builtin; refine wpList_append_own _ rfl _ _ 65 rfl w.heap.size 9 i0 (.string ⟨#[]⟩) 1 16 Tryz.underlying65 hi0 hz0 hz1 hz2 rfl (by decide) _ _ _ rfl (hrow.alloc _) ⟨w'.heap.size, 0, none⟩ 1 1 [.string ByteArray.empty] rfl rfl (cell_one_new _ _ _) (by simp [Value.oneCell']) (by unfold maxLen; omega) (by omega) (by have := hB.size; simp; omega) ?_; intro v' w4 hown hgrow _; obtain ⟨a4, c4, rfl⟩ := row_slice2 hown))
            go_step3
            go_wp2_with (first | (go_at_call 135; refine (hSg _).mono ?_; rintro e w5 ⟨rfl, rfl⟩) | (at_builtin; refine wpList_append_own _ rfl _ _ 65 rfl w.heap.size 9 i0 (.string ⟨#[]⟩) 1 16 Tryz.underlying65 hi0 hz0 hz1 hz2 rfl (by decide) _ _ _ rfl (hrow.alloc _) ⟨w'.heap.size, 0, none⟩ 1 1 [.string ByteArray.empty] rfl rfl (cell_one_new _ _ _) (by simp [Value.oneCell']) (by unfold maxLen; omega) (by omega) (by have := hB.size; simp; omega) ?_; intro v' w4 hown hgrow _; obtain ⟨a4, c4, rfl⟩ := row_slice2 hown))
            simp only [Exit.jumps]
            go_ret2
            exact ⟨_, by rw [HE.out.2]; rfl, cut_fin HE.out.1 (by rw [List.length_append, strVs_snoc]; exact hown), (belowG (hB.alloc hB.size _) (by have := hB.size; simp; omega) (hrow.alloc _) hgrow)⟩
          · have HE : Hid ((cutS s).1.map S = fs ++ [ByteArray.empty] ∧ (cutS s).2 = trimB ((L s).drop (q + 1))) := by
              have h := HM.out; unfold CutM at h; rw [unhide HA] at h
              rw [mach_hash s q _ _ _ (by omega) kk, hlf] at h
              exact ⟨h.1.symm, by have := congrArg L h.2; rw [L_S, L_S] at this; exact this.symm⟩
            have hlt : q < s.size := by omega
            have HTr : Hid (∀ X, Calls Tryz.prog 90 #[.string (s.extract (q + 1) s.size)] X fun e w' => e = .returned (.string (S (trimB ((L s).drop (q + 1))))) ∧ Below X.heap.size X w') := by
              intro X; have h := hT (s.extract (q + 1) s.size) X (by rw [extract_size]; omega)
              rw [L_extract, List.take_of_length_le (by rw [List.length_drop, L_len]; omega)] at h; exact h
            clear kk hlf HM
            go_wp2_with (first | (go_at_call 135; refine (hSg _).mono ?_; rintro e w5 ⟨rfl, rfl⟩) | (at_builtin; refine wpList_append_own _ rfl _ _ 65 rfl w.heap.size 9 i0 (.string ⟨#[]⟩) 1 16 Tryz.underlying65 hi0 hz0 hz1 hz2 rfl (by decide) _ _ _ rfl (hrow.alloc _) ⟨w'.heap.size, 0, none⟩ 1 1 [.string ByteArray.empty] rfl rfl (cell_one_new _ _ _) (by simp [Value.oneCell']) (by unfold maxLen; omega) (by omega) (by have := hB.size; simp; omega) ?_; intro v' w4 hown hgrow _; obtain ⟨a4, c4, rfl⟩ := row_slice2 hown) | (go_at_call 90; refine (unhide HTr _).mono ?_; rintro e w6 ⟨rfl, hb6⟩))
            go_step3
            go_wp2_with (first | (go_at_call 135; refine (hSg _).mono ?_; rintro e w5 ⟨rfl, rfl⟩) | (at_builtin; refine wpList_append_own _ rfl _ _ 65 rfl w.heap.size 9 i0 (.string ⟨#[]⟩) 1 16 Tryz.underlying65 hi0 hz0 hz1 hz2 rfl (by decide) _ _ _ rfl (hrow.alloc _) ⟨w'.heap.size, 0, none⟩ 1 1 [.string ByteArray.empty] rfl rfl (cell_one_new _ _ _) (by simp [Value.oneCell']) (by unfold maxLen; omega) (by omega) (by have := hB.size; simp; omega) ?_; intro v' w4 hown hgrow _; obtain ⟨a4, c4, rfl⟩ := row_slice2 hown) | (go_at_call 90; refine (unhide HTr _).mono ?_; rintro e w6 ⟨rfl, hb6⟩))
            simp only [Exit.jumps]
            go_ret2
            exact ⟨_, by rw [HE.out.2]; rfl, cut_fin HE.out.1 (rowB (by rw [List.length_append, strVs_snoc]; exact hown) hb6), (belowG (hB.alloc hB.size _) (by have := hB.size; simp; omega) (hrow.alloc _) hgrow).trans (hb6.mono (belowG (hB.alloc hB.size _) (by have := hB.size; simp; omega) (hrow.alloc _) hgrow).size)⟩
    · refine ⟨_, rfl, ?_⟩
      rcases sign_cases s q with kk | kk | kk | kk
      · -- a blank
        have hft : fr < to := by rcases hor with h | ⟨_, _, h⟩; exact h; exact absurd kk h
        have hlt : q < s.size := sign_lt s q hq (by rw [kk]; decide)
        have HM2 : Hid (CutM s fs A (sl s fr to) (sl s to (q + 1)) (q + 1)) := by
          have h := HM.out; unfold CutM at h ⊢
          rw [mach_blank s q _ _ _ hlt kk, if_neg (sl_empty s _ _ hft (by omega)), sl_snoc s _ q (by omega) hlt] at h; exact h
        have hSg : ∀ X, Calls Tryz.prog 135 #[.string s, .int .i64 (q : Nat)] X fun e w' => e = .returned (.int .u8 0) ∧ X = w' := fun X => (signAt_any s q X hmx hq).mono fun e w' ⟨a, b⟩ => ⟨by rw [a, kk], b.symm⟩
        clear kk hor
        go_wp2_with (go_at_call 135; refine (hSg _).mono ?_; rintro e w5 ⟨rfl, rfl⟩)
        go_step3
        exact ⟨(.inr ⟨rfl, fs, a, _, c, _, _, _, q + 1, fr, to, _, rfl, rfl, rfl, by simp, rfl, rfl, by omega, by omega, by omega, by omega, .inl hft, hrow, hB, HM2⟩), by simp [cutMu, RowKit.intOf]; omega⟩
      · -- a sign of a field
        have hlt : q < s.size := sign_lt s q hq (by rw [kk]; decide)
        have HM2 : Hid (CutM s fs A (sl s fr (q + 1)) (sl s (q + 1) (q + 1)) (q + 1)) := by
          have h := HM.out; unfold CutM at h ⊢
          rw [mach_plain s q _ _ _ hlt kk, sl_app s _ _ _ (by omega) (by omega), sl_snoc s _ q (by omega) hlt] at h; rw [sl_self s (q + 1)]; exact h
        have hSg : ∀ X, Calls Tryz.prog 135 #[.string s, .int .i64 (q : Nat)] X fun e w' => e = .returned (.int .u8 1) ∧ X = w' := fun X => (signAt_any s q X hmx hq).mono fun e w' ⟨a, b⟩ => ⟨by rw [a, kk], b.symm⟩
        clear kk hor
        go_wp2_with (go_at_call 135; refine (hSg _).mono ?_; rintro e w5 ⟨rfl, rfl⟩)
        go_step3
        exact ⟨(.inr ⟨rfl, fs, a, _, c, _, _, _, q + 1, fr, q + 1, _, rfl, rfl, rfl, by simp, rfl, by simp, by omega, by omega, by omega, by omega, .inl (by omega), hrow, hB, HM2⟩), by simp [cutMu, RowKit.intOf]; omega⟩
      · -- between two fields
        have hlt : q < s.size := sign_lt s q hq (by rw [kk]; decide)
        have HM2 : Hid (CutM s (fs ++ [(S (sl s fr to))]) A [] [] (q + 1)) := by
          have h := HM.out; unfold CutM at h ⊢
          rw [mach_div s q _ _ _ hlt kk] at h; rw [List.length_append, List.length_singleton, List.append_assoc]; exact h
        have hSg : ∀ X, Calls Tryz.prog 135 #[.string s, .int .i64 (q : Nat)] X fun e w' => e = .returned (.int .u8 2) ∧ X = w' := fun X => (signAt_any s q X hmx hq).mono fun e w' ⟨a, b⟩ => ⟨by rw [a, kk], b.symm⟩
        clear kk hor
        have hex := sl_S s fr to
        go_wp2_with (first | (go_at_call 135; refine (hSg _).mono ?_; rintro e w5 ⟨rfl, rfl⟩) | (at_builtin; refine wpList_append_own _ rfl _ _ 65 rfl w.heap.size 9 i0 (.string ⟨#[]⟩) 1 16 Tryz.underlying65 hi0 hz0 hz1 hz2 rfl (by decide) _ _ _ rfl (hrow.alloc _) ⟨w'.heap.size, 0, none⟩ 1 1 [.string (S (sl s fr to))] rfl rfl (cell_one_new _ _ _) (by simp [Value.oneCell']) (by unfold maxLen; omega) (by omega) (by have := hB.size; simp; omega) ?_; intro v' w4 hown hgrow _; obtain ⟨a4, c4, rfl⟩ := row_slice2 hown))
        go_step3
        exact ⟨(.inl ⟨rfl, fs ++ [(S (sl s fr to))], _, _, _, _, q + 1, _, rfl, rfl, by simp, by simp, by omega, by simp; omega, by rw [List.length_append, strVs_snoc]; exact hown, belowG (hB.alloc hB.size _) (by have := hB.size; simp; omega) (hrow.alloc _) hgrow, HM2⟩), by simp [cutMu, RowKit.intOf]; omega⟩
      · -- the end of the head
        have hSg : ∀ X, Calls Tryz.prog 135 #[.string s, .int .i64 (q : Nat)] X fun e w' => e = .returned (.int .u8 3) ∧ X = w' := fun X => (signAt_any s q X hmx hq).mono fun e w' ⟨a, b⟩ => ⟨by rw [a, kk], b.symm⟩
        have hex := sl_S s fr to
        rcases Nat.eq_zero_or_pos fs.length with hl0 | hl0
        · obtain rfl : fs = [] := List.length_eq_zero_iff.1 hl0
          by_cases hft : fr < to
          · have d0 : decide ((fr : Int) < (to : Int)) = true := by simpa using hft
            have hlf : lastF ([] : List ByteArray).length (sl s fr to) = [(sl s fr to)] := by
              unfold lastF
              rw [if_pos (.inr (sl_empty s _ _ hft (by omega)))]
            by_cases hend : q = s.size
            · have HE : Hid ((cutS s).1.map S = ([] : List ByteArray) ++ [(S (sl s fr to))] ∧ (cutS s).2 = []) := by
                have h := HM.out; unfold CutM at h; rw [unhide HA] at h
                rw [mach_end2 s q _ _ _ hend, hlf] at h
                exact ⟨h.1.symm, by have := congrArg L h.2; rw [L_S, L_S] at this; exact this.symm⟩
              clear kk hlf HM hor
              subst hend
              go_wp2_with (first | (go_at_call 135; refine (hSg _).mono ?_; rintro e w5 ⟨rfl, rfl⟩) | (at_builtin; refine wpList_append_own _ rfl _ _ 65 rfl w.heap.size 9 i0 (.string ⟨#[]⟩) 1 16 Tryz.underlying65 hi0 hz0 hz1 hz2 rfl (by decide) _ _ _ rfl (hrow.alloc _) ⟨w'.heap.size, 0, none⟩ 1 1 [.string (S (sl s fr to))] rfl rfl (cell_one_new _ _ _) (by simp [Value.oneCell']) (by unfold maxLen; omega) (by omega) (by have := hB.size; simp; omega) ?_; intro v' w4 hown hgrow _; obtain ⟨a4, c4, rfl⟩ := row_slice2 hown))
              simp only [Exit.jumps]
              go_ret2
              exact ⟨_, by rw [HE.out.2]; rfl, cut_fin HE.out.1 (by rw [List.length_append, strVs_snoc]; exact hown), (belowG (hB.alloc hB.size _) (by have := hB.size; simp; omega) (hrow.alloc _) hgrow)⟩
            · have HE : Hid ((cutS s).1.map S = ([] : List ByteArray) ++ [(S (sl s fr to))] ∧ (cutS s).2 = trimB ((L s).drop (q + 1))) := by
                have h := HM.out; unfold CutM at h; rw [unhide HA] at h
                rw [mach_hash s q _ _ _ (by omega) kk, hlf] at h
                exact ⟨h.1.symm, by have := congrArg L h.2; rw [L_S, L_S] at this; exact this.symm⟩
              have hlt : q < s.size := by omega
              have HTr : Hid (∀ X, Calls Tryz.prog 90 #[.string (s.extract (q + 1) s.size)] X fun e w' => e = .returned (.string (S (trimB ((L s).drop (q + 1))))) ∧ Below X.heap.size X w') := by
                intro X; have h := hT (s.extract (q + 1) s.size) X (by rw [extract_size]; omega)
                rw [L_extract, List.take_of_length_le (by rw [List.length_drop, L_len]; omega)] at h; exact h
              clear kk hlf HM hor
              go_wp2_with (first | (go_at_call 135; refine (hSg _).mono ?_; rintro e w5 ⟨rfl, rfl⟩) | (at_builtin; refine wpList_append_own _ rfl _ _ 65 rfl w.heap.size 9 i0 (.string ⟨#[]⟩) 1 16 Tryz.underlying65 hi0 hz0 hz1 hz2 rfl (by decide) _ _ _ rfl (hrow.alloc _) ⟨w'.heap.size, 0, none⟩ 1 1 [.string (S (sl s fr to))] rfl rfl (cell_one_new _ _ _) (by simp [Value.oneCell']) (by unfold maxLen; omega) (by omega) (by have := hB.size; simp; omega) ?_; intro v' w4 hown hgrow _; obtain ⟨a4, c4, rfl⟩ := row_slice2 hown) | (go_at_call 90; refine (unhide HTr _).mono ?_; rintro e w6 ⟨rfl, hb6⟩))
              simp only [Exit.jumps]
              go_ret2
              exact ⟨_, by rw [HE.out.2]; rfl, cut_fin HE.out.1 (rowB (by rw [List.length_append, strVs_snoc]; exact hown) hb6), (belowG (hB.alloc hB.size _) (by have := hB.size; simp; omega) (hrow.alloc _) hgrow).trans (hb6.mono (belowG (hB.alloc hB.size _) (by have := hB.size; simp; omega) (hrow.alloc _) hgrow).size)⟩
          · have d0 : decide ((fr : Int) < (to : Int)) = false := by simpa using hft
            have hlf : lastF ([] : List ByteArray).length (sl s fr to) = [] := by
              unfold lastF
              rw [if_neg (by rintro (h | h); exact absurd h (by simp); exact h (by rw [show to = fr by omega, sl_self]))]
            by_cases hend : q = s.size
            · have HE : Hid ((cutS s).1.map S = ([] : List ByteArray) ++ [] ∧ (cutS s).2 = []) := by
                have h := HM.out; unfold CutM at h; rw [unhide HA] at h
                rw [mach_end2 s q _ _ _ hend, hlf] at h
                exact ⟨h.1.symm, by have := congrArg L h.2; rw [L_S, L_S] at this; exact this.symm⟩
              clear kk hlf HM hor
              subst hend
              go_wp2_with (go_at_call 135; refine (hSg _).mono ?_; rintro e w5 ⟨rfl, rfl⟩)
              simp only [Exit.jumps]
              go_ret2
              exact ⟨_, by rw [HE.out.2]; rfl, cut_fin HE.out.1 (by simpa using hrow), hB⟩
            · have HE : Hid ((cutS s).1.map S = ([] : List ByteArray) ++ [] ∧ (cutS s).2 = trimB ((L s).drop (q + 1))) := by
                have h := HM.out; unfold CutM at h; rw [unhide HA] at h
                rw [mach_hash s q _ _ _ (by omega) kk, hlf] at h
                exact ⟨h.1.symm, by have := congrArg L h.2; rw [L_S, L_S] at this; exact this.symm⟩
              have hlt : q < s.size := by omega
              have HTr : Hid (∀ X, Calls Tryz.prog 90 #[.string (s.extract (q + 1) s.size)] X fun e w' => e = .returned (.string (S (trimB ((L s).drop (q + 1))))) ∧ Below X.heap.size X w') := by
                intro X; have h := hT (s.extract (q + 1) s.size) X (by rw [extract_size]; omega)
                rw [L_extract, List.take_of_length_le (by rw [List.length_drop, L_len]; omega)] at h; exact h
              clear kk hlf HM hor
              go_wp2_with (first | (go_at_call 135; refine (hSg _).mono ?_; rintro e w5 ⟨rfl, rfl⟩) | (go_at_call 90; refine (unhide HTr _).mono ?_; rintro e w6 ⟨rfl, hb6⟩))
              simp only [Exit.jumps]
              go_ret2
              exact ⟨_, by rw [HE.out.2]; rfl, cut_fin HE.out.1 (rowB (by simpa using hrow) hb6), hB.trans (hb6.mono hB.size)⟩
        · have d0 : decide ((0 : Int) < (fs.length : Int)) = true := by simpa using hl0
          have hlf : lastF fs.length (sl s fr to) = [(sl s fr to)] := by
            unfold lastF
            rw [if_pos (.inl hl0)]
          by_cases hend : q = s.size
          · have HE : Hid ((cutS s).1.map S = fs ++ [(S (sl s fr to))] ∧ (cutS s).2 = []) := by
              have h := HM.out; unfold CutM at h; rw [unhide HA] at h
              rw [mach_end2 s q _ _ _ hend, hlf] at h
              exact ⟨h.1.symm, by have := congrArg L h.2; rw [L_S, L_S] at this; exact this.symm⟩
            clear kk hlf HM hor
            subst hend
            go_wp2_with (first | (go_at_call 135; refine (hSg _).mono ?_; rintro e w5 ⟨rfl, rfl⟩) | (at_builtin; refine wpList_append_own _ rfl _ _ 65 rfl w.heap.size 9 i0 (.string ⟨#[]⟩) 1 16 Tryz.underlying65 hi0 hz0 hz1 hz2 rfl (by decide) _ _ _ rfl (hrow.alloc _) ⟨w'.heap.size, 0, none⟩ 1 1 [.string (S (sl s fr to))] rfl rfl (cell_one_new _ _ _) (by simp [Value.oneCell']) (by unfold maxLen; omega) (by omega) (by have := hB.size; simp; omega) ?_; intro v' w4 hown hgrow _; obtain ⟨a4, c4, rfl⟩ := row_slice2 hown))
            simp only [Exit.jumps]
            go_ret2
            exact ⟨_, by rw [HE.out.2]; rfl, cut_fin HE.out.1 (by rw [List.length_append, strVs_snoc]; exact hown), (belowG (hB.alloc hB.size _) (by have := hB.size; simp; omega) (hrow.alloc _) hgrow)⟩
          · have HE : Hid ((cutS s).1.map S = fs ++ [(S (sl s fr to))] ∧ (cutS s).2 = trimB ((L s).drop (q + 1))) := by
              have h := HM.out; unfold CutM at h; rw [unhide HA] at h
              rw [mach_hash s q _ _ _ (by omega) kk, hlf] at h
              exact ⟨h.1.symm, by have := congrArg L h.2; rw [L_S, L_S] at this; exact this.symm⟩
            have hlt : q < s.size := by omega
            have HTr : Hid (∀ X, Calls Tryz.prog 90 #[.string (s.extract (q + 1) s.size)] X fun e w' => e = .returned (.string (S (trimB ((L s).drop (q + 1))))) ∧ Below X.heap.size X w') := by
              intro X; have h := hT (s.extract (q + 1) s.size) X (by rw [extract_size]; omega)
              rw [L_extract, List.take_of_length_le (by rw [List.length_drop, L_len]; omega)] at h; exact h
            clear kk hlf HM hor
            go_wp2_with (first | (go_at_call 135; refine (hSg _).mono ?_; rintro e w5 ⟨rfl, rfl⟩) | (at_builtin; refine wpList_append_own _ rfl _ _ 65 rfl w.heap.size 9 i0 (.string ⟨#[]⟩) 1 16 Tryz.underlying65 hi0 hz0 hz1 hz2 rfl (by decide) _ _ _ rfl (hrow.alloc _) ⟨w'.heap.size, 0, none⟩ 1 1 [.string (S (sl s fr to))] rfl rfl (cell_one_new _ _ _) (by simp [Value.oneCell']) (by unfold maxLen; omega) (by omega) (by have := hB.size; simp; omega) ?_; intro v' w4 hown hgrow _; obtain ⟨a4, c4, rfl⟩ := row_slice2 hown) | (go_at_call 90; refine (unhide HTr _).mono ?_; rintro e w6 ⟨rfl, hb6⟩))
            simp only [Exit.jumps]
            go_ret2
            exact ⟨_, by rw [HE.out.2]; rfl, cut_fin HE.out.1 (rowB (by rw [List.length_append, strVs_snoc]; exact hown) hb6), (belowG (hB.alloc hB.size _) (by have := hB.size; simp; omega) (hrow.alloc _) hgrow).trans (hb6.mono (belowG (hB.alloc hB.size _) (by have := hB.size; simp; omega) (hrow.alloc _) hgrow).size)⟩
end Go.Proofs.YtlgolaoabgmijaaGreatDoor

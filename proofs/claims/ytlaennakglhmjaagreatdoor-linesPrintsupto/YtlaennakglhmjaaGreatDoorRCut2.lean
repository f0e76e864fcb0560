/-
  The document's until, Fields, Parts, Cut (furrowref03), for every text.
-/
import Derived.Test.YtlaennakglhmjaaGreatDoorRCut
import Derived.BigQuiet
namespace Go.Proofs.YtlaennakglhmjaaGreatDoor
open Go.RowKit Go.PlainAid Go.Lib Go.Shelf
set_option linter.unusedVariables false

set_option maxRecDepth 100000 in
set_option maxHeartbeats 2000000 in
theorem refUntil_any (s : ByteArray) (c : UInt8) (w : World) (hs : s.size ≤ 1099511627776) :
    Calls Tryz.prog 38 #[.string s, .int .u8 (c.toNat : Nat)] w fun e w' => e = .returned (.tuple #[.string (S (untilB c (L s)).1), .string (S (untilB c (L s)).2.1), .bool (untilB c (L s)).2.2]) ∧ Below w.heap.size w w' := by
  obtain ⟨U, hU⟩ : ∃ U, untilB c (L s) = U := ⟨_, rfl⟩
  rw [hU]
  have HU := hide hU
  clear hU
  obtain ⟨C, hC⟩ : ∃ C : Nat, c.toNat = C := ⟨_, rfl⟩
  rw [hC]
  have HC := hide hC
  have hC256 : C < 256 := by rw [← hC]; exact c.toNat_lt
  clear hC
  go_enter Tryz.func38, Tryz.ntmps38
  go_wp2
  go_loopw [7] (fun v7 wr => ∃ i : Nat, v7 = .int .i64 (i : Nat) ∧ i ≤ s.size ∧ Hid (∀ b ∈ (L s).take i, b ≠ c) ∧ wr = w) (fun v7 _ => s.size - (RowKit.intOf v7).toNat)
  case atStart => exact ⟨0, rfl, Nat.zero_le _, by intro b hb; simp at hb, rfl⟩
  case round =>
    obtain ⟨i, rfl, hi, HN, hw1⟩ := hrel
    subst hw1
    by_cases hlt : i < s.size
    · have hv : (s[i]'hlt).toNat = bN s i := by rw [bN, get_in s i hlt]
      by_cases he : bN s i = C
      · have d1 : ((bN s i : Int) == (C : Int)) = true := by simp; omega
        have HE : Hid (U = ((L s).take i, (L s).drop (i + 1), true)) := by
          show _ = _
          rw [← unhide HU]
          have h1 : L s = (L s).take i ++ c :: (L s).drop (i + 1) := by
            have hc : s.get! i = c := by rw [get_eq]; rw [he, unhide HC]
            rw [← hc, ← drop_at s i hlt, List.take_append_drop]
          have := until_hit c ((L s).take i) ((L s).drop (i + 1)) HN.out
          rw [← h1] at this; exact this
        have e1 : s.extract 0 i = S ((L s).take i) := by rw [← ext_head, S_L]
        have e2 : s.extract (i + 1) s.size = S ((L s).drop (i + 1)) := by rw [← ext_tail, S_L]
        have E1 := hide e1
        have E2 := hide e2
        clear e1 e2
        go_wp2
        go_quiet (fail)
        go_wp2
        go_returns
        exact ⟨by rw [HE.out, ← unhide E1, ← unhide E2]; rfl, below_drewN (Below.refl _ _) _⟩
      · have d1 : ((bN s i : Int) == (C : Int)) = false := by simp; omega
        have HN2 : Hid (∀ b ∈ (L s).take (i + 1), b ≠ c) := by
          intro b hb
          rw [List.take_add_one, L_at s i hlt] at hb
          rcases List.mem_append.1 hb with h | h
          · exact HN.out b h
          · have : b = s.get! i := by simpa using h
            rw [this]; intro e; rw [get_eq, unhide HC] at e; exact he e
        go_wp2
        go_roundw
        case rel => exact ⟨i + 1, by go_num, by omega, HN2, trivial⟩
        case measure => simp [RowKit.intOf]; omega
    · obtain rfl : i = s.size := by omega
      have HE : Hid (U = (L s, [], false)) := by
        show _ = _
        rw [← unhide HU]
        refine until_miss c (L s) (fun b hb => HN.out b ?_)
        rw [List.take_of_length_le (by rw [L_len]; exact Nat.le_refl _)]; exact hb
      go_wp2
      go_returns
      exact ⟨by rw [HE.out, S_L]; rfl, Below.refl _ _⟩

set_option maxRecDepth 100000 in
set_option maxHeartbeats 2000000 in
theorem refFields_any (s : ByteArray) (w : World) (hs : s.size ≤ 1099511627776) :
    Calls Tryz.prog 40 #[.string s] w fun e w' => ∃ v, e = .returned v ∧ TextsAt w' w.heap.size v (fieldsB (L s)) ∧ Below w.heap.size w w' := by
  obtain ⟨i0, hi0, hz0, hz1, hz2⟩ := info_parts infoStr
  have HT := hide (fun (t : ByteArray) w (h : t.size ≤ 1099511627776) => refTrim_any t w h)
  have HUn := hide (fun (t : ByteArray) w (h : t.size ≤ 1099511627776) => refUntil_any t 59 w h)
  go_enter Tryz.func40, Tryz.ntmps40
  go_wp2_with fail
  refine (unhide HT s w hs).mono ?_
  rintro e w1 ⟨rfl, hw1⟩
  obtain rfl : w = w1 := hw1.symm
  by_cases h0 : trimB (L s) = []
  · have HF : Hid (fieldsB (L s) = []) := by show _ = _; unfold fieldsB; rw [if_pos h0]
    rw [h0]
    go_wp2
    go_ret
    exact ⟨_, rfl, by rw [HF.out]; exact World.ownsRow_nil _ _ _ _, Below.refl _ _⟩
  · have HF : Hid (fieldsB (L s) = (splitB (L s)).map trimB) := by show _ = _; unfold fieldsB; rw [if_neg h0]
    have d0 : (trimB (L s)).isEmpty = false := by simpa using h0
    clear h0
    go_wp2
    go_loopw [0, 3] (fun v0 v3 wr => ∃ (t : ByteArray) (pre : List (List UInt8)), v0 = .string t ∧ Hid (pre ++ (splitB (L t)).map trimB = (splitB (L s)).map trimB) ∧ pre.length + t.size ≤ s.size ∧ TextsAt wr w.heap.size v3 pre ∧ Below w.heap.size w wr) (fun v0 _ _ => strLen v0)
    case atStart => exact ⟨s, [], rfl, rfl, by simp, World.ownsRow_nil _ _ _ _, Below.refl _ _⟩
    case round =>
      obtain ⟨t, pre, rfl, HP, hl, hrow, hB⟩ := hrel
      have HSP := hide (split_until (L t))
      have hub := until_le 59 (L t)
      have hcs : (untilB 59 (L t)).2.2 = true → (untilB 59 (L t)).1.length + (untilB 59 (L t)).2.1.length + 1 = t.size := by
        intro h
        rcases until_cases 59 (L t) with ⟨_, h2⟩ | ⟨p, q, h1, _, h2⟩
        · rw [h2] at h; cases h
        · rw [h2, ← L_len t, h1]; simp; omega
      rw [L_len] at hub
      have HUt := hide (fun w => unhide HUn t w (by omega))
      generalize untilB 59 (L t) = U at *
      obtain ⟨one, more, is⟩ := U
      have hs1 := S_size one
      have hs2 := S_size more
      have HT1 := hide (fun w => (unhide HT (S one) w (by simp only [] at hub; omega)).mono fun e w' (h : _ ∧ w' = w) => (⟨h.1, h.2.symm⟩ : _ ∧ w = w'))
      simp only [] at hub hcs HUt HSP HT1
      rw [L_S] at HT1
      have HCS := hide hcs
      clear hcs
      go_wp2_with fail
      refine (unhide HUt _).mono ?_
      rintro e w2 ⟨rfl, hb2⟩
      have hrow2 := rowB hrow hb2
      have hB2 := hB.trans (hb2.mono hB.size)
      have hBs := hB2.size
      clear hrow hB hb2
      obtain ⟨a, c, rfl⟩ := row_slice2 hrow2
      cases is with
      | true =>
        have h1 := unhide HCS rfl
        have HP2 : Hid (pre ++ [trimB one] ++ (splitB (L (S more))).map trimB = (splitB (L s)).map trimB) := by
          show _ = _
          rw [← HP.out, unhide HSP, L_S]; simp
        go_wp2_with (first
          | (go_at_call 58; refine (unhide HT1 _).mono ?_; rintro e w3 ⟨rfl, rfl⟩)
          | (at_builtin; refine wpList_append_own _ rfl _ _ 39 rfl w.heap.size 9 i0 (.string ⟨#[]⟩) 1 16 Tryz.underlying39 hi0 hz0 hz1 hz2 rfl (by decide) _ _ _ rfl (hrow2.alloc _) ⟨w2.heap.size, 0, none⟩ 1 1 [.string (S (trimB one))] rfl rfl (cell_one_new _ _ _) (by simp [Value.oneCell']) (by unfold maxLen; omega) (by omega) (by simp; omega) ?_; intro v' w4 hown' hgrow _))
        have HSNOC : Hid (strVs ((pre ++ [trimB one]).map S) = strVs (pre.map S) ++ [.string (S (trimB one))]) := by show _ = _; simp
        have hrow4 : TextsAt w4 w.heap.size v' (pre ++ [trimB one]) := by
          show World.ownsRow _ _ _ _ _ _ _
          rw [HSNOC.out, List.length_append]; exact hown'
        have hB4 := belowG (hB2.alloc hBs _) (by simp; omega) (hrow2.alloc _) hgrow
        go_roundw
        case rel => exact ⟨S more, pre ++ [trimB one], rfl, HP2, by simp; omega, hrow4, hB4⟩
        case measure => simp only [strLen]; omega
      | false =>
        have HE : Hid (fieldsB (L s) = pre ++ [trimB one]) := by
          show _ = _
          rw [HF.out, ← HP.out, unhide HSP]; simp
        go_wp2_with (first
          | (go_at_call 58; refine (unhide HT1 _).mono ?_; rintro e w3 ⟨rfl, rfl⟩)
          | (at_builtin; refine wpList_append_own _ rfl _ _ 39 rfl w.heap.size 9 i0 (.string ⟨#[]⟩) 1 16 Tryz.underlying39 hi0 hz0 hz1 hz2 rfl (by decide) _ _ _ rfl (hrow2.alloc _) ⟨w2.heap.size, 0, none⟩ 1 1 [.string (S (trimB one))] rfl rfl (cell_one_new _ _ _) (by simp [Value.oneCell']) (by unfold maxLen; omega) (by omega) (by simp; omega) ?_; intro v' w4 hown' hgrow _))
        have HSNOC : Hid (strVs ((pre ++ [trimB one]).map S) = strVs (pre.map S) ++ [.string (S (trimB one))]) := by show _ = _; simp
        have hrow4 : TextsAt w4 w.heap.size v' (pre ++ [trimB one]) := by
          show World.ownsRow _ _ _ _ _ _ _
          rw [HSNOC.out, List.length_append]; exact hown'
        have hB4 := belowG (hB2.alloc hBs _) (by simp; omega) (hrow2.alloc _) hgrow
        go_ret
        exact ⟨_, rfl, by rw [HE.out]; exact hrow4, hB4⟩

set_option maxRecDepth 100000 in
theorem refParts_any (s : ByteArray) (w : World) (hs : s.size ≤ 1099511627776) :
    Calls Tryz.prog 36 #[.string s] w fun e w' => e = .returned (.tuple #[.string (S (trimB (untilB 35 (L s)).1)), .string (S (trimB (untilB 35 (L s)).2.1))]) ∧ Below w.heap.size w w' := by
  have hub := until_le 35 (L s)
  rw [L_len] at hub
  have HUt := hide (fun w => refUntil_any s 35 w hs)
  generalize untilB 35 (L s) = U at *
  obtain ⟨one, more, is⟩ := U
  have hs1 := S_size one
  have hs2 := S_size more
  simp only [] at hub HUt ⊢
  have HT1 := hide (fun w => (refTrim_any (S one) w (by omega)).mono fun e w' (h : _ ∧ w' = w) => (⟨h.1, h.2.symm⟩ : _ ∧ w = w'))
  have HT2 := hide (fun w => (refTrim_any (S more) w (by omega)).mono fun e w' (h : _ ∧ w' = w) => (⟨h.1, h.2.symm⟩ : _ ∧ w = w'))
  rw [L_S] at HT1 HT2
  go_enter Tryz.func36, Tryz.ntmps36
  go_wp2_with fail
  refine (unhide HUt _).mono ?_
  rintro e w2 ⟨rfl, hb2⟩
  go_wp2_with fail
  refine (unhide HT1 _).mono ?_
  rintro e w3 ⟨rfl, rfl⟩
  go_wp2_with fail
  refine (unhide HT2 _).mono ?_
  rintro e w3 ⟨rfl, rfl⟩
  go_wp2
  go_ret2
  exact ⟨rfl, hb2⟩

set_option maxRecDepth 100000 in
theorem refCut_any (s : ByteArray) (w : World) (hs : s.size ≤ 1099511627776) :
    Calls Tryz.prog 37 #[.string s] w fun e w' => ∃ v, e = .returned (.tuple #[v, .string (S (cutS s).2)]) ∧ TextsAt w' w.heap.size v (cutS s).1 ∧ Below w.heap.size w w' := by
  rw [cut_doc]
  unfold docCut
  simp only []
  have hub := until_le 35 (L s)
  have htb := trimB_le (untilB 35 (L s)).1
  rw [L_len] at hub
  have HP := hide (fun w => refParts_any s w hs)
  generalize trimB (untilB 35 (L s)).1 = A at *
  generalize trimB (untilB 35 (L s)).2.1 = B at *
  have hs1 := S_size A
  have HF := hide (fun w => refFields_any (S A) w (by omega))
  rw [L_S] at HF
  go_enter Tryz.func37, Tryz.ntmps37
  go_wp2_with fail
  refine (unhide HP _).mono ?_
  rintro e w2 ⟨rfl, hb2⟩
  go_wp2_with fail
  refine (unhide HF _).mono ?_
  rintro e w3 ⟨v, rfl, hrow, hb3⟩
  go_wp2
  go_ret2
  exact ⟨v, rfl, row_base hrow hb2.size, hb2.trans (hb3.mono hb2.size)⟩

end Go.Proofs.YtlaennakglhmjaaGreatDoor

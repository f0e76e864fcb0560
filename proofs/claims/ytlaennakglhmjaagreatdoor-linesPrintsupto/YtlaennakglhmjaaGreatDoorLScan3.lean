/-
  Scan of package lines, for every text.
-/
import Derived.Test.YtlaennakglhmjaaGreatDoorLScan2
namespace Go.Proofs.YtlaennakglhmjaaGreatDoor
open Go.RowKit Go.PlainAid Go.Lib Go.Shelf
set_option linter.unusedVariables false

abbrev missingL : List UInt8 := [64, 109, 105, 115, 115, 105, 110, 103, 58]
/-- a line that is no order -/
def plainS (no : Int) (s : ByteArray) : LineD :=
  if (cutS s).1 ≠ [] then ⟨no, 1, [], (cutS s).1, (cutS s).2⟩
  else if hasPrefix (cutS s).2 missingL = true then ⟨no, 3, [], (cutS (S ((cutS s).2.drop 9))).1, (cutS (S ((cutS s).2.drop 9))).2⟩
  else ⟨no, 0, [], [], (cutS s).2⟩
/-- what a line is, or why it is none -/
def scanS (no : Int) (s : ByteArray) : LineD × Int :=
  if (chkS s).2 ≠ 0 then (zeroD, (chkS s).2)
  else if hasPrefix (trimB (L s)) [64] = true then orderS no ((trimB (L s)).drop 1)
  else (plainS no s, 0)
theorem trimB_le (l : List UInt8) : (trimB l).length ≤ l.length := by
  unfold trimB trimS trimLeftS trimRightS
  refine Nat.le_trans ((List.dropWhile_sublist _).length_le) ?_
  rw [List.length_reverse]
  refine Nat.le_trans ((List.dropWhile_sublist _).length_le) ?_
  rw [List.length_reverse]; exact Nat.le_refl _
theorem mach_note_le : ∀ (l : List UInt8) (n : Nat) (cur pend : List UInt8), (mach n cur pend l).2.length ≤ l.length
  | [], n, cur, pend => by simp [mach]
  | b :: l, n, cur, pend => by
    unfold mach
    have h1 := mach_note_le l n [] []
    have h2 := mach_note_le l n cur (pend ++ [b])
    have h3 := mach_note_le l (n + 1) [] []
    have h4 := mach_note_le l n (cur ++ pend ++ [b]) []
    have h5 := trimB_le l
    (repeat' split) <;> simp only [List.length_cons] <;> omega
theorem prefix_trim (l p : List UInt8) (h : hasPrefix l p = true) : trimPrefix l p = l.drop p.length := by simp [trimPrefix, h]
theorem prefix_not (l p : List UInt8) (h : hasPrefix l p = false) : trimPrefix l p = l := by simp [trimPrefix, h]

set_option maxRecDepth 100000 in
set_option maxHeartbeats 4000000 in
theorem scan_any (no : Int) (s : ByteArray) (w : World) (hs : s.size ≤ 1099511627776) :
    Calls Tryz.prog 16 #[.int .i64 no, .string s] w fun e w' => ∃ v, e = .returned (.tuple #[lineV (scanS no s).1 v, .int .i64 (scanS no s).2]) ∧ TextsAt w' w.heap.size v (scanS no s).1.fields ∧ Below w.heap.size w w' := by
  have hmx : s.size ≤ maxLen := by unfold maxLen; omega
  have hK := fun w => check3_any s w hmx
  have HB0 : Hid (∀ w1, Below (w.alloc zeroBlk).heap.size (w.alloc zeroBlk) w1 → w1.heap[w.heap.size]? = some zeroBlk ∧ Below w.heap.size w w1) := fun w1 hb1 =>
    ⟨(hb1.block w.heap.size (by simp)).trans (heap_alloc_new w _), ((Below.refl _ w).alloc (Nat.le_refl _) _).trans (hb1.mono (by simp))⟩
  have HBn : Hid (∀ w1 w2 : World, w1.heap[w.heap.size]? = some zeroBlk ∧ Below w.heap.size w w1 → Below w1.heap.size w1 w2 → w2.heap[w.heap.size]? = some zeroBlk ∧ Below w.heap.size w w2) := fun w1 w2 h hb =>
    ⟨(hb.block w.heap.size (Array.getElem?_eq_some_iff.1 h.1).1).trans h.1, h.2.trans (hb.mono h.2.size)⟩
  have HLT : Hid (∀ w1 : World, w1.heap[w.heap.size]? = some zeroBlk ∧ Below w.heap.size w w1 → w.heap.size < w1.heap.size) := fun w1 h => (Array.getElem?_eq_some_iff.1 h.1).1
  unfold scanS
  obtain ⟨K1, K2, hKK⟩ : ∃ K1 K2, chkS s = (K1, K2) := ⟨_, _, rfl⟩
  simp only [hKK] at hK ⊢
  clear hKK
  have HK := hide hK
  clear hK
  by_cases k1 : K2 = 0
  case neg =>
    rw [if_pos k1]
    have d1 : (K2 != 0) = true := by simpa using k1
    go_enter Tryz.func16, Tryz.ntmps16
    go_wp2_with fail
    refine (unhide HK _).mono ?_
    rintro e w1 ⟨rfl, hb1⟩
    have h1 := unhide HB0 w1 hb1
    obtain ⟨c0, c1, c2, c3, c4, f0, f1, f2, f3, f4⟩ := box5 h1.1
    have H1 := hide h1
    clear h1 hb1 k1
    go_wp2
    obtain ⟨W5, hW5, hb5, hB5, hr5, -, -⟩ := set5 (unhide H1).1 (.int .i64 0) (.int .u8 0) (.string ⟨#[]⟩) (.slice none 0 0) (.string ⟨#[]⟩)
    rw [hW5]
    refine bodyPost_ret (results_line rfl _ _ _ _ _ _ _ _ rfl hb5) rfl ?_
    exact ⟨.slice none 0 0, rfl, World.ownsRow_nil _ _ _ _, hB5 _ _ (unhide H1).2 (Nat.le_refl _)⟩
  case pos =>
    subst k1
    rw [if_neg (by simp)]
    have htl := trimB_le (L s)
    rw [L_len] at htl
    have hT := fun w => trim_any s w hmx
    have hP := fun w => Tryz.strings_CutPrefix (S (trimB (L s))) ⟨#[64]⟩ w
    rw [show (S (trimB (L s))).data.toList = trimB (L s) from L_S _] at hP
    obtain ⟨T, hTT⟩ : ∃ T, trimB (L s) = T := ⟨_, rfl⟩
    simp only [hTT] at hT hP htl ⊢
    clear hTT
    have HT := hide hT
    clear hT
    cases k2 : hasPrefix T [64] with
    | true =>
      rw [if_pos rfl]
      have hP' : ∀ w, Calls Tryz.prog 28 #[.string (S T), .string ⟨#[64]⟩] w fun e w' => e = .returned (.tuple #[.string (S (T.drop 1)), .bool true]) ∧ w = w' := fun w => (hP w).mono fun e w' ⟨a, b⟩ => ⟨by rw [a, k2, prefix_trim _ _ k2]; rfl, b.symm⟩
      have hO := fun w => scanOrder_any no (S (T.drop 1)) w (by rw [S_size, List.length_drop]; omega)
      rw [L_S] at hO
      obtain ⟨O1, O2, hOO⟩ : ∃ O1 O2, orderS no (T.drop 1) = (O1, O2) := ⟨_, _, rfl⟩
      simp only [hOO] at hO ⊢
      clear hOO k2 hP
      have HP := hide hP'
      have HO := hide hO
      clear hP' hO
      generalize T.drop 1 = T1 at *
      go_enter Tryz.func16, Tryz.ntmps16
      go_wp2_with fail
      refine (unhide HK _).mono ?_
      rintro e w1 ⟨rfl, hb1⟩
      have H1 := hide (unhide HB0 w1 hb1)
      clear hb1
      go_wp2_with fail
      refine (unhide HT _).mono ?_
      rintro e w2 ⟨rfl, hb2⟩
      have H2 := hide (unhide HBn w1 w2 (unhide H1) hb2)
      clear hb2
      go_wp2_with fail
      refine (unhide HP _).mono ?_
      rintro e w3 ⟨rfl, rfl⟩
      go_wp2_with fail
      refine (unhide HO _).mono ?_
      rintro e w4 ⟨v, rfl, hrow, hb4⟩
      have h4 := unhide HBn w2 w4 (unhide H2) hb4
      obtain ⟨c0, c1, c2, c3, c4, f0, f1, f2, f3, f4⟩ := box5 h4.1
      obtain ⟨a, c, rfl⟩ := row_slice2 hrow
      have H4 := hide h4
      have HR := hide hrow
      clear h4 hb4 hrow
      go_wp2
      obtain ⟨W5, hW5, hb5, hB5, hr5, -, -⟩ := set5 (unhide H4).1 (.int .i64 O1.no) (.int .u8 O1.kind) (.string (S O1.name)) (.slice a O1.fields.length c) (.string (S O1.note))
      rw [hW5]
      refine bodyPost_ret (results_line rfl _ _ _ _ _ _ _ _ rfl hb5) rfl ?_
      have hl := unhide HLT _ (unhide H2)
      exact ⟨_, rfl, row_base (hr5 _ _ _ _ _ _ (unhide HR) hl) (Nat.le_of_lt hl), hB5 _ _ (unhide H4).2 (Nat.le_refl _)⟩
    | false =>
      rw [if_neg (by simp)]
      have hP' : ∀ w, Calls Tryz.prog 28 #[.string (S T), .string ⟨#[64]⟩] w fun e w' => e = .returned (.tuple #[.string (S T), .bool false]) ∧ w = w' := fun w => (hP w).mono fun e w' ⟨a, b⟩ => ⟨by rw [a, k2, prefix_not _ _ k2], b.symm⟩
      have hC := fun w => cut_any s w hs
      have hml := mach_note_le (L s) 0 [] []
      have hnl : (cutS s).2.length ≤ s.size := by rw [← L_len]; exact hml
      unfold plainS
      obtain ⟨C1, C2, hCC⟩ : ∃ C1 C2, cutS s = (C1, C2) := ⟨_, _, rfl⟩
      simp only [hCC] at hC hnl ⊢
      clear hCC k2 hP hml
      have HP := hide hP'
      have HC := hide hC
      clear hP' hC
      cases C1 with
      | cons x C1 =>
        rw [if_pos (by simp)]
        have d0 : 0 < (x :: C1).length := by simp
        generalize x :: C1 = C1 at *
        go_enter Tryz.func16, Tryz.ntmps16
        go_wp2_with fail
        refine (unhide HK _).mono ?_
        rintro e w1 ⟨rfl, hb1⟩
        have H1 := hide (unhide HB0 w1 hb1)
        clear hb1
        go_wp2_with fail
        refine (unhide HT _).mono ?_
        rintro e w2 ⟨rfl, hb2⟩
        have H2 := hide (unhide HBn w1 w2 (unhide H1) hb2)
        clear hb2
        go_wp2_with fail
        refine (unhide HP _).mono ?_
        rintro e w3 ⟨rfl, rfl⟩
        go_wp2_with fail
        refine (unhide HC _).mono ?_
        rintro e w4 ⟨v, rfl, hrow, hb4⟩
        have h4 := unhide HBn w2 w4 (unhide H2) hb4
        obtain ⟨a, c, rfl⟩ := row_slice2 hrow
        have hl2 := unhide HLT _ (unhide H2)
        obtain ⟨c0, c1, c2, c3, c4, f0, f1, f2, f3, f4⟩ := box5 h4.1
        have H4 := hide h4
        have HR := hide hrow
        clear h4 hb4 hrow
        go_wp2
        obtain ⟨W5, hW5, hb5, hB5, hr5, -, -⟩ := set5 (unhide H4).1 (.int .i64 no) (.int .u8 1) (.string ⟨#[]⟩) (.slice a C1.length c) (.string (S C2))
        rw [hW5]
        refine bodyPost_ret (results_line rfl _ _ _ _ _ _ _ _ rfl hb5) rfl ?_
        exact ⟨_, rfl, row_base (hr5 _ _ _ _ _ _ (unhide HR) hl2) (Nat.le_of_lt hl2), hB5 _ _ (unhide H4).2 (Nat.le_refl _)⟩
      | nil =>
        rw [if_neg (by simp)]
        have hM := fun w => Tryz.strings_CutPrefix (S C2) ⟨#[64, 109, 105, 115, 115, 105, 110, 103, 58]⟩ w
        rw [show (S C2).data.toList = C2 from L_S _] at hM
        cases k3 : hasPrefix C2 missingL with
        | false =>
          have hM' : ∀ w, Calls Tryz.prog 28 #[.string (S C2), .string ⟨#[64, 109, 105, 115, 115, 105, 110, 103, 58]⟩] w fun e w' => e = .returned (.tuple #[.string (S C2), .bool false]) ∧ w = w' := fun w => (hM w).mono fun e w' ⟨a, b⟩ => ⟨by rw [a, k3, prefix_not _ _ k3], b.symm⟩
          have HM := hide hM'
          rw [if_neg (by simp)]
          clear hM hM' k3
          go_enter Tryz.func16, Tryz.ntmps16
          go_wp2_with fail
          refine (unhide HK _).mono ?_
          rintro e w1 ⟨rfl, hb1⟩
          have H1 := hide (unhide HB0 w1 hb1)
          clear hb1
          go_wp2_with fail
          refine (unhide HT _).mono ?_
          rintro e w2 ⟨rfl, hb2⟩
          have H2 := hide (unhide HBn w1 w2 (unhide H1) hb2)
          clear hb2
          go_wp2_with fail
          refine (unhide HP _).mono ?_
          rintro e w3 ⟨rfl, rfl⟩
          go_wp2_with fail
          refine (unhide HC _).mono ?_
          rintro e w4 ⟨v, rfl, hrow, hb4⟩
          have h4 := unhide HBn w2 w4 (unhide H2) hb4
          obtain ⟨a, c, rfl⟩ := row_slice2 hrow
          have hl2 := unhide HLT _ (unhide H2)
          have H4 := hide h4
          have HR := hide hrow
          clear h4 hb4 hrow
          go_wp2_with fail
          refine (unhide HM _).mono ?_
          rintro e w5 ⟨rfl, rfl⟩
          obtain ⟨c0, c1, c2, c3, c4, f0, f1, f2, f3, f4⟩ := box5 (unhide H4).1
          go_wp2
          obtain ⟨W5, hW5, hb5, hB5, hr5, -, -⟩ := set5 (unhide H4).1 (.int .i64 no) (.int .u8 0) (.string ⟨#[]⟩) (.slice a 0 c) (.string (S C2))
          rw [hW5]
          refine bodyPost_ret (results_line rfl _ _ _ _ _ _ _ _ rfl hb5) rfl ?_
          exact ⟨_, rfl, row_base (hr5 _ _ _ _ _ _ (unhide HR) hl2) (Nat.le_of_lt hl2), hB5 _ _ (unhide H4).2 (Nat.le_refl _)⟩
        | true =>
          have hM' : ∀ w, Calls Tryz.prog 28 #[.string (S C2), .string ⟨#[64, 109, 105, 115, 115, 105, 110, 103, 58]⟩] w fun e w' => e = .returned (.tuple #[.string (S (C2.drop 9)), .bool true]) ∧ w = w' := fun w => (hM w).mono fun e w' ⟨a, b⟩ => ⟨by rw [a, k3, prefix_trim _ _ k3]; rfl, b.symm⟩
          have hD := fun w => cut_any (S (C2.drop 9)) w (by rw [S_size, List.length_drop]; omega)
          rw [if_pos rfl]
          obtain ⟨D1, D2, hDD⟩ : ∃ D1 D2, cutS (S (C2.drop 9)) = (D1, D2) := ⟨_, _, rfl⟩
          simp only [hDD] at hD ⊢
          have HM := hide hM'
          have HD := hide hD
          clear hM hM' k3 hDD hD
          generalize C2.drop 9 = C9 at *
          go_enter Tryz.func16, Tryz.ntmps16
          go_wp2_with fail
          refine (unhide HK _).mono ?_
          rintro e w1 ⟨rfl, hb1⟩
          have H1 := hide (unhide HB0 w1 hb1)
          clear hb1
          go_wp2_with fail
          refine (unhide HT _).mono ?_
          rintro e w2 ⟨rfl, hb2⟩
          have H2 := hide (unhide HBn w1 w2 (unhide H1) hb2)
          clear hb2
          go_wp2_with fail
          refine (unhide HP _).mono ?_
          rintro e w3 ⟨rfl, rfl⟩
          go_wp2_with fail
          refine (unhide HC _).mono ?_
          rintro e w4 ⟨v, rfl, hrow, hb4⟩
          have h4 := unhide HBn w2 w4 (unhide H2) hb4
          obtain ⟨a, c, rfl⟩ := row_slice2 hrow
          have hl2 := unhide HLT _ (unhide H2)
          have H4 := hide h4
          clear h4 hb4 hrow
          go_wp2_with fail
          refine (unhide HM _).mono ?_
          rintro e w5 ⟨rfl, rfl⟩
          go_wp2_with fail
          refine (unhide HD _).mono ?_
          rintro e w6 ⟨v, rfl, hrow, hb6⟩
          have h6 := unhide HBn w4 w6 (unhide H4) hb6
          have hl4 := unhide HLT _ (unhide H4)
          obtain ⟨a', c', rfl⟩ := row_slice2 hrow
          obtain ⟨c0, c1, c2, c3, c4, f0, f1, f2, f3, f4⟩ := box5 h6.1
          have H6 := hide h6
          have HR := hide hrow
          clear h6 hb6 hrow
          go_wp2
          obtain ⟨W5, hW5, hb5, hB5, hr5, -, -⟩ := set5 (unhide H6).1 (.int .i64 no) (.int .u8 3) (.string ⟨#[]⟩) (.slice a' D1.length c') (.string (S D2))
          rw [hW5]
          refine bodyPost_ret (results_line rfl _ _ _ _ _ _ _ _ rfl hb5) rfl ?_
          exact ⟨_, rfl, row_base (hr5 _ _ _ _ _ _ (unhide HR) hl4) (Nat.le_of_lt hl4), hB5 _ _ (unhide H6).2 (Nat.le_refl _)⟩
end Go.Proofs.YtlaennakglhmjaaGreatDoor

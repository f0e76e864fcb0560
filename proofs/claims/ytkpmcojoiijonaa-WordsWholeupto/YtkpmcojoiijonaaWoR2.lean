/-
  The document's answer for layer 5: Loose, Side.
-/
import Derived.Test.YtkpmcojoiijonaaWoG
import Derived.Test.YtkpmcojoiijonaaRefRunes
namespace Go.Proofs.Ytkpmcojoiijonaa
open Go.RowKit Go.PlainAid Go.Lib
set_option linter.unusedVariables false

abbrev looseI (l : List Int) : List Value := (looseL l).map (Value.int .i32)
theorem looseI_yes (l : List Int) (r : Int) (h : countsB r = true) : looseI (l ++ [r]) = looseI l ++ [.int .i32 (smallN r)] := by
  unfold looseI; rw [looseL_snoc_yes _ _ h, List.map_append]; rfl
theorem looseI_no (l : List Int) (r : Int) (h : countsB r = false) : looseI (l ++ [r]) = looseI l := by
  unfold looseI; rw [looseL_snoc_no _ _ h]

set_option maxRecDepth 100000 in
set_option maxHeartbeats 2000000 in
theorem rLoose_any (s : ByteArray) (w : World) (hs : s.size ≤ 1099511627776) :
    Calls Try.prog 19 #[.string s] w fun e w' => e = .returned (.string (looseB s)) ∧ Below w.heap.size w w' := by
  obtain ⟨i0, hi, hz0, hz1, hz2⟩ := info_parts infoRune
  have hcl := chars_length s 0
  have HLB : Hid (looseB s = runesBytes (looseL (runeInts s))) := rfl
  have HRL : Hid ((runeInts s).length = (chars s 0).length) := runeInts_len s
  have hsc : ∀ z ∈ runeInts s, 0 ≤ z ∧ z ≤ 1114111 := by
    intro z hz
    have := nums_scalar s z hz
    unfold scalarB at this; simp at this; omega
  have HSC := hide hsc
  clear hsc
  go_enter Try.func19, Try.ntmps19
  go_wp2_with fail
  refine (refRunes_any s w hs).mono ?_
  rintro e w1 ⟨v, rfl, hrow, hb1⟩
  obtain ⟨la, lc, rfl⟩ := row_sliceC hrow
  generalize hzs : runeInts s = zs at *
  generalize hL : (chars s 0).length = L at *
  clear hzs hL
  have HR1 := hide (reads_own hrow)
  clear hrow
  go_wp2
  go_loopw [4, 5] (fun v4 v5 wr => ∃ k : Nat, k ≤ L ∧ v5 = .int .i64 k ∧ wr.ownsRow w1.heap.size 21 1 v4 (looseI (zs.take k)).length (looseI (zs.take k)) ∧ Below w1.heap.size w1 wr) (fun _ v5 _ => L - (intOf v5).toNat)
  case atStart => exact ⟨0, Nat.zero_le _, rfl, by simpa [looseI, looseL] using World.ownsRow_nil w1 _ _ _, Below.refl _ _⟩
  case round =>
    obtain ⟨k, hk, rfl, hrow, hB⟩ := hrel
    by_cases hlt : k < L
    · have hkz : k < zs.length := by rw [unhide HRL]; exact hlt
      obtain ⟨g, off, rfl, hcell⟩ := (unhide HR1).below hB k hkz
      simp only [List.getD_eq_getElem?_getD] at hcell
      have hts : zs.take (k + 1) = zs.take k ++ [zs[k]?.getD 0] := by have := take_snoc' zs k hkz; simpa [List.getD_eq_getElem?_getD] using this
      have hrb := unhide HSC (zs[k]?.getD 0) (by rw [List.getElem?_eq_getElem hkz]; exact List.getElem_mem hkz)
      generalize hr : zs[k]?.getD 0 = r at *
      obtain ⟨hr0, hr1⟩ := hrb
      have hll : (looseI (zs.take k)).length ≤ k := by
        have h1 := looseL_len (zs.take k)
        rw [List.length_take] at h1
        simp only [looseI, List.length_map]; omega
      have hBs := hB.size
      obtain ⟨a', n', c', rfl⟩ : ∃ a' n' c', u4 = .slice a' n' c' := by
        rcases hrow.2 with ⟨rfl, _⟩ | ⟨g, cap, cur, rfl, _⟩
        · exact ⟨_, _, _, rfl⟩
        · exact ⟨_, _, _, rfl⟩
      cases hbl : blankB r with
      | true =>
        have hcf : countsB r = false := by unfold countsB; rw [hbl]; simp
        have HV : Hid (looseI (zs.take (k + 1)) = looseI (zs.take k)) := by show _ = _; rw [hts, looseI_no _ _ hcf]
        have HB := hide hbl
        clear hts hcf hr hbl
        go_wp2_with (go_at_call 14; refine (rBlank_any _ wr).mono ?_; rintro e w' ⟨rfl, hw⟩; obtain rfl : wr = w' := hw.symm; rw [unhide HB])
        go_roundw
        case rel => exact ⟨k + 1, by omega, by go_num, by rw [unhide HV]; exact hrow, hB⟩
        case measure => simp [intOf]; omega
      | false =>
        by_cases h95 : r = 95
        · subst h95
          have HV : Hid (looseI (zs.take (k + 1)) = looseI (zs.take k)) := by show _ = _; rw [hts, looseI_no _ _ (by decide)]
          have HB := hide hbl
          clear hts hr hbl
          go_wp2_with (go_at_call 14; refine (rBlank_any _ wr).mono ?_; rintro e w' ⟨rfl, hw⟩; obtain rfl : wr = w' := hw.symm; rw [unhide HB])
          go_roundw
          case rel => exact ⟨k + 1, by omega, by go_num, by rw [unhide HV]; exact hrow, hB⟩
          case measure => simp [intOf]; omega
        · by_cases h45 : r = 45
          · subst h45
            have HV : Hid (looseI (zs.take (k + 1)) = looseI (zs.take k)) := by show _ = _; rw [hts, looseI_no _ _ (by decide)]
            have HB := hide hbl
            clear hts hr hbl h95
            go_wp2_with (go_at_call 14; refine (rBlank_any _ wr).mono ?_; rintro e w' ⟨rfl, hw⟩; obtain rfl : wr = w' := hw.symm; rw [unhide HB])
            go_roundw
            case rel => exact ⟨k + 1, by omega, by go_num, by rw [unhide HV]; exact hrow, hB⟩
            case measure => simp [intOf]; omega
          · have g95 : (r == 95) = false := by simp [h95]
            have g45 : (r == 45) = false := by simp [h45]
            have hct : countsB r = true := by unfold countsB; simp [h95, h45, hbl]
            have HB := hide hbl
            clear hbl
            by_cases hcap : 65 ≤ r ∧ r ≤ 90
            · have hsm : smallN r = r + 32 := by unfold smallN; rw [if_pos hcap]
              have HV : Hid (looseI (zs.take (k + 1)) = looseI (zs.take k) ++ [.int .i32 (r + 32)]) := by show _ = _; rw [hts, looseI_yes _ _ hct, hsm]
              obtain ⟨q1, q2⟩ := hcap
              clear hts hct hr hsm h95 h45
              generalize looseI (zs.take k) = lv at *
              go_wp2_with (first | (go_at_call 14; refine (rBlank_any _ wr).mono ?_; rintro e w' ⟨rfl, hw⟩; obtain rfl : wr = w' := hw.symm; rw [unhide HB]) | (at_builtin; refine wpList_append_own _ rfl _ _ 64 rfl w1.heap.size 21 i0 (.int .i32 0) 1 4 Try.underlying64 hi hz0 hz1 hz2 rfl (by decide) _ _ _ rfl (hrow.alloc _) ⟨wr.heap.size, 0, none⟩ 1 1 [.int .i32 (r + 32)] rfl rfl (cell_one_new _ _ _) (by simp [Value.oneCell']) (by unfold maxLen; omega) (by omega) (by simp; omega) ?_; intro v' w4 hown' hgrow _))
              have hB2 := below_grown2 (hB.alloc hBs _) (by simp; omega) (hrow.alloc _) hgrow
              go_roundw
              case rel => exact ⟨k + 1, by omega, by go_num, by rw [unhide HV, List.length_append]; exact hown', hB2⟩
              case measure => simp [intOf]; omega
            · have hsm : smallN r = r := by unfold smallN; rw [if_neg hcap]
              have HV : Hid (looseI (zs.take (k + 1)) = looseI (zs.take k) ++ [.int .i32 r]) := by show _ = _; rw [hts, looseI_yes _ _ hct, hsm]
              have hcap' : r < 65 ∨ (65 ≤ r ∧ 90 < r) := by omega
              clear hts hct hr hsm h95 h45 hcap
              generalize looseI (zs.take k) = lv at *
              rcases hcap' with q1 | ⟨q1, q2⟩
              all_goals
                go_wp2_with (first | (go_at_call 14; refine (rBlank_any _ wr).mono ?_; rintro e w' ⟨rfl, hw⟩; obtain rfl : wr = w' := hw.symm; rw [unhide HB]) | (at_builtin; refine wpList_append_own _ rfl _ _ 64 rfl w1.heap.size 21 i0 (.int .i32 0) 1 4 Try.underlying64 hi hz0 hz1 hz2 rfl (by decide) _ _ _ rfl (hrow.alloc _) ⟨wr.heap.size, 0, none⟩ 1 1 [.int .i32 r] rfl rfl (cell_one_new _ _ _) (by simp [Value.oneCell']) (by unfold maxLen; omega) (by omega) (by simp; omega) ?_; intro v' w4 hown' hgrow _))
                have hB2 := below_grown2 (hB.alloc hBs _) (by simp; omega) (hrow.alloc _) hgrow
                go_roundw
                case rel => exact ⟨k + 1, by omega, by go_num, by rw [unhide HV, List.length_append]; exact hown', hB2⟩
                case measure => simp [intOf]; omega
    · obtain rfl : k = L := by omega
      have hte : zs.take k = zs := List.take_of_length_le (by rw [unhide HRL]; exact Nat.le_refl _)
      rw [hte] at hrow
      have hlen : (looseI zs).length = (looseL zs).length := List.length_map _
      rw [hlen] at hrow
      obtain ⟨a', c', rfl⟩ := row_sliceC hrow
      have hzl : (looseL zs).length ≤ 1099511627776 := by have h1 := looseL_len zs; rw [unhide HRL] at h1; omega
      have HE := hide (refEncode_any a' c' (looseL zs) wr (reads_own hrow) hzl)
      clear hte hlen hrow
      generalize looseL zs = ys at *
      go_wp2_with (go_at_call 46; refine (unhide HE).mono ?_; rintro e w2 ⟨rfl, hb2⟩)
      go_ret
      have hB1 := hb1.trans (hB.mono hb1.size)
      exact ⟨ret_str HLB.out.symm, hB1.trans (hb2.mono hB1.size)⟩
set_option maxHeartbeats 1000000 in
theorem rSide_any (s : ByteArray) (w : World) (hs : s.size ≤ 1099511627776) :
    Calls Try.prog 24 #[.string s] w fun e w' => e = .returned (.tuple #[.int .u8 (sideN (looseB s)), .int .i64 (sideE (looseB s))]) ∧ Below w.heap.size w w' := by
  have hl := rLoose_any s w hs
  generalize looseB s = t at *
  have HL := hide hl
  clear hl
  rcases sides t with rfl | rfl | rfl | rfl | rfl | rfl | ⟨g0, g1, g2, g3, g4, g5, e0, e1⟩
  case inr.inr.inr.inr.inr.inr =>
    rw [e0, e1]
    clear e0 e1
    go_enter Try.func24, Try.ntmps24
    go_wp2_with (go_at_call 19; refine (unhide HL).mono ?_; rintro e w1 ⟨rfl, hb1⟩)
    go_ret2
    exact ⟨rfl, hb1⟩
  all_goals
    go_enter Try.func24, Try.ntmps24
    go_wp2_with (go_at_call 19; refine (unhide HL).mono ?_; rintro e w1 ⟨rfl, hb1⟩)
    go_ret2
    exact ⟨ret_int2 (by decide) (by decide), hb1⟩

end Go.Proofs.Ytkpmcojoiijonaa

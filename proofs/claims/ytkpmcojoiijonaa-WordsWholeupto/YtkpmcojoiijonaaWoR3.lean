/-
  The document's answer for layer 5: Class.
-/
import Derived.Test.YtkpmcojoiijonaaWoR
import Derived.Test.YtkpmcojoiijonaaWoR2
namespace Go.Proofs.Ytkpmcojoiijonaa
open Go.RowKit Go.PlainAid Go.Lib
set_option linter.unusedVariables false

theorem cls_back : ∀ k : Fin 23, classN (looseB (shortS ((k.1 + 1 : Nat) : Int))) = ((k.1 + 1 : Nat) : Int) ∧ classN (looseB (longS ((k.1 + 1 : Nat) : Int))) = ((k.1 + 1 : Nat) : Int) := by decide +kernel
theorem cls_yes (t : ByteArray) (k : Nat) (h0 : 1 ≤ k) (h1 : k ≤ 23) (h : t = looseB (shortS (k : Int)) ∨ t = looseB (longS (k : Int))) : classN t = (k : Int) := by
  obtain ⟨j, rfl⟩ : ∃ j, k = j + 1 := ⟨k - 1, by omega⟩
  have := cls_back ⟨j, by omega⟩
  rcases h with rfl | rfl
  · exact this.1
  · exact this.2
theorem ls1 : looseB (shortS (1 : Nat)) = ⟨#[108]⟩ := by decide +kernel
theorem ll1 : looseB (longS (1 : Nat)) = ⟨#[108, 101, 102, 116, 116, 111, 114, 105, 103, 104, 116]⟩ := by decide +kernel
theorem ls2 : looseB (shortS (2 : Nat)) = ⟨#[114]⟩ := by decide +kernel
theorem ll2 : looseB (longS (2 : Nat)) = ⟨#[114, 105, 103, 104, 116, 116, 111, 108, 101, 102, 116]⟩ := by decide +kernel
theorem ls3 : looseB (shortS (3 : Nat)) = ⟨#[97, 108]⟩ := by decide +kernel
theorem ll3 : looseB (longS (3 : Nat)) = ⟨#[97, 114, 97, 98, 105, 99, 108, 101, 116, 116, 101, 114]⟩ := by decide +kernel
theorem ls4 : looseB (shortS (4 : Nat)) = ⟨#[101, 110]⟩ := by decide +kernel
theorem ll4 : looseB (longS (4 : Nat)) = ⟨#[101, 117, 114, 111, 112, 101, 97, 110, 110, 117, 109, 98, 101, 114]⟩ := by decide +kernel
theorem ls5 : looseB (shortS (5 : Nat)) = ⟨#[101, 115]⟩ := by decide +kernel
theorem ll5 : looseB (longS (5 : Nat)) = ⟨#[101, 117, 114, 111, 112, 101, 97, 110, 115, 101, 112, 97, 114, 97, 116, 111, 114]⟩ := by decide +kernel
theorem ls6 : looseB (shortS (6 : Nat)) = ⟨#[101, 116]⟩ := by decide +kernel
theorem ll6 : looseB (longS (6 : Nat)) = ⟨#[101, 117, 114, 111, 112, 101, 97, 110, 116, 101, 114, 109, 105, 110, 97, 116, 111, 114]⟩ := by decide +kernel
theorem ls7 : looseB (shortS (7 : Nat)) = ⟨#[97, 110]⟩ := by decide +kernel
theorem ll7 : looseB (longS (7 : Nat)) = ⟨#[97, 114, 97, 98, 105, 99, 110, 117, 109, 98, 101, 114]⟩ := by decide +kernel
theorem ls8 : looseB (shortS (8 : Nat)) = ⟨#[99, 115]⟩ := by decide +kernel
theorem ll8 : looseB (longS (8 : Nat)) = ⟨#[99, 111, 109, 109, 111, 110, 115, 101, 112, 97, 114, 97, 116, 111, 114]⟩ := by decide +kernel
theorem ls9 : looseB (shortS (9 : Nat)) = ⟨#[110, 115, 109]⟩ := by decide +kernel
theorem ll9 : looseB (longS (9 : Nat)) = ⟨#[110, 111, 110, 115, 112, 97, 99, 105, 110, 103, 109, 97, 114, 107]⟩ := by decide +kernel
theorem ls10 : looseB (shortS (10 : Nat)) = ⟨#[98, 110]⟩ := by decide +kernel
theorem ll10 : looseB (longS (10 : Nat)) = ⟨#[98, 111, 117, 110, 100, 97, 114, 121, 110, 101, 117, 116, 114, 97, 108]⟩ := by decide +kernel
theorem ls11 : looseB (shortS (11 : Nat)) = ⟨#[98]⟩ := by decide +kernel
theorem ll11 : looseB (longS (11 : Nat)) = ⟨#[112, 97, 114, 97, 103, 114, 97, 112, 104, 115, 101, 112, 97, 114, 97, 116, 111, 114]⟩ := by decide +kernel
theorem ls12 : looseB (shortS (12 : Nat)) = ⟨#[115]⟩ := by decide +kernel
theorem ll12 : looseB (longS (12 : Nat)) = ⟨#[115, 101, 103, 109, 101, 110, 116, 115, 101, 112, 97, 114, 97, 116, 111, 114]⟩ := by decide +kernel
theorem ls13 : looseB (shortS (13 : Nat)) = ⟨#[119, 115]⟩ := by decide +kernel
theorem ll13 : looseB (longS (13 : Nat)) = ⟨#[119, 104, 105, 116, 101, 115, 112, 97, 99, 101]⟩ := by decide +kernel
theorem ls14 : looseB (shortS (14 : Nat)) = ⟨#[111, 110]⟩ := by decide +kernel
theorem ll14 : looseB (longS (14 : Nat)) = ⟨#[111, 116, 104, 101, 114, 110, 101, 117, 116, 114, 97, 108]⟩ := by decide +kernel
theorem ls15 : looseB (shortS (15 : Nat)) = ⟨#[108, 114, 101]⟩ := by decide +kernel
theorem ll15 : looseB (longS (15 : Nat)) = ⟨#[108, 101, 102, 116, 116, 111, 114, 105, 103, 104, 116, 101, 109, 98, 101, 100, 100, 105, 110, 103]⟩ := by decide +kernel
theorem ls16 : looseB (shortS (16 : Nat)) = ⟨#[108, 114, 111]⟩ := by decide +kernel
theorem ll16 : looseB (longS (16 : Nat)) = ⟨#[108, 101, 102, 116, 116, 111, 114, 105, 103, 104, 116, 111, 118, 101, 114, 114, 105, 100, 101]⟩ := by decide +kernel
theorem ls17 : looseB (shortS (17 : Nat)) = ⟨#[114, 108, 101]⟩ := by decide +kernel
theorem ll17 : looseB (longS (17 : Nat)) = ⟨#[114, 105, 103, 104, 116, 116, 111, 108, 101, 102, 116, 101, 109, 98, 101, 100, 100, 105, 110, 103]⟩ := by decide +kernel
theorem ls18 : looseB (shortS (18 : Nat)) = ⟨#[114, 108, 111]⟩ := by decide +kernel
theorem ll18 : looseB (longS (18 : Nat)) = ⟨#[114, 105, 103, 104, 116, 116, 111, 108, 101, 102, 116, 111, 118, 101, 114, 114, 105, 100, 101]⟩ := by decide +kernel
theorem ls19 : looseB (shortS (19 : Nat)) = ⟨#[112, 100, 102]⟩ := by decide +kernel
theorem ll19 : looseB (longS (19 : Nat)) = ⟨#[112, 111, 112, 100, 105, 114, 101, 99, 116, 105, 111, 110, 97, 108, 102, 111, 114, 109, 97, 116]⟩ := by decide +kernel
theorem ls20 : looseB (shortS (20 : Nat)) = ⟨#[108, 114, 105]⟩ := by decide +kernel
theorem ll20 : looseB (longS (20 : Nat)) = ⟨#[108, 101, 102, 116, 116, 111, 114, 105, 103, 104, 116, 105, 115, 111, 108, 97, 116, 101]⟩ := by decide +kernel
theorem ls21 : looseB (shortS (21 : Nat)) = ⟨#[114, 108, 105]⟩ := by decide +kernel
theorem ll21 : looseB (longS (21 : Nat)) = ⟨#[114, 105, 103, 104, 116, 116, 111, 108, 101, 102, 116, 105, 115, 111, 108, 97, 116, 101]⟩ := by decide +kernel
theorem ls22 : looseB (shortS (22 : Nat)) = ⟨#[102, 115, 105]⟩ := by decide +kernel
theorem ll22 : looseB (longS (22 : Nat)) = ⟨#[102, 105, 114, 115, 116, 115, 116, 114, 111, 110, 103, 105, 115, 111, 108, 97, 116, 101]⟩ := by decide +kernel
theorem ls23 : looseB (shortS (23 : Nat)) = ⟨#[112, 100, 105]⟩ := by decide +kernel
theorem ll23 : looseB (longS (23 : Nat)) = ⟨#[112, 111, 112, 100, 105, 114, 101, 99, 116, 105, 111, 110, 97, 108, 105, 115, 111, 108, 97, 116, 101]⟩ := by decide +kernel
theorem cls_no (t : ByteArray) (h : ∀ k : Nat, 1 ≤ k → k ≤ 23 → t ≠ looseB (shortS (k : Int)) ∧ t ≠ looseB (longS (k : Int))) : classN t = 0 := by
  unfold classN
  rw [if_neg (fun e => (h 1 (by decide) (by decide)).1 (e.trans ls1.symm)), if_neg (fun e => (h 1 (by decide) (by decide)).2 (e.trans ll1.symm)), if_neg (fun e => (h 2 (by decide) (by decide)).1 (e.trans ls2.symm)), if_neg (fun e => (h 2 (by decide) (by decide)).2 (e.trans ll2.symm)), if_neg (fun e => (h 3 (by decide) (by decide)).1 (e.trans ls3.symm)), if_neg (fun e => (h 3 (by decide) (by decide)).2 (e.trans ll3.symm)), if_neg (fun e => (h 4 (by decide) (by decide)).1 (e.trans ls4.symm)), if_neg (fun e => (h 4 (by decide) (by decide)).2 (e.trans ll4.symm)), if_neg (fun e => (h 5 (by decide) (by decide)).1 (e.trans ls5.symm)), if_neg (fun e => (h 5 (by decide) (by decide)).2 (e.trans ll5.symm)), if_neg (fun e => (h 6 (by decide) (by decide)).1 (e.trans ls6.symm)), if_neg (fun e => (h 6 (by decide) (by decide)).2 (e.trans ll6.symm)), if_neg (fun e => (h 7 (by decide) (by decide)).1 (e.trans ls7.symm)), if_neg (fun e => (h 7 (by decide) (by decide)).2 (e.trans ll7.symm)), if_neg (fun e => (h 8 (by decide) (by decide)).1 (e.trans ls8.symm)), if_neg (fun e => (h 8 (by decide) (by decide)).2 (e.trans ll8.symm)), if_neg (fun e => (h 9 (by decide) (by decide)).1 (e.trans ls9.symm)), if_neg (fun e => (h 9 (by decide) (by decide)).2 (e.trans ll9.symm)), if_neg (fun e => (h 10 (by decide) (by decide)).1 (e.trans ls10.symm)), if_neg (fun e => (h 10 (by decide) (by decide)).2 (e.trans ll10.symm)), if_neg (fun e => (h 11 (by decide) (by decide)).1 (e.trans ls11.symm)), if_neg (fun e => (h 11 (by decide) (by decide)).2 (e.trans ll11.symm)), if_neg (fun e => (h 12 (by decide) (by decide)).1 (e.trans ls12.symm)), if_neg (fun e => (h 12 (by decide) (by decide)).2 (e.trans ll12.symm)), if_neg (fun e => (h 13 (by decide) (by decide)).1 (e.trans ls13.symm)), if_neg (fun e => (h 13 (by decide) (by decide)).2 (e.trans ll13.symm)), if_neg (fun e => (h 14 (by decide) (by decide)).1 (e.trans ls14.symm)), if_neg (fun e => (h 14 (by decide) (by decide)).2 (e.trans ll14.symm)), if_neg (fun e => (h 15 (by decide) (by decide)).1 (e.trans ls15.symm)), if_neg (fun e => (h 15 (by decide) (by decide)).2 (e.trans ll15.symm)), if_neg (fun e => (h 16 (by decide) (by decide)).1 (e.trans ls16.symm)), if_neg (fun e => (h 16 (by decide) (by decide)).2 (e.trans ll16.symm)), if_neg (fun e => (h 17 (by decide) (by decide)).1 (e.trans ls17.symm)), if_neg (fun e => (h 17 (by decide) (by decide)).2 (e.trans ll17.symm)), if_neg (fun e => (h 18 (by decide) (by decide)).1 (e.trans ls18.symm)), if_neg (fun e => (h 18 (by decide) (by decide)).2 (e.trans ll18.symm)), if_neg (fun e => (h 19 (by decide) (by decide)).1 (e.trans ls19.symm)), if_neg (fun e => (h 19 (by decide) (by decide)).2 (e.trans ll19.symm)), if_neg (fun e => (h 20 (by decide) (by decide)).1 (e.trans ls20.symm)), if_neg (fun e => (h 20 (by decide) (by decide)).2 (e.trans ll20.symm)), if_neg (fun e => (h 21 (by decide) (by decide)).1 (e.trans ls21.symm)), if_neg (fun e => (h 21 (by decide) (by decide)).2 (e.trans ll21.symm)), if_neg (fun e => (h 22 (by decide) (by decide)).1 (e.trans ls22.symm)), if_neg (fun e => (h 22 (by decide) (by decide)).2 (e.trans ll22.symm)), if_neg (fun e => (h 23 (by decide) (by decide)).1 (e.trans ls23.symm)), if_neg (fun e => (h 23 (by decide) (by decide)).2 (e.trans ll23.symm))]
theorem shortS_size (k : Nat) (h : k ≤ 23) : (shortS (k : Int)).size ≤ 4 := by
  have : ∀ k : Fin 24, (shortS ((k.1 : Nat) : Int)).size ≤ 4 := by decide +kernel
  exact this ⟨k, by omega⟩
theorem longS_size (k : Nat) (h : k ≤ 23) : (longS (k : Int)).size ≤ 32 := by
  have : ∀ k : Fin 24, (longS ((k.1 : Nat) : Int)).size ≤ 32 := by decide +kernel
  exact this ⟨k, by omega⟩

set_option maxRecDepth 100000 in
set_option maxHeartbeats 2000000 in
theorem rClass_any (s : ByteArray) (w : World) (hs : s.size ≤ 1099511627776) :
    Calls Try.prog 22 #[.string s] w fun e w' => e = .returned (.int .u8 (classN (looseB s))) ∧ Below w.heap.size w w' := by
  go_enter Try.func22, Try.ntmps22
  go_wp2_with fail
  refine (rLoose_any s w hs).mono ?_
  rintro e w1 ⟨rfl, hb1⟩
  generalize hT : looseB s = t at *
  have HT := hide hT
  clear hT
  go_wp2
  go_loopw [4] (fun v4 wr => ∃ k : Nat, 1 ≤ k ∧ k ≤ 24 ∧ v4 = .int .i64 k ∧ Hid (∀ j : Nat, 1 ≤ j → j < k → t ≠ looseB (shortS (j : Int)) ∧ t ≠ looseB (longS (j : Int))) ∧ Below w.heap.size w wr) (fun v4 _ => 24 - (intOf v4).toNat)
  case atStart => exact ⟨1, by omega, by omega, rfl, fun j h1 h2 => by omega, hb1⟩
  case round =>
    obtain ⟨k, hk1, hk2, rfl, HN, hB⟩ := hrel
    by_cases hlt : k ≤ 23
    · have hw8 : IntKind.u8.wrap (k : Int) = k := by rw [IntKind.wrap_u8]; omega
      have hS := shortS_size k hlt
      have hL := longS_size k hlt
      by_cases e1 : t = looseB (shortS (k : Int))
      · have g1 : (t.toList == (looseB (shortS (k : Int))).toList) = true := by rw [Go.Switch.str_test]; simp [e1]
        have HE := hide (cls_yes t k hk1 hlt (.inl e1))
        clear e1
        go_wp2_with (first
          | (go_at_call 29; refine (rShort_any _ _ (by omega) (by omega)).mono ?_; rintro e w2 ⟨rfl, hb2⟩)
          | (go_at_call 19; refine (rLoose_any (shortS (k : Int)) _ (by omega)).mono ?_; rintro e w3 ⟨rfl, hb3⟩))
        go_ret
        have hB2 := hB.trans (hb2.mono hB.size)
        exact ⟨ret_int (by rw [unhide HT]; exact (unhide HE).symm), hB2.trans (hb3.mono hB2.size)⟩
      · have g1 : (t.toList == (looseB (shortS (k : Int))).toList) = false := by rw [Go.Switch.str_test]; simp [e1]
        by_cases e2 : t = looseB (longS (k : Int))
        · have g2 : (t.toList == (looseB (longS (k : Int))).toList) = true := by rw [Go.Switch.str_test]; simp [e2]
          have HE := hide (cls_yes t k hk1 hlt (.inr e2))
          clear e1 e2
          go_wp2_with (first
            | (go_at_call 29; refine (rShort_any _ _ (by omega) (by omega)).mono ?_; rintro e w2 ⟨rfl, hb2⟩)
            | (go_at_call 30; refine (rLong_any _ _ (by omega) (by omega)).mono ?_; rintro e w4 ⟨rfl, hb4⟩)
            | (go_at_call 19; with_reducible refine (rLoose_any (shortS (k : Int)) _ (by omega)).mono ?_; rintro e w3 ⟨rfl, hb3⟩)
            | (go_at_call 19; with_reducible refine (rLoose_any (longS (k : Int)) _ (by omega)).mono ?_; rintro e w5 ⟨rfl, hb5⟩))
          go_ret
          have hB2 := hB.trans (hb2.mono hB.size)
          have hB3 := hB2.trans (hb3.mono hB2.size)
          have hB4 := hB3.trans (hb4.mono hB3.size)
          exact ⟨ret_int (by rw [unhide HT]; exact (unhide HE).symm), hB4.trans (hb5.mono hB4.size)⟩
        · have g2 : (t.toList == (looseB (longS (k : Int))).toList) = false := by rw [Go.Switch.str_test]; simp [e2]
          have HN2 : Hid (∀ j : Nat, 1 ≤ j → j < k + 1 → t ≠ looseB (shortS (j : Int)) ∧ t ≠ looseB (longS (j : Int))) := by
            intro j h1 h2
            by_cases hj : j < k
            · exact HN.out j h1 hj
            · obtain rfl : j = k := by omega
              exact ⟨e1, e2⟩
          clear e1 e2
          go_wp2_with (first
            | (go_at_call 29; refine (rShort_any _ _ (by omega) (by omega)).mono ?_; rintro e w2 ⟨rfl, hb2⟩)
            | (go_at_call 30; refine (rLong_any _ _ (by omega) (by omega)).mono ?_; rintro e w4 ⟨rfl, hb4⟩)
            | (go_at_call 19; with_reducible refine (rLoose_any (shortS (k : Int)) _ (by omega)).mono ?_; rintro e w3 ⟨rfl, hb3⟩)
            | (go_at_call 19; with_reducible refine (rLoose_any (longS (k : Int)) _ (by omega)).mono ?_; rintro e w5 ⟨rfl, hb5⟩))
          have hB2 := hB.trans (hb2.mono hB.size)
          have hB3 := hB2.trans (hb3.mono hB2.size)
          have hB4 := hB3.trans (hb4.mono hB3.size)
          go_roundw
          case rel => exact ⟨k + 1, by omega, by omega, by go_num, HN2, hB4.trans (hb5.mono hB4.size)⟩
          case measure => simp [intOf]; omega
    · have hlt' : (23 : Int) < k := by omega
      have HE := hide (cls_no t (fun j h1 h2 => HN.out j h1 (by omega)))
      go_wp2
      go_ret
      exact ⟨ret_int (by rw [unhide HT]; exact (unhide HE).symm), hB⟩
end Go.Proofs.Ytkpmcojoiijonaa

/-
  Loose, Alike of package words: the loose form of every text.
-/
import Derived.Test.YtkpmcojoiijonaaWoC
import Derived.Test.YtkpmcojoiijonaaNew
namespace Go.Proofs.Ytkpmcojoiijonaa
open Go.RowKit Go.PlainAid Go.Lib
attribute [local go_sem] World.iter
set_option linter.unusedVariables false

abbrev numsOf (l : List (Nat × Nat)) : List Int := l.map fun p => ((p.2 : Nat) : Int)
abbrev looseV (l : List (Nat × Nat)) : List Value := (looseL (numsOf l)).map (Value.int .i32)
theorem looseV_yes (l : List (Nat × Nat)) (x : Nat × Nat) (h : countsB ((x.2 : Nat) : Int) = true) : looseV (l ++ [x]) = looseV l ++ [.int .i32 (smallN ((x.2 : Nat) : Int))] := by
  unfold looseV numsOf
  rw [List.map_append, List.map_cons, List.map_nil, looseL_snoc_yes _ _ h, List.map_append]; rfl
theorem looseV_no (l : List (Nat × Nat)) (x : Nat × Nat) (h : countsB ((x.2 : Nat) : Int) = false) : looseV (l ++ [x]) = looseV l := by
  unfold looseV numsOf
  rw [List.map_append, List.map_cons, List.map_nil, looseL_snoc_no _ _ h]

set_option maxRecDepth 100000 in
set_option maxHeartbeats 1000000 in
theorem loose_any (s : ByteArray) (w : World) (hs : s.size ≤ 35184372088832) :
    Calls Try.prog 18 #[.string s] w fun e w' => e = .returned (.string (looseB s)) ∧ Below w.heap.size w w' := by
  have hcl := chars_length s 0
  have hsm : s.size ≤ maxLen := by unfold maxLen; omega
  obtain ⟨i0, hi, hz0, hz1, hz2⟩ := info_parts infoRune
  have HLB : Hid (looseB s = runesBytes (looseL (numsOf (chars s 0)))) := rfl
  generalize hL : (chars s 0).length = L at *
  have HL : Hid ((chars s 0).length = L) := hL
  clear hL
  go_enter Try.func18, Try.ntmps18
  go_wp2_with fail
  refine (count_any s _ hsm).mono ?_
  rintro e w1 ⟨rfl, hb1⟩
  rw [HL.out]
  obtain ⟨w2, hmk, hown, hgr⟩ := run_make_own (P := Try.prog) w1 w.heap.size 64 21 i0 (.int .i32 0) 1 Try.underlying64 hi hz0 hz1 .i64 .i64 L (by rw [hz2]; omega) (by unfold maxLen; omega) hb1.size
  have hb2 : Below w.heap.size w w2 := hb1.grown hgr hb1.size (fun k e => by cases e)
  go_wp2
  go_loopw [3] (fun v wr => ∃ (pos : Nat) (pre : List (Nat × Nat)), Hid (pre ++ chars s pos = chars s 0) ∧ wr.ownsRow w.heap.size 21 1 v (looseV pre).length (looseV pre) ∧ wr.heap[w2.heap.size]? = some (.stringIter s pos) ∧ Below w.heap.size w wr) (fun _ wr => s.size - wr.iterPos w2.heap.size)
  case atStart => exact ⟨0, [], rfl, hown.alloc _, heap_alloc_new w2 _, hb2.alloc hb2.size _⟩
  case round =>
    clear hmk hown hgr
    obtain ⟨pos, pre, HP, hrow, hit, hB⟩ := hrel
    by_cases hlt : pos < s.size
    · have hnx := fun ty => run_next_any_at (P := Try.prog) wr w2.heap.size s pos ty hit hlt
      have hb := dec_bounds s pos hlt
      have HP2 : Hid (pre ++ [(pos, (Utf8.decode s pos).1)] ++ chars s (pos + (Utf8.decode s pos).2) = chars s 0) := by
        show _ = _
        rw [← HP.out, chars_step s pos hlt]; simp
      have hpl : (looseV pre).length + 1 ≤ L := by
        have := congrArg List.length HP2.out
        have h2 := looseL_len (numsOf pre)
        simp only [looseV, numsOf, List.length_map] at h2 ⊢
        rw [HL.out] at this; simp at this; omega
      have hrow2 := row_iterAt hrow hit (pos + (Utf8.decode s pos).2)
      have hit2 := iterAt_heap wr w2.heap.size s pos (pos + (Utf8.decode s pos).2) hit
      have hB2 : Below w.heap.size w (wr.iterAt w2.heap.size s (pos + (Utf8.decode s pos).2)) := below_iterAt hB hb2.size s _
      have hmeas : s.size - (pos + (Utf8.decode s pos).2) < s.size - wr.iterPos w2.heap.size := by rw [iterPos_of hit]; omega
      generalize hW3 : wr.iterAt w2.heap.size s (pos + (Utf8.decode s pos).2) = W3 at *
      clear hW3
      cases hct : countsB (((Utf8.decode s pos).1 : Nat) : Int) with
      | true =>
        have HV : Hid (looseV (pre ++ [(pos, (Utf8.decode s pos).1)]) = looseV pre ++ [.int .i32 (smallN (((Utf8.decode s pos).1 : Nat) : Int))]) := looseV_yes pre (pos, (Utf8.decode s pos).1) hct
        have HC := hide hct
        clear hct
        generalize looseV pre = lv at *
        go_wp2_with (first | (go_at_call 42; refine (counts_any _ W3).mono ?_; rintro e w' ⟨rfl, hw⟩; obtain rfl : W3 = w' := hw.symm; rw [unhide HC]) | (go_at_call 43; refine (small_any _ W3).mono ?_; rintro e w' ⟨rfl, hw⟩; obtain rfl : W3 = w' := hw.symm) | (at_builtin; refine wpList_append_own _ rfl _ _ 64 rfl w.heap.size 21 i0 (.int .i32 0) 1 4 Try.underlying64 hi hz0 hz1 hz2 rfl (by decide) _ _ _ rfl (hrow2.alloc _) ⟨W3.heap.size, 0, none⟩ 1 1 [.int .i32 (smallN (((Utf8.decode s pos).1 : Nat) : Int))] rfl rfl (cell_one_new _ _ _) (by simp [Value.oneCell']) (by unfold maxLen; omega) (by omega) (by have := hB2.size; simp; omega) ?_; intro v' w4 hown' hgrow _))
        go_roundw
        case rel => exact ⟨pos + (Utf8.decode s pos).2, pre ++ [(pos, (Utf8.decode s pos).1)], HP2, by rw [HV.out, List.length_append]; exact hown', iter_grown hrow2 hgrow hit2, below_grown hB2 (Nat.le_trans hb2.size (Nat.le_of_lt (by have := (Array.getElem?_eq_some_iff.1 hit2).1; omega))) hrow2 hgrow⟩
        case measure => rw [iterPos_of (iter_grown hrow2 hgrow hit2)]; exact hmeas
      | false =>
        have HV : Hid (looseV (pre ++ [(pos, (Utf8.decode s pos).1)]) = looseV pre) := looseV_no pre (pos, (Utf8.decode s pos).1) hct
        have HC := hide hct
        clear hct
        go_wp2_with (go_at_call 42; refine (counts_any _ W3).mono ?_; rintro e w' ⟨rfl, hw⟩; obtain rfl : W3 = w' := hw.symm; rw [unhide HC])
        go_roundw
        case rel => exact ⟨pos + (Utf8.decode s pos).2, pre ++ [(pos, (Utf8.decode s pos).1)], HP2, by rw [HV.out]; exact hrow2, hit2, hB2⟩
        case measure => rw [iterPos_of hit2]; exact hmeas
    · have hnx := fun ty => run_next_end_at (P := Try.prog) wr w2.heap.size s pos ty hit hlt
      have hpe : pre = chars s 0 := by have := HP.out; rw [chars_end s pos hlt] at this; simpa using this
      have hlen : (looseV (chars s 0)).length = (looseL (numsOf (chars s 0))).length := List.length_map _
      rw [hpe, hlen] at hrow
      obtain ⟨a3, n3, c3, rfl⟩ : ∃ a n c, u3 = .slice a n c := by
        rcases hrow.2 with ⟨rfl, _⟩ | ⟨g, cap, cur, rfl, _⟩
        · exact ⟨_, _, _, rfl⟩
        · exact ⟨_, _, _, rfl⟩
      have hn3 : n3 = (looseL (numsOf (chars s 0))).length ∧ (a3 = none → looseL (numsOf (chars s 0)) = []) := by
        rcases hrow.2 with ⟨h1, h2⟩ | ⟨g, cap, cur, h1, _⟩
        · simp only [Value.slice.injEq] at h1
          exact ⟨by omega, fun _ => List.length_eq_zero_iff.1 h2⟩
        · simp only [Value.slice.injEq] at h1
          exact ⟨h1.2.1, fun h => by rw [h1.1] at h; cases h⟩
      obtain ⟨rfl, hnil⟩ := hn3
      have HE := hide (encode_reads wr a3 c3 (looseL (numsOf (chars s 0))) (reads_own hrow) hnil)
      clear hpe hlen HP hnil hrow
      generalize looseL (numsOf (chars s 0)) = zs at *
      go_wp2_with (go_at_call 44; refine (unhide HE).mono ?_; rintro e w' ⟨rfl, hw⟩; obtain rfl : wr = w' := hw.symm)
      go_ret
      exact ⟨ret_str HLB.out.symm, hB⟩

theorem alike_any2 (a b : ByteArray) (w : World) (ha : a.size ≤ 35184372088832) (hb : b.size ≤ 35184372088832) :
    Calls Try.prog 20 #[.string a, .string b] w fun e w' => e = .returned (.bool (decide (looseB a = looseB b))) ∧ Below w.heap.size w w' := by
  go_enter Try.func20, Try.ntmps20
  go_wp2_with fail
  refine (loose_any a w ha).mono ?_
  rintro e w1 ⟨rfl, hb1⟩
  go_wp2_with fail
  refine (loose_any b w1 hb).mono ?_
  rintro e w2 ⟨rfl, hb2⟩
  go_wp2
  go_ret
  exact ⟨ret_bool (Go.Switch.str_test _ _), hb1.trans (hb2.mono hb1.size)⟩
end Go.Proofs.Ytkpmcojoiijonaa

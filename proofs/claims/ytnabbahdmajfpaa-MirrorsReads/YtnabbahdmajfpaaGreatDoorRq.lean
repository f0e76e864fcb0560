/-
  These texts, one behind the other: RPieces, LTold, RRead.
-/
import Derived.Test.YtnabbahdmajfpaaGreatDoorRk
import Derived.BigQuiet
import Derived.Test.YtnabbahdmajfpaaGreatDoorRn
import Derived.Test.YtnabbahdmajfpaaGreatDoorLRead
/-
  The document's Marked and Pieces (furrowref03), for every text.
-/
namespace Go.Proofs.YtnabbahdmajfpaaGreatDoor
open Go.RowKit Go.PlainAid Go.Lib Go.Shelf
set_option linter.unusedVariables false

theorem refMarked_any (s : ByteArray) (w : World) (hs : s.size ≤ maxLen) :
    Calls Tryz.prog 84 #[.string s] w fun e w' => e = .returned (.int .i64 (markN s : Nat)) ∧ w' = w := by
  unfold maxLen at hs
  rw [markN_eq]
  by_cases h3 : 3 ≤ s.size
  · have hl0 : 0 < s.size := by omega
    have hl1 : 1 < s.size := by omega
    have hl2 : 2 < s.size := by omega
    have hv0 : (s[0]'hl0).toNat = bN s 0 := by rw [bN, get_in s 0 hl0]
    have hv1 : (s[1]'hl1).toNat = bN s 1 := by rw [bN, get_in s 1 hl1]
    have hv2 : (s[2]'hl2).toNat = bN s 2 := by rw [bN, get_in s 2 hl2]
    go_enter Tryz.func84, Tryz.ntmps84
    go_wp2
    all_goals go_ret
    all_goals refine ⟨ret_int ?_, rfl⟩
    all_goals simp only [beq_iff_eq, beq_eq_false_iff_ne, ne_eq] at *
    all_goals (repeat' split)
    all_goals omega
  · rw [if_neg (by omega)]
    have h3' : ¬ (3 : Int) ≤ (s.size : Int) := by omega
    go_enter Tryz.func84, Tryz.ntmps84
    go_wp2
    go_ret
    exact ⟨rfl, rfl⟩

theorem infoPiece : (Tryz.prog.info? 123).map (fun i => (i.zero, i.size, i.bytes)) = some (some (.agg #[.int .i64 0, .int .i64 0, .int .i64 0]), 3, 24) := by kernel_rfl
def pieceCs (s : ByteArray) (l : List (Nat × Nat × Nat)) : List Value := l.flatMap fun x => [.int .i64 (x.2.1 : Nat), .int .i64 (x.2.2 : Nat), .int .i64 (endNext s x.2.1 : Nat)]
theorem pieceCs_snoc (s : ByteArray) (l : List (Nat × Nat × Nat)) (no a t : Nat) : pieceCs s (l ++ [(no, a, t)]) = pieceCs s l ++ [.int .i64 (a : Nat), .int .i64 (t : Nat), .int .i64 (endNext s a : Nat)] := by simp [pieceCs]
theorem cell_three_new (w : World) (a b c : Value) (t : TypeId) : ∀ j u, [a, b, c][j]? = some u → (w.alloc (.cells #[a, b, c] t)).cell? ((⟨w.heap.size, 0, none⟩ : Addr).add j) = some u := by
  intro j u hj
  match j, hj with
  | 0, hj => simp at hj; subst hj; simp [Addr.add]
  | 1, hj => simp at hj; subst hj; simp [Addr.add]
  | 2, hj => simp at hj; subst hj; simp [Addr.add]
  | j + 3, hj => simp at hj

set_option maxRecDepth 100000 in
set_option maxHeartbeats 2000000 in
theorem refPieces_any (s : ByteArray) (w : World) (hs : s.size ≤ 1099511627776) :
    Calls Tryz.prog 64 #[.string s] w fun e w' => ∃ v, e = .returned v ∧ w'.ownsRow w.heap.size 123 3 v (linesL s).length (pieceCs s (linesL s)) ∧ Below w.heap.size w w' := by
  obtain ⟨i0, hi0, hz0, hz1, hz2⟩ := info_parts infoPiece
  have HM := hide (fun w => refMarked_any s w (by unfold maxLen; omega))
  have hml := mark_le s
  have hll := lines_len s
  have H0 : Hid (([] : List (Nat × Nat × Nat)) ++ linesI s (0 + 1) (markN s) = linesL s) := rfl
  generalize markN s = m at *
  go_enter Tryz.func64, Tryz.ntmps64
  go_wp2_with fail
  refine (unhide HM _).mono ?_
  rintro e w1 ⟨rfl, hw1⟩
  obtain rfl : w = w1 := hw1.symm
  go_wp2
  go_loopw [3, 4, 5] (fun v3 v4 v5 wr => ∃ (a i : Nat) (pre : List (Nat × Nat × Nat)), v3 = v3 ∧ v4 = .int .i64 (a : Nat) ∧ v5 = .int .i64 (i : Nat) ∧ a ≤ i ∧ i ≤ s.size ∧ Hid (∀ j, a ≤ j → j < i → bN s j ≠ 10) ∧ Hid (pre ++ linesI s (pre.length + 1) a = linesL s) ∧ wr.ownsRow w.heap.size 123 3 v3 pre.length (pieceCs s pre) ∧ Below w.heap.size w wr) (fun _ _ v5 _ => s.size - (RowKit.intOf v5).toNat)
  case atStart => exact ⟨m, m, [], rfl, rfl, rfl, Nat.le_refl _, hml, (by intro j h1 h2; omega), H0, World.ownsRow_nil _ _ _ _, Below.refl _ _⟩
  case round =>
    clear hml H0
    obtain ⟨a, i, pre, _, rfl, rfl, hai, his, HN, HP, hrow, hB⟩ := hrel
    have hBs := hB.size
    have hpl : pre.length ≤ s.size := by
      have := congrArg List.length HP.out
      rw [List.length_append] at this; omega
    obtain ⟨ad, c, rfl⟩ := row_slice2 hrow
    by_cases hlt : i < s.size
    · have hv : (s[i]'hlt).toNat = bN s i := by rw [bN, get_in s i hlt]
      by_cases h10 : bN s i = 10
      · have d1 : ((bN s i : Int) != 10) = false := by simp; omega
        obtain ⟨f1, f2, f3⟩ := linesI_found s (pre.length + 1) a i hai hlt h10 HN.out
        have HP2 : Hid (pre ++ [(pre.length + 1, a, endTo s a)] ++ linesI s ((pre ++ [(pre.length + 1, a, endTo s a)]).length + 1) (i + 1) = linesL s) := by
          show _ = _
          rw [← HP.out, f1]; simp
        have HNx := hide f3
        have hpl2 : pre.length + 1 ≤ s.size := by
          have := congrArg List.length HP2.out
          simp at this; omega
        by_cases ha : a < i
        · have hl1 : i - 1 < s.size := by omega
          have hv1 : (s[i - 1]'hl1).toNat = bN s (i - 1) := by rw [bN, get_in s _ hl1]
          have hix : ((i : Int) - 1).toNat = i - 1 := by omega
          have da : decide ((a : Int) < (i : Int)) = true := decide_eq_true (by omega)
          have da' : (a : Int) < (i : Int) := by omega
          by_cases h13 : bN s (i - 1) = 13
          · have d2 : ((bN s (i - 1) : Int) == 13) = true := by simp; omega
            have e1 : (i : Int) - 1 = ((i - 1 : Nat) : Int) := by omega
            have HTo : Hid (endTo s a = i - 1) := by show _ = _; rw [f2, if_pos ⟨ha, h13⟩]
            clear f1 f2 f3
            go_wp2_with (at_builtin; refine wpList_append_own _ rfl _ _ 120 rfl w.heap.size 123 i0 (.agg #[.int .i64 0, .int .i64 0, .int .i64 0]) 3 24 Tryz.underlying120 hi0 hz0 hz1 hz2 rfl (by decide) _ _ _ rfl (hrow.alloc _) ⟨wr.heap.size, 0, none⟩ 1 1 [.int .i64 (a : Nat), .int .i64 (i - 1 : Nat), .int .i64 ((i : Int) + 1)] rfl rfl (by simpa using cell_three_new wr (.int .i64 (a : Nat)) (.int .i64 (i - 1 : Nat)) (.int .i64 ((i : Int) + 1)) 123) (by simp [Value.oneCell']) (by unfold maxLen; omega) (by omega) (by simp; omega) ?_; intro v' w4 hown' hgrow _)
            have hB4 := belowG (hB.alloc hBs _) (by simp; omega) (hrow.alloc _) hgrow
            have hrow4 : w4.ownsRow w.heap.size 123 3 v' (pre ++ [(pre.length + 1, a, endTo s a)]).length (pieceCs s (pre ++ [(pre.length + 1, a, endTo s a)])) := by
              rw [pieceCs_snoc, List.length_append, HTo.out, HNx.out]; exact hown'
            go_roundw
            case rel => exact ⟨i + 1, i + 1, _, trivial, by go_num, by go_num, Nat.le_refl _, by omega, (by intro j h1 h2; omega), HP2, hrow4, hB4⟩
            case measure => simp [RowKit.intOf]; omega
          · have d2 : ((bN s (i - 1) : Int) == 13) = false := by simp; omega
            have HTo : Hid (endTo s a = i) := by show _ = _; rw [f2, if_neg (fun h => h13 h.2)]
            clear f1 f2 f3
            go_wp2_with (at_builtin; refine wpList_append_own _ rfl _ _ 120 rfl w.heap.size 123 i0 (.agg #[.int .i64 0, .int .i64 0, .int .i64 0]) 3 24 Tryz.underlying120 hi0 hz0 hz1 hz2 rfl (by decide) _ _ _ rfl (hrow.alloc _) ⟨wr.heap.size, 0, none⟩ 1 1 [.int .i64 (a : Nat), .int .i64 (i : Nat), .int .i64 ((i : Int) + 1)] rfl rfl (by simpa using cell_three_new wr (.int .i64 (a : Nat)) (.int .i64 (i : Nat)) (.int .i64 ((i : Int) + 1)) 123) (by simp [Value.oneCell']) (by unfold maxLen; omega) (by omega) (by simp; omega) ?_; intro v' w4 hown' hgrow _)
            have hB4 := belowG (hB.alloc hBs _) (by simp; omega) (hrow.alloc _) hgrow
            have hrow4 : w4.ownsRow w.heap.size 123 3 v' (pre ++ [(pre.length + 1, a, endTo s a)]).length (pieceCs s (pre ++ [(pre.length + 1, a, endTo s a)])) := by
              rw [pieceCs_snoc, List.length_append, HTo.out, HNx.out]; exact hown'
            go_roundw
            case rel => exact ⟨i + 1, i + 1, _, trivial, by go_num, by go_num, Nat.le_refl _, by omega, (by intro j h1 h2; omega), HP2, hrow4, hB4⟩
            case measure => simp [RowKit.intOf]; omega
        · obtain rfl : a = i := by omega
          have da : decide ((a : Int) < (a : Int)) = false := decide_eq_false (by omega)
          have HTo : Hid (endTo s a = a) := by show _ = _; rw [f2, if_neg (fun h => ha h.1)]
          clear f1 f2 f3
          go_wp2_with (at_builtin; refine wpList_append_own _ rfl _ _ 120 rfl w.heap.size 123 i0 (.agg #[.int .i64 0, .int .i64 0, .int .i64 0]) 3 24 Tryz.underlying120 hi0 hz0 hz1 hz2 rfl (by decide) _ _ _ rfl (hrow.alloc _) ⟨wr.heap.size, 0, none⟩ 1 1 [.int .i64 (a : Nat), .int .i64 (a : Nat), .int .i64 ((a : Int) + 1)] rfl rfl (by simpa using cell_three_new wr (.int .i64 (a : Nat)) (.int .i64 (a : Nat)) (.int .i64 ((a : Int) + 1)) 123) (by simp [Value.oneCell']) (by unfold maxLen; omega) (by omega) (by simp; omega) ?_; intro v' w4 hown' hgrow _)
          have hB4 := belowG (hB.alloc hBs _) (by simp; omega) (hrow.alloc _) hgrow
          have hrow4 : w4.ownsRow w.heap.size 123 3 v' (pre ++ [(pre.length + 1, a, endTo s a)]).length (pieceCs s (pre ++ [(pre.length + 1, a, endTo s a)])) := by
            rw [pieceCs_snoc, List.length_append, HTo.out, HNx.out]; exact hown'
          go_roundw
          case rel => exact ⟨a + 1, a + 1, _, trivial, by go_num, by go_num, Nat.le_refl _, by omega, (by intro j h1 h2; omega), HP2, hrow4, hB4⟩
          case measure => simp [RowKit.intOf]; omega
      · have d1 : ((bN s i : Int) != 10) = true := by simp; omega
        have HN2 : Hid (∀ j, a ≤ j → j < i + 1 → bN s j ≠ 10) := by
          intro j h1 h2
          rcases Nat.lt_succ_iff_lt_or_eq.1 h2 with h | h
          · exact HN.out j h1 h
          · rw [h]; exact h10
        go_wp2
        go_roundw
        case rel => exact ⟨a, i + 1, pre, trivial, rfl, by go_num, by omega, by omega, HN2, HP, hrow, hB⟩
        case measure => simp [RowKit.intOf]; omega
    · obtain rfl : i = s.size := by omega
      by_cases ha : a < s.size
      · have da : (a : Int) < (s.size : Int) := by omega
        obtain ⟨f1, f2⟩ := linesI_last s (pre.length + 1) a ha HN.out
        have HE : Hid (linesL s = pre ++ [(pre.length + 1, a, s.size)]) := by show _ = _; rw [← HP.out, f1]
        have HNx := hide f2
        have hpl2 : pre.length + 1 ≤ s.size := by
          have := congrArg List.length HE.out
          simp at this; omega
        clear f1 f2
        go_wp2_with (at_builtin; refine wpList_append_own _ rfl _ _ 120 rfl w.heap.size 123 i0 (.agg #[.int .i64 0, .int .i64 0, .int .i64 0]) 3 24 Tryz.underlying120 hi0 hz0 hz1 hz2 rfl (by decide) _ _ _ rfl (hrow.alloc _) ⟨wr.heap.size, 0, none⟩ 1 1 [.int .i64 (a : Nat), .int .i64 (s.size : Nat), .int .i64 (s.size : Nat)] rfl rfl (by simpa using cell_three_new wr (.int .i64 (a : Nat)) (.int .i64 (s.size : Nat)) (.int .i64 (s.size : Nat)) 123) (by simp [Value.oneCell']) (by unfold maxLen; omega) (by omega) (by simp; omega) ?_; intro v' w4 hown' hgrow _)
        have hB4 := belowG (hB.alloc hBs _) (by simp; omega) (hrow.alloc _) hgrow
        go_ret
        refine ⟨_, rfl, ?_, hB4⟩
        rw [HE.out, pieceCs_snoc, List.length_append, HNx.out]; exact hown'
      · have da : ¬ (a : Int) < (s.size : Int) := by omega
        obtain rfl : a = s.size := by omega
        have HE : Hid (linesL s = pre) := by show _ = _; rw [← HP.out, linesI_end]; simp
        go_wp2
        go_ret
        exact ⟨_, rfl, by rw [HE.out]; exact hrow, hB⟩

end Go.Proofs.YtnabbahdmajfpaaGreatDoor
/-
  The law's sameTold (furrowlaw03): what was told is what the document's pieces are.
-/
namespace Go.Proofs.YtnabbahdmajfpaaGreatDoor
open Go.RowKit Go.PlainAid Go.Lib Go.Shelf
set_option linter.unusedVariables false

def ToAt (w : World) (s : ByteArray) (a : Option Addr) (l : List (Nat × Nat × Nat)) : Prop := ∀ (i : Nat) (x : Nat × Nat × Nat), l[i]? = some x → ∃ g, a = some ⟨g, 0, none⟩ ∧ w.cell? ⟨g, i * 2, none⟩ = some (.int .i64 (x.1 : Nat)) ∧ w.cell? ⟨g, i * 2 + 1, none⟩ = some (.string (s.extract x.2.1 x.2.2))
def PiAt (w : World) (s : ByteArray) (a : Option Addr) (l : List (Nat × Nat × Nat)) : Prop := ∀ (i : Nat) (x : Nat × Nat × Nat), l[i]? = some x → ∃ g, a = some ⟨g, 0, none⟩ ∧ w.cell? ⟨g, i * 3, none⟩ = some (.int .i64 (x.2.1 : Nat)) ∧ w.cell? ⟨g, i * 3 + 1, none⟩ = some (.int .i64 (x.2.2 : Nat)) ∧ w.cell? ⟨g, i * 3 + 2, none⟩ = some (.int .i64 (endNext s x.2.1 : Nat))
theorem to_at (s : ByteArray) : ∀ (l : List (Nat × Nat × Nat)) (i : Nat) (x : Nat × Nat × Nat), l[i]? = some x → (toldCs s l)[i * 2]? = some (.int .i64 (x.1 : Nat)) ∧ (toldCs s l)[i * 2 + 1]? = some (.string (s.extract x.2.1 x.2.2)) := by
  intro l
  induction l with
  | nil => intro i x h; simp at h
  | cons y l ih =>
    intro i x h
    cases i with
    | zero =>
      obtain rfl : y = x := by simpa using h
      exact ⟨rfl, rfl⟩
    | succ i =>
      have := ih i x (by simpa using h)
      have e1 : (i + 1) * 2 = i * 2 + 1 + 1 := by omega
      rw [e1]
      exact this
theorem pi_at (s : ByteArray) : ∀ (l : List (Nat × Nat × Nat)) (i : Nat) (x : Nat × Nat × Nat), l[i]? = some x → (pieceCs s l)[i * 3]? = some (.int .i64 (x.2.1 : Nat)) ∧ (pieceCs s l)[i * 3 + 1]? = some (.int .i64 (x.2.2 : Nat)) ∧ (pieceCs s l)[i * 3 + 2]? = some (.int .i64 (endNext s x.2.1 : Nat)) := by
  intro l
  induction l with
  | nil => intro i x h; simp at h
  | cons y l ih =>
    intro i x h
    cases i with
    | zero =>
      obtain rfl : y = x := by simpa using h
      exact ⟨rfl, rfl, rfl⟩
    | succ i =>
      have := ih i x (by simpa using h)
      have e1 : (i + 1) * 3 = i * 3 + 1 + 1 + 1 := by omega
      rw [e1]
      exact this
theorem pi_row {w : World} {base : Nat} {s : ByteArray} {v : Value} {l : List (Nat × Nat × Nat)} (h : w.ownsRow base 123 3 v l.length (pieceCs s l)) : ∃ a c, v = .slice a l.length c ∧ PiAt w s a l := by
  rcases h.2 with ⟨rfl, h0⟩ | ⟨g, cap, cur, rfl, _, hg, _⟩
  · refine ⟨none, 0, by rw [h0], fun i x hx => ?_⟩
    have := (List.getElem?_eq_some_iff.1 hx).1
    omega
  · refine ⟨_, _, rfl, fun i x hx => ⟨g, rfl, ?_, ?_, ?_⟩⟩ <;> have hi := (List.getElem?_eq_some_iff.1 hx).1
    · exact (h.cellAt _ (by omega)).trans (pi_at s l i x hx).1
    · exact (h.cellAt _ (by omega)).trans (pi_at s l i x hx).2.1
    · exact (h.cellAt _ (by omega)).trans (pi_at s l i x hx).2.2

end Go.Proofs.YtnabbahdmajfpaaGreatDoor
/-
  The document's Read (furrowref03), for every text.
-/
namespace Go.Proofs.YtnabbahdmajfpaaGreatDoor
open Go.RowKit Go.PlainAid Go.Lib Go.Shelf
set_option linter.unusedVariables false

theorem PiAt.below2 {w w' : World} {s : ByteArray} {a : Option Addr} {l : List (Nat × Nat × Nat)} (h : PiAt w s a l) (hb : Below w.heap.size w w') : PiAt w' s a l := by
  intro i x hx
  obtain ⟨g, h1, h2, h3, h4⟩ := h i x hx
  have hlt : g < w.heap.size := by
    refine Decidable.byContradiction fun hn => ?_
    have : w.heap[g]? = none := Array.getElem?_eq_none (by omega)
    simp [World.cell?, this] at h2
  exact ⟨g, h1, (hb.cell (p := ⟨g, i * 3, none⟩) hlt).trans h2, (hb.cell (p := ⟨g, i * 3 + 1, none⟩) hlt).trans h3, (hb.cell (p := ⟨g, i * 3 + 2, none⟩) hlt).trans h4⟩
theorem rd_front (s : ByteArray) (l : List (Nat × Nat × Nat)) (i : Nat) (x : Nat × Nat × Nat) (hx : l[i]? = some x) (h : ∀ y ∈ l.take i, (scanX s y).2 = 0) (hc : (scanX s x).2 ≠ 0) : (rdS s l).2 = some (x.1, (scanX s x).2) := by
  have hi := (List.getElem?_eq_some_iff.1 hx).1
  have hv : l[i] = x := (List.getElem?_eq_some_iff.1 hx).2
  have : l = l.take i ++ x :: l.drop (i + 1) := by
    rw [← hv, ← List.drop_eq_getElem_cons hi, List.take_append_drop]
  rw [this]
  exact rd_bad s _ _ x h hc

set_option maxRecDepth 100000 in
set_option maxHeartbeats 2000000 in
theorem refRead_any (s : ByteArray) (w : World) (hs : s.size ≤ 1073741824) :
    Calls Tryz.prog 44 #[.string s] w fun e w' => Below w.heap.size w w' ∧
      (((readS s).2 = none ∧ ∃ v, e = .returned (.tuple #[v, .int .i64 0, .int .i64 0]) ∧ LinesAt w' w.heap.size v (readS s).1) ∨
       (∃ no code, (readS s).2 = some (no, code) ∧ e = .returned (.tuple #[.slice none 0 0, .int .i64 (no : Nat), .int .i64 code]))) := by
  obtain ⟨i0, hi0, hz0, hz1, hz2⟩ := info_parts infoLine
  have HPC := hide (fun w => refPieces_any s w (by omega))
  have hll := lines_len s
  obtain ⟨N, hN⟩ : ∃ N, (linesL s).length = N := ⟨_, rfl⟩
  rw [hN] at hll
  go_enter Tryz.func44, Tryz.ntmps44
  go_wp2_with fail
  refine (unhide HPC _).mono ?_
  rintro e w1 ⟨v, rfl, hrow, hb1⟩
  obtain ⟨a, c, rfl, hat⟩ := pi_row hrow
  rw [hN]
  have HPA := hide (fun W (h : Below w1.heap.size w1 W) => hat.below2 h)
  have HN := hide hN
  have HB1 := hide hb1
  have hb1s : w.heap.size ≤ w1.heap.size := hb1.size
  clear hat hrow hN hb1
  go_wp2
  go_loopw [5, 13] (fun v5 v13 wr => ∃ (i : Nat) (ps : List (LineD × Value)), i ≤ N ∧ v13 = .int .i64 (i : Nat) ∧ Hid (ps.map (·.1) = ((linesL s).take i).map (fun x => (scanX s x).1)) ∧ Hid (∀ y ∈ (linesL s).take i, (scanX s y).2 = 0) ∧ RowL wr w1.heap.size v5 ps ∧ Below w1.heap.size w1 wr) (fun _ v13 _ => N - (RowKit.intOf v13).toNat)
  case atStart => exact ⟨0, [], Nat.zero_le _, rfl, by show _ = _; simp, by show ∀ y ∈ _, _; simp, ⟨by simpa [lineCells] using World.ownsRow_nil w1 _ _ _, by simp⟩, Below.refl _ _⟩
  case round =>
    obtain ⟨i, ps, hi, rfl, HPS, HOK, hR, hB⟩ := hrel
    have hpl : ps.length = i := by
      have := congrArg List.length HPS.out
      simp only [List.length_map, List.length_take, unhide HN] at this
      omega
    by_cases hlt : i < N
    · obtain ⟨x, hx⟩ : ∃ x, (linesL s)[i]? = some x := ⟨_, List.getElem?_eq_getElem (by rw [unhide HN]; exact hlt)⟩
      have hno := lines_no s i x hx
      have hm := lines_mem s x (List.mem_of_getElem? hx)
      obtain ⟨g, rfl, p0, p1, p2⟩ := unhide HPA wr hB i x hx
      obtain ⟨D, C, hDC⟩ : ∃ D C, scanX s x = (D, C) := ⟨_, _, rfl⟩
      have hSC := fun W => refScan3_any ((i : Int) + 1) (s.extract x.2.1 x.2.2) W (by simp; omega)
      have hSX : scanS ((i : Int) + 1) (s.extract x.2.1 x.2.2) = (D, C) := by
        rw [← hDC]; unfold scanX; rw [hno]; rfl
      rw [hSX] at hSC
      dsimp only at hSC
      have HSC := hide hSC
      have HBAD : Hid (C ≠ 0 → (readS s).2 = some (i + 1, C)) := fun h => by
        have := rd_front s _ i x hx HOK.out (by rw [hDC]; exact h)
        rw [hDC, hno] at this
        exact this
      have HGOOD : Hid (C = 0 → ∀ v : Value, (ps ++ [(D, v)]).map (·.1) = ((linesL s).take (i + 1)).map (fun x => (scanX s x).1) ∧ ∀ y ∈ (linesL s).take (i + 1), (scanX s y).2 = 0) := fun h v => by
        rw [List.take_add_one, hx, Option.toList_some, List.map_append, List.map_append, HPS.out]
        refine ⟨by simp [hDC], fun y hy => ?_⟩
        rcases List.mem_append.1 hy with k | k
        · exact HOK.out y k
        · rw [List.mem_singleton.1 k, hDC]; exact h
      obtain ⟨va, vc, rfl⟩ := row_slice2 hR.1
      rw [hpl]
      have HR := hide hR
      have HB := hide hB
      have HPL := hide hpl
      have hBs : w1.heap.size ≤ wr.heap.size := hB.size
      generalize endNext s x.2.1 = NX at *
      obtain ⟨no, F, T⟩ := x
      simp only [] at hm p0 p1 p2 HSC
      have hFT : (F : Int) ≤ (T : Int) := by omega
      have hTs : (T : Int) ≤ (s.size : Int) := by omega
      clear hSC hSX hR hB hDC hx HPS HOK hno hpl
      obtain ⟨X, hX⟩ : ∃ X, s.extract F T = X := ⟨_, rfl⟩
      rw [hX] at HSC
      obtain ⟨A, hA⟩ : ∃ A, wr.alloc (.cells #[.int .i64 (F : Nat), .int .i64 (T : Nat), .int .i64 (NX : Nat)] 123) = A := ⟨_, rfl⟩
      have hbA : Below wr.heap.size wr A := by rw [← hA]; go_grown
      have hAs : A.heap.size = wr.heap.size + 1 := by rw [← hA]; simp
      have HBA := hide hbA
      have gA : A.heap[wr.heap.size]? = some (.cells #[.int .i64 (F : Nat), .int .i64 (T : Nat), .int .i64 (NX : Nat)] 123) := by rw [← hA]; exact heap_alloc_new wr _
      have q0 : A.cell? ⟨wr.heap.size, 0, none⟩ = some (.int .i64 (F : Nat)) := by simp [World.cell?, gA]
      have q1 : A.cell? ⟨wr.heap.size, 1, none⟩ = some (.int .i64 (T : Nat)) := by simp [World.cell?, gA]
      clear gA
      clear hbA
      go_wp2_with fail
      refine (unhide HSC _).mono ?_
      rintro e w5 ⟨fv, rfl, hfr, hb5⟩
      have hB5 : Below wr.heap.size wr w5 := (unhide HBA).trans (hb5.mono (by omega))
      have hR5 := (unhide HR).below hB5
      have hR5r := hR5.1
      rw [unhide HPL] at hR5r
      have hs5 : wr.heap.size + 1 ≤ w5.heap.size := by have := hb5.size; omega
      obtain ⟨fa, fc, rfl⟩ := row_slice2 hfr
      have HFR := hide hfr
      have HR5 := hide hR5
      have HB5 := hide ((unhide HB).trans (hB5.mono hBs))
      clear hfr hR5 hB5 hb5 hA
      by_cases hC : C = 0
      · subst hC
        go_wp2_with (at_builtin; refine wpList_append_own_at _ rfl _ _ 84 rfl w1.heap.size 25 i0 (.agg #[.int .i64 0, .int .u8 0, .string ⟨#[]⟩, .slice none 0 0, .string ⟨#[]⟩]) 5 72 Tryz.underlying84 hi0 hz0 hz1 hz2 rfl (by decide) _ _ _ rfl ((hR5r.alloc _).alloc _) ⟨w5.heap.size + 1, 0, none⟩ 1 1 [.int .i64 D.no, .int .u8 D.kind, .string (S D.name), .slice fa D.fields.length fc, .string (S D.note)] rfl rfl (by simpa using cell_five_new (w5.alloc (.cells #[.int .i64 D.no, .int .u8 D.kind, .string (S D.name), .slice fa D.fields.length fc, .string (S D.note)] 25)) (.int .i64 D.no) (.int .u8 D.kind) (.string (S D.name)) (.slice fa D.fields.length fc) (.string (S D.note)) 25) (by simp [Value.oneCell']) (by unfold maxLen; omega) (by omega) (by simp; omega) ?_; intro v' w6 hown hgrow _ hat)
        replace hgrow : World.grownBy _ w6 (Value.slice va i vc).ownBlock := hgrow
        have texts : ∀ {b : Nat} {y : Value} {l : List (List UInt8)}, TextsAt w5 b y l → TextsAt w6 b y l := fun h => ((h.alloc _).alloc _).kept hgrow (rows_apart h hR5r (by decide))
        have hB6 : Below w1.heap.size w1 w6 := belowG (((unhide HB5).alloc (by omega) _).alloc (by simp; omega) _) (by simp; omega) ((hR5r.alloc _).alloc _) hgrow
        have HR6 : Hid (RowL w6 w1.heap.size v' (ps ++ [(D, .slice fa D.fields.length fc)])) := by
          refine ⟨?_, ?_⟩
          · rw [lineCells_snoc, List.length_append, unhide HPL]; exact hown
          · intro p hp
            rcases List.mem_append.1 hp with h | h
            · exact texts ((unhide HR5).2 p h)
            · rw [List.mem_singleton.1 h]; exact texts (row_base (unhide HFR) (by omega))
        have HB6 := hide hB6
        clear hown hgrow hat texts hB6
        go_roundw
        case rel => exact ⟨i + 1, _, by omega, by go_num, (HGOOD.out (by trivial) _).1, (HGOOD.out (by trivial) undef).2, unhide HR6, unhide HB6⟩
        case measure => simp [RowKit.intOf]; omega
      · have dC : (C != 0) = true := by simpa using hC
        go_wp2
        go_ret3
        exact ⟨(unhide HB1).trans (((unhide HB5).alloc (by omega) _).mono hb1s), .inr ⟨i + 1, C, HBAD.out hC, rfl⟩⟩
    · obtain rfl : i = N := by omega
      obtain ⟨va, vc, rfl⟩ := row_slice2 hR.1
      have hfin : Hid ((readS s).2 = none ∧ ps.map (·.1) = (readS s).1) := by
        have h1 := HOK.out
        have h2 := HPS.out
        rw [List.take_of_length_le (by rw [unhide HN]; exact Nat.le_refl _)] at h1 h2
        unfold readS
        rw [rd_ok s _ h1]
        exact ⟨rfl, h2⟩
      have HR := hide hR
      have HB := hide hB
      clear hR hB HPS HOK
      go_wp2
      go_ret3
      exact ⟨(unhide HB1).trans ((unhide HB).mono hb1s), .inl ⟨hfin.out.1, _, rfl, ps, hfin.out.2, row_base (unhide HR).1 hb1s, fun p hp => row_base ((unhide HR).2 p hp) hb1s⟩⟩
end Go.Proofs.YtnabbahdmajfpaaGreatDoor

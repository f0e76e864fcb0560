/-
  These texts, one behind the other: LScan, LScan2, LScan3.
-/
import Derived.Test.YthgaadjkjnibaaaGreatDoorLc
import Derived.BigQuiet
/-
  Scan of package lines, for every text: what a line is.
-/
namespace Go.Proofs.YthgaadjkjnibaaaGreatDoor
open Go.RowKit Go.PlainAid Go.Lib Go.Shelf
attribute [local go_sem] World.iter
set_option linter.unusedVariables false

theorem toList_empty (s : ByteArray) : s.toList.isEmpty = decide (s.size = 0) := by
  rw [toList_data, Bool.eq_iff_iff, List.isEmpty_iff, ← List.length_eq_zero_iff, show s.data.toList.length = s.size from L_len s]; simp
/-- may a number stand in an order's name -/
def nameSignB (r : Int) : Bool := (decide (65 ≤ r) && decide (r ≤ 90)) || (decide (97 ≤ r) && decide (r ≤ 122)) || (decide (48 ≤ r) && decide (r ≤ 57)) || decide (r = 95) || decide (r = 45)
set_option maxRecDepth 100000 in
theorem isNameSign_any (r : Int) (w : World) :
    Calls Tryz.prog 121 #[.int .i32 r] w fun e w' => e = .returned (.bool (nameSignB r)) ∧ w' = w := by
  go_enter Tryz.func121, Tryz.ntmps121
  go_wp2
  all_goals go_ret
  all_goals refine ⟨ret_bool ?_, rfl⟩
  all_goals (unfold nameSignB; rw [Bool.eq_iff_iff]; simp_all)
  all_goals omega

def nameB (s : ByteArray) : Bool := (chars s 0).all (fun p => nameSignB (p.2 : Int)) && decide (0 < s.size)
set_option maxRecDepth 100000 in
theorem isName_any (s : ByteArray) (w : World) (hs : s.size ≤ maxLen) :
    Calls Tryz.prog 86 #[.string s] w fun e w' => e = .returned (.bool (nameB s)) ∧ Below w.heap.size w w' := by
  unfold maxLen at hs
  obtain ⟨A, hA⟩ : ∃ A, nameB s = A := ⟨_, rfl⟩
  rw [hA]
  have HA : Hid (((chars s 0).all (fun p => nameSignB (p.2 : Int)) && decide (0 < s.size)) = A) := hA
  clear hA
  go_enter Tryz.func86, Tryz.ntmps86
  go_wp2
  go_loopw [] (fun wr => ∃ pos : Nat, wr.heap[w.heap.size]? = some (.stringIter s pos) ∧ Below w.heap.size w wr ∧ Hid (((chars s pos).all (fun p => nameSignB (p.2 : Int)) && decide (0 < s.size)) = A)) (fun wr => s.size - wr.iterPos w.heap.size)
  case atStart => exact ⟨0, heap_alloc_new w _, (Below.refl _ _).alloc (Nat.le_refl _) _, HA⟩
  case round =>
    obtain ⟨pos, hit, hB, HC⟩ := hrel
    by_cases hlt : pos < s.size
    · have hnx := fun ty => run_next_any_at (P := Tryz.prog) wr w.heap.size s pos ty hit hlt
      have hb := dec_bounds s pos hlt
      have hit2 := iterAt_heap wr w.heap.size s pos (pos + (Utf8.decode s pos).2) hit
      have hB2 : Below w.heap.size w (wr.iterAt w.heap.size s (pos + (Utf8.decode s pos).2)) := hB.grown (grownBy_iterAt wr w.heap.size s _) hB.size (fun k e => by cases e; exact Nat.le_refl _)
      have hmeas : s.size - (pos + (Utf8.decode s pos).2) < s.size - wr.iterPos w.heap.size := by rw [iterPos_of hit]; omega
      have HS : Hid (((nameSignB ((Utf8.decode s pos).1 : Int) && (chars s (pos + (Utf8.decode s pos).2)).all (fun p => nameSignB (p.2 : Int))) && decide (0 < s.size)) = A) := by
        show _ = _
        have := HC.out; rw [chars_step s pos hlt, List.all_cons] at this; exact this
      generalize hW3 : wr.iterAt w.heap.size s (pos + (Utf8.decode s pos).2) = W3 at *
      clear hW3 HC
      generalize hR : (Utf8.decode s pos).1 = R at *
      generalize hD : (Utf8.decode s pos).2 = D at *
      cases hc : nameSignB (R : Int) with
      | true =>
        have hCt : ∀ w, Calls Tryz.prog 121 #[.int .i32 (R : Nat)] w fun e w' => e = .returned (.bool true) ∧ w = w' := fun w => (isNameSign_any (R : Int) w).mono fun e w' ⟨a, b⟩ => ⟨by rw [a, hc], b.symm⟩
        have HC3 : Hid (((chars s (pos + D)).all (fun p => nameSignB (p.2 : Int)) && decide (0 < s.size)) = A) := by show _ = _; have := HS.out; rw [hc, Bool.true_and] at this; exact this
        clear hc HS hR hD
        go_wp2_with (go_at_call 121; refine (hCt _).mono ?_; rintro e w5 ⟨rfl, rfl⟩)
        go_roundw
        case rel => exact ⟨_, hit2, hB2, HC3⟩
        case measure => rw [iterPos_of hit2]; exact hmeas
      | false =>
        have hCt : ∀ w, Calls Tryz.prog 121 #[.int .i32 (R : Nat)] w fun e w' => e = .returned (.bool false) ∧ w = w' := fun w => (isNameSign_any (R : Int) w).mono fun e w' ⟨a, b⟩ => ⟨by rw [a, hc], b.symm⟩
        have HE : Hid (A = false) := by show _ = _; have := HS.out; rw [hc, Bool.false_and, Bool.false_and] at this; exact this.symm
        clear hc HS hR hD
        go_wp2_with (go_at_call 121; refine (hCt _).mono ?_; rintro e w5 ⟨rfl, rfl⟩)
        go_ret
        exact ⟨by rw [HE.out]; rfl, hB2⟩
    · have hnx := fun ty => run_next_end_at (P := Tryz.prog) wr w.heap.size s pos ty hit hlt
      have HE : Hid (A = decide (0 < s.size)) := by
        show _ = _
        have := HC.out
        rw [chars_end s pos hlt] at this; simpa using this.symm
      go_wp2
      go_ret
      refine ⟨ret_bool ?_, hB⟩
      rw [HE.out, toList_empty]
      cases Nat.eq_zero_or_pos s.size with
      | inl h => rw [h]; rfl
      | inr h => rw [decide_eq_true h, decide_eq_false (by omega)]; rfl

/-- what stands ahead of a byte's first place, what behind it, whether it is there -/
def untilB (c : UInt8) : List UInt8 → List UInt8 × List UInt8 × Bool
  | [] => ([], [], false)
  | b :: l => if b = c then ([], l, true) else (b :: (untilB c l).1, (untilB c l).2.1, (untilB c l).2.2)
theorem until_index : ∀ (l : List UInt8) (c : UInt8), (indexByte l c = -1 ∧ untilB c l = (l, [], false)) ∨ (∃ n : Nat, indexByte l c = (n : Int) ∧ n < l.length ∧ untilB c l = (l.take n, l.drop (n + 1), true))
  | [], c => .inl ⟨rfl, rfl⟩
  | b :: l, c => by
    by_cases h : b = c
    · exact .inr ⟨0, by simp [indexByte, h], by simp, by simp [untilB, h]⟩
    · rcases until_index l c with ⟨h1, h2⟩ | ⟨n, h1, h2, h3⟩
      · exact .inl ⟨by simp [indexByte, h, h1], by simp [untilB, h, h2]⟩
      · refine .inr ⟨n + 1, by simp [indexByte, h, h1], by simpa using h2, by simp [untilB, h, h3]⟩

set_option maxRecDepth 100000 in
theorem liteCut_any (s : ByteArray) (w : World) (hs : s.size ≤ maxLen) :
    Calls Tryz.prog 120 #[.string s, .string ⟨#[58]⟩] w fun e w' => e = .returned (.tuple #[.string (S (untilB 58 (L s)).1), .string (S (untilB 58 (L s)).2.1), .bool (untilB 58 (L s)).2.2]) ∧ ∃ n, w' = w.drewN n := by
  unfold maxLen at hs
  have hI := fun w => Tryz.stringslite_Index_one s 58 w
  have hLl := L_len s
  rcases until_index (L s) 58 with ⟨h1, h2⟩ | ⟨n, h1, h2, h3⟩
  · rw [show indexByte s.data.toList 58 = -1 from h1] at hI
    rw [h2, S_L]
    clear h1 h2
    go_enter Tryz.func120, Tryz.ntmps120
    go_wp2_with (go_at_call 159; refine (hI _).mono ?_; rintro e w' ⟨rfl, rfl⟩)
    go_returns
    exact ⟨rfl, 0, rfl⟩
  · rw [show indexByte s.data.toList 58 = (n : Int) from h1] at hI
    rw [hLl] at h2
    have e1 : s.extract 0 n = S ((L s).take n) := by rw [extract_eq]; simp
    have e2 : s.extract (n + 1) s.size = S ((L s).drop (n + 1)) := by
      rw [extract_eq, List.take_of_length_le (by rw [List.length_drop, hLl]; omega)]
    rw [h3]
    have E1 := hide e1
    have E2 := hide e2
    clear h1 h3 hLl e1 e2
    go_enter Tryz.func120, Tryz.ntmps120
    go_wp2_with (go_at_call 159; refine (hI _).mono ?_; rintro e w' ⟨rfl, rfl⟩)
    go_region
    all_goals
      go_wp2
      go_returns
      exact ⟨by rw [← unhide E1, ← unhide E2]; rfl, 1, rfl⟩

set_option maxRecDepth 100000 in
theorem strCut_any (s : ByteArray) (w : World) (hs : s.size ≤ maxLen) :
    Calls Tryz.prog 85 #[.string s, .string ⟨#[58]⟩] w fun e w' => e = .returned (.tuple #[.string (S (untilB 58 (L s)).1), .string (S (untilB 58 (L s)).2.1), .bool (untilB 58 (L s)).2.2]) ∧ Below w.heap.size w w' := by
  have hI := fun w => liteCut_any s w hs
  generalize untilB 58 (L s) = U at *
  go_enter Tryz.func85, Tryz.ntmps85
  go_wp2_with (go_at_call 120; refine (hI _).mono ?_; rintro e w' ⟨rfl, n, rfl⟩)
  go_returns
  exact ⟨rfl, below_drewN (Below.refl _ _) n⟩

end Go.Proofs.YthgaadjkjnibaaaGreatDoor
/-
  Scan of package lines, for every text: orders, and the rest.
-/
namespace Go.Proofs.YthgaadjkjnibaaaGreatDoor
open Go.RowKit Go.PlainAid Go.Lib Go.Shelf
set_option linter.unusedVariables false

/-- a line -/
structure LineD where
  no : Int
  kind : Int
  name : List UInt8
  fields : List (List UInt8)
  note : List UInt8
def zeroD : LineD := ⟨0, 0, [], [], []⟩
abbrev lineV (d : LineD) (v : Value) : Value := .agg #[.int .i64 d.no, .int .u8 d.kind, .string (S d.name), v, .string (S d.note)]
/-- a list of texts in memory of the call's own -/
abbrev TextsAt (w : World) (base : Nat) (v : Value) (l : List (List UInt8)) : Prop := w.ownsRow base 9 1 v l.length (strVs (l.map S))

theorem row_base {w : World} {b b' : Nat} {e : TypeId} {size : Nat} {v : Value} {n : Nat} {xs : List Value} (h : w.ownsRow b e size v n xs) (hb : b' ≤ b) : w.ownsRow b' e size v n xs := by
  refine ⟨h.1, ?_⟩
  rcases h.2 with h | ⟨g, cap, cur, h1, h2, h3, h4⟩
  · exact .inl h
  · exact .inr ⟨g, cap, cur, h1, by omega, h3, h4⟩
theorem row_set {w : World} {b : Nat} {e : TypeId} {size : Nat} {v : Value} {n : Nat} {xs : List Value} (h : w.ownsRow b e size v n xs) {k o : Nat} (hk : k < b) (x : Value) : (w.setCell ⟨k, o, none⟩ x).ownsRow b e size v n xs := by
  refine ⟨h.1, ?_⟩
  rcases h.2 with h | ⟨g, cap, cur, h1, h2, h3, h4⟩
  · exact .inl h
  · exact .inr ⟨g, cap, cur, h1, h2, (Below.heap_setCell _ _ _ _ (by show g ≠ k; omega)).trans h3, h4⟩
theorem box5 {W : World} {b : Nat} {x y z u v : Value} {t : TypeId} (h : W.heap[b]? = some (.cells #[x, y, z, u, v] t)) :
    W.cell? ⟨b, 0, none⟩ = some x ∧ W.cell? ⟨b, 1, none⟩ = some y ∧ W.cell? ⟨b, 2, none⟩ = some z ∧ W.cell? ⟨b, 3, none⟩ = some u ∧ W.cell? ⟨b, 4, none⟩ = some v ∧ W.frozen? ⟨b, 0, none⟩ = false ∧ W.frozen? ⟨b, 1, none⟩ = false ∧ W.frozen? ⟨b, 2, none⟩ = false ∧ W.frozen? ⟨b, 3, none⟩ = false ∧ W.frozen? ⟨b, 4, none⟩ = false := by
  refine ⟨?_, ?_, ?_, ?_, ?_, ?_, ?_, ?_, ?_, ?_⟩ <;> simp [World.cell?, World.frozen?, h]
/-- five cells of one block, written one behind the other -/
theorem set5 {W : World} {b : Nat} {x0 x1 x2 x3 x4 : Value} {t : TypeId} (h : W.heap[b]? = some (.cells #[x0, x1, x2, x3, x4] t)) (y0 y1 y2 y3 y4 : Value) :
    ∃ W5, ((((W.setCell ⟨b, 0, none⟩ y0).setCell ⟨b, 1, none⟩ y1).setCell ⟨b, 2, none⟩ y2).setCell ⟨b, 3, none⟩ y3).setCell ⟨b, 4, none⟩ y4 = W5 ∧ W5.heap[b]? = some (.cells #[y0, y1, y2, y3, y4] t) ∧ (∀ B w, Below B w W → B ≤ b → Below B w W5) ∧
      (∀ B e size v n xs, W.ownsRow B e size v n xs → b < B → W5.ownsRow B e size v n xs) ∧ (∀ k, k ≠ b → W5.heap[k]? = W.heap[k]?) ∧ W5.heap.size = W.heap.size := by
  refine ⟨_, rfl, ?_, ?_, ?_, ?_, by simp⟩
  · have h1 := heap_setCell_same W b 0 _ t y0 h
    have h2 := heap_setCell_same _ b 1 _ t y1 h1
    have h3 := heap_setCell_same _ b 2 _ t y2 h2
    have h4 := heap_setCell_same _ b 3 _ t y3 h3
    have h5 := heap_setCell_same _ b 4 _ t y4 h4
    rw [h5]; rfl
  · intro B w hB hb
    exact ((((hB.setCell hb _).setCell hb _).setCell hb _).setCell hb _).setCell hb _
  · intro B e size v n xs hr hb
    exact row_set (row_set (row_set (row_set (row_set hr hb _) hb _) hb _) hb _) hb _
  · intro k hk
    rw [heap_setCell_other _ _ _ _ hk, heap_setCell_other _ _ _ _ hk, heap_setCell_other _ _ _ _ hk, heap_setCell_other _ _ _ _ hk, heap_setCell_other _ _ _ _ hk]
theorem sizeLine : (Tryz.prog.info? 53).map (·.size) = some 5 := by kernel_rfl
theorem results_line {fn : Func} {p u : Tmp} (h : fn.results = #[.cell p 53, .tmp u]) (tmps : Array Value) (w : World) (g : Nat) (x0 x1 x2 x3 x4 : Value)
    (hp : tmps.getD p undef = .pointer (some ⟨g, 0, none⟩)) (hg : w.heap[g]? = some (.cells #[x0, x1, x2, x3, x4] 53)) : (results fn tmps).run Tryz.prog w = .ok (.tuple #[.agg #[x0, x1, x2, x3, x4], tmps.getD u undef]) w := by
  rw [results_cell_tmp h, hp]
  simp only [asAddr, Sem.run_pure, Result.andThen_ok]
  rw [run_loadVar_row w g _ 53 _ (0, 0) _ hg Tryz.underlying53 rfl sizeLine]
  rfl
abbrev zeroBlk : Obj := .cells #[.int .i64 0, .int .u8 0, .string ⟨#[]⟩, .slice none 0 0, .string ⟨#[]⟩] 53

/-- an order, of which what stands behind the @ is known -/
def orderS (no : Int) (l : List UInt8) : LineD × Int :=
  if ((untilB 58 l).2.2 && nameB (S (untilB 58 l).1)) = true then (⟨no, 2, (untilB 58 l).1, (cutS (S (untilB 58 l).2.1)).1, (cutS (S (untilB 58 l).2.1)).2⟩, 0) else (zeroD, 33)
theorem until_le (c : UInt8) (l : List UInt8) : (untilB c l).1.length ≤ l.length ∧ (untilB c l).2.1.length ≤ l.length := by
  rcases until_index l c with ⟨_, h⟩ | ⟨n, _, _, h⟩ <;> rw [h] <;> simp
  omega

set_option maxRecDepth 100000 in
set_option maxHeartbeats 2000000 in
theorem scanOrder_any (no : Int) (s : ByteArray) (w : World) (hs : s.size ≤ 1099511627776) :
    Calls Tryz.prog 55 #[.int .i64 no, .string s] w fun e w' => ∃ v, e = .returned (.tuple #[lineV (orderS no (L s)).1 v, .int .i64 (orderS no (L s)).2]) ∧ TextsAt w' w.heap.size v (orderS no (L s)).1.fields ∧ Below w.heap.size w w' := by
  have hmx : s.size ≤ maxLen := by unfold maxLen; omega
  have hC := fun w => strCut_any s w hmx
  have hul := until_le 58 (L s)
  rw [L_len] at hul
  have hN := fun w => isName_any (S (untilB 58 (L s)).1) w (by rw [S_size]; unfold maxLen; omega)
  have hK := fun w => cut_any (S (untilB 58 (L s)).2.1) w (by rw [S_size]; omega)
  obtain ⟨U1, U2, U3, hU⟩ : ∃ U1 U2 U3, untilB 58 (L s) = (U1, U2, U3) := ⟨_, _, _, rfl⟩
  unfold orderS
  simp only [hU] at hC hN hK ⊢
  obtain ⟨C1, C2, hCC⟩ : ∃ C1 C2, cutS (S U2) = (C1, C2) := ⟨_, _, rfl⟩
  simp only [hCC] at hK ⊢
  clear hCC hU
  have HC := hide hC
  have HN := hide hN
  have HK := hide hK
  clear hC hN hK hul
  cases hb1 : U3 with
  | false =>
    subst hb1
    simp only [Bool.false_and, Bool.false_eq_true]
    go_enter Tryz.func55, Tryz.ntmps55
    go_wp2_with fail
    refine (unhide HC _).mono ?_
    rintro e w1 ⟨rfl, hb1⟩
    have hblk : w1.heap[w.heap.size]? = some zeroBlk := (hb1.block w.heap.size (by simp)).trans (heap_alloc_new w _)
    have hB1 : Below w.heap.size w w1 := ((Below.refl _ w).alloc (Nat.le_refl _) _).trans (hb1.mono (by simp))
    obtain ⟨c0, c1, c2, c3, c4, f0, f1, f2, f3, f4⟩ := box5 hblk
    have HBK := hide hblk
    clear hblk hb1
    go_wp2
    obtain ⟨W5, hW5, hb5, hB5, hr5, -, -⟩ := set5 (unhide HBK) (.int .i64 0) (.int .u8 0) (.string ⟨#[]⟩) (.slice none 0 0) (.string ⟨#[]⟩)
    rw [hW5]
    refine bodyPost_ret (results_line rfl _ _ _ _ _ _ _ _ rfl hb5) rfl ?_
    exact ⟨.slice none 0 0, rfl, World.ownsRow_nil _ _ _ _, hB5 _ _ hB1 (Nat.le_refl _)⟩
  | true =>
    subst hb1
    cases hb2 : nameB (S U1) with
    | false =>
      rw [hb2] at HN
      simp only [Bool.and_false, Bool.false_eq_true]
      go_enter Tryz.func55, Tryz.ntmps55
      go_wp2_with fail
      refine (unhide HC _).mono ?_
      rintro e w1 ⟨rfl, hb1⟩
      have hblk : w1.heap[w.heap.size]? = some zeroBlk := (hb1.block w.heap.size (by simp)).trans (heap_alloc_new w _)
      have hB1 : Below w.heap.size w w1 := ((Below.refl _ w).alloc (Nat.le_refl _) _).trans (hb1.mono (by simp))
      have HBK := hide hblk
      clear hblk hb1
      go_wp2_with fail
      refine (unhide HN _).mono ?_
      rintro e w2 ⟨rfl, hb2⟩
      have hblk2 : w2.heap[w.heap.size]? = some zeroBlk := (hb2.block w.heap.size (Array.getElem?_eq_some_iff.1 (unhide HBK)).1).trans (unhide HBK)
      have hB2 : Below w.heap.size w w2 := hB1.trans (hb2.mono hB1.size)
      obtain ⟨c0, c1, c2, c3, c4, f0, f1, f2, f3, f4⟩ := box5 hblk2
      have HBK2 := hide hblk2
      clear hblk2 hb2 hB1
      go_wp2
      obtain ⟨W5, hW5, hb5, hB5, hr5, -, -⟩ := set5 (unhide HBK2) (.int .i64 0) (.int .u8 0) (.string ⟨#[]⟩) (.slice none 0 0) (.string ⟨#[]⟩)
      rw [hW5]
      refine bodyPost_ret (results_line rfl _ _ _ _ _ _ _ _ rfl hb5) rfl ?_
      exact ⟨.slice none 0 0, rfl, World.ownsRow_nil _ _ _ _, hB5 _ _ hB2 (Nat.le_refl _)⟩
    | true =>
      rw [hb2] at HN
      simp only [Bool.and_self, if_true]
      go_enter Tryz.func55, Tryz.ntmps55
      go_wp2_with fail
      refine (unhide HC _).mono ?_
      rintro e w1 ⟨rfl, hb1⟩
      have hblk : w1.heap[w.heap.size]? = some zeroBlk := (hb1.block w.heap.size (by simp)).trans (heap_alloc_new w _)
      have hB1 : Below w.heap.size w w1 := ((Below.refl _ w).alloc (Nat.le_refl _) _).trans (hb1.mono (by simp))
      have HBK := hide hblk
      clear hblk hb1
      go_wp2_with fail
      refine (unhide HN _).mono ?_
      rintro e w2 ⟨rfl, hb2⟩
      have hblk2 : w2.heap[w.heap.size]? = some zeroBlk := (hb2.block w.heap.size (Array.getElem?_eq_some_iff.1 (unhide HBK)).1).trans (unhide HBK)
      have hB2 : Below w.heap.size w w2 := hB1.trans (hb2.mono hB1.size)
      have HBK2 := hide hblk2
      clear hblk2 hb2 hB1
      go_wp2_with fail
      refine (unhide HK _).mono ?_
      rintro e w3 ⟨v, rfl, hrow, hb3⟩
      have hlt2 : w.heap.size < w2.heap.size := (Array.getElem?_eq_some_iff.1 (unhide HBK2)).1
      have hblk3 : w3.heap[w.heap.size]? = some zeroBlk := (hb3.block w.heap.size hlt2).trans (unhide HBK2)
      have hB3 : Below w.heap.size w w3 := hB2.trans (hb3.mono hB2.size)
      obtain ⟨c0, c1, c2, c3, c4, f0, f1, f2, f3, f4⟩ := box5 hblk3
      obtain ⟨a, c, rfl⟩ := row_slice2 hrow
      have HR := hide hrow
      have HBK3 := hide hblk3
      clear hblk3 hb3 hB2 hrow HBK HBK2
      go_wp2
      obtain ⟨W5, hW5, hb5, hB5, hr5, -, -⟩ := set5 (unhide HBK3) (.int .i64 no) (.int .u8 2) (.string (S U1)) (.slice a C1.length c) (.string (S C2))
      rw [hW5]
      refine bodyPost_ret (results_line rfl _ _ _ _ _ _ _ _ rfl hb5) rfl ?_
      exact ⟨_, rfl, row_base (hr5 _ _ _ _ _ _ (unhide HR) hlt2) (Nat.le_of_lt hlt2), hB5 _ _ hB3 (Nat.le_refl _)⟩
end Go.Proofs.YthgaadjkjnibaaaGreatDoor
/-
  Scan of package lines, for every text.
-/
namespace Go.Proofs.YthgaadjkjnibaaaGreatDoor
open Go.RowKit Go.PlainAid Go.Lib Go.Shelf
set_option linter.unusedVariables false

abbrev missingL : List UInt8 := [64, 109, 105, 115, 115, 105, 110, 103, 58]
/-- a line that is no order -/
def plainS (no : Int) (s : ByteArray) : LineD :=
  if (cutS s).1 ≠ [] then ⟨no, 1, [], (cutS s).1, (cutS s).2⟩
  else if hasPrefix (cutS s).2 missingL = true then ⟨no, 3, [], (cutS (S ((cutS s).2.drop 9))).1, (cutS (S ((cutS s).2.drop 9))).2⟩
  else ⟨no, 0, [], [], (cutS s).2⟩
/-- what a line is, or why it is none -/
def scanS (no : Int) (s : ByteArray) : LineD × Int :=
  if (chkS s).2 ≠ 0 then (zeroD, (chkS s).2)
  else if hasPrefix (trimB (L s)) [64] = true then orderS no ((trimB (L s)).drop 1)
  else (plainS no s, 0)
theorem trimB_le (l : List UInt8) : (trimB l).length ≤ l.length := by
  unfold trimB trimS trimLeftS trimRightS
  refine Nat.le_trans ((List.dropWhile_sublist _).length_le) ?_
  rw [List.length_reverse]
  refine Nat.le_trans ((List.dropWhile_sublist _).length_le) ?_
  rw [List.length_reverse]; exact Nat.le_refl _
theorem mach_note_le : ∀ (l : List UInt8) (n : Nat) (cur pend : List UInt8), (mach n cur pend l).2.length ≤ l.length
  | [], n, cur, pend => by simp [mach]
  | b :: l, n, cur, pend => by
    unfold mach
    have h1 := mach_note_le l n [] []
    have h2 := mach_note_le l n cur (pend ++ [b])
    have h3 := mach_note_le l (n + 1) [] []
    have h4 := mach_note_le l n (cur ++ pend ++ [b]) []
    have h5 := trimB_le l
    (repeat' split) <;> simp only [List.length_cons] <;> omega
theorem prefix_trim (l p : List UInt8) (h : hasPrefix l p = true) : trimPrefix l p = l.drop p.length := by simp [trimPrefix, h]
theorem prefix_not (l p : List UInt8) (h : hasPrefix l p = false) : trimPrefix l p = l := by simp [trimPrefix, h]

set_option maxRecDepth 100000 in
set_option maxHeartbeats 4000000 in
theorem scan_any (no : Int) (s : ByteArray) (w : World) (hs : s.size ≤ 1099511627776) :
    Calls Tryz.prog 29 #[.int .i64 no, .string s] w fun e w' => ∃ v, e = .returned (.tuple #[lineV (scanS no s).1 v, .int .i64 (scanS no s).2]) ∧ TextsAt w' w.heap.size v (scanS no s).1.fields ∧ Below w.heap.size w w' := by
  have hmx : s.size ≤ maxLen := by unfold maxLen; omega
  have hK := fun w => check3_any s w hmx
  have HB0 : Hid (∀ w1, Below (w.alloc zeroBlk).heap.size (w.alloc zeroBlk) w1 → w1.heap[w.heap.size]? = some zeroBlk ∧ Below w.heap.size w w1) := fun w1 hb1 =>
    ⟨(hb1.block w.heap.size (by simp)).trans (heap_alloc_new w _), ((Below.refl _ w).alloc (Nat.le_refl _) _).trans (hb1.mono (by simp))⟩
  have HBn : Hid (∀ w1 w2 : World, w1.heap[w.heap.size]? = some zeroBlk ∧ Below w.heap.size w w1 → Below w1.heap.size w1 w2 → w2.heap[w.heap.size]? = some zeroBlk ∧ Below w.heap.size w w2) := fun w1 w2 h hb =>
    ⟨(hb.block w.heap.size (Array.getElem?_eq_some_iff.1 h.1).1).trans h.1, h.2.trans (hb.mono h.2.size)⟩
  have HLT : Hid (∀ w1 : World, w1.heap[w.heap.size]? = some zeroBlk ∧ Below w.heap.size w w1 → w.heap.size < w1.heap.size) := fun w1 h => (Array.getElem?_eq_some_iff.1 h.1).1
  unfold scanS
  obtain ⟨K1, K2, hKK⟩ : ∃ K1 K2, chkS s = (K1, K2) := ⟨_, _, rfl⟩
  simp only [hKK] at hK ⊢
  clear hKK
  have HK := hide hK
  clear hK
  by_cases k1 : K2 = 0
  case neg =>
    rw [if_pos k1]
    have d1 : (K2 != 0) = true := by simpa using k1
    go_enter Tryz.func29, Tryz.ntmps29
    go_wp2_with fail
    refine (unhide HK _).mono ?_
    rintro e w1 ⟨rfl, hb1⟩
    have h1 := unhide HB0 w1 hb1
    obtain ⟨c0, c1, c2, c3, c4, f0, f1, f2, f3, f4⟩ := box5 h1.1
    have H1 := hide h1
    clear h1 hb1 k1
    go_wp2
    obtain ⟨W5, hW5, hb5, hB5, hr5, -, -⟩ := set5 (unhide H1).1 (.int .i64 0) (.int .u8 0) (.string ⟨#[]⟩) (.slice none 0 0) (.string ⟨#[]⟩)
    rw [hW5]
    refine bodyPost_ret (results_line rfl _ _ _ _ _ _ _ _ rfl hb5) rfl ?_
    exact ⟨.slice none 0 0, rfl, World.ownsRow_nil _ _ _ _, hB5 _ _ (unhide H1).2 (Nat.le_refl _)⟩
  case pos =>
    subst k1
    rw [if_neg (by simp)]
    have htl := trimB_le (L s)
    rw [L_len] at htl
    have hT := fun w => trim_any s w hmx
    have hP := fun w => Tryz.strings_CutPrefix (S (trimB (L s))) ⟨#[64]⟩ w
    rw [show (S (trimB (L s))).data.toList = trimB (L s) from L_S _] at hP
    obtain ⟨T, hTT⟩ : ∃ T, trimB (L s) = T := ⟨_, rfl⟩
    simp only [hTT] at hT hP htl ⊢
    clear hTT
    have HT := hide hT
    clear hT
    cases k2 : hasPrefix T [64] with
    | true =>
      rw [if_pos rfl]
      have hP' : ∀ w, Calls Tryz.prog 53 #[.string (S T), .string ⟨#[64]⟩] w fun e w' => e = .returned (.tuple #[.string (S (T.drop 1)), .bool true]) ∧ w = w' := fun w => (hP w).mono fun e w' ⟨a, b⟩ => ⟨by rw [a, k2, prefix_trim _ _ k2]; rfl, b.symm⟩
      have hO := fun w => scanOrder_any no (S (T.drop 1)) w (by rw [S_size, List.length_drop]; omega)
      rw [L_S] at hO
      obtain ⟨O1, O2, hOO⟩ : ∃ O1 O2, orderS no (T.drop 1) = (O1, O2) := ⟨_, _, rfl⟩
      simp only [hOO] at hO ⊢
      clear hOO k2 hP
      have HP := hide hP'
      have HO := hide hO
      clear hP' hO
      generalize T.drop 1 = T1 at *
      go_enter Tryz.func29, Tryz.ntmps29
      go_wp2_with fail
      refine (unhide HK _).mono ?_
      rintro e w1 ⟨rfl, hb1⟩
      have H1 := hide (unhide HB0 w1 hb1)
      clear hb1
      go_wp2_with fail
      refine (unhide HT _).mono ?_
      rintro e w2 ⟨rfl, hb2⟩
      have H2 := hide (unhide HBn w1 w2 (unhide H1) hb2)
      clear hb2
      go_wp2_with fail
      refine (unhide HP _).mono ?_
      rintro e w3 ⟨rfl, rfl⟩
      go_wp2_with fail
      refine (unhide HO _).mono ?_
      rintro e w4 ⟨v, rfl, hrow, hb4⟩
      have h4 := unhide HBn w2 w4 (unhide H2) hb4
      obtain ⟨c0, c1, c2, c3, c4, f0, f1, f2, f3, f4⟩ := box5 h4.1
      obtain ⟨a, c, rfl⟩ := row_slice2 hrow
      have H4 := hide h4
      have HR := hide hrow
      clear h4 hb4 hrow
      go_wp2
      obtain ⟨W5, hW5, hb5, hB5, hr5, -, -⟩ := set5 (unhide H4).1 (.int .i64 O1.no) (.int .u8 O1.kind) (.string (S O1.name)) (.slice a O1.fields.length c) (.string (S O1.note))
      rw [hW5]
      refine bodyPost_ret (results_line rfl _ _ _ _ _ _ _ _ rfl hb5) rfl ?_
      have hl := unhide HLT _ (unhide H2)
      exact ⟨_, rfl, row_base (hr5 _ _ _ _ _ _ (unhide HR) hl) (Nat.le_of_lt hl), hB5 _ _ (unhide H4).2 (Nat.le_refl _)⟩
    | false =>
      rw [if_neg (by simp)]
      have hP' : ∀ w, Calls Tryz.prog 53 #[.string (S T), .string ⟨#[64]⟩] w fun e w' => e = .returned (.tuple #[.string (S T), .bool false]) ∧ w = w' := fun w => (hP w).mono fun e w' ⟨a, b⟩ => ⟨by rw [a, k2, prefix_not _ _ k2], b.symm⟩
      have hC := fun w => cut_any s w hs
      have hml := mach_note_le (L s) 0 [] []
      have hnl : (cutS s).2.length ≤ s.size := by rw [← L_len]; exact hml
      unfold plainS
      obtain ⟨C1, C2, hCC⟩ : ∃ C1 C2, cutS s = (C1, C2) := ⟨_, _, rfl⟩
      simp only [hCC] at hC hnl ⊢
      clear hCC k2 hP hml
      have HP := hide hP'
      have HC := hide hC
      clear hP' hC
      cases C1 with
      | cons x C1 =>
        rw [if_pos (by simp)]
        have d0 : 0 < (x :: C1).length := by simp
        generalize x :: C1 = C1 at *
        go_enter Tryz.func29, Tryz.ntmps29
        go_wp2_with fail
        refine (unhide HK _).mono ?_
        rintro e w1 ⟨rfl, hb1⟩
        have H1 := hide (unhide HB0 w1 hb1)
        clear hb1
        go_wp2_with fail
        refine (unhide HT _).mono ?_
        rintro e w2 ⟨rfl, hb2⟩
        have H2 := hide (unhide HBn w1 w2 (unhide H1) hb2)
        clear hb2
        go_wp2_with fail
        refine (unhide HP _).mono ?_
        rintro e w3 ⟨rfl, rfl⟩
        go_wp2_with fail
        refine (unhide HC _).mono ?_
        rintro e w4 ⟨v, rfl, hrow, hb4⟩
        have h4 := unhide HBn w2 w4 (unhide H2) hb4
        obtain ⟨a, c, rfl⟩ := row_slice2 hrow
        have hl2 := unhide HLT _ (unhide H2)
        obtain ⟨c0, c1, c2, c3, c4, f0, f1, f2, f3, f4⟩ := box5 h4.1
        have H4 := hide h4
        have HR := hide hrow
        clear h4 hb4 hrow
        go_wp2
        obtain ⟨W5, hW5, hb5, hB5, hr5, -, -⟩ := set5 (unhide H4).1 (.int .i64 no) (.int .u8 1) (.string ⟨#[]⟩) (.slice a C1.length c) (.string (S C2))
        rw [hW5]
        refine bodyPost_ret (results_line rfl _ _ _ _ _ _ _ _ rfl hb5) rfl ?_
        exact ⟨_, rfl, row_base (hr5 _ _ _ _ _ _ (unhide HR) hl2) (Nat.le_of_lt hl2), hB5 _ _ (unhide H4).2 (Nat.le_refl _)⟩
      | nil =>
        rw [if_neg (by simp)]
        have hM := fun w => Tryz.strings_CutPrefix (S C2) ⟨#[64, 109, 105, 115, 115, 105, 110, 103, 58]⟩ w
        rw [show (S C2).data.toList = C2 from L_S _] at hM
        cases k3 : hasPrefix C2 missingL with
        | false =>
          have hM' : ∀ w, Calls Tryz.prog 53 #[.string (S C2), .string ⟨#[64, 109, 105, 115, 115, 105, 110, 103, 58]⟩] w fun e w' => e = .returned (.tuple #[.string (S C2), .bool false]) ∧ w = w' := fun w => (hM w).mono fun e w' ⟨a, b⟩ => ⟨by rw [a, k3, prefix_not _ _ k3], b.symm⟩
          have HM := hide hM'
          rw [if_neg (by simp)]
          clear hM hM' k3
          go_enter Tryz.func29, Tryz.ntmps29
          go_wp2_with fail
          refine (unhide HK _).mono ?_
          rintro e w1 ⟨rfl, hb1⟩
          have H1 := hide (unhide HB0 w1 hb1)
          clear hb1
          go_wp2_with fail
          refine (unhide HT _).mono ?_
          rintro e w2 ⟨rfl, hb2⟩
          have H2 := hide (unhide HBn w1 w2 (unhide H1) hb2)
          clear hb2
          go_wp2_with fail
          refine (unhide HP _).mono ?_
          rintro e w3 ⟨rfl, rfl⟩
          go_wp2_with fail
          refine (unhide HC _).mono ?_
          rintro e w4 ⟨v, rfl, hrow, hb4⟩
          have h4 := unhide HBn w2 w4 (unhide H2) hb4
          obtain ⟨a, c, rfl⟩ := row_slice2 hrow
          have hl2 := unhide HLT _ (unhide H2)
          have H4 := hide h4
          have HR := hide hrow
          clear h4 hb4 hrow
          go_wp2_with fail
          refine (unhide HM _).mono ?_
          rintro e w5 ⟨rfl, rfl⟩
          obtain ⟨c0, c1, c2, c3, c4, f0, f1, f2, f3, f4⟩ := box5 (unhide H4).1
          go_wp2
          obtain ⟨W5, hW5, hb5, hB5, hr5, -, -⟩ := set5 (unhide H4).1 (.int .i64 no) (.int .u8 0) (.string ⟨#[]⟩) (.slice a 0 c) (.string (S C2))
          rw [hW5]
          refine bodyPost_ret (results_line rfl _ _ _ _ _ _ _ _ rfl hb5) rfl ?_
          exact ⟨_, rfl, row_base (hr5 _ _ _ _ _ _ (unhide HR) hl2) (Nat.le_of_lt hl2), hB5 _ _ (unhide H4).2 (Nat.le_refl _)⟩
        | true =>
          have hM' : ∀ w, Calls Tryz.prog 53 #[.string (S C2), .string ⟨#[64, 109, 105, 115, 115, 105, 110, 103, 58]⟩] w fun e w' => e = .returned (.tuple #[.string (S (C2.drop 9)), .bool true]) ∧ w = w' := fun w => (hM w).mono fun e w' ⟨a, b⟩ => ⟨by rw [a, k3, prefix_trim _ _ k3]; rfl, b.symm⟩
          have hD := fun w => cut_any (S (C2.drop 9)) w (by rw [S_size, List.length_drop]; omega)
          rw [if_pos rfl]
          obtain ⟨D1, D2, hDD⟩ : ∃ D1 D2, cutS (S (C2.drop 9)) = (D1, D2) := ⟨_, _, rfl⟩
          simp only [hDD] at hD ⊢
          have HM := hide hM'
          have HD := hide hD
          clear hM hM' k3 hDD hD
          generalize C2.drop 9 = C9 at *
          go_enter Tryz.func29, Tryz.ntmps29
          go_wp2_with fail
          refine (unhide HK _).mono ?_
          rintro e w1 ⟨rfl, hb1⟩
          have H1 := hide (unhide HB0 w1 hb1)
          clear hb1
          go_wp2_with fail
          refine (unhide HT _).mono ?_
          rintro e w2 ⟨rfl, hb2⟩
          have H2 := hide (unhide HBn w1 w2 (unhide H1) hb2)
          clear hb2
          go_wp2_with fail
          refine (unhide HP _).mono ?_
          rintro e w3 ⟨rfl, rfl⟩
          go_wp2_with fail
          refine (unhide HC _).mono ?_
          rintro e w4 ⟨v, rfl, hrow, hb4⟩
          have h4 := unhide HBn w2 w4 (unhide H2) hb4
          obtain ⟨a, c, rfl⟩ := row_slice2 hrow
          have hl2 := unhide HLT _ (unhide H2)
          have H4 := hide h4
          clear h4 hb4 hrow
          go_wp2_with fail
          refine (unhide HM _).mono ?_
          rintro e w5 ⟨rfl, rfl⟩
          go_wp2_with fail
          refine (unhide HD _).mono ?_
          rintro e w6 ⟨v, rfl, hrow, hb6⟩
          have h6 := unhide HBn w4 w6 (unhide H4) hb6
          have hl4 := unhide HLT _ (unhide H4)
          obtain ⟨a', c', rfl⟩ := row_slice2 hrow
          obtain ⟨c0, c1, c2, c3, c4, f0, f1, f2, f3, f4⟩ := box5 h6.1
          have H6 := hide h6
          have HR := hide hrow
          clear h6 hb6 hrow
          go_wp2
          obtain ⟨W5, hW5, hb5, hB5, hr5, -, -⟩ := set5 (unhide H6).1 (.int .i64 no) (.int .u8 3) (.string ⟨#[]⟩) (.slice a' D1.length c') (.string (S D2))
          rw [hW5]
          refine bodyPost_ret (results_line rfl _ _ _ _ _ _ _ _ rfl hb5) rfl ?_
          exact ⟨_, rfl, row_base (hr5 _ _ _ _ _ _ (unhide HR) hl4) (Nat.le_of_lt hl4), hB5 _ _ (unhide H6).2 (Nat.le_refl _)⟩
end Go.Proofs.YthgaadjkjnibaaaGreatDoor

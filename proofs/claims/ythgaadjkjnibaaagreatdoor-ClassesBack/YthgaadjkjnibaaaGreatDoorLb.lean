/-
  These texts, one behind the other: LBase, LSmall, LCutM, LJump.
-/
import Derived.Test.YthgaadjkjnibaaaGreatDoorLShelf
import Derived.Test.YthgaadjkjnibaaaGreatDoorUb
import Derived.PlainAid
import Derived.Scope
import Derived.ScopeJumps
/-
  Bytes of a text as a list; the library's calls of package lines, by their contracts.
-/
namespace Go.Proofs.YthgaadjkjnibaaaGreatDoor
open Go.RowKit Go.PlainAid Go.Lib Go.Shelf

abbrev S (l : List UInt8) : ByteArray := ⟨l.toArray⟩
abbrev L (s : ByteArray) : List UInt8 := s.data.toList
theorem S_L (s : ByteArray) : S (L s) = s := by cases s; simp [L]
theorem L_S (l : List UInt8) : L (S l) = l := by simp [L]
theorem L_len (s : ByteArray) : (L s).length = s.size := by simp [L]
theorem S_size (l : List UInt8) : (S l).size = l.length := by rw [← L_len, L_S]
theorem L_extract (s : ByteArray) (a b : Nat) : L (s.extract a b) = ((L s).drop a).take (b - a) := extract_data s a b

theorem rowB {w w' : World} {base : Nat} {e : TypeId} {size : Nat} {v : Value} {n : Nat} {xs : List Value} (h : w.ownsRow base e size v n xs) (hb : Below w.heap.size w w') : w'.ownsRow base e size v n xs := by
  refine ⟨h.1, ?_⟩
  rcases h.2 with h | ⟨g, cap, cur, h1, h2, h3, h4⟩
  · exact .inl h
  · exact .inr ⟨g, cap, cur, h1, h2, (hb.block g (Array.getElem?_eq_some_iff.1 h3).1).trans h3, h4⟩
theorem belowG {a W w4 : World} {B : Nat} {e : TypeId} {size : Nat} {v : Value} {n : Nat} {xs : List Value} (hB : Below B a W) (hB' : B ≤ W.heap.size) (h : W.ownsRow B e size v n xs) (hg : W.grownBy w4 v.ownBlock) : Below B a w4 :=
  hB.grown hg hB' (fun k e1 => (h.lt k e1).1)
theorem row_slice {w : World} {base : Nat} {e : TypeId} {size : Nat} {v : Value} {n : Nat} {xs : List Value} (h : w.ownsRow base e size v n xs) : ∃ a n' c, v = .slice a n' c := by
  rcases h.2 with ⟨rfl, _⟩ | ⟨g, cap, cur, rfl, _⟩
  · exact ⟨_, _, _, rfl⟩
  · exact ⟨_, _, _, rfl⟩
theorem row_slice2 {w : World} {base : Nat} {e : TypeId} {size : Nat} {v : Value} {n : Nat} {xs : List Value} (h : w.ownsRow base e size v n xs) : ∃ a c, v = .slice a n c := by
  rcases h.2 with ⟨rfl, h0⟩ | ⟨g, cap, cur, rfl, _⟩
  · rw [h0]; exact ⟨_, _, rfl⟩
  · exact ⟨_, _, rfl⟩

end Go.Proofs.YthgaadjkjnibaaaGreatDoor
/-
  The small functions of package lines: what a byte means, what is trimmed, where a line ends.
-/
namespace Go.Proofs.YthgaadjkjnibaaaGreatDoor
open Go.RowKit Go.PlainAid Go.Lib Go.Shelf
set_option linter.unusedVariables false

/-- what a byte at a place means: 0 a blank, 1 of a field, 2 between fields, 3 the head's end -/
def signN (s : ByteArray) (i : Nat) : Int := if i = s.size then 3 else if bN s i = 32 ∨ bN s i = 9 then 0 else if bN s i = 59 then 2 else if bN s i = 35 then 3 else 1

theorem signAt_any (s : ByteArray) (i : Nat) (w : World) (hs : s.size ≤ maxLen) (hi : i ≤ s.size) :
    Calls Tryz.prog 87 #[.string s, .int .i64 (i : Nat)] w fun e w' => e = .returned (.int .u8 (signN s i)) ∧ w' = w := by
  unfold maxLen at hs
  by_cases he : i = s.size
  · subst he
    have e1 : signN s s.size = 3 := by simp [signN]
    rw [e1]
    go_enter Tryz.func87, Tryz.ntmps87
    go_wp2
    go_ret
    exact ⟨rfl, rfl⟩
  · have hlt : i < s.size := by omega
    have hne : ((i : Int) == (s.size : Int)) = false := by simp; omega
    have hv : (s[i]'hlt).toNat = bN s i := by rw [bN, get_in s i hlt]
    have hb2 := bN_lt s i
    unfold signN
    rw [if_neg he]
    go_enter Tryz.func87, Tryz.ntmps87
    go_wp2
    all_goals go_ret
    all_goals refine ⟨ret_int ?_, rfl⟩
    all_goals simp only [beq_iff_eq, beq_eq_false_iff_ne, ne_eq] at *
    all_goals (repeat' split)
    all_goals omega


/-- trimmed, of bytes -/
def trimB (l : List UInt8) : List UInt8 := trimS l [32, 9]
theorem trim_any (s : ByteArray) (w : World) (hs : s.size ≤ maxLen) :
    Calls Tryz.prog 54 #[.string s] w fun e w' => e = .returned (.string (S (trimB (L s)))) ∧ Below w.heap.size w w' := by
  unfold maxLen at hs
  have hT := fun w => Any.strings_Trim_laid Tryz.lays160 (by kernel_rfl) s ⟨#[32, 9]⟩ w hs (by decide) (ascii_of_all (by decide))
  go_enter Tryz.func54, Tryz.ntmps54
  go_wp2_with (go_at_call 84; refine (hT _).mono ?_; rintro e w' ⟨rfl, hb⟩)
  go_ret
  exact ⟨rfl, hb⟩

/-- a control character -/
def ctrlB (r : Int) : Bool := decide (r < 32) && decide (r ≠ 9) || decide (r = 127)
theorem isControl_any (r : Int) (w : World) :
    Calls Tryz.prog 82 #[.int .i32 r] w fun e w' => e = .returned (.bool (ctrlB r)) ∧ w' = w := by
  go_enter Tryz.func82, Tryz.ntmps82
  go_wp2
  all_goals go_ret
  all_goals refine ⟨ret_bool ?_, rfl⟩
  · rename_i h1 h2
    have h2' : r = 9 := by simpa using h2
    rw [h2']; rfl
  · rename_i h1 h2
    have h2' : r ≠ 9 := by simpa using h2
    have h1' : r < 32 := by simpa using h1
    unfold ctrlB; rw [decide_eq_true h1', decide_eq_true h2']; rfl
  · rename_i h1
    have h1' : ¬ r < 32 := by have : 32 ≤ r := by simpa using h1
                              omega
    unfold ctrlB; rw [decide_eq_false h1']
    rw [Bool.eq_iff_iff]; simp

theorem dec_shift (s : ByteArray) (i : Nat) (hi : i < s.size) : Utf8.decode (s.extract i s.size) 0 = Utf8.decode s i := by
  have hx := extract_size s i
  rw [decode_decB _ 0 (by omega), decode_decB s i hi, bN_extract, bN_extract, bN_extract, bN_extract, hx]; rfl
theorem field_width (a b c d : Int) (W : World) : (Instr.field 178 (.agg #[.int .i64 a, .int .i64 b, .int .i32 c, .int .i64 d]) 1).run Tryz.prog W = .ok (.int .i64 b) W := by kernel_rfl
set_option maxRecDepth 100000 in
theorem isWrong_any (s : ByteArray) (i : Nat) (w : World) (hs : s.size ≤ maxLen) (hi : i < s.size) :
    Calls Tryz.prog 81 #[.string s, .int .i64 (i : Nat)] w fun e w' => e = .returned (.bool (decide ((Utf8.decode s i).2 = 1))) ∧ Below w.heap.size w w' := by
  have hx := extract_size s i
  have hF := fun w => first_any (s.extract i s.size) w (by omega) (by omega)
  have hfl := field_width
  have HD := hide (dec_shift s i hi)
  unfold maxLen at hs
  go_enter Tryz.func81, Tryz.ntmps81
  go_wp2_with (go_at_call 112; refine (hF _).mono ?_; rintro e w' ⟨rfl, hb⟩; have HB := hide hb; clear hb)
  go_ret
  refine ⟨ret_bool ?_, unhide HB⟩
  rw [unhide HD]
  rw [Bool.eq_iff_iff]; simp
  omega

/-- where the next 0A stands behind a place, or -1 -/
def nlN (s : ByteArray) (i : Nat) : Int := indexByte (L (s.extract i s.size)) 10
theorem indexByte_spec : ∀ (l : List UInt8) (c : UInt8), (indexByte l c = -1 ∧ ∀ (j : Nat) b, l[j]? = some b → b ≠ c) ∨ (∃ n : Nat, indexByte l c = (n : Int) ∧ l[n]? = some c ∧ ∀ (j : Nat) b, j < n → l[j]? = some b → b ≠ c)
  | [], c => .inl ⟨rfl, fun j b h => by simp at h⟩
  | x :: l, c => by
    by_cases h : x = c
    · refine .inr ⟨0, by simp [indexByte, h], by simp [h], fun j b hj => by omega⟩
    · rcases indexByte_spec l c with ⟨h1, h2⟩ | ⟨n, h1, h2, h3⟩
      · refine .inl ⟨by simp [indexByte, h, h1], fun j b hj => ?_⟩
        cases j with
        | zero => simp at hj; rw [← hj]; exact h
        | succ j => exact h2 j b (by simpa using hj)
      · refine .inr ⟨n + 1, ?_, by simpa using h2, fun j b hj hb => ?_⟩
        · simp [indexByte, h, h1]
        · cases j with
          | zero => simp at hb; rw [← hb]; exact h
          | succ j => exact h3 j b (by omega) (by simpa using hb)
theorem L_at (s : ByteArray) (i : Nat) (h : i < s.size) : (L s)[i]? = some (s.get! i) := by
  rw [List.getElem?_eq_getElem (by rw [L_len]; exact h), get_in s i h]; rfl
theorem L_none (s : ByteArray) (i : Nat) (h : ¬ i < s.size) : (L s)[i]? = none := List.getElem?_eq_none (by rw [L_len]; omega)
theorem bN_ne (s : ByteArray) (i : Nat) (c : UInt8) : s.get! i ≠ c ↔ bN s i ≠ c.toNat := by
  unfold bN
  exact ⟨fun h e => h (UInt8.toNat.inj e), fun h e => h (by rw [e])⟩
theorem nl_spec (s : ByteArray) (i : Nat) : (nlN s i = -1 ∧ ∀ j, i ≤ j → j < s.size → bN s j ≠ 10) ∨ (∃ n : Nat, nlN s i = (n : Int) ∧ i + n < s.size ∧ bN s (i + n) = 10 ∧ ∀ j, i ≤ j → j < i + n → bN s j ≠ 10) := by
  have hx : L (s.extract i s.size) = (L s).drop i := by
    rw [L_extract, List.take_of_length_le (by rw [List.length_drop, L_len]; omega)]
  have key : ∀ j, i ≤ j → j < s.size → (L (s.extract i s.size))[j - i]? = some (s.get! j) := by
    intro j h1 h2
    rw [hx, List.getElem?_drop, show i + (j - i) = j by omega]; exact L_at s j h2
  rcases indexByte_spec (L (s.extract i s.size)) 10 with ⟨h1, h2⟩ | ⟨n, h1, h2, h3⟩
  · exact .inl ⟨h1, fun j g1 g2 => (bN_ne s j 10).1 (h2 _ _ (key j g1 g2))⟩
  · rw [hx, List.getElem?_drop] at h2
    have hlt : i + n < s.size := by
      rcases Nat.lt_or_ge (i + n) s.size with h | h
      · exact h
      · rw [L_none s _ (by omega)] at h2; cases h2
    rw [L_at s _ hlt] at h2
    refine .inr ⟨n, h1, hlt, ?_, fun j g1 g2 => (bN_ne s j 10).1 (h3 (j - i) _ (by omega) (key j g1 (by omega)))⟩
    unfold bN; rw [Option.some.inj h2]; rfl

/-- where the line that begins at i ends, where the next one begins, whether it has an end -/
def endTo (s : ByteArray) (i : Nat) : Nat := if nlN s i < 0 then s.size else if 0 < nlN s i ∧ bN s (i + (nlN s i).toNat - 1) = 13 then i + (nlN s i).toNat - 1 else i + (nlN s i).toNat
def endNext (s : ByteArray) (i : Nat) : Nat := if nlN s i < 0 then s.size else i + (nlN s i).toNat + 1
def hasEnd (s : ByteArray) (i : Nat) : Bool := decide (0 ≤ nlN s i)
theorem end_bounds (s : ByteArray) (i : Nat) (hi : i ≤ s.size) : i ≤ endTo s i ∧ endTo s i ≤ s.size ∧ endTo s i ≤ endNext s i ∧ endNext s i ≤ s.size ∧ (hasEnd s i = true → endTo s i < endNext s i ∧ i < endNext s i) ∧ (hasEnd s i = false → endTo s i = s.size ∧ endNext s i = s.size) := by
  unfold endTo endNext hasEnd
  rcases nl_spec s i with ⟨h1, _⟩ | ⟨n, h1, h2, h3, _⟩
  · rw [h1]; simp; omega
  · rw [h1]
    have hn : ¬ ((n : Int) < 0) := by omega
    simp only [hn, if_false, Int.toNat_natCast]
    split <;> simp <;> omega

theorem suffix13 (l : List UInt8) : trimSuffix l [13] = if l.getLast? = some 13 then l.dropLast else l := by
  unfold trimSuffix hasSuffix
  have h : ([13] : List UInt8).isSuffixOf l = decide (l.getLast? = some 13) := by
    rw [Bool.eq_iff_iff, List.isSuffixOf_iff_suffix]
    simp only [decide_eq_true_eq]
    constructor
    · rintro ⟨t, rfl⟩; simp
    · intro h
      obtain ⟨t, rfl⟩ := List.getLast?_eq_some_iff.1 h
      exact ⟨t, rfl⟩
  rw [h]
  by_cases hl : l.getLast? = some 13
  · simp [hl, List.dropLast_eq_take]
  · simp [hl]

set_option maxRecDepth 100000 in
theorem lineEnd_any (s : ByteArray) (i : Nat) (w : World) (hs : s.size ≤ maxLen) (hi : i ≤ s.size) :
    Calls Tryz.prog 80 #[.string s, .int .i64 (i : Nat)] w fun e w' => e = .returned (.tuple #[.int .i64 (endTo s i : Nat), .int .i64 (endNext s i : Nat), .bool (hasEnd s i)]) ∧ w' = w := by
  have hI := fun w => Tryz.strings_IndexByte (s.extract i s.size) 10 w
  have e10 : ((10 : Int).toNat.toUInt8) = 10 := by decide
  rw [e10] at hI
  have hns := nl_spec s i
  rw [show indexByte (L (s.extract i s.size)) 10 = nlN s i from rfl] at hI
  have hmx := hs
  unfold maxLen at hs
  rcases hns with ⟨h1, _⟩ | ⟨n, h1, h2, h3, _⟩
  · rw [h1] at hI
    have g1 : endTo s i = s.size := by simp [endTo, h1]
    have g2 : endNext s i = s.size := by simp [endNext, h1]
    have g3 : hasEnd s i = false := by simp [hasEnd, h1]
    rw [g1, g2, g3]
    clear h1 g1 g2 g3
    go_enter Tryz.func80, Tryz.ntmps80
    go_wp2_with (go_at_call 110; refine (hI _).mono ?_; rintro e w' ⟨rfl, rfl⟩)
    go_returns
    exact ⟨rfl, rfl⟩
  · rw [h1] at hI
    have hT := fun w => Tryz.strings_TrimSuffix (s.extract i (i + n)) ⟨#[13]⟩ w (by simp; omega)
    have hxl : L (s.extract i (i + n)) = ((L s).drop i).take n := by rw [L_extract, Nat.add_sub_cancel_left]
    have hll : (L (s.extract i (i + n))).length = n := by rw [hxl, List.length_take, List.length_drop, L_len]; omega
    have hsz : ((⟨(trimSuffix (L (s.extract i (i + n))) [13]).toArray⟩ : ByteArray).size : Int) = (endTo s i : Int) - i := by
      rw [show ((⟨(trimSuffix (L (s.extract i (i + n))) [13]).toArray⟩ : ByteArray)) = S (trimSuffix (L (s.extract i (i + n))) [13]) from rfl, S_size, suffix13]
      have hn : ¬ ((n : Int) < 0) := by omega
      unfold endTo
      rw [h1]
      simp only [hn, if_false, Int.toNat_natCast]
      by_cases h0 : n = 0
      · subst h0
        have : L (s.extract i (i + 0)) = [] := List.length_eq_zero_iff.1 hll
        rw [this]; simp
      · have hlast : (L (s.extract i (i + n))).getLast? = some (s.get! (i + n - 1)) := by
          rw [List.getLast?_eq_getElem?, hll, hxl, List.getElem?_take, if_pos (by omega), List.getElem?_drop, show i + (n - 1) = i + n - 1 by omega]
          exact L_at s _ (by omega)
        rw [hlast]
        by_cases h13 : bN s (i + n - 1) = 13
        · have : s.get! (i + n - 1) = 13 := UInt8.toNat.inj h13
          rw [this]
          simp only [if_true, List.length_dropLast, hll]
          rw [if_pos ⟨by omega, h13⟩]; omega
        · have : ¬ some (s.get! (i + n - 1)) = some 13 := by
            intro e; apply h13; unfold bN; rw [Option.some.inj e]; rfl
          rw [if_neg this, hll, if_neg (fun h => h13 h.2)]; omega
    have g2 : endNext s i = i + n + 1 := by simp [endNext, h1]; omega
    have g3 : hasEnd s i = true := by simp [hasEnd, h1]
    rw [g2, g3]
    have hE := end_bounds s i hi
    obtain ⟨E, hEE⟩ : ∃ E, endTo s i = E := ⟨_, rfl⟩
    rw [hEE] at hsz hE ⊢
    have hT' : ∀ w, Calls Tryz.prog 111 #[.string (s.extract i (i + n)), .string ⟨#[13]⟩] w fun e w' => ∃ t : ByteArray, (t.size : Int) = (E : Int) - i ∧ e = .returned (.string t) ∧ w' = w := fun w => (hT w).mono fun e w' ⟨a, b⟩ => ⟨_, hsz, a, b⟩
    have HT := hide hT'
    clear hT hT' hsz h1 g2 g3 hll hxl hEE h3
    have b1 : i ≤ E := hE.1
    have b2 : E ≤ s.size := hE.2.1
    clear hE
    go_enter Tryz.func80, Tryz.ntmps80
    go_wp2_with (first | (go_at_call 110; refine (hI _).mono ?_; rintro e w' ⟨rfl, rfl⟩) | (go_at_call 111; refine (unhide HT _).mono ?_; rintro e w' ⟨t, ht, rfl, rfl⟩))
    go_returns
    refine ⟨?_, rfl⟩
    show Ending.returned (.tuple #[.int .i64 ((i : Int) + ((E : Int) - i)), .int .i64 ((i : Int) + n + 1), .bool true]) = _
    rw [show (i : Int) + ((E : Int) - i) = (E : Int) by omega]; simp
end Go.Proofs.YthgaadjkjnibaaaGreatDoor
/-
  How Cut of package lines goes through a line, as a function of its bytes.
-/
namespace Go.Proofs.YthgaadjkjnibaaaGreatDoor
open Go.RowKit Go.PlainAid Go.Lib Go.Shelf
set_option linter.unusedVariables false

/-- the last field, of which cur is there: none, if it is the first one and empty -/
def lastF (n : Nat) (cur : List UInt8) : List (List UInt8) := if 0 < n ∨ cur ≠ [] then [cur] else []
/-- the fields from here on (cur is there of the first, and the blanks pend behind it; n fields stand ahead), and the note -/
def mach (n : Nat) (cur pend : List UInt8) : List UInt8 → List (List UInt8) × List UInt8
  | [] => (lastF n cur, [])
  | b :: l => if b = 32 ∨ b = 9 then (if cur = [] then mach n [] [] l else mach n cur (pend ++ [b]) l)
    else if b = 59 then (cur :: (mach (n + 1) [] [] l).1, (mach (n + 1) [] [] l).2)
    else if b = 35 then (lastF n cur, trimB l)
    else mach n (cur ++ pend ++ [b]) [] l
def cutS (s : ByteArray) : List (List UInt8) × List UInt8 := mach 0 [] [] (L s)

/-- a piece of a text -/
def sl (s : ByteArray) (a b : Nat) : List UInt8 := ((L s).drop a).take (b - a)
theorem sl_S (s : ByteArray) (a b : Nat) : s.extract a b = S (sl s a b) := extract_eq s a b
theorem sl_self (s : ByteArray) (a : Nat) : sl s a a = [] := by simp [sl]
theorem sl_empty (s : ByteArray) (a b : Nat) (h : a < b) (hb : b ≤ s.size) : sl s a b ≠ [] := by
  intro e
  have := congrArg List.length e
  simp only [sl, List.length_take, List.length_drop, L_len, List.length_nil] at this
  omega
theorem drop_at (s : ByteArray) (i : Nat) (h : i < s.size) : (L s).drop i = s.get! i :: (L s).drop (i + 1) := by
  rw [List.drop_eq_getElem_cons (by rw [L_len]; exact h)]
  congr 1
  have := L_at s i h
  rw [List.getElem?_eq_getElem (by rw [L_len]; exact h)] at this
  exact Option.some.inj this
theorem sl_app (s : ByteArray) (a b c : Nat) (h1 : a ≤ b) (h2 : b ≤ c) : sl s a b ++ sl s b c = sl s a c := by
  unfold sl
  have e : (L s).drop b = ((L s).drop a).drop (b - a) := by rw [List.drop_drop]; congr 1; omega
  rw [e, show c - a = (b - a) + (c - b) by omega, List.take_add]
theorem sl_one (s : ByteArray) (i : Nat) (h : i < s.size) : sl s i (i + 1) = [s.get! i] := by
  unfold sl; rw [drop_at s i h, Nat.add_sub_cancel_left]; rfl
theorem sl_snoc (s : ByteArray) (a i : Nat) (h1 : a ≤ i) (h : i < s.size) : sl s a i ++ [s.get! i] = sl s a (i + 1) := by
  rw [← sl_one s i h, sl_app s a i (i + 1) h1 (by omega)]
theorem get_eq (s : ByteArray) (i : Nat) (c : UInt8) : s.get! i = c ↔ bN s i = c.toNat := by
  unfold bN
  exact ⟨fun h => by rw [h], fun h => UInt8.toNat.inj h⟩

theorem sign_lt (s : ByteArray) (i : Nat) (hi : i ≤ s.size) (h : signN s i ≠ 3) : i < s.size := by
  refine Nat.lt_of_le_of_ne hi fun e => h ?_
  simp [signN, e]
theorem sign_cases (s : ByteArray) (i : Nat) : signN s i = 0 ∨ signN s i = 1 ∨ signN s i = 2 ∨ signN s i = 3 := by
  unfold signN; (repeat' split) <;> simp
theorem mach_blank (s : ByteArray) (i n : Nat) (cur pend : List UInt8) (hi : i < s.size) (h : signN s i = 0) :
    mach n cur pend ((L s).drop i) = if cur = [] then mach n [] [] ((L s).drop (i + 1)) else mach n cur (pend ++ [s.get! i]) ((L s).drop (i + 1)) := by
  have hb : s.get! i = 32 ∨ s.get! i = 9 := by
    rw [get_eq, get_eq]
    unfold signN at h
    rw [if_neg (by omega)] at h
    split at h
    · assumption
    · (repeat' split at h) <;> simp at h
  rw [drop_at s i hi]; simp only [mach, hb, if_true]
theorem not_blank (s : ByteArray) (i : Nat) (hi : i < s.size) (h : signN s i ≠ 0) : ¬ (s.get! i = 32 ∨ s.get! i = 9) := by
  rw [get_eq, get_eq]
  intro hb
  apply h
  unfold signN
  rw [if_neg (by omega)]
  have : bN s i = 32 ∨ bN s i = 9 := hb
  rw [if_pos this]
theorem mach_plain (s : ByteArray) (i n : Nat) (cur pend : List UInt8) (hi : i < s.size) (h : signN s i = 1) :
    mach n cur pend ((L s).drop i) = mach n (cur ++ pend ++ [s.get! i]) [] ((L s).drop (i + 1)) := by
  have h0 := not_blank s i hi (by omega)
  have h1 : ¬ s.get! i = 59 := by
    rw [get_eq]; intro e
    have : bN s i = 59 := e
    unfold signN at h; rw [if_neg (by omega), if_neg (by omega), if_pos this] at h; cases h
  have h2 : ¬ s.get! i = 35 := by
    rw [get_eq]; intro e
    have : bN s i = 35 := e
    unfold signN at h; rw [if_neg (by omega), if_neg (by omega), if_neg (by omega), if_pos this] at h; cases h
  rw [drop_at s i hi]; simp only [mach, h0, h1, h2, if_false]
theorem mach_div (s : ByteArray) (i n : Nat) (cur pend : List UInt8) (hi : i < s.size) (h : signN s i = 2) :
    mach n cur pend ((L s).drop i) = (cur :: (mach (n + 1) [] [] ((L s).drop (i + 1))).1, (mach (n + 1) [] [] ((L s).drop (i + 1))).2) := by
  have h0 := not_blank s i hi (by omega)
  have h1 : s.get! i = 59 := by
    rw [get_eq]
    unfold signN at h
    rw [if_neg (by omega)] at h
    split at h
    · cases h
    split at h
    · assumption
    split at h <;> cases h
  rw [drop_at s i hi]; simp only [mach, h1]; simp
theorem mach_end (s : ByteArray) (n : Nat) (cur pend : List UInt8) : mach n cur pend ((L s).drop s.size) = (lastF n cur, []) := by
  rw [List.drop_of_length_le (by rw [L_len]; exact Nat.le_refl _)]; rfl
theorem mach_end2 (s : ByteArray) (i n : Nat) (cur pend : List UInt8) (h : i = s.size) : mach n cur pend ((L s).drop i) = (lastF n cur, []) := by rw [h, mach_end]
theorem mach_hash (s : ByteArray) (i n : Nat) (cur pend : List UInt8) (hi : i < s.size) (h : signN s i = 3) :
    mach n cur pend ((L s).drop i) = (lastF n cur, trimB ((L s).drop (i + 1))) := by
  have h0 := not_blank s i hi (by omega)
  have h1 : s.get! i = 35 := by
    rw [get_eq]
    unfold signN at h
    rw [if_neg (by omega)] at h
    split at h
    · cases h
    split at h
    · cases h
    split at h
    · assumption
    · cases h
  rw [drop_at s i hi]; simp only [mach, h1]; simp

end Go.Proofs.YthgaadjkjnibaaaGreatDoor
/-
  A scope in which the run jumps to several labels: what holds at each of them when it is jumped to, and a measure that every pass lowers.
-/
namespace Go

/-- as Q; by a goto to a label: J of that label -/
def Exit.jumps (J : Nat → Act → World → Prop) (Q : Exit → Act → World → Prop) : Exit → Act → World → Prop
  | .goto l, a, w => J l a w
  | e, a, w => Q e a w

section
variable {P : Program} {a : Act} {w : World} {Q : Exit → Act → World → Prop}

theorem wp_scope_many {c : Code} (J : Nat → Act → World → Prop) (μ : Nat → Act → World → Nat)
    (first : c.wp P (Exit.jumps J Q) a w)
    (pass : ∀ l a w, J l a w → ∃ rest, findLabel c l = some rest ∧ rest.wp P (Exit.jumps (fun l' a' w' => J l' a' w' ∧ μ l' a' w' < μ l a w) Q) a w) : (Code.scope c).wp P Q a w := by
  intro b k cs
  have key : ∀ n l a w, μ l a w = n → J l a w → ∀ rest, findLabel c l = some rest → ∃ e a' w', Q e a' w' ∧ Arrives P (lone (b.at a (.code rest :: .inScope c :: k)) cs w) b k cs e a' w' := by
    intro n
    induction n using Nat.strongRecOn with
    | _ n ih =>
      intro l a w hn hJ rest hf
      obtain ⟨rest', hf', hp⟩ := pass l a w hJ
      obtain rfl : rest = rest' := Option.some.inj (hf.symm.trans hf')
      obtain ⟨e, a₁, w₁, hq, harr⟩ := hp b (.inScope c :: k) cs
      cases e with
      | normal => exact ⟨.normal, a₁, w₁, hq, Steps.trans harr (.one step_inScope)⟩
      | exit id => exact ⟨.exit id, a₁, w₁, hq, fun k' hk => harr k' (by simp [exitTo, hk])⟩
      | goto l' =>
        obtain ⟨hJ', hlt⟩ := hq
        obtain ⟨rest2, hf2, _⟩ := pass l' a₁ w₁ hJ'
        obtain ⟨e₂, a₂, w₂, hq₂, harr₂⟩ := ih _ (by omega) l' a₁ w₁ rfl hJ' rest2 hf2
        exact ⟨e₂, a₂, w₂, hq₂, .of_steps (harr _ (by simp [gotoIn, hf2])) harr₂⟩
      | ret => exact ⟨_, a₁, w₁, hq, harr⟩
      | panic ch => exact ⟨_, a₁, w₁, hq, harr⟩
      | outgrown => exact ⟨_, a₁, w₁, hq, harr⟩
  obtain ⟨e, a₁, w₁, hq, harr⟩ := first b (.inScope c :: k) cs
  cases e with
  | normal => exact ⟨.normal, a₁, w₁, hq, .head step_scope (Steps.trans harr (.one step_inScope))⟩
  | exit id => exact ⟨.exit id, a₁, w₁, hq, fun k' hk => .head step_scope (harr k' (by simp [exitTo, hk]))⟩
  | goto l' =>
    obtain ⟨rest, hf, _⟩ := pass l' a₁ w₁ hq
    obtain ⟨e₂, a₂, w₂, hq₂, harr₂⟩ := key _ l' a₁ w₁ rfl hq rest hf
    exact ⟨e₂, a₂, w₂, hq₂, .of_steps (.head step_scope (harr _ (by simp [gotoIn, hf]))) harr₂⟩
  | ret => exact ⟨_, a₁, w₁, hq, .of_steps (.one step_scope) harr⟩
  | panic ch => exact ⟨_, a₁, w₁, hq, .of_steps (.one step_scope) harr⟩
  | outgrown => exact ⟨_, a₁, w₁, hq, .of_steps (.one step_scope) harr⟩

/-- the same, where the scope begins with code that leads to the label 0 -/
theorem wp_scope_led {r R : Code} (J : Nat → Act → World → Prop) (μ : Nat → Act → World → Nat)
    (lead : r.wp P (Exit.then (J 0) (fun _ _ _ => False)) a w)
    (hf0 : findLabel (r.seq ((Code.label 0).seq R)) 0 = some (Code.skip.seq R))
    (pass : ∀ l a w, J l a w → ∃ rest, findLabel (r.seq ((Code.label 0).seq R)) l = some (Code.skip.seq rest) ∧ rest.wp P (Exit.jumps (fun l' a' w' => J l' a' w' ∧ μ l' a' w' < μ l a w) Q) a w) : (Code.scope (r.seq ((Code.label 0).seq R))).wp P Q a w := by
  refine wp_scope_many J μ ?_ ?_
  · refine wp_seq (wp_mono lead ?_)
    intro e a1 w1 h
    cases e with
    | normal =>
      refine wp_seq (wp_label ?_)
      obtain ⟨rest, hf, hp⟩ := pass 0 a1 w1 h
      obtain rfl : R = rest := by
        have := Option.some.inj (hf0.symm.trans hf)
        injection this
      refine wp_mono hp ?_
      intro e a2 w2 h2
      cases e <;> first | exact h2.1 | exact h2
    | exit id => exact h.elim
    | goto l => exact h.elim
    | ret => exact h.elim
    | panic ch => exact h.elim
    | outgrown => exact h.elim
  · intro l a1 w1 h
    obtain ⟨rest, hf, hp⟩ := pass l a1 w1 h
    exact ⟨_, hf, wp_seq (wp_skip hp)⟩
end
end Go

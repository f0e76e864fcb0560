/-
  These texts, one behind the other: WoM, WoA, WoSw, WoC, WoL, WoD.
-/
import Derived.Test.YthgaadjkjnibaaaGreatDoorUe
import Derived.Test.YthgaadjkjnibaaaGreatDoorUb
import Derived.Lib.Strings
/-
  What package words speaks of, as mathematics: blank characters, loose forms, the words of a text.
-/
namespace Go.Proofs.YthgaadjkjnibaaaGreatDoor
open Go.RowKit Go.PlainAid Go.Lib

def blankB (r : Int) : Bool := r == 9 || r == 11 || r == 12 || r == 32 || r == 133 || r == 160 || r == 5760 || r == 8232 || r == 8233 || r == 8239 || r == 8287 || r == 12288 || (decide (8192 ≤ r) && decide (r ≤ 8202))
def countsB (r : Int) : Bool := r != 95 && r != 45 && !blankB r
def smallN (r : Int) : Int := if 65 ≤ r ∧ r ≤ 90 then r + 32 else r
def looseL (l : List Int) : List Int := (l.filter countsB).map smallN
def looseB (s : ByteArray) : ByteArray := runesBytes (looseL (nums s 0))

theorem looseL_append (a b : List Int) : looseL (a ++ b) = looseL a ++ looseL b := by simp [looseL]
theorem looseL_snoc_yes (a : List Int) (r : Int) (h : countsB r = true) : looseL (a ++ [r]) = looseL a ++ [smallN r] := by simp [looseL, h]
theorem looseL_snoc_no (a : List Int) (r : Int) (h : countsB r = false) : looseL (a ++ [r]) = looseL a := by simp [looseL, h]
theorem looseL_len (a : List Int) : (looseL a).length ≤ a.length := by
  unfold looseL; rw [List.length_map]; exact List.length_filter_le _ _
theorem small_counts (r : Int) (h : countsB r = true) : countsB (smallN r) = true := by
  unfold smallN
  split
  · rename_i h1
    unfold countsB blankB
    simp; omega
  · exact h
theorem small_small (r : Int) : smallN (smallN r) = smallN r := by unfold smallN; (repeat' split) <;> omega
theorem looseL_loose (a : List Int) : looseL (looseL a) = looseL a := by
  unfold looseL
  have h1 : (List.map smallN (List.filter countsB a)).filter countsB = List.map smallN (List.filter countsB a) := by
    rw [List.filter_eq_self]
    intro x hx
    obtain ⟨y, hy, rfl⟩ := List.mem_map.1 hx
    exact small_counts y (List.mem_filter.1 hy).2
  rw [h1, List.map_map]
  exact List.map_congr_left fun x _ => small_small x
theorem small_scalar (r : Int) (h : scalarB r = true) : scalarB (smallN r) = true := by
  unfold smallN
  split
  · unfold scalarB halfB; simp; omega
  · exact h
/-- the numbers of a text that characters were written to -/
theorem nums_runes (zs : List Int) (h : ∀ z ∈ zs, scalarB z = true) : nums (runesBytes zs) 0 = zs := by
  have h1 := (chars_runes zs).1
  have e : nums (runesBytes zs) 0 = ((chars (runesBytes zs) 0).map (·.2)).map fun x => ((x : Nat) : Int) := by unfold nums; rw [List.map_map]; rfl
  rw [e, h1, List.map_map]
  rw [List.map_congr_left (g := id)]
  · simp
  · intro z hz
    have hs := h z hz
    have h0 : 0 ≤ z := by unfold scalarB at hs; simp at hs; omega
    show ((fixN z : Nat) : Int) = z
    unfold fixN
    rw [if_pos hs]; omega
theorem nums_scalar (s : ByteArray) : ∀ z ∈ nums s 0, scalarB z = true := by
  intro z hz
  obtain ⟨p, hp, rfl⟩ := List.mem_map.1 hz
  exact chars_scalar s s.size 0 (by omega) p hp
theorem loose_scalar (s : ByteArray) : ∀ z ∈ looseL (nums s 0), scalarB z = true := by
  intro z hz
  obtain ⟨y, hy, rfl⟩ := List.mem_map.1 hz
  exact small_scalar y (nums_scalar s y (List.mem_filter.1 hy).1)
theorem nums_loose (s : ByteArray) : nums (looseB s) 0 = looseL (nums s 0) := nums_runes _ (loose_scalar s)
theorem loose_loose (s : ByteArray) : looseB (looseB s) = looseB s := by
  unfold looseB
  rw [nums_runes _ (loose_scalar s), looseL_loose]
theorem loose_size (s : ByteArray) : (looseB s).size ≤ 4 * s.size := by
  have h1 := runesBytes_size_le (looseL (nums s 0))
  have h2 := looseL_len (nums s 0)
  have h3 : (nums s 0).length = (chars s 0).length := List.length_map _
  have h4 := chars_length s 0
  unfold looseB; omega
theorem runesBytes_append (a b : List Int) : runesBytes (a ++ b) = runesBytes a ++ runesBytes b := by
  induction b generalizing a with
  | nil => rw [List.append_nil]; refine bytes_ext ?_ ?_ <;> simp [runesBytes]
  | cons z b ih =>
    have e : a ++ z :: b = (a ++ [z]) ++ b := by simp
    rw [e, ih, runesBytes_snoc, runesBytes_cons, ByteArray.append_assoc]

/-- a seam at which a character begins parts the characters -/
theorem chars_seam (a b : ByteArray) : ∀ (k i : Nat), a.size - i ≤ k → i ≤ a.size → (a.size ∈ (chars (a ++ b) i).map (·.1) ∨ b.size = 0 ∧ i ≤ a.size ) →
    chars (a ++ b) i = chars a i ++ (chars b 0).map fun p => (a.size + p.1, p.2) := by
  have hsz : (a ++ b).size = a.size + b.size := ByteArray.size_append
  have hex : (a ++ b).extract 0 a.size = a := by
    refine bytes_ext ?_ (fun k hk => ?_)
    · simp [ByteArray.size_extract, hsz]
    · rw [bN_ahead _ _ _ (by omega) (by simpa [ByteArray.size_extract, hsz] using hk), bN_append, if_pos (by simpa [ByteArray.size_extract, hsz] using hk)]
  intro k
  induction k with
  | zero =>
    intro i h1 h2 _
    obtain rfl : i = a.size := by omega
    rw [chars_end a a.size (by omega)]
    exact chars_right a b b.size 0 (by omega)
  | succ k ih =>
    intro i h1 h2 hm
    by_cases hi : i < a.size
    · have hi' : i < (a ++ b).size := by omega
      have hbd := dec_bounds (a ++ b) i hi'
      have hst := chars_step (a ++ b) i hi'
      have hle : i + (Utf8.decode (a ++ b) i).2 ≤ a.size := by
        rcases hm with hm | hm
        · rw [hst] at hm
          rcases List.mem_cons.1 hm with e | e
          · have e' : a.size = i := e
            omega
          · have : ∀ (k i : Nat), (a ++ b).size - i ≤ k → ∀ j ∈ (chars (a ++ b) i).map (·.1), i ≤ j := by
              intro k
              induction k with
              | zero => intro i h j hj; rw [chars_end _ i (by omega)] at hj; simp at hj
              | succ k ih =>
                intro i h j hj
                by_cases h' : i < (a ++ b).size
                · have hb2 := dec_bounds (a ++ b) i h'
                  rw [chars_step _ i h'] at hj
                  rcases List.mem_cons.1 hj with e | e
                  · have e' : j = i := e
                    omega
                  · have := ih _ (by omega) j e; omega
                · rw [chars_end _ i h'] at hj; simp at hj
            exact this _ _ (Nat.le_refl _) _ e
        · omega
      have hd : Utf8.decode a i = Utf8.decode (a ++ b) i := by
        have := dec_ahead (a ++ b) a.size i (by omega) hle hi
        rw [hex] at this; exact this
      have hm2 : a.size ∈ (chars (a ++ b) (i + (Utf8.decode (a ++ b) i).2)).map (·.1) ∨ b.size = 0 ∧ i + (Utf8.decode (a ++ b) i).2 ≤ a.size := by
        rcases hm with hm | hm
        · rw [hst] at hm
          rcases List.mem_cons.1 hm with e | e
          · have e' : a.size = i := e
            omega
          · exact .inl e
        · exact .inr ⟨hm.1, hle⟩
      rw [hst, chars_step a i hi, hd, ih _ (by omega) hle hm2]
      rfl
    · obtain rfl : i = a.size := by omega
      rw [chars_end a a.size (by omega)]
      exact chars_right a b b.size 0 (by omega)
theorem nums_seam (a b : ByteArray) (h : a.size ∈ places (a ++ b)) : nums (a ++ b) 0 = nums a 0 ++ nums b 0 := by
  unfold nums
  rw [chars_seam a b a.size 0 (by omega) (by omega) (.inl h)]
  simp
theorem loose_seam (a b : ByteArray) (h : a.size ∈ places (a ++ b)) : looseB (a ++ b) = looseB a ++ looseB b := by
  unfold looseB
  rw [nums_seam a b h, looseL_append, runesBytes_append]

/-- the words of a text: where each begins and ends -/
def wordsG (s : ByteArray) : List (Nat × Nat) → Nat → Bool → List (Nat × Nat)
  | [], f, true => [(f, s.size)]
  | [], _, false => []
  | (p, r) :: l, f, true => if blankB r then (f, p) :: wordsG s l f false else wordsG s l f true
  | (p, r) :: l, f, false => if blankB r then wordsG s l f false else wordsG s l p true
def wordsL (s : ByteArray) : List (Nat × Nat) := wordsG s (chars s 0) 0 false
theorem wordsG_false (s : ByteArray) : ∀ (l : List (Nat × Nat)) (f g : Nat), wordsG s l f false = wordsG s l g false := by
  intro l
  induction l with
  | nil => intro f g; rfl
  | cons x l ih =>
    intro f g
    obtain ⟨p, r⟩ := x
    unfold wordsG
    split
    · exact ih f g
    · rfl
end Go.Proofs.YthgaadjkjnibaaaGreatDoor
/-
  The small functions of package words: Blank, counts, small; the document's Blank.
-/
namespace Go.Proofs.YthgaadjkjnibaaaGreatDoor
open Go.RowKit Go.PlainAid Go.Lib

set_option maxHeartbeats 1000000 in
theorem blank_any (r : Int) (w : World) :
    Calls Tryz.prog 197 #[.int .i32 r] w fun e w' => e = .returned (.bool (blankB r)) ∧ w' = w := by
  go_enter Tryz.func197, Tryz.ntmps197
  go_wp2
  all_goals go_ret
  all_goals exact ⟨ret_bool (by unfold blankB; simp only [*]; first | rfl | (rw [Bool.eq_iff_iff]; simp <;> omega)), rfl⟩
theorem counts_any (r : Int) (w : World) :
    Calls Tryz.prog 163 #[.int .i32 r] w fun e w' => e = .returned (.bool (countsB r)) ∧ w' = w := by
  by_cases h1 : r = 95
  · subst h1
    go_enter Tryz.func163, Tryz.ntmps163
    go_wp2_with (go_at_call 197; refine (blank_any _ _).mono ?_; rintro e w' ⟨rfl, rfl⟩)
    go_ret
    exact ⟨rfl, rfl⟩
  · have e1 : (r != 95) = true := by simp [h1]
    by_cases h2 : r = 45
    · subst h2
      go_enter Tryz.func163, Tryz.ntmps163
      go_wp2_with (go_at_call 197; refine (blank_any _ _).mono ?_; rintro e w' ⟨rfl, rfl⟩)
      go_ret
      exact ⟨rfl, rfl⟩
    · have e2 : (r != 45) = true := by simp [h2]
      have HC : Hid (countsB r = !blankB r) := by show _ = _; unfold countsB; rw [e1, e2]; rfl
      clear h1 h2
      go_enter Tryz.func163, Tryz.ntmps163
      go_wp2_with (go_at_call 197; refine (blank_any _ _).mono ?_; rintro e w' ⟨rfl, rfl⟩)
      go_ret
      exact ⟨ret_bool HC.out.symm, rfl⟩
theorem small_any (r : Int) (w : World) :
    Calls Tryz.prog 164 #[.int .i32 r] w fun e w' => e = .returned (.int .i32 (smallN r)) ∧ w' = w := by
  go_enter Tryz.func164, Tryz.ntmps164
  go_wp2
  all_goals go_ret
  all_goals exact ⟨ret_int (by unfold smallN; (repeat' split) <;> omega), rfl⟩
end Go.Proofs.YthgaadjkjnibaaaGreatDoor
/-
  A switch over texts or numbers, one case at a time, whatever its frame is.
-/
namespace Go.Switch
open Go
variable {P : Program} {Q : Exit → Act → World → Prop}

theorem wpList_val {ops : Array Oper} {a : Act} {w : World} {o : Oper} {rest : List Oper} {v : Value} (hg : o.guard = none) (hr : (execOp a.eval o).run P w = .ok (.value v) w) (h : wpList P ops Q rest (a.put o.dst v) w) : wpList P ops Q (o :: rest) a w := by
  unfold wpList
  rw [if_pos (by simp [Region.wanted, hg])]
  left
  unfold Oper.wp
  rw [hr]
  exact h
theorem get_set (a : Act) (d j : Nat) (v : Value) (h : d < a.tmps.size) : (a.put (some d) v).tmps.getD j undef = if d = j then v else a.tmps.getD j undef := by
  simp only [Act.put, Array.getD_eq_getD_getElem?, Array.getElem?_setIfInBounds]
  split
  · rename_i e; subst e; simp
  · rfl
theorem put_size (a : Act) (d : Option Tmp) (v : Value) : (a.put d v).tmps.size = a.tmps.size := by cases d <;> simp [Act.put]
theorem put_defers (a : Act) (d : Option Tmp) (v : Value) : (a.put d v).defers = a.defers := by cases d <;> rfl

/-- one test of a case: the value is held against a constant -/
theorem test {z id x d ty tb : Nat} {ps pa : String} {af : Array Edge} {a : Act} {w : World} {v L : Value} {b : Bool} (n : Nat) (hsz : a.tmps.size = n) (hx : x < n) (hd : d < n) (hx3 : x ≠ z) (hd3 : d ≠ z)
    (h3 : a.tmps.getD z undef = v)
    (hb : ∀ (ρ : Operand → Value) (w : World), ρ (.tmp z) = v → ρ (.const L) = L → (execOp ρ { dst := some x, op := .binOp .eql ty (.tmp z) (.const L) ty, type := tb, pos := ps, after := #[], guard := none }).run P w = .ok (.value (.bool b)) w)
    (h : ∀ a', a'.tmps.size = n → a'.tmps.getD z undef = v → a'.tmps.getD d undef = .bool b → a'.defers = a.defers → Q .normal a' w) :
    (Code.region id #[{ dst := some x, op := .binOp .eql ty (.tmp z) (.const L) ty, type := tb, pos := ps, after := #[], guard := none }, { dst := some d, op := .assign (.tmp x), type := tb, pos := pa, after := af, guard := none }] false).wp P Q a w := by
  refine wp_region_lit (wpList_val (v := .bool b) rfl (hb _ _ h3 rfl) (wpList_val (v := .bool b) rfl ?_ (wpList_nil (h _ ?_ ?_ ?_ ?_))))
  · have e : (a.put (some x) (.bool b)).tmps.getD x undef = .bool b := by rw [get_set _ _ _ _ (by rw [hsz]; exact hx), if_pos rfl]
    show (pure (Next.value ((a.put (some x) (.bool b)).tmps.getD x undef)) : Sem Next).run P w = _
    rw [e]; rfl
  · rw [put_size, put_size]; exact hsz
  · rw [get_set _ _ _ _ (by rw [put_size, hsz]; exact hd), if_neg hd3, get_set _ _ _ _ (by rw [hsz]; exact hx), if_neg hx3]; exact h3
  · rw [get_set _ _ _ _ (by rw [put_size, hsz]; exact hd), if_pos rfl]
  · rw [put_defers, put_defers]
theorem str_test (t L : ByteArray) : (t.toList == L.toList) = decide (t = L) := by
  rw [Bool.eq_iff_iff]
  simp only [beq_iff_eq, decide_eq_true_eq, Go.Lib.toList_data]
  constructor
  · intro h; cases t; cases L; simp at h; rw [h]
  · intro h; rw [h]
/-- a text is held against a text -/
theorem str_eq {z x tb ty : Nat} {ps : String} {t L : ByteArray} (ρ : Operand → Value) (w : World) (h3 : ρ (.tmp z) = .string t) (hL : ρ (.const (.string L)) = .string L) :
    (execOp ρ { dst := some x, op := .binOp .eql ty (.tmp z) (.const (.string L)) ty, type := tb, pos := ps, after := #[], guard := none }).run P w = .ok (.value (.bool (decide (t = L)))) w := by
  simp [execOp, go_sem, h3, hL, str_test]
/-- a number is held against a number -/
theorem int_eq {z x tb ty : Nat} {ps : String} {k : IntKind} {t L : Int} (ρ : Operand → Value) (w : World) (h3 : ρ (.tmp z) = .int k t) (hL : ρ (.const (.int k L)) = .int k L) :
    (execOp ρ { dst := some x, op := .binOp .eql ty (.tmp z) (.const (.int k L)) ty, type := tb, pos := ps, after := #[], guard := none }).run P w = .ok (.value (.bool (decide (t = L)))) w := by
  simp [execOp, go_sem, h3, hL]
  rw [Bool.eq_iff_iff]; simp
/-- a case with two texts -/
theorem case2 {z i1 i2 x y d ty tb : Nat} {p1 p2 p3 p4 : String} {af ag : Array Edge} {a : Act} {w : World} {t L M : ByteArray} {yes no : Code} (n : Nat) (hsz : a.tmps.size = n) (h3 : a.tmps.getD z undef = .string t)
    (hx : x < n) (hy : y < n) (hd : d < n) (hx3 : x ≠ z) (hy3 : y ≠ z) (hd3 : d ≠ z)
    (hyes : t = L ∨ t = M → ∀ a', a'.tmps.size = n → a'.defers = a.defers → yes.wp P Q a' w)
    (hno : t ≠ L → t ≠ M → ∀ a', a'.tmps.size = n → a'.tmps.getD z undef = .string t → a'.defers = a.defers → no.wp P Q a' w) :
    (Code.seq (Code.seq (Code.region i1 #[{ dst := some x, op := .binOp .eql ty (.tmp z) (.const (.string L)) ty, type := tb, pos := p1, after := #[], guard := none }, { dst := some d, op := .assign (.tmp x), type := tb, pos := p2, after := af, guard := none }] false)
      (Code.cond (.tmp d) .skip (Code.region i2 #[{ dst := some y, op := .binOp .eql ty (.tmp z) (.const (.string M)) ty, type := tb, pos := p3, after := #[], guard := none }, { dst := some d, op := .assign (.tmp y), type := tb, pos := p4, after := ag, guard := none }] false)))
      (Code.cond (.tmp d) yes no)).wp P Q a w := by
  refine wp_seq (wp_seq (test n hsz hx hd hx3 hd3 h3 (str_eq (L := L)) ?_))
  intro a1 s1 g1 e1 d1
  by_cases hL : t = L
  · rw [decide_eq_true hL] at e1
    refine wp_cond_true e1 (wp_skip ?_)
    exact wp_cond_true e1 (hyes (.inl hL) _ s1 d1)
  · rw [decide_eq_false hL] at e1
    refine wp_cond_false e1 (test n s1 hy hd hy3 hd3 g1 (str_eq (L := M)) ?_)
    intro a2 s2 g2 e2 d2
    by_cases hM : t = M
    · rw [decide_eq_true hM] at e2
      exact wp_cond_true e2 (hyes (.inr hM) _ s2 (d2.trans d1))
    · rw [decide_eq_false hM] at e2
      exact wp_cond_false e2 (hno hL hM _ s2 g2 (d2.trans d1))
/-- a case with one number -/
theorem case1 {z i1 x d ty tb : Nat} {p1 p2 : String} {af : Array Edge} {k : IntKind} {a : Act} {w : World} {t L : Int} {yes no : Code} (n : Nat) (hsz : a.tmps.size = n) (h3 : a.tmps.getD z undef = .int k t)
    (hx : x < n) (hd : d < n) (hx3 : x ≠ z) (hd3 : d ≠ z)
    (hyes : t = L → ∀ a', a'.tmps.size = n → a'.defers = a.defers → yes.wp P Q a' w)
    (hno : t ≠ L → ∀ a', a'.tmps.size = n → a'.tmps.getD z undef = .int k t → a'.defers = a.defers → no.wp P Q a' w) :
    (Code.seq (Code.region i1 #[{ dst := some x, op := .binOp .eql ty (.tmp z) (.const (.int k L)) ty, type := tb, pos := p1, after := #[], guard := none }, { dst := some d, op := .assign (.tmp x), type := tb, pos := p2, after := af, guard := none }] false)
      (Code.cond (.tmp d) yes no)).wp P Q a w := by
  refine wp_seq (test n hsz hx hd hx3 hd3 h3 (int_eq (L := L)) ?_)
  intro a1 s1 g1 e1 d1
  by_cases hL : t = L
  · rw [decide_eq_true hL] at e1
    exact wp_cond_true e1 (hyes hL _ s1 d1)
  · rw [decide_eq_false hL] at e1
    exact wp_cond_false e1 (hno hL _ s1 g1 d1)
theorem frame_size (x u : Value) (n : Nat) : (#[x] ++ Array.replicate n u).size = n + 1 := by simp; omega
theorem frame_zero (x u : Value) (n : Nat) : (#[x] ++ Array.replicate n u).getD 0 undef = x := by rw [Array.getD_eq_getD_getElem?, Array.getElem?_append_left (by simp)]; rfl
/-- the frame of a function of one argument behind its first stores -/
theorem start1 (x u v : Value) (n c d : Nat) (ds : List Deferred) (a a1 a2 : Act) (ha : a = { tmps := #[x] ++ Array.replicate n u, defers := ds }) (h1 : a1 = a.put (some c) v) (h2 : a2 = a1.put (some d) (a1.eval (.tmp 0))) (hc : c ≠ 0) (hcn : c < n + 1) (hdn : d < n + 1) : a2.tmps.size = n + 1 ∧ a2.tmps.getD d undef = x ∧ a2.defers = ds := by
  have s0 : a.tmps.size = n + 1 := by rw [ha]; exact frame_size x u n
  have s1 : a1.tmps.size = n + 1 := by rw [h1, put_size]; exact s0
  have z0 : a.tmps.getD 0 undef = x := by rw [ha]; exact frame_zero x u n
  have e1 : a1.eval (.tmp 0) = x := by
    show a1.tmps.getD 0 undef = x
    rw [h1, get_set _ _ _ _ (by rw [s0]; exact hcn), if_neg hc]; exact z0
  refine ⟨by rw [h2, put_size]; exact s1, ?_, by rw [h2, put_defers, h1, put_defers, ha]⟩
  rw [h2, get_set _ _ _ _ (by rw [s1]; exact hdn), if_pos rfl]; exact e1
theorem start2 (x u v v' : Value) (n c c' d : Nat) (ds : List Deferred) (a a1 a1' a2 : Act) (ha : a = { tmps := #[x] ++ Array.replicate n u, defers := ds }) (h1 : a1 = a.put (some c) v) (h1' : a1' = a1.put (some c') v') (h2 : a2 = a1'.put (some d) (a1'.eval (.tmp 0))) (hc : c ≠ 0) (hc' : c' ≠ 0) (hcn : c < n + 1) (hcn' : c' < n + 1) (hdn : d < n + 1) : a2.tmps.size = n + 1 ∧ a2.tmps.getD d undef = x ∧ a2.defers = ds := by
  have s0 : a.tmps.size = n + 1 := by rw [ha]; exact frame_size x u n
  have s1 : a1.tmps.size = n + 1 := by rw [h1, put_size]; exact s0
  have s1' : a1'.tmps.size = n + 1 := by rw [h1', put_size]; exact s1
  have z0 : a.tmps.getD 0 undef = x := by rw [ha]; exact frame_zero x u n
  have e1 : a1'.eval (.tmp 0) = x := by
    show a1'.tmps.getD 0 undef = x
    rw [h1', get_set _ _ _ _ (by rw [s1]; exact hcn'), if_neg hc', h1, get_set _ _ _ _ (by rw [s0]; exact hcn), if_neg hc]; exact z0
  refine ⟨by rw [h2, put_size]; exact s1', ?_, by rw [h2, put_defers, h1', put_defers, h1, put_defers, ha]⟩
  rw [h2, get_set _ _ _ _ (by rw [s1']; exact hdn), if_pos rfl]; exact e1
/-- a constant is laid -/
theorem layC {id ty d : Nat} {p : String} {af : Array Edge} {a : Act} {w : World} {v : Value} (h : Q .normal (a.put (some d) v) w) :
    (Code.region id #[{ dst := some d, op := .assign (.const v), type := ty, pos := p, after := af, guard := none }] false).wp P Q a w :=
  wp_region_lit (wpList_val (v := v) rfl rfl (wpList_nil h))
theorem layM {id ty d z : Nat} {p : String} {af : Array Edge} {a : Act} {w : World} (h : Q .normal (a.put (some d) (a.eval (.tmp z))) w) :
    (Code.region id #[{ dst := some d, op := .move (.tmp z), type := ty, pos := p, after := af, guard := none }] false).wp P Q a w :=
  wp_region_lit (wpList_val (v := a.eval (.tmp z)) rfl rfl (wpList_nil h))
theorem layC2 {id ty tu d e : Nat} {p q : String} {af ag : Array Edge} {a : Act} {w : World} {v u : Value} (h : Q .normal ((a.put (some d) v).put (some e) u) w) :
    (Code.region id #[{ dst := some d, op := .assign (.const v), type := ty, pos := p, after := af, guard := none }, { dst := some e, op := .assign (.const u), type := tu, pos := q, after := ag, guard := none }] false).wp P Q a w :=
  wp_region_lit (wpList_val (v := v) rfl rfl (wpList_val (v := u) rfl rfl (wpList_nil h)))
/-- one result is laid -/
theorem give1 {id ty : Nat} {p : String} {af : Array Edge} {a : Act} {w : World} {v : Value} (n : Nat) (hsz : a.tmps.size = n) (h2 : 2 < n) (h : ∀ a', a'.tmps.getD 2 undef = v → a'.defers = a.defers → Q .ret a' w) :
    (Code.seq (Code.region id #[{ dst := some 2, op := .assign (.const v), type := ty, pos := p, after := af, guard := none }] false) Code.ret).wp P Q a w := by
  refine wp_seq (wp_region_lit (wpList_val (v := v) rfl rfl (wpList_nil (wp_ret (h _ ?_ ?_)))))
  · rw [get_set _ _ _ _ (by rw [hsz]; exact h2), if_pos rfl]
  · rw [put_defers]
/-- two results are laid -/
theorem give2 {id t1 t2 : Nat} {p1 p2 : String} {af ag : Array Edge} {a : Act} {w : World} {u v : Value} {r s : Nat} (n : Nat) (hsz : a.tmps.size = n) (hr : r < n) (hs : s < n) (hrs : s ≠ r) (h : ∀ a', a'.tmps.getD r undef = u → a'.tmps.getD s undef = v → a'.defers = a.defers → Q .ret a' w) :
    (Code.seq (Code.region id #[{ dst := some r, op := .assign (.const u), type := t1, pos := p1, after := af, guard := none }, { dst := some s, op := .assign (.const v), type := t2, pos := p2, after := ag, guard := none }] false) Code.ret).wp P Q a w := by
  refine wp_seq (wp_region_lit (wpList_val (v := u) rfl rfl (wpList_val (v := v) rfl rfl (wpList_nil (wp_ret (h _ ?_ ?_ ?_))))))
  · rw [get_set _ _ _ _ (by rw [put_size, hsz]; exact hs), if_neg hrs, get_set _ _ _ _ (by rw [hsz]; exact hr), if_pos rfl]
  · rw [get_set _ _ _ _ (by rw [put_size, hsz]; exact hs), if_pos rfl]
  · rw [put_defers, put_defers]
end Go.Switch
/-
  Names: classOf, namesOf, told, Short, Long, Letter of package words.
-/
namespace Go.Proofs.YthgaadjkjnibaaaGreatDoor
open Go.RowKit Go.PlainAid Go.Lib
/-- the class that has a name of that loose form; 0: none has -/
def classN (t : ByteArray) : Int :=
  if t = ⟨#[108]⟩ then 1 else if t = ⟨#[108, 101, 102, 116, 116, 111, 114, 105, 103, 104, 116]⟩ then 1 else
  if t = ⟨#[114]⟩ then 2 else if t = ⟨#[114, 105, 103, 104, 116, 116, 111, 108, 101, 102, 116]⟩ then 2 else
  if t = ⟨#[97, 108]⟩ then 3 else if t = ⟨#[97, 114, 97, 98, 105, 99, 108, 101, 116, 116, 101, 114]⟩ then 3 else
  if t = ⟨#[101, 110]⟩ then 4 else if t = ⟨#[101, 117, 114, 111, 112, 101, 97, 110, 110, 117, 109, 98, 101, 114]⟩ then 4 else
  if t = ⟨#[101, 115]⟩ then 5 else if t = ⟨#[101, 117, 114, 111, 112, 101, 97, 110, 115, 101, 112, 97, 114, 97, 116, 111, 114]⟩ then 5 else
  if t = ⟨#[101, 116]⟩ then 6 else if t = ⟨#[101, 117, 114, 111, 112, 101, 97, 110, 116, 101, 114, 109, 105, 110, 97, 116, 111, 114]⟩ then 6 else
  if t = ⟨#[97, 110]⟩ then 7 else if t = ⟨#[97, 114, 97, 98, 105, 99, 110, 117, 109, 98, 101, 114]⟩ then 7 else
  if t = ⟨#[99, 115]⟩ then 8 else if t = ⟨#[99, 111, 109, 109, 111, 110, 115, 101, 112, 97, 114, 97, 116, 111, 114]⟩ then 8 else
  if t = ⟨#[110, 115, 109]⟩ then 9 else if t = ⟨#[110, 111, 110, 115, 112, 97, 99, 105, 110, 103, 109, 97, 114, 107]⟩ then 9 else
  if t = ⟨#[98, 110]⟩ then 10 else if t = ⟨#[98, 111, 117, 110, 100, 97, 114, 121, 110, 101, 117, 116, 114, 97, 108]⟩ then 10 else
  if t = ⟨#[98]⟩ then 11 else if t = ⟨#[112, 97, 114, 97, 103, 114, 97, 112, 104, 115, 101, 112, 97, 114, 97, 116, 111, 114]⟩ then 11 else
  if t = ⟨#[115]⟩ then 12 else if t = ⟨#[115, 101, 103, 109, 101, 110, 116, 115, 101, 112, 97, 114, 97, 116, 111, 114]⟩ then 12 else
  if t = ⟨#[119, 115]⟩ then 13 else if t = ⟨#[119, 104, 105, 116, 101, 115, 112, 97, 99, 101]⟩ then 13 else
  if t = ⟨#[111, 110]⟩ then 14 else if t = ⟨#[111, 116, 104, 101, 114, 110, 101, 117, 116, 114, 97, 108]⟩ then 14 else
  if t = ⟨#[108, 114, 101]⟩ then 15 else if t = ⟨#[108, 101, 102, 116, 116, 111, 114, 105, 103, 104, 116, 101, 109, 98, 101, 100, 100, 105, 110, 103]⟩ then 15 else
  if t = ⟨#[108, 114, 111]⟩ then 16 else if t = ⟨#[108, 101, 102, 116, 116, 111, 114, 105, 103, 104, 116, 111, 118, 101, 114, 114, 105, 100, 101]⟩ then 16 else
  if t = ⟨#[114, 108, 101]⟩ then 17 else if t = ⟨#[114, 105, 103, 104, 116, 116, 111, 108, 101, 102, 116, 101, 109, 98, 101, 100, 100, 105, 110, 103]⟩ then 17 else
  if t = ⟨#[114, 108, 111]⟩ then 18 else if t = ⟨#[114, 105, 103, 104, 116, 116, 111, 108, 101, 102, 116, 111, 118, 101, 114, 114, 105, 100, 101]⟩ then 18 else
  if t = ⟨#[112, 100, 102]⟩ then 19 else if t = ⟨#[112, 111, 112, 100, 105, 114, 101, 99, 116, 105, 111, 110, 97, 108, 102, 111, 114, 109, 97, 116]⟩ then 19 else
  if t = ⟨#[108, 114, 105]⟩ then 20 else if t = ⟨#[108, 101, 102, 116, 116, 111, 114, 105, 103, 104, 116, 105, 115, 111, 108, 97, 116, 101]⟩ then 20 else
  if t = ⟨#[114, 108, 105]⟩ then 21 else if t = ⟨#[114, 105, 103, 104, 116, 116, 111, 108, 101, 102, 116, 105, 115, 111, 108, 97, 116, 101]⟩ then 21 else
  if t = ⟨#[102, 115, 105]⟩ then 22 else if t = ⟨#[102, 105, 114, 115, 116, 115, 116, 114, 111, 110, 103, 105, 115, 111, 108, 97, 116, 101]⟩ then 22 else
  if t = ⟨#[112, 100, 105]⟩ then 23 else if t = ⟨#[112, 111, 112, 100, 105, 114, 101, 99, 116, 105, 111, 110, 97, 108, 105, 115, 111, 108, 97, 116, 101]⟩ then 23 else
  0
/-- the short name of a class -/
def shortS (c : Int) : ByteArray :=
  if c = 1 then ⟨#[76]⟩ else
  if c = 2 then ⟨#[82]⟩ else
  if c = 3 then ⟨#[65, 76]⟩ else
  if c = 4 then ⟨#[69, 78]⟩ else
  if c = 5 then ⟨#[69, 83]⟩ else
  if c = 6 then ⟨#[69, 84]⟩ else
  if c = 7 then ⟨#[65, 78]⟩ else
  if c = 8 then ⟨#[67, 83]⟩ else
  if c = 9 then ⟨#[78, 83, 77]⟩ else
  if c = 10 then ⟨#[66, 78]⟩ else
  if c = 11 then ⟨#[66]⟩ else
  if c = 12 then ⟨#[83]⟩ else
  if c = 13 then ⟨#[87, 83]⟩ else
  if c = 14 then ⟨#[79, 78]⟩ else
  if c = 15 then ⟨#[76, 82, 69]⟩ else
  if c = 16 then ⟨#[76, 82, 79]⟩ else
  if c = 17 then ⟨#[82, 76, 69]⟩ else
  if c = 18 then ⟨#[82, 76, 79]⟩ else
  if c = 19 then ⟨#[80, 68, 70]⟩ else
  if c = 20 then ⟨#[76, 82, 73]⟩ else
  if c = 21 then ⟨#[82, 76, 73]⟩ else
  if c = 22 then ⟨#[70, 83, 73]⟩ else
  if c = 23 then ⟨#[80, 68, 73]⟩ else
  ⟨#[]⟩
/-- the long one -/
def longS (c : Int) : ByteArray :=
  if c = 1 then ⟨#[76, 101, 102, 116, 95, 84, 111, 95, 82, 105, 103, 104, 116]⟩ else
  if c = 2 then ⟨#[82, 105, 103, 104, 116, 95, 84, 111, 95, 76, 101, 102, 116]⟩ else
  if c = 3 then ⟨#[65, 114, 97, 98, 105, 99, 95, 76, 101, 116, 116, 101, 114]⟩ else
  if c = 4 then ⟨#[69, 117, 114, 111, 112, 101, 97, 110, 95, 78, 117, 109, 98, 101, 114]⟩ else
  if c = 5 then ⟨#[69, 117, 114, 111, 112, 101, 97, 110, 95, 83, 101, 112, 97, 114, 97, 116, 111, 114]⟩ else
  if c = 6 then ⟨#[69, 117, 114, 111, 112, 101, 97, 110, 95, 84, 101, 114, 109, 105, 110, 97, 116, 111, 114]⟩ else
  if c = 7 then ⟨#[65, 114, 97, 98, 105, 99, 95, 78, 117, 109, 98, 101, 114]⟩ else
  if c = 8 then ⟨#[67, 111, 109, 109, 111, 110, 95, 83, 101, 112, 97, 114, 97, 116, 111, 114]⟩ else
  if c = 9 then ⟨#[78, 111, 110, 115, 112, 97, 99, 105, 110, 103, 95, 77, 97, 114, 107]⟩ else
  if c = 10 then ⟨#[66, 111, 117, 110, 100, 97, 114, 121, 95, 78, 101, 117, 116, 114, 97, 108]⟩ else
  if c = 11 then ⟨#[80, 97, 114, 97, 103, 114, 97, 112, 104, 95, 83, 101, 112, 97, 114, 97, 116, 111, 114]⟩ else
  if c = 12 then ⟨#[83, 101, 103, 109, 101, 110, 116, 95, 83, 101, 112, 97, 114, 97, 116, 111, 114]⟩ else
  if c = 13 then ⟨#[87, 104, 105, 116, 101, 95, 83, 112, 97, 99, 101]⟩ else
  if c = 14 then ⟨#[79, 116, 104, 101, 114, 95, 78, 101, 117, 116, 114, 97, 108]⟩ else
  if c = 15 then ⟨#[76, 101, 102, 116, 95, 84, 111, 95, 82, 105, 103, 104, 116, 95, 69, 109, 98, 101, 100, 100, 105, 110, 103]⟩ else
  if c = 16 then ⟨#[76, 101, 102, 116, 95, 84, 111, 95, 82, 105, 103, 104, 116, 95, 79, 118, 101, 114, 114, 105, 100, 101]⟩ else
  if c = 17 then ⟨#[82, 105, 103, 104, 116, 95, 84, 111, 95, 76, 101, 102, 116, 95, 69, 109, 98, 101, 100, 100, 105, 110, 103]⟩ else
  if c = 18 then ⟨#[82, 105, 103, 104, 116, 95, 84, 111, 95, 76, 101, 102, 116, 95, 79, 118, 101, 114, 114, 105, 100, 101]⟩ else
  if c = 19 then ⟨#[80, 111, 112, 95, 68, 105, 114, 101, 99, 116, 105, 111, 110, 97, 108, 95, 70, 111, 114, 109, 97, 116]⟩ else
  if c = 20 then ⟨#[76, 101, 102, 116, 95, 84, 111, 95, 82, 105, 103, 104, 116, 95, 73, 115, 111, 108, 97, 116, 101]⟩ else
  if c = 21 then ⟨#[82, 105, 103, 104, 116, 95, 84, 111, 95, 76, 101, 102, 116, 95, 73, 115, 111, 108, 97, 116, 101]⟩ else
  if c = 22 then ⟨#[70, 105, 114, 115, 116, 95, 83, 116, 114, 111, 110, 103, 95, 73, 115, 111, 108, 97, 116, 101]⟩ else
  if c = 23 then ⟨#[80, 111, 112, 95, 68, 105, 114, 101, 99, 116, 105, 111, 110, 97, 108, 95, 73, 115, 111, 108, 97, 116, 101]⟩ else
  ⟨#[]⟩
theorem ret_str2 {a b : ByteArray} {k : IntKind} {x y : Int} (h : a = b) (h' : x = y) : Ending.returned (.tuple #[.string a, .int k x]) = .returned (.tuple #[.string b, .int k y]) := by rw [h, h']
theorem ret_two {u v x y : Value} (h : u = x) (h' : v = y) : Ending.returned (.tuple #[u, v]) = .returned (.tuple #[x, y]) := by rw [h, h']
theorem ret_one {u x : Value} (h : u = x) : Ending.returned u = .returned x := by rw [h]
set_option maxRecDepth 100000 in
set_option maxHeartbeats 4000000 in
theorem classOf_any (t : ByteArray) (w : World) :
    Calls Tryz.prog 127 #[.string t] w fun e w' => e = .returned (.int .u8 (classN t)) ∧ w' = w := by
  refine calls_of_wp Tryz.func127 rfl ?_
  simp only [Tryz.ntmps127, List.size_toArray, List.length_cons, List.length_nil, Nat.reduceAdd, Nat.reduceSub]
  have hfin : ∀ a' : Act, a'.tmps.getD 2 undef = .int .u8 (classN t) → a'.defers = [] → bodyPost Tryz.prog Tryz.f127 (fun e w' => e = .returned (.int .u8 (classN t)) ∧ w' = w) .ret a' w := fun a' h1 h2 => bodyPost_ret (results_tmp rfl _ _ _) h2 ⟨ret_one h1, rfl⟩
  refine wp_seq (Go.Switch.layC ?_)
  refine wp_seq (wp_seq (Go.Switch.layM ?_))
  refine wp_block ?_
  obtain ⟨z1, z2, z3⟩ := Go.Switch.start1 (.string t) undef (.int .u8 0) 72 2 3 [] _ _ _ rfl rfl rfl (by decide) (by decide) (by decide)
  simp only [Nat.reduceAdd] at z1
  generalize Act.put _ (some 3) _ = a at *
  refine Go.Switch.case2 (t := t) 73 z1 z2 (by decide) (by decide) (by decide) (by decide) (by decide) (by decide) (fun h a0 s0 d0 => Go.Switch.give1 73 s0 (by decide) (fun a' r d => hfin a' (r.trans ?_) ((d.trans d0).trans z3))) (fun x0 y0 a0 s0 g0 d0 => ?_)
  · unfold classN
    by_cases h' : t = ⟨#[108]⟩
    · rw [if_pos h']
    · rw [if_neg h', if_pos (h.resolve_left h')]
  refine Go.Switch.case2 (t := t) 73 s0 g0 (by decide) (by decide) (by decide) (by decide) (by decide) (by decide) (fun h a1 s1 d1 => Go.Switch.give1 73 s1 (by decide) (fun a' r d => hfin a' (r.trans ?_) (((d.trans d1).trans d0).trans z3))) (fun x1 y1 a1 s1 g1 d1 => ?_)
  · unfold classN
    by_cases h' : t = ⟨#[114]⟩
    · rw [if_neg x0, if_neg y0, if_pos h']
    · rw [if_neg x0, if_neg y0, if_neg h', if_pos (h.resolve_left h')]
  refine Go.Switch.case2 (t := t) 73 s1 g1 (by decide) (by decide) (by decide) (by decide) (by decide) (by decide) (fun h a2 s2 d2 => Go.Switch.give1 73 s2 (by decide) (fun a' r d => hfin a' (r.trans ?_) ((((d.trans d2).trans d1).trans d0).trans z3))) (fun x2 y2 a2 s2 g2 d2 => ?_)
  · unfold classN
    by_cases h' : t = ⟨#[97, 108]⟩
    · rw [if_neg x0, if_neg y0, if_neg x1, if_neg y1, if_pos h']
    · rw [if_neg x0, if_neg y0, if_neg x1, if_neg y1, if_neg h', if_pos (h.resolve_left h')]
  refine Go.Switch.case2 (t := t) 73 s2 g2 (by decide) (by decide) (by decide) (by decide) (by decide) (by decide) (fun h a3 s3 d3 => Go.Switch.give1 73 s3 (by decide) (fun a' r d => hfin a' (r.trans ?_) (((((d.trans d3).trans d2).trans d1).trans d0).trans z3))) (fun x3 y3 a3 s3 g3 d3 => ?_)
  · unfold classN
    by_cases h' : t = ⟨#[101, 110]⟩
    · rw [if_neg x0, if_neg y0, if_neg x1, if_neg y1, if_neg x2, if_neg y2, if_pos h']
    · rw [if_neg x0, if_neg y0, if_neg x1, if_neg y1, if_neg x2, if_neg y2, if_neg h', if_pos (h.resolve_left h')]
  refine Go.Switch.case2 (t := t) 73 s3 g3 (by decide) (by decide) (by decide) (by decide) (by decide) (by decide) (fun h a4 s4 d4 => Go.Switch.give1 73 s4 (by decide) (fun a' r d => hfin a' (r.trans ?_) ((((((d.trans d4).trans d3).trans d2).trans d1).trans d0).trans z3))) (fun x4 y4 a4 s4 g4 d4 => ?_)
  · unfold classN
    by_cases h' : t = ⟨#[101, 115]⟩
    · rw [if_neg x0, if_neg y0, if_neg x1, if_neg y1, if_neg x2, if_neg y2, if_neg x3, if_neg y3, if_pos h']
    · rw [if_neg x0, if_neg y0, if_neg x1, if_neg y1, if_neg x2, if_neg y2, if_neg x3, if_neg y3, if_neg h', if_pos (h.resolve_left h')]
  refine Go.Switch.case2 (t := t) 73 s4 g4 (by decide) (by decide) (by decide) (by decide) (by decide) (by decide) (fun h a5 s5 d5 => Go.Switch.give1 73 s5 (by decide) (fun a' r d => hfin a' (r.trans ?_) (((((((d.trans d5).trans d4).trans d3).trans d2).trans d1).trans d0).trans z3))) (fun x5 y5 a5 s5 g5 d5 => ?_)
  · unfold classN
    by_cases h' : t = ⟨#[101, 116]⟩
    · rw [if_neg x0, if_neg y0, if_neg x1, if_neg y1, if_neg x2, if_neg y2, if_neg x3, if_neg y3, if_neg x4, if_neg y4, if_pos h']
    · rw [if_neg x0, if_neg y0, if_neg x1, if_neg y1, if_neg x2, if_neg y2, if_neg x3, if_neg y3, if_neg x4, if_neg y4, if_neg h', if_pos (h.resolve_left h')]
  refine Go.Switch.case2 (t := t) 73 s5 g5 (by decide) (by decide) (by decide) (by decide) (by decide) (by decide) (fun h a6 s6 d6 => Go.Switch.give1 73 s6 (by decide) (fun a' r d => hfin a' (r.trans ?_) ((((((((d.trans d6).trans d5).trans d4).trans d3).trans d2).trans d1).trans d0).trans z3))) (fun x6 y6 a6 s6 g6 d6 => ?_)
  · unfold classN
    by_cases h' : t = ⟨#[97, 110]⟩
    · rw [if_neg x0, if_neg y0, if_neg x1, if_neg y1, if_neg x2, if_neg y2, if_neg x3, if_neg y3, if_neg x4, if_neg y4, if_neg x5, if_neg y5, if_pos h']
    · rw [if_neg x0, if_neg y0, if_neg x1, if_neg y1, if_neg x2, if_neg y2, if_neg x3, if_neg y3, if_neg x4, if_neg y4, if_neg x5, if_neg y5, if_neg h', if_pos (h.resolve_left h')]
  refine Go.Switch.case2 (t := t) 73 s6 g6 (by decide) (by decide) (by decide) (by decide) (by decide) (by decide) (fun h a7 s7 d7 => Go.Switch.give1 73 s7 (by decide) (fun a' r d => hfin a' (r.trans ?_) (((((((((d.trans d7).trans d6).trans d5).trans d4).trans d3).trans d2).trans d1).trans d0).trans z3))) (fun x7 y7 a7 s7 g7 d7 => ?_)
  · unfold classN
    by_cases h' : t = ⟨#[99, 115]⟩
    · rw [if_neg x0, if_neg y0, if_neg x1, if_neg y1, if_neg x2, if_neg y2, if_neg x3, if_neg y3, if_neg x4, if_neg y4, if_neg x5, if_neg y5, if_neg x6, if_neg y6, if_pos h']
    · rw [if_neg x0, if_neg y0, if_neg x1, if_neg y1, if_neg x2, if_neg y2, if_neg x3, if_neg y3, if_neg x4, if_neg y4, if_neg x5, if_neg y5, if_neg x6, if_neg y6, if_neg h', if_pos (h.resolve_left h')]
  refine Go.Switch.case2 (t := t) 73 s7 g7 (by decide) (by decide) (by decide) (by decide) (by decide) (by decide) (fun h a8 s8 d8 => Go.Switch.give1 73 s8 (by decide) (fun a' r d => hfin a' (r.trans ?_) ((((((((((d.trans d8).trans d7).trans d6).trans d5).trans d4).trans d3).trans d2).trans d1).trans d0).trans z3))) (fun x8 y8 a8 s8 g8 d8 => ?_)
  · unfold classN
    by_cases h' : t = ⟨#[110, 115, 109]⟩
    · rw [if_neg x0, if_neg y0, if_neg x1, if_neg y1, if_neg x2, if_neg y2, if_neg x3, if_neg y3, if_neg x4, if_neg y4, if_neg x5, if_neg y5, if_neg x6, if_neg y6, if_neg x7, if_neg y7, if_pos h']
    · rw [if_neg x0, if_neg y0, if_neg x1, if_neg y1, if_neg x2, if_neg y2, if_neg x3, if_neg y3, if_neg x4, if_neg y4, if_neg x5, if_neg y5, if_neg x6, if_neg y6, if_neg x7, if_neg y7, if_neg h', if_pos (h.resolve_left h')]
  refine Go.Switch.case2 (t := t) 73 s8 g8 (by decide) (by decide) (by decide) (by decide) (by decide) (by decide) (fun h a9 s9 d9 => Go.Switch.give1 73 s9 (by decide) (fun a' r d => hfin a' (r.trans ?_) (((((((((((d.trans d9).trans d8).trans d7).trans d6).trans d5).trans d4).trans d3).trans d2).trans d1).trans d0).trans z3))) (fun x9 y9 a9 s9 g9 d9 => ?_)
  · unfold classN
    by_cases h' : t = ⟨#[98, 110]⟩
    · rw [if_neg x0, if_neg y0, if_neg x1, if_neg y1, if_neg x2, if_neg y2, if_neg x3, if_neg y3, if_neg x4, if_neg y4, if_neg x5, if_neg y5, if_neg x6, if_neg y6, if_neg x7, if_neg y7, if_neg x8, if_neg y8, if_pos h']
    · rw [if_neg x0, if_neg y0, if_neg x1, if_neg y1, if_neg x2, if_neg y2, if_neg x3, if_neg y3, if_neg x4, if_neg y4, if_neg x5, if_neg y5, if_neg x6, if_neg y6, if_neg x7, if_neg y7, if_neg x8, if_neg y8, if_neg h', if_pos (h.resolve_left h')]
  refine Go.Switch.case2 (t := t) 73 s9 g9 (by decide) (by decide) (by decide) (by decide) (by decide) (by decide) (fun h a10 s10 d10 => Go.Switch.give1 73 s10 (by decide) (fun a' r d => hfin a' (r.trans ?_) ((((((((((((d.trans d10).trans d9).trans d8).trans d7).trans d6).trans d5).trans d4).trans d3).trans d2).trans d1).trans d0).trans z3))) (fun x10 y10 a10 s10 g10 d10 => ?_)
  · unfold classN
    by_cases h' : t = ⟨#[98]⟩
    · rw [if_neg x0, if_neg y0, if_neg x1, if_neg y1, if_neg x2, if_neg y2, if_neg x3, if_neg y3, if_neg x4, if_neg y4, if_neg x5, if_neg y5, if_neg x6, if_neg y6, if_neg x7, if_neg y7, if_neg x8, if_neg y8, if_neg x9, if_neg y9, if_pos h']
    · rw [if_neg x0, if_neg y0, if_neg x1, if_neg y1, if_neg x2, if_neg y2, if_neg x3, if_neg y3, if_neg x4, if_neg y4, if_neg x5, if_neg y5, if_neg x6, if_neg y6, if_neg x7, if_neg y7, if_neg x8, if_neg y8, if_neg x9, if_neg y9, if_neg h', if_pos (h.resolve_left h')]
  refine Go.Switch.case2 (t := t) 73 s10 g10 (by decide) (by decide) (by decide) (by decide) (by decide) (by decide) (fun h a11 s11 d11 => Go.Switch.give1 73 s11 (by decide) (fun a' r d => hfin a' (r.trans ?_) (((((((((((((d.trans d11).trans d10).trans d9).trans d8).trans d7).trans d6).trans d5).trans d4).trans d3).trans d2).trans d1).trans d0).trans z3))) (fun x11 y11 a11 s11 g11 d11 => ?_)
  · unfold classN
    by_cases h' : t = ⟨#[115]⟩
    · rw [if_neg x0, if_neg y0, if_neg x1, if_neg y1, if_neg x2, if_neg y2, if_neg x3, if_neg y3, if_neg x4, if_neg y4, if_neg x5, if_neg y5, if_neg x6, if_neg y6, if_neg x7, if_neg y7, if_neg x8, if_neg y8, if_neg x9, if_neg y9, if_neg x10, if_neg y10, if_pos h']
    · rw [if_neg x0, if_neg y0, if_neg x1, if_neg y1, if_neg x2, if_neg y2, if_neg x3, if_neg y3, if_neg x4, if_neg y4, if_neg x5, if_neg y5, if_neg x6, if_neg y6, if_neg x7, if_neg y7, if_neg x8, if_neg y8, if_neg x9, if_neg y9, if_neg x10, if_neg y10, if_neg h', if_pos (h.resolve_left h')]
  refine Go.Switch.case2 (t := t) 73 s11 g11 (by decide) (by decide) (by decide) (by decide) (by decide) (by decide) (fun h a12 s12 d12 => Go.Switch.give1 73 s12 (by decide) (fun a' r d => hfin a' (r.trans ?_) ((((((((((((((d.trans d12).trans d11).trans d10).trans d9).trans d8).trans d7).trans d6).trans d5).trans d4).trans d3).trans d2).trans d1).trans d0).trans z3))) (fun x12 y12 a12 s12 g12 d12 => ?_)
  · unfold classN
    by_cases h' : t = ⟨#[119, 115]⟩
    · rw [if_neg x0, if_neg y0, if_neg x1, if_neg y1, if_neg x2, if_neg y2, if_neg x3, if_neg y3, if_neg x4, if_neg y4, if_neg x5, if_neg y5, if_neg x6, if_neg y6, if_neg x7, if_neg y7, if_neg x8, if_neg y8, if_neg x9, if_neg y9, if_neg x10, if_neg y10, if_neg x11, if_neg y11, if_pos h']
    · rw [if_neg x0, if_neg y0, if_neg x1, if_neg y1, if_neg x2, if_neg y2, if_neg x3, if_neg y3, if_neg x4, if_neg y4, if_neg x5, if_neg y5, if_neg x6, if_neg y6, if_neg x7, if_neg y7, if_neg x8, if_neg y8, if_neg x9, if_neg y9, if_neg x10, if_neg y10, if_neg x11, if_neg y11, if_neg h', if_pos (h.resolve_left h')]
  refine Go.Switch.case2 (t := t) 73 s12 g12 (by decide) (by decide) (by decide) (by decide) (by decide) (by decide) (fun h a13 s13 d13 => Go.Switch.give1 73 s13 (by decide) (fun a' r d => hfin a' (r.trans ?_) (((((((((((((((d.trans d13).trans d12).trans d11).trans d10).trans d9).trans d8).trans d7).trans d6).trans d5).trans d4).trans d3).trans d2).trans d1).trans d0).trans z3))) (fun x13 y13 a13 s13 g13 d13 => ?_)
  · unfold classN
    by_cases h' : t = ⟨#[111, 110]⟩
    · rw [if_neg x0, if_neg y0, if_neg x1, if_neg y1, if_neg x2, if_neg y2, if_neg x3, if_neg y3, if_neg x4, if_neg y4, if_neg x5, if_neg y5, if_neg x6, if_neg y6, if_neg x7, if_neg y7, if_neg x8, if_neg y8, if_neg x9, if_neg y9, if_neg x10, if_neg y10, if_neg x11, if_neg y11, if_neg x12, if_neg y12, if_pos h']
    · rw [if_neg x0, if_neg y0, if_neg x1, if_neg y1, if_neg x2, if_neg y2, if_neg x3, if_neg y3, if_neg x4, if_neg y4, if_neg x5, if_neg y5, if_neg x6, if_neg y6, if_neg x7, if_neg y7, if_neg x8, if_neg y8, if_neg x9, if_neg y9, if_neg x10, if_neg y10, if_neg x11, if_neg y11, if_neg x12, if_neg y12, if_neg h', if_pos (h.resolve_left h')]
  refine Go.Switch.case2 (t := t) 73 s13 g13 (by decide) (by decide) (by decide) (by decide) (by decide) (by decide) (fun h a14 s14 d14 => Go.Switch.give1 73 s14 (by decide) (fun a' r d => hfin a' (r.trans ?_) ((((((((((((((((d.trans d14).trans d13).trans d12).trans d11).trans d10).trans d9).trans d8).trans d7).trans d6).trans d5).trans d4).trans d3).trans d2).trans d1).trans d0).trans z3))) (fun x14 y14 a14 s14 g14 d14 => ?_)
  · unfold classN
    by_cases h' : t = ⟨#[108, 114, 101]⟩
    · rw [if_neg x0, if_neg y0, if_neg x1, if_neg y1, if_neg x2, if_neg y2, if_neg x3, if_neg y3, if_neg x4, if_neg y4, if_neg x5, if_neg y5, if_neg x6, if_neg y6, if_neg x7, if_neg y7, if_neg x8, if_neg y8, if_neg x9, if_neg y9, if_neg x10, if_neg y10, if_neg x11, if_neg y11, if_neg x12, if_neg y12, if_neg x13, if_neg y13, if_pos h']
    · rw [if_neg x0, if_neg y0, if_neg x1, if_neg y1, if_neg x2, if_neg y2, if_neg x3, if_neg y3, if_neg x4, if_neg y4, if_neg x5, if_neg y5, if_neg x6, if_neg y6, if_neg x7, if_neg y7, if_neg x8, if_neg y8, if_neg x9, if_neg y9, if_neg x10, if_neg y10, if_neg x11, if_neg y11, if_neg x12, if_neg y12, if_neg x13, if_neg y13, if_neg h', if_pos (h.resolve_left h')]
  refine Go.Switch.case2 (t := t) 73 s14 g14 (by decide) (by decide) (by decide) (by decide) (by decide) (by decide) (fun h a15 s15 d15 => Go.Switch.give1 73 s15 (by decide) (fun a' r d => hfin a' (r.trans ?_) (((((((((((((((((d.trans d15).trans d14).trans d13).trans d12).trans d11).trans d10).trans d9).trans d8).trans d7).trans d6).trans d5).trans d4).trans d3).trans d2).trans d1).trans d0).trans z3))) (fun x15 y15 a15 s15 g15 d15 => ?_)
  · unfold classN
    by_cases h' : t = ⟨#[108, 114, 111]⟩
    · rw [if_neg x0, if_neg y0, if_neg x1, if_neg y1, if_neg x2, if_neg y2, if_neg x3, if_neg y3, if_neg x4, if_neg y4, if_neg x5, if_neg y5, if_neg x6, if_neg y6, if_neg x7, if_neg y7, if_neg x8, if_neg y8, if_neg x9, if_neg y9, if_neg x10, if_neg y10, if_neg x11, if_neg y11, if_neg x12, if_neg y12, if_neg x13, if_neg y13, if_neg x14, if_neg y14, if_pos h']
    · rw [if_neg x0, if_neg y0, if_neg x1, if_neg y1, if_neg x2, if_neg y2, if_neg x3, if_neg y3, if_neg x4, if_neg y4, if_neg x5, if_neg y5, if_neg x6, if_neg y6, if_neg x7, if_neg y7, if_neg x8, if_neg y8, if_neg x9, if_neg y9, if_neg x10, if_neg y10, if_neg x11, if_neg y11, if_neg x12, if_neg y12, if_neg x13, if_neg y13, if_neg x14, if_neg y14, if_neg h', if_pos (h.resolve_left h')]
  refine Go.Switch.case2 (t := t) 73 s15 g15 (by decide) (by decide) (by decide) (by decide) (by decide) (by decide) (fun h a16 s16 d16 => Go.Switch.give1 73 s16 (by decide) (fun a' r d => hfin a' (r.trans ?_) ((((((((((((((((((d.trans d16).trans d15).trans d14).trans d13).trans d12).trans d11).trans d10).trans d9).trans d8).trans d7).trans d6).trans d5).trans d4).trans d3).trans d2).trans d1).trans d0).trans z3))) (fun x16 y16 a16 s16 g16 d16 => ?_)
  · unfold classN
    by_cases h' : t = ⟨#[114, 108, 101]⟩
    · rw [if_neg x0, if_neg y0, if_neg x1, if_neg y1, if_neg x2, if_neg y2, if_neg x3, if_neg y3, if_neg x4, if_neg y4, if_neg x5, if_neg y5, if_neg x6, if_neg y6, if_neg x7, if_neg y7, if_neg x8, if_neg y8, if_neg x9, if_neg y9, if_neg x10, if_neg y10, if_neg x11, if_neg y11, if_neg x12, if_neg y12, if_neg x13, if_neg y13, if_neg x14, if_neg y14, if_neg x15, if_neg y15, if_pos h']
    · rw [if_neg x0, if_neg y0, if_neg x1, if_neg y1, if_neg x2, if_neg y2, if_neg x3, if_neg y3, if_neg x4, if_neg y4, if_neg x5, if_neg y5, if_neg x6, if_neg y6, if_neg x7, if_neg y7, if_neg x8, if_neg y8, if_neg x9, if_neg y9, if_neg x10, if_neg y10, if_neg x11, if_neg y11, if_neg x12, if_neg y12, if_neg x13, if_neg y13, if_neg x14, if_neg y14, if_neg x15, if_neg y15, if_neg h', if_pos (h.resolve_left h')]
  refine Go.Switch.case2 (t := t) 73 s16 g16 (by decide) (by decide) (by decide) (by decide) (by decide) (by decide) (fun h a17 s17 d17 => Go.Switch.give1 73 s17 (by decide) (fun a' r d => hfin a' (r.trans ?_) (((((((((((((((((((d.trans d17).trans d16).trans d15).trans d14).trans d13).trans d12).trans d11).trans d10).trans d9).trans d8).trans d7).trans d6).trans d5).trans d4).trans d3).trans d2).trans d1).trans d0).trans z3))) (fun x17 y17 a17 s17 g17 d17 => ?_)
  · unfold classN
    by_cases h' : t = ⟨#[114, 108, 111]⟩
    · rw [if_neg x0, if_neg y0, if_neg x1, if_neg y1, if_neg x2, if_neg y2, if_neg x3, if_neg y3, if_neg x4, if_neg y4, if_neg x5, if_neg y5, if_neg x6, if_neg y6, if_neg x7, if_neg y7, if_neg x8, if_neg y8, if_neg x9, if_neg y9, if_neg x10, if_neg y10, if_neg x11, if_neg y11, if_neg x12, if_neg y12, if_neg x13, if_neg y13, if_neg x14, if_neg y14, if_neg x15, if_neg y15, if_neg x16, if_neg y16, if_pos h']
    · rw [if_neg x0, if_neg y0, if_neg x1, if_neg y1, if_neg x2, if_neg y2, if_neg x3, if_neg y3, if_neg x4, if_neg y4, if_neg x5, if_neg y5, if_neg x6, if_neg y6, if_neg x7, if_neg y7, if_neg x8, if_neg y8, if_neg x9, if_neg y9, if_neg x10, if_neg y10, if_neg x11, if_neg y11, if_neg x12, if_neg y12, if_neg x13, if_neg y13, if_neg x14, if_neg y14, if_neg x15, if_neg y15, if_neg x16, if_neg y16, if_neg h', if_pos (h.resolve_left h')]
  refine Go.Switch.case2 (t := t) 73 s17 g17 (by decide) (by decide) (by decide) (by decide) (by decide) (by decide) (fun h a18 s18 d18 => Go.Switch.give1 73 s18 (by decide) (fun a' r d => hfin a' (r.trans ?_) ((((((((((((((((((((d.trans d18).trans d17).trans d16).trans d15).trans d14).trans d13).trans d12).trans d11).trans d10).trans d9).trans d8).trans d7).trans d6).trans d5).trans d4).trans d3).trans d2).trans d1).trans d0).trans z3))) (fun x18 y18 a18 s18 g18 d18 => ?_)
  · unfold classN
    by_cases h' : t = ⟨#[112, 100, 102]⟩
    · rw [if_neg x0, if_neg y0, if_neg x1, if_neg y1, if_neg x2, if_neg y2, if_neg x3, if_neg y3, if_neg x4, if_neg y4, if_neg x5, if_neg y5, if_neg x6, if_neg y6, if_neg x7, if_neg y7, if_neg x8, if_neg y8, if_neg x9, if_neg y9, if_neg x10, if_neg y10, if_neg x11, if_neg y11, if_neg x12, if_neg y12, if_neg x13, if_neg y13, if_neg x14, if_neg y14, if_neg x15, if_neg y15, if_neg x16, if_neg y16, if_neg x17, if_neg y17, if_pos h']
    · rw [if_neg x0, if_neg y0, if_neg x1, if_neg y1, if_neg x2, if_neg y2, if_neg x3, if_neg y3, if_neg x4, if_neg y4, if_neg x5, if_neg y5, if_neg x6, if_neg y6, if_neg x7, if_neg y7, if_neg x8, if_neg y8, if_neg x9, if_neg y9, if_neg x10, if_neg y10, if_neg x11, if_neg y11, if_neg x12, if_neg y12, if_neg x13, if_neg y13, if_neg x14, if_neg y14, if_neg x15, if_neg y15, if_neg x16, if_neg y16, if_neg x17, if_neg y17, if_neg h', if_pos (h.resolve_left h')]
  refine Go.Switch.case2 (t := t) 73 s18 g18 (by decide) (by decide) (by decide) (by decide) (by decide) (by decide) (fun h a19 s19 d19 => Go.Switch.give1 73 s19 (by decide) (fun a' r d => hfin a' (r.trans ?_) (((((((((((((((((((((d.trans d19).trans d18).trans d17).trans d16).trans d15).trans d14).trans d13).trans d12).trans d11).trans d10).trans d9).trans d8).trans d7).trans d6).trans d5).trans d4).trans d3).trans d2).trans d1).trans d0).trans z3))) (fun x19 y19 a19 s19 g19 d19 => ?_)
  · unfold classN
    by_cases h' : t = ⟨#[108, 114, 105]⟩
    · rw [if_neg x0, if_neg y0, if_neg x1, if_neg y1, if_neg x2, if_neg y2, if_neg x3, if_neg y3, if_neg x4, if_neg y4, if_neg x5, if_neg y5, if_neg x6, if_neg y6, if_neg x7, if_neg y7, if_neg x8, if_neg y8, if_neg x9, if_neg y9, if_neg x10, if_neg y10, if_neg x11, if_neg y11, if_neg x12, if_neg y12, if_neg x13, if_neg y13, if_neg x14, if_neg y14, if_neg x15, if_neg y15, if_neg x16, if_neg y16, if_neg x17, if_neg y17, if_neg x18, if_neg y18, if_pos h']
    · rw [if_neg x0, if_neg y0, if_neg x1, if_neg y1, if_neg x2, if_neg y2, if_neg x3, if_neg y3, if_neg x4, if_neg y4, if_neg x5, if_neg y5, if_neg x6, if_neg y6, if_neg x7, if_neg y7, if_neg x8, if_neg y8, if_neg x9, if_neg y9, if_neg x10, if_neg y10, if_neg x11, if_neg y11, if_neg x12, if_neg y12, if_neg x13, if_neg y13, if_neg x14, if_neg y14, if_neg x15, if_neg y15, if_neg x16, if_neg y16, if_neg x17, if_neg y17, if_neg x18, if_neg y18, if_neg h', if_pos (h.resolve_left h')]
  refine Go.Switch.case2 (t := t) 73 s19 g19 (by decide) (by decide) (by decide) (by decide) (by decide) (by decide) (fun h a20 s20 d20 => Go.Switch.give1 73 s20 (by decide) (fun a' r d => hfin a' (r.trans ?_) ((((((((((((((((((((((d.trans d20).trans d19).trans d18).trans d17).trans d16).trans d15).trans d14).trans d13).trans d12).trans d11).trans d10).trans d9).trans d8).trans d7).trans d6).trans d5).trans d4).trans d3).trans d2).trans d1).trans d0).trans z3))) (fun x20 y20 a20 s20 g20 d20 => ?_)
  · unfold classN
    by_cases h' : t = ⟨#[114, 108, 105]⟩
    · rw [if_neg x0, if_neg y0, if_neg x1, if_neg y1, if_neg x2, if_neg y2, if_neg x3, if_neg y3, if_neg x4, if_neg y4, if_neg x5, if_neg y5, if_neg x6, if_neg y6, if_neg x7, if_neg y7, if_neg x8, if_neg y8, if_neg x9, if_neg y9, if_neg x10, if_neg y10, if_neg x11, if_neg y11, if_neg x12, if_neg y12, if_neg x13, if_neg y13, if_neg x14, if_neg y14, if_neg x15, if_neg y15, if_neg x16, if_neg y16, if_neg x17, if_neg y17, if_neg x18, if_neg y18, if_neg x19, if_neg y19, if_pos h']
    · rw [if_neg x0, if_neg y0, if_neg x1, if_neg y1, if_neg x2, if_neg y2, if_neg x3, if_neg y3, if_neg x4, if_neg y4, if_neg x5, if_neg y5, if_neg x6, if_neg y6, if_neg x7, if_neg y7, if_neg x8, if_neg y8, if_neg x9, if_neg y9, if_neg x10, if_neg y10, if_neg x11, if_neg y11, if_neg x12, if_neg y12, if_neg x13, if_neg y13, if_neg x14, if_neg y14, if_neg x15, if_neg y15, if_neg x16, if_neg y16, if_neg x17, if_neg y17, if_neg x18, if_neg y18, if_neg x19, if_neg y19, if_neg h', if_pos (h.resolve_left h')]
  refine Go.Switch.case2 (t := t) 73 s20 g20 (by decide) (by decide) (by decide) (by decide) (by decide) (by decide) (fun h a21 s21 d21 => Go.Switch.give1 73 s21 (by decide) (fun a' r d => hfin a' (r.trans ?_) (((((((((((((((((((((((d.trans d21).trans d20).trans d19).trans d18).trans d17).trans d16).trans d15).trans d14).trans d13).trans d12).trans d11).trans d10).trans d9).trans d8).trans d7).trans d6).trans d5).trans d4).trans d3).trans d2).trans d1).trans d0).trans z3))) (fun x21 y21 a21 s21 g21 d21 => ?_)
  · unfold classN
    by_cases h' : t = ⟨#[102, 115, 105]⟩
    · rw [if_neg x0, if_neg y0, if_neg x1, if_neg y1, if_neg x2, if_neg y2, if_neg x3, if_neg y3, if_neg x4, if_neg y4, if_neg x5, if_neg y5, if_neg x6, if_neg y6, if_neg x7, if_neg y7, if_neg x8, if_neg y8, if_neg x9, if_neg y9, if_neg x10, if_neg y10, if_neg x11, if_neg y11, if_neg x12, if_neg y12, if_neg x13, if_neg y13, if_neg x14, if_neg y14, if_neg x15, if_neg y15, if_neg x16, if_neg y16, if_neg x17, if_neg y17, if_neg x18, if_neg y18, if_neg x19, if_neg y19, if_neg x20, if_neg y20, if_pos h']
    · rw [if_neg x0, if_neg y0, if_neg x1, if_neg y1, if_neg x2, if_neg y2, if_neg x3, if_neg y3, if_neg x4, if_neg y4, if_neg x5, if_neg y5, if_neg x6, if_neg y6, if_neg x7, if_neg y7, if_neg x8, if_neg y8, if_neg x9, if_neg y9, if_neg x10, if_neg y10, if_neg x11, if_neg y11, if_neg x12, if_neg y12, if_neg x13, if_neg y13, if_neg x14, if_neg y14, if_neg x15, if_neg y15, if_neg x16, if_neg y16, if_neg x17, if_neg y17, if_neg x18, if_neg y18, if_neg x19, if_neg y19, if_neg x20, if_neg y20, if_neg h', if_pos (h.resolve_left h')]
  refine Go.Switch.case2 (t := t) 73 s21 g21 (by decide) (by decide) (by decide) (by decide) (by decide) (by decide) (fun h a22 s22 d22 => Go.Switch.give1 73 s22 (by decide) (fun a' r d => hfin a' (r.trans ?_) ((((((((((((((((((((((((d.trans d22).trans d21).trans d20).trans d19).trans d18).trans d17).trans d16).trans d15).trans d14).trans d13).trans d12).trans d11).trans d10).trans d9).trans d8).trans d7).trans d6).trans d5).trans d4).trans d3).trans d2).trans d1).trans d0).trans z3))) (fun x22 y22 a22 s22 g22 d22 => ?_)
  · unfold classN
    by_cases h' : t = ⟨#[112, 100, 105]⟩
    · rw [if_neg x0, if_neg y0, if_neg x1, if_neg y1, if_neg x2, if_neg y2, if_neg x3, if_neg y3, if_neg x4, if_neg y4, if_neg x5, if_neg y5, if_neg x6, if_neg y6, if_neg x7, if_neg y7, if_neg x8, if_neg y8, if_neg x9, if_neg y9, if_neg x10, if_neg y10, if_neg x11, if_neg y11, if_neg x12, if_neg y12, if_neg x13, if_neg y13, if_neg x14, if_neg y14, if_neg x15, if_neg y15, if_neg x16, if_neg y16, if_neg x17, if_neg y17, if_neg x18, if_neg y18, if_neg x19, if_neg y19, if_neg x20, if_neg y20, if_neg x21, if_neg y21, if_pos h']
    · rw [if_neg x0, if_neg y0, if_neg x1, if_neg y1, if_neg x2, if_neg y2, if_neg x3, if_neg y3, if_neg x4, if_neg y4, if_neg x5, if_neg y5, if_neg x6, if_neg y6, if_neg x7, if_neg y7, if_neg x8, if_neg y8, if_neg x9, if_neg y9, if_neg x10, if_neg y10, if_neg x11, if_neg y11, if_neg x12, if_neg y12, if_neg x13, if_neg y13, if_neg x14, if_neg y14, if_neg x15, if_neg y15, if_neg x16, if_neg y16, if_neg x17, if_neg y17, if_neg x18, if_neg y18, if_neg x19, if_neg y19, if_neg x20, if_neg y20, if_neg x21, if_neg y21, if_neg h', if_pos (h.resolve_left h')]
  refine wp_skip ?_
  refine Go.Switch.give1 73 s22 (by decide) (fun a' r d => hfin a' (r.trans ?_) ((((((((((((((((((((((((d.trans d22).trans d21).trans d20).trans d19).trans d18).trans d17).trans d16).trans d15).trans d14).trans d13).trans d12).trans d11).trans d10).trans d9).trans d8).trans d7).trans d6).trans d5).trans d4).trans d3).trans d2).trans d1).trans d0).trans z3))
  unfold classN
  rw [if_neg x0, if_neg y0, if_neg x1, if_neg y1, if_neg x2, if_neg y2, if_neg x3, if_neg y3, if_neg x4, if_neg y4, if_neg x5, if_neg y5, if_neg x6, if_neg y6, if_neg x7, if_neg y7, if_neg x8, if_neg y8, if_neg x9, if_neg y9, if_neg x10, if_neg y10, if_neg x11, if_neg y11, if_neg x12, if_neg y12, if_neg x13, if_neg y13, if_neg x14, if_neg y14, if_neg x15, if_neg y15, if_neg x16, if_neg y16, if_neg x17, if_neg y17, if_neg x18, if_neg y18, if_neg x19, if_neg y19, if_neg x20, if_neg y20, if_neg x21, if_neg y21, if_neg x22, if_neg y22]
set_option maxRecDepth 100000 in
set_option maxHeartbeats 4000000 in
theorem namesOf_any (c : Int) (w : World) :
    Calls Tryz.prog 39 #[.int .u8 c] w fun e w' => e = .returned (.tuple #[.string (shortS c), .string (longS c)]) ∧ w' = w := by
  refine calls_of_wp Tryz.func39 rfl ?_
  simp only [Tryz.ntmps39, List.size_toArray, List.length_cons, List.length_nil, Nat.reduceAdd, Nat.reduceSub]
  have hfin : ∀ a' : Act, a'.tmps.getD 2 undef = .string (shortS c) → a'.tmps.getD 3 undef = .string (longS c) → a'.defers = [] → bodyPost Tryz.prog Tryz.f39 (fun e w' => e = .returned (.tuple #[.string (shortS c), .string (longS c)]) ∧ w' = w) .ret a' w := fun a' h1 h2 h3 => bodyPost_ret (results_tmp2 rfl _ _ _) h3 ⟨ret_two h1 h2, rfl⟩
  refine wp_seq (Go.Switch.layC2 ?_)
  refine wp_seq (wp_seq (Go.Switch.layM ?_))
  refine wp_block ?_
  obtain ⟨z1, z2, z3⟩ := Go.Switch.start2 (.int .u8 c) undef (.string ⟨#[]⟩) (.string ⟨#[]⟩) 50 2 3 4 [] _ _ _ _ rfl rfl rfl rfl (by decide) (by decide) (by decide) (by decide) (by decide)
  simp only [Nat.reduceAdd] at z1
  generalize Act.put _ (some 4) _ = a at *
  refine Go.Switch.case1 (t := c) 51 z1 z2 (by decide) (by decide) (by decide) (by decide) (fun h a0 s0 d0 => Go.Switch.give2 51 s0 (by decide) (by decide) (by decide) (fun a' r r' d => hfin a' (r.trans ?_) (r'.trans ?_) ((d.trans d0).trans z3))) (fun x0 a0 s0 g0 d0 => ?_)
  · unfold shortS
    rw [if_pos h]
  · unfold longS
    rw [if_pos h]
  refine Go.Switch.case1 (t := c) 51 s0 g0 (by decide) (by decide) (by decide) (by decide) (fun h a1 s1 d1 => Go.Switch.give2 51 s1 (by decide) (by decide) (by decide) (fun a' r r' d => hfin a' (r.trans ?_) (r'.trans ?_) (((d.trans d1).trans d0).trans z3))) (fun x1 a1 s1 g1 d1 => ?_)
  · unfold shortS
    rw [if_neg x0, if_pos h]
  · unfold longS
    rw [if_neg x0, if_pos h]
  refine Go.Switch.case1 (t := c) 51 s1 g1 (by decide) (by decide) (by decide) (by decide) (fun h a2 s2 d2 => Go.Switch.give2 51 s2 (by decide) (by decide) (by decide) (fun a' r r' d => hfin a' (r.trans ?_) (r'.trans ?_) ((((d.trans d2).trans d1).trans d0).trans z3))) (fun x2 a2 s2 g2 d2 => ?_)
  · unfold shortS
    rw [if_neg x0, if_neg x1, if_pos h]
  · unfold longS
    rw [if_neg x0, if_neg x1, if_pos h]
  refine Go.Switch.case1 (t := c) 51 s2 g2 (by decide) (by decide) (by decide) (by decide) (fun h a3 s3 d3 => Go.Switch.give2 51 s3 (by decide) (by decide) (by decide) (fun a' r r' d => hfin a' (r.trans ?_) (r'.trans ?_) (((((d.trans d3).trans d2).trans d1).trans d0).trans z3))) (fun x3 a3 s3 g3 d3 => ?_)
  · unfold shortS
    rw [if_neg x0, if_neg x1, if_neg x2, if_pos h]
  · unfold longS
    rw [if_neg x0, if_neg x1, if_neg x2, if_pos h]
  refine Go.Switch.case1 (t := c) 51 s3 g3 (by decide) (by decide) (by decide) (by decide) (fun h a4 s4 d4 => Go.Switch.give2 51 s4 (by decide) (by decide) (by decide) (fun a' r r' d => hfin a' (r.trans ?_) (r'.trans ?_) ((((((d.trans d4).trans d3).trans d2).trans d1).trans d0).trans z3))) (fun x4 a4 s4 g4 d4 => ?_)
  · unfold shortS
    rw [if_neg x0, if_neg x1, if_neg x2, if_neg x3, if_pos h]
  · unfold longS
    rw [if_neg x0, if_neg x1, if_neg x2, if_neg x3, if_pos h]
  refine Go.Switch.case1 (t := c) 51 s4 g4 (by decide) (by decide) (by decide) (by decide) (fun h a5 s5 d5 => Go.Switch.give2 51 s5 (by decide) (by decide) (by decide) (fun a' r r' d => hfin a' (r.trans ?_) (r'.trans ?_) (((((((d.trans d5).trans d4).trans d3).trans d2).trans d1).trans d0).trans z3))) (fun x5 a5 s5 g5 d5 => ?_)
  · unfold shortS
    rw [if_neg x0, if_neg x1, if_neg x2, if_neg x3, if_neg x4, if_pos h]
  · unfold longS
    rw [if_neg x0, if_neg x1, if_neg x2, if_neg x3, if_neg x4, if_pos h]
  refine Go.Switch.case1 (t := c) 51 s5 g5 (by decide) (by decide) (by decide) (by decide) (fun h a6 s6 d6 => Go.Switch.give2 51 s6 (by decide) (by decide) (by decide) (fun a' r r' d => hfin a' (r.trans ?_) (r'.trans ?_) ((((((((d.trans d6).trans d5).trans d4).trans d3).trans d2).trans d1).trans d0).trans z3))) (fun x6 a6 s6 g6 d6 => ?_)
  · unfold shortS
    rw [if_neg x0, if_neg x1, if_neg x2, if_neg x3, if_neg x4, if_neg x5, if_pos h]
  · unfold longS
    rw [if_neg x0, if_neg x1, if_neg x2, if_neg x3, if_neg x4, if_neg x5, if_pos h]
  refine Go.Switch.case1 (t := c) 51 s6 g6 (by decide) (by decide) (by decide) (by decide) (fun h a7 s7 d7 => Go.Switch.give2 51 s7 (by decide) (by decide) (by decide) (fun a' r r' d => hfin a' (r.trans ?_) (r'.trans ?_) (((((((((d.trans d7).trans d6).trans d5).trans d4).trans d3).trans d2).trans d1).trans d0).trans z3))) (fun x7 a7 s7 g7 d7 => ?_)
  · unfold shortS
    rw [if_neg x0, if_neg x1, if_neg x2, if_neg x3, if_neg x4, if_neg x5, if_neg x6, if_pos h]
  · unfold longS
    rw [if_neg x0, if_neg x1, if_neg x2, if_neg x3, if_neg x4, if_neg x5, if_neg x6, if_pos h]
  refine Go.Switch.case1 (t := c) 51 s7 g7 (by decide) (by decide) (by decide) (by decide) (fun h a8 s8 d8 => Go.Switch.give2 51 s8 (by decide) (by decide) (by decide) (fun a' r r' d => hfin a' (r.trans ?_) (r'.trans ?_) ((((((((((d.trans d8).trans d7).trans d6).trans d5).trans d4).trans d3).trans d2).trans d1).trans d0).trans z3))) (fun x8 a8 s8 g8 d8 => ?_)
  · unfold shortS
    rw [if_neg x0, if_neg x1, if_neg x2, if_neg x3, if_neg x4, if_neg x5, if_neg x6, if_neg x7, if_pos h]
  · unfold longS
    rw [if_neg x0, if_neg x1, if_neg x2, if_neg x3, if_neg x4, if_neg x5, if_neg x6, if_neg x7, if_pos h]
  refine Go.Switch.case1 (t := c) 51 s8 g8 (by decide) (by decide) (by decide) (by decide) (fun h a9 s9 d9 => Go.Switch.give2 51 s9 (by decide) (by decide) (by decide) (fun a' r r' d => hfin a' (r.trans ?_) (r'.trans ?_) (((((((((((d.trans d9).trans d8).trans d7).trans d6).trans d5).trans d4).trans d3).trans d2).trans d1).trans d0).trans z3))) (fun x9 a9 s9 g9 d9 => ?_)
  · unfold shortS
    rw [if_neg x0, if_neg x1, if_neg x2, if_neg x3, if_neg x4, if_neg x5, if_neg x6, if_neg x7, if_neg x8, if_pos h]
  · unfold longS
    rw [if_neg x0, if_neg x1, if_neg x2, if_neg x3, if_neg x4, if_neg x5, if_neg x6, if_neg x7, if_neg x8, if_pos h]
  refine Go.Switch.case1 (t := c) 51 s9 g9 (by decide) (by decide) (by decide) (by decide) (fun h a10 s10 d10 => Go.Switch.give2 51 s10 (by decide) (by decide) (by decide) (fun a' r r' d => hfin a' (r.trans ?_) (r'.trans ?_) ((((((((((((d.trans d10).trans d9).trans d8).trans d7).trans d6).trans d5).trans d4).trans d3).trans d2).trans d1).trans d0).trans z3))) (fun x10 a10 s10 g10 d10 => ?_)
  · unfold shortS
    rw [if_neg x0, if_neg x1, if_neg x2, if_neg x3, if_neg x4, if_neg x5, if_neg x6, if_neg x7, if_neg x8, if_neg x9, if_pos h]
  · unfold longS
    rw [if_neg x0, if_neg x1, if_neg x2, if_neg x3, if_neg x4, if_neg x5, if_neg x6, if_neg x7, if_neg x8, if_neg x9, if_pos h]
  refine Go.Switch.case1 (t := c) 51 s10 g10 (by decide) (by decide) (by decide) (by decide) (fun h a11 s11 d11 => Go.Switch.give2 51 s11 (by decide) (by decide) (by decide) (fun a' r r' d => hfin a' (r.trans ?_) (r'.trans ?_) (((((((((((((d.trans d11).trans d10).trans d9).trans d8).trans d7).trans d6).trans d5).trans d4).trans d3).trans d2).trans d1).trans d0).trans z3))) (fun x11 a11 s11 g11 d11 => ?_)
  · unfold shortS
    rw [if_neg x0, if_neg x1, if_neg x2, if_neg x3, if_neg x4, if_neg x5, if_neg x6, if_neg x7, if_neg x8, if_neg x9, if_neg x10, if_pos h]
  · unfold longS
    rw [if_neg x0, if_neg x1, if_neg x2, if_neg x3, if_neg x4, if_neg x5, if_neg x6, if_neg x7, if_neg x8, if_neg x9, if_neg x10, if_pos h]
  refine Go.Switch.case1 (t := c) 51 s11 g11 (by decide) (by decide) (by decide) (by decide) (fun h a12 s12 d12 => Go.Switch.give2 51 s12 (by decide) (by decide) (by decide) (fun a' r r' d => hfin a' (r.trans ?_) (r'.trans ?_) ((((((((((((((d.trans d12).trans d11).trans d10).trans d9).trans d8).trans d7).trans d6).trans d5).trans d4).trans d3).trans d2).trans d1).trans d0).trans z3))) (fun x12 a12 s12 g12 d12 => ?_)
  · unfold shortS
    rw [if_neg x0, if_neg x1, if_neg x2, if_neg x3, if_neg x4, if_neg x5, if_neg x6, if_neg x7, if_neg x8, if_neg x9, if_neg x10, if_neg x11, if_pos h]
  · unfold longS
    rw [if_neg x0, if_neg x1, if_neg x2, if_neg x3, if_neg x4, if_neg x5, if_neg x6, if_neg x7, if_neg x8, if_neg x9, if_neg x10, if_neg x11, if_pos h]
  refine Go.Switch.case1 (t := c) 51 s12 g12 (by decide) (by decide) (by decide) (by decide) (fun h a13 s13 d13 => Go.Switch.give2 51 s13 (by decide) (by decide) (by decide) (fun a' r r' d => hfin a' (r.trans ?_) (r'.trans ?_) (((((((((((((((d.trans d13).trans d12).trans d11).trans d10).trans d9).trans d8).trans d7).trans d6).trans d5).trans d4).trans d3).trans d2).trans d1).trans d0).trans z3))) (fun x13 a13 s13 g13 d13 => ?_)
  · unfold shortS
    rw [if_neg x0, if_neg x1, if_neg x2, if_neg x3, if_neg x4, if_neg x5, if_neg x6, if_neg x7, if_neg x8, if_neg x9, if_neg x10, if_neg x11, if_neg x12, if_pos h]
  · unfold longS
    rw [if_neg x0, if_neg x1, if_neg x2, if_neg x3, if_neg x4, if_neg x5, if_neg x6, if_neg x7, if_neg x8, if_neg x9, if_neg x10, if_neg x11, if_neg x12, if_pos h]
  refine Go.Switch.case1 (t := c) 51 s13 g13 (by decide) (by decide) (by decide) (by decide) (fun h a14 s14 d14 => Go.Switch.give2 51 s14 (by decide) (by decide) (by decide) (fun a' r r' d => hfin a' (r.trans ?_) (r'.trans ?_) ((((((((((((((((d.trans d14).trans d13).trans d12).trans d11).trans d10).trans d9).trans d8).trans d7).trans d6).trans d5).trans d4).trans d3).trans d2).trans d1).trans d0).trans z3))) (fun x14 a14 s14 g14 d14 => ?_)
  · unfold shortS
    rw [if_neg x0, if_neg x1, if_neg x2, if_neg x3, if_neg x4, if_neg x5, if_neg x6, if_neg x7, if_neg x8, if_neg x9, if_neg x10, if_neg x11, if_neg x12, if_neg x13, if_pos h]
  · unfold longS
    rw [if_neg x0, if_neg x1, if_neg x2, if_neg x3, if_neg x4, if_neg x5, if_neg x6, if_neg x7, if_neg x8, if_neg x9, if_neg x10, if_neg x11, if_neg x12, if_neg x13, if_pos h]
  refine Go.Switch.case1 (t := c) 51 s14 g14 (by decide) (by decide) (by decide) (by decide) (fun h a15 s15 d15 => Go.Switch.give2 51 s15 (by decide) (by decide) (by decide) (fun a' r r' d => hfin a' (r.trans ?_) (r'.trans ?_) (((((((((((((((((d.trans d15).trans d14).trans d13).trans d12).trans d11).trans d10).trans d9).trans d8).trans d7).trans d6).trans d5).trans d4).trans d3).trans d2).trans d1).trans d0).trans z3))) (fun x15 a15 s15 g15 d15 => ?_)
  · unfold shortS
    rw [if_neg x0, if_neg x1, if_neg x2, if_neg x3, if_neg x4, if_neg x5, if_neg x6, if_neg x7, if_neg x8, if_neg x9, if_neg x10, if_neg x11, if_neg x12, if_neg x13, if_neg x14, if_pos h]
  · unfold longS
    rw [if_neg x0, if_neg x1, if_neg x2, if_neg x3, if_neg x4, if_neg x5, if_neg x6, if_neg x7, if_neg x8, if_neg x9, if_neg x10, if_neg x11, if_neg x12, if_neg x13, if_neg x14, if_pos h]
  refine Go.Switch.case1 (t := c) 51 s15 g15 (by decide) (by decide) (by decide) (by decide) (fun h a16 s16 d16 => Go.Switch.give2 51 s16 (by decide) (by decide) (by decide) (fun a' r r' d => hfin a' (r.trans ?_) (r'.trans ?_) ((((((((((((((((((d.trans d16).trans d15).trans d14).trans d13).trans d12).trans d11).trans d10).trans d9).trans d8).trans d7).trans d6).trans d5).trans d4).trans d3).trans d2).trans d1).trans d0).trans z3))) (fun x16 a16 s16 g16 d16 => ?_)
  · unfold shortS
    rw [if_neg x0, if_neg x1, if_neg x2, if_neg x3, if_neg x4, if_neg x5, if_neg x6, if_neg x7, if_neg x8, if_neg x9, if_neg x10, if_neg x11, if_neg x12, if_neg x13, if_neg x14, if_neg x15, if_pos h]
  · unfold longS
    rw [if_neg x0, if_neg x1, if_neg x2, if_neg x3, if_neg x4, if_neg x5, if_neg x6, if_neg x7, if_neg x8, if_neg x9, if_neg x10, if_neg x11, if_neg x12, if_neg x13, if_neg x14, if_neg x15, if_pos h]
  refine Go.Switch.case1 (t := c) 51 s16 g16 (by decide) (by decide) (by decide) (by decide) (fun h a17 s17 d17 => Go.Switch.give2 51 s17 (by decide) (by decide) (by decide) (fun a' r r' d => hfin a' (r.trans ?_) (r'.trans ?_) (((((((((((((((((((d.trans d17).trans d16).trans d15).trans d14).trans d13).trans d12).trans d11).trans d10).trans d9).trans d8).trans d7).trans d6).trans d5).trans d4).trans d3).trans d2).trans d1).trans d0).trans z3))) (fun x17 a17 s17 g17 d17 => ?_)
  · unfold shortS
    rw [if_neg x0, if_neg x1, if_neg x2, if_neg x3, if_neg x4, if_neg x5, if_neg x6, if_neg x7, if_neg x8, if_neg x9, if_neg x10, if_neg x11, if_neg x12, if_neg x13, if_neg x14, if_neg x15, if_neg x16, if_pos h]
  · unfold longS
    rw [if_neg x0, if_neg x1, if_neg x2, if_neg x3, if_neg x4, if_neg x5, if_neg x6, if_neg x7, if_neg x8, if_neg x9, if_neg x10, if_neg x11, if_neg x12, if_neg x13, if_neg x14, if_neg x15, if_neg x16, if_pos h]
  refine Go.Switch.case1 (t := c) 51 s17 g17 (by decide) (by decide) (by decide) (by decide) (fun h a18 s18 d18 => Go.Switch.give2 51 s18 (by decide) (by decide) (by decide) (fun a' r r' d => hfin a' (r.trans ?_) (r'.trans ?_) ((((((((((((((((((((d.trans d18).trans d17).trans d16).trans d15).trans d14).trans d13).trans d12).trans d11).trans d10).trans d9).trans d8).trans d7).trans d6).trans d5).trans d4).trans d3).trans d2).trans d1).trans d0).trans z3))) (fun x18 a18 s18 g18 d18 => ?_)
  · unfold shortS
    rw [if_neg x0, if_neg x1, if_neg x2, if_neg x3, if_neg x4, if_neg x5, if_neg x6, if_neg x7, if_neg x8, if_neg x9, if_neg x10, if_neg x11, if_neg x12, if_neg x13, if_neg x14, if_neg x15, if_neg x16, if_neg x17, if_pos h]
  · unfold longS
    rw [if_neg x0, if_neg x1, if_neg x2, if_neg x3, if_neg x4, if_neg x5, if_neg x6, if_neg x7, if_neg x8, if_neg x9, if_neg x10, if_neg x11, if_neg x12, if_neg x13, if_neg x14, if_neg x15, if_neg x16, if_neg x17, if_pos h]
  refine Go.Switch.case1 (t := c) 51 s18 g18 (by decide) (by decide) (by decide) (by decide) (fun h a19 s19 d19 => Go.Switch.give2 51 s19 (by decide) (by decide) (by decide) (fun a' r r' d => hfin a' (r.trans ?_) (r'.trans ?_) (((((((((((((((((((((d.trans d19).trans d18).trans d17).trans d16).trans d15).trans d14).trans d13).trans d12).trans d11).trans d10).trans d9).trans d8).trans d7).trans d6).trans d5).trans d4).trans d3).trans d2).trans d1).trans d0).trans z3))) (fun x19 a19 s19 g19 d19 => ?_)
  · unfold shortS
    rw [if_neg x0, if_neg x1, if_neg x2, if_neg x3, if_neg x4, if_neg x5, if_neg x6, if_neg x7, if_neg x8, if_neg x9, if_neg x10, if_neg x11, if_neg x12, if_neg x13, if_neg x14, if_neg x15, if_neg x16, if_neg x17, if_neg x18, if_pos h]
  · unfold longS
    rw [if_neg x0, if_neg x1, if_neg x2, if_neg x3, if_neg x4, if_neg x5, if_neg x6, if_neg x7, if_neg x8, if_neg x9, if_neg x10, if_neg x11, if_neg x12, if_neg x13, if_neg x14, if_neg x15, if_neg x16, if_neg x17, if_neg x18, if_pos h]
  refine Go.Switch.case1 (t := c) 51 s19 g19 (by decide) (by decide) (by decide) (by decide) (fun h a20 s20 d20 => Go.Switch.give2 51 s20 (by decide) (by decide) (by decide) (fun a' r r' d => hfin a' (r.trans ?_) (r'.trans ?_) ((((((((((((((((((((((d.trans d20).trans d19).trans d18).trans d17).trans d16).trans d15).trans d14).trans d13).trans d12).trans d11).trans d10).trans d9).trans d8).trans d7).trans d6).trans d5).trans d4).trans d3).trans d2).trans d1).trans d0).trans z3))) (fun x20 a20 s20 g20 d20 => ?_)
  · unfold shortS
    rw [if_neg x0, if_neg x1, if_neg x2, if_neg x3, if_neg x4, if_neg x5, if_neg x6, if_neg x7, if_neg x8, if_neg x9, if_neg x10, if_neg x11, if_neg x12, if_neg x13, if_neg x14, if_neg x15, if_neg x16, if_neg x17, if_neg x18, if_neg x19, if_pos h]
  · unfold longS
    rw [if_neg x0, if_neg x1, if_neg x2, if_neg x3, if_neg x4, if_neg x5, if_neg x6, if_neg x7, if_neg x8, if_neg x9, if_neg x10, if_neg x11, if_neg x12, if_neg x13, if_neg x14, if_neg x15, if_neg x16, if_neg x17, if_neg x18, if_neg x19, if_pos h]
  refine Go.Switch.case1 (t := c) 51 s20 g20 (by decide) (by decide) (by decide) (by decide) (fun h a21 s21 d21 => Go.Switch.give2 51 s21 (by decide) (by decide) (by decide) (fun a' r r' d => hfin a' (r.trans ?_) (r'.trans ?_) (((((((((((((((((((((((d.trans d21).trans d20).trans d19).trans d18).trans d17).trans d16).trans d15).trans d14).trans d13).trans d12).trans d11).trans d10).trans d9).trans d8).trans d7).trans d6).trans d5).trans d4).trans d3).trans d2).trans d1).trans d0).trans z3))) (fun x21 a21 s21 g21 d21 => ?_)
  · unfold shortS
    rw [if_neg x0, if_neg x1, if_neg x2, if_neg x3, if_neg x4, if_neg x5, if_neg x6, if_neg x7, if_neg x8, if_neg x9, if_neg x10, if_neg x11, if_neg x12, if_neg x13, if_neg x14, if_neg x15, if_neg x16, if_neg x17, if_neg x18, if_neg x19, if_neg x20, if_pos h]
  · unfold longS
    rw [if_neg x0, if_neg x1, if_neg x2, if_neg x3, if_neg x4, if_neg x5, if_neg x6, if_neg x7, if_neg x8, if_neg x9, if_neg x10, if_neg x11, if_neg x12, if_neg x13, if_neg x14, if_neg x15, if_neg x16, if_neg x17, if_neg x18, if_neg x19, if_neg x20, if_pos h]
  refine Go.Switch.case1 (t := c) 51 s21 g21 (by decide) (by decide) (by decide) (by decide) (fun h a22 s22 d22 => Go.Switch.give2 51 s22 (by decide) (by decide) (by decide) (fun a' r r' d => hfin a' (r.trans ?_) (r'.trans ?_) ((((((((((((((((((((((((d.trans d22).trans d21).trans d20).trans d19).trans d18).trans d17).trans d16).trans d15).trans d14).trans d13).trans d12).trans d11).trans d10).trans d9).trans d8).trans d7).trans d6).trans d5).trans d4).trans d3).trans d2).trans d1).trans d0).trans z3))) (fun x22 a22 s22 g22 d22 => ?_)
  · unfold shortS
    rw [if_neg x0, if_neg x1, if_neg x2, if_neg x3, if_neg x4, if_neg x5, if_neg x6, if_neg x7, if_neg x8, if_neg x9, if_neg x10, if_neg x11, if_neg x12, if_neg x13, if_neg x14, if_neg x15, if_neg x16, if_neg x17, if_neg x18, if_neg x19, if_neg x20, if_neg x21, if_pos h]
  · unfold longS
    rw [if_neg x0, if_neg x1, if_neg x2, if_neg x3, if_neg x4, if_neg x5, if_neg x6, if_neg x7, if_neg x8, if_neg x9, if_neg x10, if_neg x11, if_neg x12, if_neg x13, if_neg x14, if_neg x15, if_neg x16, if_neg x17, if_neg x18, if_neg x19, if_neg x20, if_neg x21, if_pos h]
  refine wp_skip ?_
  refine Go.Switch.give2 51 s22 (by decide) (by decide) (by decide) (fun a' r r' d => hfin a' (r.trans ?_) (r'.trans ?_) ((((((((((((((((((((((((d.trans d22).trans d21).trans d20).trans d19).trans d18).trans d17).trans d16).trans d15).trans d14).trans d13).trans d12).trans d11).trans d10).trans d9).trans d8).trans d7).trans d6).trans d5).trans d4).trans d3).trans d2).trans d1).trans d0).trans z3))
  · unfold shortS
    rw [if_neg x0, if_neg x1, if_neg x2, if_neg x3, if_neg x4, if_neg x5, if_neg x6, if_neg x7, if_neg x8, if_neg x9, if_neg x10, if_neg x11, if_neg x12, if_neg x13, if_neg x14, if_neg x15, if_neg x16, if_neg x17, if_neg x18, if_neg x19, if_neg x20, if_neg x21, if_neg x22]
  · unfold longS
    rw [if_neg x0, if_neg x1, if_neg x2, if_neg x3, if_neg x4, if_neg x5, if_neg x6, if_neg x7, if_neg x8, if_neg x9, if_neg x10, if_neg x11, if_neg x12, if_neg x13, if_neg x14, if_neg x15, if_neg x16, if_neg x17, if_neg x18, if_neg x19, if_neg x20, if_neg x21, if_neg x22]
end Go.Proofs.YthgaadjkjnibaaaGreatDoor
/-
  Loose, Alike of package words: the loose form of every text.
-/
namespace Go.Proofs.YthgaadjkjnibaaaGreatDoor
open Go.RowKit Go.PlainAid Go.Lib
attribute [local go_sem] World.iter
set_option linter.unusedVariables false

abbrev numsOf (l : List (Nat × Nat)) : List Int := l.map fun p => ((p.2 : Nat) : Int)
abbrev looseV (l : List (Nat × Nat)) : List Value := (looseL (numsOf l)).map (Value.int .i32)
theorem looseV_yes (l : List (Nat × Nat)) (x : Nat × Nat) (h : countsB ((x.2 : Nat) : Int) = true) : looseV (l ++ [x]) = looseV l ++ [.int .i32 (smallN ((x.2 : Nat) : Int))] := by
  unfold looseV numsOf
  rw [List.map_append, List.map_cons, List.map_nil, looseL_snoc_yes _ _ h, List.map_append]; rfl
theorem looseV_no (l : List (Nat × Nat)) (x : Nat × Nat) (h : countsB ((x.2 : Nat) : Int) = false) : looseV (l ++ [x]) = looseV l := by
  unfold looseV numsOf
  rw [List.map_append, List.map_cons, List.map_nil, looseL_snoc_no _ _ h]

set_option maxRecDepth 100000 in
set_option maxHeartbeats 1000000 in
theorem loose_any (s : ByteArray) (w : World) (hs : s.size ≤ 35184372088832) :
    Calls Tryz.prog 128 #[.string s] w fun e w' => e = .returned (.string (looseB s)) ∧ Below w.heap.size w w' := by
  have hcl := chars_length s 0
  have hsm : s.size ≤ maxLen := by unfold maxLen; omega
  obtain ⟨i0, hi, hz0, hz1, hz2⟩ := info_parts infoRune
  have HLB : Hid (looseB s = runesBytes (looseL (numsOf (chars s 0)))) := rfl
  generalize hL : (chars s 0).length = L at *
  have HL : Hid ((chars s 0).length = L) := hL
  clear hL
  go_enter Tryz.func128, Tryz.ntmps128
  go_wp2_with fail
  refine (count_any s _ hsm).mono ?_
  rintro e w1 ⟨rfl, hb1⟩
  rw [HL.out]
  obtain ⟨w2, hmk, hown, hgr⟩ := run_make_own (P := Tryz.prog) w1 w.heap.size 226 21 i0 (.int .i32 0) 1 Tryz.underlying226 hi hz0 hz1 .i64 .i64 L (by rw [hz2]; omega) (by unfold maxLen; omega) hb1.size
  have hb2 : Below w.heap.size w w2 := hb1.grown hgr hb1.size (fun k e => by cases e)
  go_wp2
  go_loopw [3] (fun v wr => ∃ (pos : Nat) (pre : List (Nat × Nat)), Hid (pre ++ chars s pos = chars s 0) ∧ wr.ownsRow w.heap.size 21 1 v (looseV pre).length (looseV pre) ∧ wr.heap[w2.heap.size]? = some (.stringIter s pos) ∧ Below w.heap.size w wr) (fun _ wr => s.size - wr.iterPos w2.heap.size)
  case atStart => exact ⟨0, [], rfl, hown.alloc _, heap_alloc_new w2 _, hb2.alloc hb2.size _⟩
  case round =>
    clear hmk hown hgr
    obtain ⟨pos, pre, HP, hrow, hit, hB⟩ := hrel
    by_cases hlt : pos < s.size
    · have hnx := fun ty => run_next_any_at (P := Tryz.prog) wr w2.heap.size s pos ty hit hlt
      have hb := dec_bounds s pos hlt
      have HP2 : Hid (pre ++ [(pos, (Utf8.decode s pos).1)] ++ chars s (pos + (Utf8.decode s pos).2) = chars s 0) := by
        show _ = _
        rw [← HP.out, chars_step s pos hlt]; simp
      have hpl : (looseV pre).length + 1 ≤ L := by
        have := congrArg List.length HP2.out
        have h2 := looseL_len (numsOf pre)
        simp only [looseV, numsOf, List.length_map] at h2 ⊢
        rw [HL.out] at this; simp at this; omega
      have hrow2 := row_iterAt hrow hit (pos + (Utf8.decode s pos).2)
      have hit2 := iterAt_heap wr w2.heap.size s pos (pos + (Utf8.decode s pos).2) hit
      have hB2 : Below w.heap.size w (wr.iterAt w2.heap.size s (pos + (Utf8.decode s pos).2)) := below_iterAt hB hb2.size s _
      have hmeas : s.size - (pos + (Utf8.decode s pos).2) < s.size - wr.iterPos w2.heap.size := by rw [iterPos_of hit]; omega
      generalize hW3 : wr.iterAt w2.heap.size s (pos + (Utf8.decode s pos).2) = W3 at *
      clear hW3
      cases hct : countsB (((Utf8.decode s pos).1 : Nat) : Int) with
      | true =>
        have HV : Hid (looseV (pre ++ [(pos, (Utf8.decode s pos).1)]) = looseV pre ++ [.int .i32 (smallN (((Utf8.decode s pos).1 : Nat) : Int))]) := looseV_yes pre (pos, (Utf8.decode s pos).1) hct
        have HC := hide hct
        clear hct
        generalize looseV pre = lv at *
        go_wp2_with (first | (go_at_call 163; refine (counts_any _ W3).mono ?_; rintro e w' ⟨rfl, hw⟩; obtain rfl : W3 = w' := hw.symm; rw [unhide HC]) | (go_at_call 164; refine (small_any _ W3).mono ?_; rintro e w' ⟨rfl, hw⟩; obtain rfl : W3 = w' := hw.symm) | (at_builtin; refine wpList_append_own _ rfl _ _ 226 rfl w.heap.size 21 i0 (.int .i32 0) 1 4 Tryz.underlying226 hi hz0 hz1 hz2 rfl (by decide) _ _ _ rfl (hrow2.alloc _) ⟨W3.heap.size, 0, none⟩ 1 1 [.int .i32 (smallN (((Utf8.decode s pos).1 : Nat) : Int))] rfl rfl (cell_one_new _ _ _) (by simp [Value.oneCell']) (by unfold maxLen; omega) (by omega) (by have := hB2.size; simp; omega) ?_; intro v' w4 hown' hgrow _))
        go_roundw
        case rel => exact ⟨pos + (Utf8.decode s pos).2, pre ++ [(pos, (Utf8.decode s pos).1)], HP2, by rw [HV.out, List.length_append]; exact hown', iter_grown hrow2 hgrow hit2, below_grown hB2 (Nat.le_trans hb2.size (Nat.le_of_lt (by have := (Array.getElem?_eq_some_iff.1 hit2).1; omega))) hrow2 hgrow⟩
        case measure => rw [iterPos_of (iter_grown hrow2 hgrow hit2)]; exact hmeas
      | false =>
        have HV : Hid (looseV (pre ++ [(pos, (Utf8.decode s pos).1)]) = looseV pre) := looseV_no pre (pos, (Utf8.decode s pos).1) hct
        have HC := hide hct
        clear hct
        go_wp2_with (go_at_call 163; refine (counts_any _ W3).mono ?_; rintro e w' ⟨rfl, hw⟩; obtain rfl : W3 = w' := hw.symm; rw [unhide HC])
        go_roundw
        case rel => exact ⟨pos + (Utf8.decode s pos).2, pre ++ [(pos, (Utf8.decode s pos).1)], HP2, by rw [HV.out]; exact hrow2, hit2, hB2⟩
        case measure => rw [iterPos_of hit2]; exact hmeas
    · have hnx := fun ty => run_next_end_at (P := Tryz.prog) wr w2.heap.size s pos ty hit hlt
      have hpe : pre = chars s 0 := by have := HP.out; rw [chars_end s pos hlt] at this; simpa using this
      have hlen : (looseV (chars s 0)).length = (looseL (numsOf (chars s 0))).length := List.length_map _
      rw [hpe, hlen] at hrow
      obtain ⟨a3, n3, c3, rfl⟩ : ∃ a n c, u3 = .slice a n c := by
        rcases hrow.2 with ⟨rfl, _⟩ | ⟨g, cap, cur, rfl, _⟩
        · exact ⟨_, _, _, rfl⟩
        · exact ⟨_, _, _, rfl⟩
      have hn3 : n3 = (looseL (numsOf (chars s 0))).length ∧ (a3 = none → looseL (numsOf (chars s 0)) = []) := by
        rcases hrow.2 with ⟨h1, h2⟩ | ⟨g, cap, cur, h1, _⟩
        · simp only [Value.slice.injEq] at h1
          exact ⟨by omega, fun _ => List.length_eq_zero_iff.1 h2⟩
        · simp only [Value.slice.injEq] at h1
          exact ⟨h1.2.1, fun h => by rw [h1.1] at h; cases h⟩
      obtain ⟨rfl, hnil⟩ := hn3
      have HE := hide (encode_reads wr a3 c3 (looseL (numsOf (chars s 0))) (reads_own hrow) hnil)
      clear hpe hlen HP hnil hrow
      generalize looseL (numsOf (chars s 0)) = zs at *
      go_wp2_with (go_at_call 165; refine (unhide HE).mono ?_; rintro e w' ⟨rfl, hw⟩; obtain rfl : wr = w' := hw.symm)
      go_ret
      exact ⟨ret_str HLB.out.symm, hB⟩

end Go.Proofs.YthgaadjkjnibaaaGreatDoor
/-
  Class, Side, Short, Long, Letter of package words.
-/
namespace Go.Proofs.YthgaadjkjnibaaaGreatDoor
open Go.RowKit Go.PlainAid Go.Lib
set_option linter.unusedVariables false

/-- the side that has a name of that loose form: the side and the error -/
def sideN (t : ByteArray) : Int := if t = ⟨#[111]⟩ ∨ t = ⟨#[111, 112, 101, 110]⟩ then 1 else if t = ⟨#[99]⟩ ∨ t = ⟨#[99, 108, 111, 115, 101]⟩ then 2 else 0
def sideE (t : ByteArray) : Int := if t = ⟨#[110]⟩ ∨ t = ⟨#[110, 111, 110, 101]⟩ then 0 else if sideN t = 0 then 51 else 0
def letterS (s : Int) : ByteArray := if s = 0 then ⟨#[110]⟩ else if s = 1 then ⟨#[111]⟩ else if s = 2 then ⟨#[99]⟩ else ⟨#[]⟩
def letterE (s : Int) : Int := if s = 0 ∨ s = 1 ∨ s = 2 then 0 else 2
def noneE (c : Int) : Int := if c = 0 then 50 else 0

theorem class_any (s : ByteArray) (w : World) (hs : s.size ≤ 35184372088832) :
    Calls Tryz.prog 91 #[.string s] w fun e w' => e = .returned (.tuple #[.int .u8 (classN (looseB s)), .int .i64 (noneE (classN (looseB s)))]) ∧ Below w.heap.size w w' := by
  by_cases h : classN (looseB s) = 0
  · have h' : (classN (looseB s) == 0) = true := by simp [h]
    have HE : Hid (noneE (classN (looseB s)) = 50 ∧ classN (looseB s) = 0) := ⟨by unfold noneE; rw [if_pos h], h⟩
    clear h
    go_enter Tryz.func91, Tryz.ntmps91
    go_wp2_with fail
    refine (loose_any s w hs).mono ?_
    rintro e w1 ⟨rfl, hb1⟩
    go_wp2_with fail
    refine (classOf_any _ w1).mono ?_
    rintro e w2 ⟨rfl, hw⟩
    obtain rfl : w1 = w2 := hw.symm
    go_wp2
    go_ret2
    exact ⟨ret_int2 HE.out.2.symm HE.out.1.symm, hb1⟩
  · have h' : (classN (looseB s) == 0) = false := by simp [h]
    have HE : Hid (noneE (classN (looseB s)) = 0) := by show _ = _; unfold noneE; rw [if_neg h]
    clear h
    go_enter Tryz.func91, Tryz.ntmps91
    go_wp2_with fail
    refine (loose_any s w hs).mono ?_
    rintro e w1 ⟨rfl, hb1⟩
    go_wp2_with fail
    refine (classOf_any _ w1).mono ?_
    rintro e w2 ⟨rfl, hw⟩
    obtain rfl : w1 = w2 := hw.symm
    go_wp2
    go_ret2
    exact ⟨ret_int2 rfl HE.out.symm, hb1⟩

theorem sides (t : ByteArray) : t = ⟨#[110]⟩ ∨ t = ⟨#[110, 111, 110, 101]⟩ ∨ t = ⟨#[111]⟩ ∨ t = ⟨#[111, 112, 101, 110]⟩ ∨ t = ⟨#[99]⟩ ∨ t = ⟨#[99, 108, 111, 115, 101]⟩ ∨ ((t.toList == [110]) = false ∧ (t.toList == [110, 111, 110, 101]) = false ∧ (t.toList == [111]) = false ∧ (t.toList == [111, 112, 101, 110]) = false ∧ (t.toList == [99]) = false ∧ (t.toList == [99, 108, 111, 115, 101]) = false ∧ sideN t = 0 ∧ sideE t = 51) := by
  have hs : ∀ L : List UInt8, t ≠ ⟨L.toArray⟩ → (t.toList == L) = false := fun L h => by
    have := Go.Switch.str_test t ⟨L.toArray⟩
    rw [decide_eq_false h, Go.Lib.toList_data ⟨L.toArray⟩] at this; exact this
  by_cases h0 : t = ⟨#[110]⟩
  · exact .inl h0
  by_cases h1 : t = ⟨#[110, 111, 110, 101]⟩
  · exact .inr (.inl h1)
  by_cases h2 : t = ⟨#[111]⟩
  · exact .inr (.inr (.inl h2))
  by_cases h3 : t = ⟨#[111, 112, 101, 110]⟩
  · exact .inr (.inr (.inr (.inl h3)))
  by_cases h4 : t = ⟨#[99]⟩
  · exact .inr (.inr (.inr (.inr (.inl h4))))
  by_cases h5 : t = ⟨#[99, 108, 111, 115, 101]⟩
  · exact .inr (.inr (.inr (.inr (.inr (.inl h5)))))
  have g : (t.toList == [110]) = false ∧ (t.toList == [110, 111, 110, 101]) = false ∧ (t.toList == [111]) = false ∧ (t.toList == [111, 112, 101, 110]) = false ∧ (t.toList == [99]) = false ∧ (t.toList == [99, 108, 111, 115, 101]) = false := ⟨hs _ h0, hs _ h1, hs _ h2, hs _ h3, hs _ h4, hs _ h5⟩
  have e0 : sideN t = 0 := by unfold sideN; rw [if_neg (not_or.2 ⟨h2, h3⟩), if_neg (not_or.2 ⟨h4, h5⟩)]
  have e1 : sideE t = 51 := by unfold sideE; rw [if_neg (not_or.2 ⟨h0, h1⟩), if_pos e0]
  exact .inr (.inr (.inr (.inr (.inr (.inr ⟨g.1, g.2.1, g.2.2.1, g.2.2.2.1, g.2.2.2.2.1, g.2.2.2.2.2, e0, e1⟩)))))
def argE (t : ByteArray) : Int := if t = ⟨#[]⟩ then 2 else 0
theorem told_any (t : ByteArray) (w : World) :
    Calls Tryz.prog 40 #[.string t] w fun e w' => e = .returned (.tuple #[.string t, .int .i64 (argE t)]) ∧ w' = w := by
  by_cases h : t = ⟨#[]⟩
  · subst h
    go_enter Tryz.func40, Tryz.ntmps40
    go_wp2
    go_ret2
    exact ⟨rfl, rfl⟩
  · have h1 : (t.toList == []) = false := by
      have := Go.Switch.str_test t ⟨#[]⟩
      rw [decide_eq_false h, Go.Lib.toList_data ⟨#[]⟩] at this; exact this
    have h2 : t.toList.isEmpty = false := by rw [← h1]; cases t.toList <;> rfl
    have HA : Hid (argE t = 0) := by show _ = _; unfold argE; rw [if_neg h]
    clear h
    go_enter Tryz.func40, Tryz.ntmps40
    go_wp2
    go_ret2
    exact ⟨ret_str2 rfl HA.out.symm, rfl⟩
theorem shortW_any (c : Int) (w : World) :
    Calls Tryz.prog 21 #[.int .u8 c] w fun e w' => e = .returned (.tuple #[.string (shortS c), .int .i64 (argE (shortS c))]) ∧ w' = w := by
  go_enter Tryz.func21, Tryz.ntmps21
  go_wp2_with (first | (go_at_call 39; refine (namesOf_any _ _).mono ?_; rintro e w' ⟨rfl, rfl⟩) | (go_at_call 40; refine (told_any _ _).mono ?_; rintro e w' ⟨rfl, rfl⟩))
  go_ret2
  exact ⟨rfl, rfl⟩
theorem longW_any (c : Int) (w : World) :
    Calls Tryz.prog 19 #[.int .u8 c] w fun e w' => e = .returned (.tuple #[.string (longS c), .int .i64 (argE (longS c))]) ∧ w' = w := by
  go_enter Tryz.func19, Tryz.ntmps19
  go_wp2_with (first | (go_at_call 39; refine (namesOf_any _ _).mono ?_; rintro e w' ⟨rfl, rfl⟩) | (go_at_call 40; refine (told_any _ _).mono ?_; rintro e w' ⟨rfl, rfl⟩))
  go_ret2
  exact ⟨rfl, rfl⟩
end Go.Proofs.YthgaadjkjnibaaaGreatDoor

/-
  A switch over texts or numbers, one case at a time, whatever its frame is.
-/
import Derived.Test.YtkpmcojoiijonaaWoA
import Derived.Lib.Strings
namespace Go.Switch
open Go
variable {P : Program} {Q : Exit → Act → World → Prop}

theorem wpList_val {ops : Array Oper} {a : Act} {w : World} {o : Oper} {rest : List Oper} {v : Value} (hg : o.guard = none) (hr : (execOp a.eval o).run P w = .ok (.value v) w) (h : wpList P ops Q rest (a.put o.dst v) w) : wpList P ops Q (o :: rest) a w := by
  unfold wpList
  rw [if_pos (by simp [Region.wanted, hg])]
  left
  unfold Oper.wp
  rw [hr]
  exact h
theorem get_set (a : Act) (d j : Nat) (v : Value) (h : d < a.tmps.size) : (a.put (some d) v).tmps.getD j undef = if d = j then v else a.tmps.getD j undef := by
  simp only [Act.put, Array.getD_eq_getD_getElem?, Array.getElem?_setIfInBounds]
  split
  · rename_i e; subst e; simp
  · rfl
theorem put_size (a : Act) (d : Option Tmp) (v : Value) : (a.put d v).tmps.size = a.tmps.size := by cases d <;> simp [Act.put]
theorem put_defers (a : Act) (d : Option Tmp) (v : Value) : (a.put d v).defers = a.defers := by cases d <;> rfl

/-- one test of a case: the value is held against a constant -/
theorem test {z id x d ty tb : Nat} {ps pa : String} {af : Array Edge} {a : Act} {w : World} {v L : Value} {b : Bool} (n : Nat) (hsz : a.tmps.size = n) (hx : x < n) (hd : d < n) (hx3 : x ≠ z) (hd3 : d ≠ z)
    (h3 : a.tmps.getD z undef = v)
    (hb : ∀ (ρ : Operand → Value) (w : World), ρ (.tmp z) = v → ρ (.const L) = L → (execOp ρ { dst := some x, op := .binOp .eql ty (.tmp z) (.const L) ty, type := tb, pos := ps, after := #[], guard := none }).run P w = .ok (.value (.bool b)) w)
    (h : ∀ a', a'.tmps.size = n → a'.tmps.getD z undef = v → a'.tmps.getD d undef = .bool b → a'.defers = a.defers → Q .normal a' w) :
    (Code.region id #[{ dst := some x, op := .binOp .eql ty (.tmp z) (.const L) ty, type := tb, pos := ps, after := #[], guard := none }, { dst := some d, op := .assign (.tmp x), type := tb, pos := pa, after := af, guard := none }] false).wp P Q a w := by
  refine wp_region_lit (wpList_val (v := .bool b) rfl (hb _ _ h3 rfl) (wpList_val (v := .bool b) rfl ?_ (wpList_nil (h _ ?_ ?_ ?_ ?_))))
  · have e : (a.put (some x) (.bool b)).tmps.getD x undef = .bool b := by rw [get_set _ _ _ _ (by rw [hsz]; exact hx), if_pos rfl]
    show (pure (Next.value ((a.put (some x) (.bool b)).tmps.getD x undef)) : Sem Next).run P w = _
    rw [e]; rfl
  · rw [put_size, put_size]; exact hsz
  · rw [get_set _ _ _ _ (by rw [put_size, hsz]; exact hd), if_neg hd3, get_set _ _ _ _ (by rw [hsz]; exact hx), if_neg hx3]; exact h3
  · rw [get_set _ _ _ _ (by rw [put_size, hsz]; exact hd), if_pos rfl]
  · rw [put_defers, put_defers]
theorem str_test (t L : ByteArray) : (t.toList == L.toList) = decide (t = L) := by
  rw [Bool.eq_iff_iff]
  simp only [beq_iff_eq, decide_eq_true_eq, Go.Lib.toList_data]
  constructor
  · intro h; cases t; cases L; simp at h; rw [h]
  · intro h; rw [h]
/-- a text is held against a text -/
theorem str_eq {z x tb ty : Nat} {ps : String} {t L : ByteArray} (ρ : Operand → Value) (w : World) (h3 : ρ (.tmp z) = .string t) (hL : ρ (.const (.string L)) = .string L) :
    (execOp ρ { dst := some x, op := .binOp .eql ty (.tmp z) (.const (.string L)) ty, type := tb, pos := ps, after := #[], guard := none }).run P w = .ok (.value (.bool (decide (t = L)))) w := by
  simp [execOp, go_sem, h3, hL, str_test]
/-- a number is held against a number -/
theorem int_eq {z x tb ty : Nat} {ps : String} {k : IntKind} {t L : Int} (ρ : Operand → Value) (w : World) (h3 : ρ (.tmp z) = .int k t) (hL : ρ (.const (.int k L)) = .int k L) :
    (execOp ρ { dst := some x, op := .binOp .eql ty (.tmp z) (.const (.int k L)) ty, type := tb, pos := ps, after := #[], guard := none }).run P w = .ok (.value (.bool (decide (t = L)))) w := by
  simp [execOp, go_sem, h3, hL]
  rw [Bool.eq_iff_iff]; simp
/-- a case with two texts -/
theorem case2 {z i1 i2 x y d ty tb : Nat} {p1 p2 p3 p4 : String} {af ag : Array Edge} {a : Act} {w : World} {t L M : ByteArray} {yes no : Code} (n : Nat) (hsz : a.tmps.size = n) (h3 : a.tmps.getD z undef = .string t)
    (hx : x < n) (hy : y < n) (hd : d < n) (hx3 : x ≠ z) (hy3 : y ≠ z) (hd3 : d ≠ z)
    (hyes : t = L ∨ t = M → ∀ a', a'.tmps.size = n → a'.defers = a.defers → yes.wp P Q a' w)
    (hno : t ≠ L → t ≠ M → ∀ a', a'.tmps.size = n → a'.tmps.getD z undef = .string t → a'.defers = a.defers → no.wp P Q a' w) :
    (Code.seq (Code.seq (Code.region i1 #[{ dst := some x, op := .binOp .eql ty (.tmp z) (.const (.string L)) ty, type := tb, pos := p1, after := #[], guard := none }, { dst := some d, op := .assign (.tmp x), type := tb, pos := p2, after := af, guard := none }] false)
      (Code.cond (.tmp d) .skip (Code.region i2 #[{ dst := some y, op := .binOp .eql ty (.tmp z) (.const (.string M)) ty, type := tb, pos := p3, after := #[], guard := none }, { dst := some d, op := .assign (.tmp y), type := tb, pos := p4, after := ag, guard := none }] false)))
      (Code.cond (.tmp d) yes no)).wp P Q a w := by
  refine wp_seq (wp_seq (test n hsz hx hd hx3 hd3 h3 (str_eq (L := L)) ?_))
  intro a1 s1 g1 e1 d1
  by_cases hL : t = L
  · rw [decide_eq_true hL] at e1
    refine wp_cond_true e1 (wp_skip ?_)
    exact wp_cond_true e1 (hyes (.inl hL) _ s1 d1)
  · rw [decide_eq_false hL] at e1
    refine wp_cond_false e1 (test n s1 hy hd hy3 hd3 g1 (str_eq (L := M)) ?_)
    intro a2 s2 g2 e2 d2
    by_cases hM : t = M
    · rw [decide_eq_true hM] at e2
      exact wp_cond_true e2 (hyes (.inr hM) _ s2 (d2.trans d1))
    · rw [decide_eq_false hM] at e2
      exact wp_cond_false e2 (hno hL hM _ s2 g2 (d2.trans d1))
/-- a case with one number -/
theorem case1 {z i1 x d ty tb : Nat} {p1 p2 : String} {af : Array Edge} {k : IntKind} {a : Act} {w : World} {t L : Int} {yes no : Code} (n : Nat) (hsz : a.tmps.size = n) (h3 : a.tmps.getD z undef = .int k t)
    (hx : x < n) (hd : d < n) (hx3 : x ≠ z) (hd3 : d ≠ z)
    (hyes : t = L → ∀ a', a'.tmps.size = n → a'.defers = a.defers → yes.wp P Q a' w)
    (hno : t ≠ L → ∀ a', a'.tmps.size = n → a'.tmps.getD z undef = .int k t → a'.defers = a.defers → no.wp P Q a' w) :
    (Code.seq (Code.region i1 #[{ dst := some x, op := .binOp .eql ty (.tmp z) (.const (.int k L)) ty, type := tb, pos := p1, after := #[], guard := none }, { dst := some d, op := .assign (.tmp x), type := tb, pos := p2, after := af, guard := none }] false)
      (Code.cond (.tmp d) yes no)).wp P Q a w := by
  refine wp_seq (test n hsz hx hd hx3 hd3 h3 (int_eq (L := L)) ?_)
  intro a1 s1 g1 e1 d1
  by_cases hL : t = L
  · rw [decide_eq_true hL] at e1
    exact wp_cond_true e1 (hyes hL _ s1 d1)
  · rw [decide_eq_false hL] at e1
    exact wp_cond_false e1 (hno hL _ s1 g1 d1)
theorem frame_size (x u : Value) (n : Nat) : (#[x] ++ Array.replicate n u).size = n + 1 := by simp; omega
theorem frame_zero (x u : Value) (n : Nat) : (#[x] ++ Array.replicate n u).getD 0 undef = x := by rw [Array.getD_eq_getD_getElem?, Array.getElem?_append_left (by simp)]; rfl
/-- the frame of a function of one argument behind its first stores -/
theorem start1 (x u v : Value) (n c d : Nat) (ds : List Deferred) (a a1 a2 : Act) (ha : a = { tmps := #[x] ++ Array.replicate n u, defers := ds }) (h1 : a1 = a.put (some c) v) (h2 : a2 = a1.put (some d) (a1.eval (.tmp 0))) (hc : c ≠ 0) (hcn : c < n + 1) (hdn : d < n + 1) : a2.tmps.size = n + 1 ∧ a2.tmps.getD d undef = x ∧ a2.defers = ds := by
  have s0 : a.tmps.size = n + 1 := by rw [ha]; exact frame_size x u n
  have s1 : a1.tmps.size = n + 1 := by rw [h1, put_size]; exact s0
  have z0 : a.tmps.getD 0 undef = x := by rw [ha]; exact frame_zero x u n
  have e1 : a1.eval (.tmp 0) = x := by
    show a1.tmps.getD 0 undef = x
    rw [h1, get_set _ _ _ _ (by rw [s0]; exact hcn), if_neg hc]; exact z0
  refine ⟨by rw [h2, put_size]; exact s1, ?_, by rw [h2, put_defers, h1, put_defers, ha]⟩
  rw [h2, get_set _ _ _ _ (by rw [s1]; exact hdn), if_pos rfl]; exact e1
theorem start2 (x u v v' : Value) (n c c' d : Nat) (ds : List Deferred) (a a1 a1' a2 : Act) (ha : a = { tmps := #[x] ++ Array.replicate n u, defers := ds }) (h1 : a1 = a.put (some c) v) (h1' : a1' = a1.put (some c') v') (h2 : a2 = a1'.put (some d) (a1'.eval (.tmp 0))) (hc : c ≠ 0) (hc' : c' ≠ 0) (hcn : c < n + 1) (hcn' : c' < n + 1) (hdn : d < n + 1) : a2.tmps.size = n + 1 ∧ a2.tmps.getD d undef = x ∧ a2.defers = ds := by
  have s0 : a.tmps.size = n + 1 := by rw [ha]; exact frame_size x u n
  have s1 : a1.tmps.size = n + 1 := by rw [h1, put_size]; exact s0
  have s1' : a1'.tmps.size = n + 1 := by rw [h1', put_size]; exact s1
  have z0 : a.tmps.getD 0 undef = x := by rw [ha]; exact frame_zero x u n
  have e1 : a1'.eval (.tmp 0) = x := by
    show a1'.tmps.getD 0 undef = x
    rw [h1', get_set _ _ _ _ (by rw [s1]; exact hcn'), if_neg hc', h1, get_set _ _ _ _ (by rw [s0]; exact hcn), if_neg hc]; exact z0
  refine ⟨by rw [h2, put_size]; exact s1', ?_, by rw [h2, put_defers, h1', put_defers, h1, put_defers, ha]⟩
  rw [h2, get_set _ _ _ _ (by rw [s1']; exact hdn), if_pos rfl]; exact e1
/-- a constant is laid -/
theorem layC {id ty d : Nat} {p : String} {af : Array Edge} {a : Act} {w : World} {v : Value} (h : Q .normal (a.put (some d) v) w) :
    (Code.region id #[{ dst := some d, op := .assign (.const v), type := ty, pos := p, after := af, guard := none }] false).wp P Q a w :=
  wp_region_lit (wpList_val (v := v) rfl rfl (wpList_nil h))
theorem layM {id ty d z : Nat} {p : String} {af : Array Edge} {a : Act} {w : World} (h : Q .normal (a.put (some d) (a.eval (.tmp z))) w) :
    (Code.region id #[{ dst := some d, op := .move (.tmp z), type := ty, pos := p, after := af, guard := none }] false).wp P Q a w :=
  wp_region_lit (wpList_val (v := a.eval (.tmp z)) rfl rfl (wpList_nil h))
theorem layC2 {id ty tu d e : Nat} {p q : String} {af ag : Array Edge} {a : Act} {w : World} {v u : Value} (h : Q .normal ((a.put (some d) v).put (some e) u) w) :
    (Code.region id #[{ dst := some d, op := .assign (.const v), type := ty, pos := p, after := af, guard := none }, { dst := some e, op := .assign (.const u), type := tu, pos := q, after := ag, guard := none }] false).wp P Q a w :=
  wp_region_lit (wpList_val (v := v) rfl rfl (wpList_val (v := u) rfl rfl (wpList_nil h)))
/-- one result is laid -/
theorem give1 {id ty : Nat} {p : String} {af : Array Edge} {a : Act} {w : World} {v : Value} (n : Nat) (hsz : a.tmps.size = n) (h2 : 2 < n) (h : ∀ a', a'.tmps.getD 2 undef = v → a'.defers = a.defers → Q .ret a' w) :
    (Code.seq (Code.region id #[{ dst := some 2, op := .assign (.const v), type := ty, pos := p, after := af, guard := none }] false) Code.ret).wp P Q a w := by
  refine wp_seq (wp_region_lit (wpList_val (v := v) rfl rfl (wpList_nil (wp_ret (h _ ?_ ?_)))))
  · rw [get_set _ _ _ _ (by rw [hsz]; exact h2), if_pos rfl]
  · rw [put_defers]
/-- two results are laid -/
theorem give2 {id t1 t2 : Nat} {p1 p2 : String} {af ag : Array Edge} {a : Act} {w : World} {u v : Value} {r s : Nat} (n : Nat) (hsz : a.tmps.size = n) (hr : r < n) (hs : s < n) (hrs : s ≠ r) (h : ∀ a', a'.tmps.getD r undef = u → a'.tmps.getD s undef = v → a'.defers = a.defers → Q .ret a' w) :
    (Code.seq (Code.region id #[{ dst := some r, op := .assign (.const u), type := t1, pos := p1, after := af, guard := none }, { dst := some s, op := .assign (.const v), type := t2, pos := p2, after := ag, guard := none }] false) Code.ret).wp P Q a w := by
  refine wp_seq (wp_region_lit (wpList_val (v := u) rfl rfl (wpList_val (v := v) rfl rfl (wpList_nil (wp_ret (h _ ?_ ?_ ?_))))))
  · rw [get_set _ _ _ _ (by rw [put_size, hsz]; exact hs), if_neg hrs, get_set _ _ _ _ (by rw [hsz]; exact hr), if_pos rfl]
  · rw [get_set _ _ _ _ (by rw [put_size, hsz]; exact hs), if_pos rfl]
  · rw [put_defers, put_defers]
end Go.Switch

/-
  Plain facts: right texts stand to one another, byte by byte, as their characters do, one by one.
-/
import Derived.Test.YtgffibonikcecabMend
namespace Go.Proofs.Ytgffibonikcecab
open Go.RowKit Go.PlainAid Go.Lib

/-- lists of numbers, one by one -/
def lex : List Nat → List Nat → Bool
  | _, [] => false
  | [], _ :: _ => true
  | a :: x, b :: y => decide (a < b) || (decide (a = b) && lex x y)

theorem bl_same (e u v : List UInt8) : Op.bytesLess (e ++ u) (e ++ v) = Op.bytesLess u v := by
  induction e with
  | nil => rfl
  | cons c e ih => simp [Op.bytesLess, ih]
theorem bl_less (p u v : List UInt8) (a b : UInt8) (h : a < b) : Op.bytesLess (p ++ a :: u) (p ++ b :: v) = true ∧ Op.bytesLess (p ++ b :: v) (p ++ a :: u) = false := by
  rw [bl_same, bl_same]
  have h1 : a.toNat < b.toNat := UInt8.lt_iff_toNat_lt.1 h
  have h2 : ¬ b < a := fun h' => by have := UInt8.lt_iff_toNat_lt.1 h'; omega
  have h3 : (b == a) = false := by
    rw [beq_eq_false_iff_ne]; intro e; subst e; omega
  exact ⟨by simp [Op.bytesLess, h], by simp [Op.bytesLess, h2, h3]⟩

theorem u8_lt {a b : Nat} (h : a < b) (hb : b < 256) : UInt8.ofNat a < UInt8.ofNat b := by
  rw [UInt8.lt_iff_toNat_lt, UInt8.toNat_ofNat', UInt8.toNat_ofNat', Nat.mod_eq_of_lt (by omega), Nat.mod_eq_of_lt (by omega)]; exact h

theorem enc1 (x : Nat) (h : scalarB x = true) (c1 : x < 128) : Utf8.encode x = ⟨#[UInt8.ofNat x]⟩ := by
  have hv := enc_valid x h
  have hc : (if Utf8.valid (x : Int) = true then (x : Int).toNat else Utf8.runeError) = x := by rw [hv]; rfl
  unfold Utf8.encode; rw [hc]; simp only []; rw [if_pos c1]
theorem enc2 (x : Nat) (h : scalarB x = true) (c1 : ¬ x < 128) (c2 : x < 2048) : Utf8.encode x = ⟨#[UInt8.ofNat (192 + x / 64), UInt8.ofNat (128 + x % 64)]⟩ := by
  have hv := enc_valid x h
  have hc : (if Utf8.valid (x : Int) = true then (x : Int).toNat else Utf8.runeError) = x := by rw [hv]; rfl
  unfold Utf8.encode; rw [hc]; simp only []; rw [if_neg c1, if_pos c2]
theorem enc3 (x : Nat) (h : scalarB x = true) (c1 : ¬ x < 128) (c2 : ¬ x < 2048) (c3 : x < 65536) : Utf8.encode x = ⟨#[UInt8.ofNat (224 + x / 4096), UInt8.ofNat (128 + x / 64 % 64), UInt8.ofNat (128 + x % 64)]⟩ := by
  have hv := enc_valid x h
  have hc : (if Utf8.valid (x : Int) = true then (x : Int).toNat else Utf8.runeError) = x := by rw [hv]; rfl
  unfold Utf8.encode; rw [hc]; simp only []; rw [if_neg c1, if_neg c2, if_pos c3]
theorem enc4 (x : Nat) (h : scalarB x = true) (c1 : ¬ x < 128) (c2 : ¬ x < 2048) (c3 : ¬ x < 65536) : Utf8.encode x = ⟨#[UInt8.ofNat (240 + x / 262144), UInt8.ofNat (128 + x / 4096 % 64), UInt8.ofNat (128 + x / 64 % 64), UInt8.ofNat (128 + x % 64)]⟩ := by
  have hv := enc_valid x h
  have hc : (if Utf8.valid (x : Int) = true then (x : Int).toNat else Utf8.runeError) = x := by rw [hv]; rfl
  unfold Utf8.encode; rw [hc]; simp only []; rw [if_neg c1, if_neg c2, if_neg c3]

theorem enc_form (x : Nat) (h : scalarB x = true) :
    (x < 128 ∧ (Utf8.encode x).toList = [UInt8.ofNat x]) ∨
    (128 ≤ x ∧ x < 2048 ∧ (Utf8.encode x).toList = [UInt8.ofNat (192 + x / 64), UInt8.ofNat (128 + x % 64)]) ∨
    (2048 ≤ x ∧ x < 65536 ∧ (Utf8.encode x).toList = [UInt8.ofNat (224 + x / 4096), UInt8.ofNat (128 + x / 64 % 64), UInt8.ofNat (128 + x % 64)]) ∨
    (65536 ≤ x ∧ x ≤ 1114111 ∧ (Utf8.encode x).toList = [UInt8.ofNat (240 + x / 262144), UInt8.ofNat (128 + x / 4096 % 64), UInt8.ofNat (128 + x / 64 % 64), UInt8.ofNat (128 + x % 64)]) := by
  have hb := scalar_bounds x h
  by_cases c1 : x < 128
  · exact .inl ⟨c1, by rw [enc1 x h c1, ByteArray.toList_eq]⟩
  by_cases c2 : x < 2048
  · exact .inr (.inl ⟨by omega, c2, by rw [enc2 x h c1 c2, ByteArray.toList_eq]⟩)
  by_cases c3 : x < 65536
  · exact .inr (.inr (.inl ⟨by omega, c3, by rw [enc3 x h c1 c2 c3, ByteArray.toList_eq]⟩))
  · exact .inr (.inr (.inr ⟨by omega, hb.1, by rw [enc4 x h c1 c2 c3, ByteArray.toList_eq]⟩))

/-- of two characters the lesser one's bytes are less at the first place at which they part -/
theorem enc_less (x y : Nat) (hx : scalarB x = true) (hy : scalarB y = true) (h : x < y) :
    ∃ (p u v : List UInt8) (a b : UInt8), (Utf8.encode x).toList = p ++ a :: u ∧ (Utf8.encode y).toList = p ++ b :: v ∧ a < b := by
  have first : ∀ (u v : List UInt8) (a b : Nat), (Utf8.encode x).toList = UInt8.ofNat a :: u → (Utf8.encode y).toList = UInt8.ofNat b :: v → a < b → b < 256 →
      ∃ (p u v : List UInt8) (a b : UInt8), (Utf8.encode x).toList = p ++ a :: u ∧ (Utf8.encode y).toList = p ++ b :: v ∧ a < b :=
    fun u v a b h1 h2 h3 h4 => ⟨[], u, v, _, _, h1, h2, u8_lt h3 h4⟩
  rcases enc_form x hx with ⟨c, e⟩ | ⟨c, c', e⟩ | ⟨c, c', e⟩ | ⟨c, c', e⟩ <;> rcases enc_form y hy with ⟨d, f⟩ | ⟨d, d', f⟩ | ⟨d, d', f⟩ | ⟨d, d', f⟩
  · exact first _ _ _ _ e f (by omega) (by omega)
  · exact first _ _ _ _ e f (by omega) (by omega)
  · exact first _ _ _ _ e f (by omega) (by omega)
  · exact first _ _ _ _ e f (by omega) (by omega)
  · omega
  · by_cases k : x / 64 < y / 64
    · exact first _ _ _ _ e f (by omega) (by omega)
    · have k' : x / 64 = y / 64 := by omega
      rw [k'] at e
      exact ⟨[_], [], [], _, _, e, f, u8_lt (by omega) (by omega)⟩
  · exact first _ _ _ _ e f (by omega) (by omega)
  · exact first _ _ _ _ e f (by omega) (by omega)
  · omega
  · omega
  · by_cases k : x / 4096 < y / 4096
    · exact first _ _ _ _ e f (by omega) (by omega)
    · have k' : x / 4096 = y / 4096 := by omega
      rw [k'] at e
      by_cases l : x / 64 % 64 < y / 64 % 64
      · exact ⟨[_], [_], [_], _, _, e, f, u8_lt (by omega) (by omega)⟩
      · have l' : x / 64 % 64 = y / 64 % 64 := by omega
        rw [l'] at e
        exact ⟨[_, _], [], [], _, _, e, f, u8_lt (by omega) (by omega)⟩
  · exact first _ _ _ _ e f (by omega) (by omega)
  · omega
  · omega
  · omega
  · by_cases k : x / 262144 < y / 262144
    · exact first _ _ _ _ e f (by omega) (by omega)
    · have k' : x / 262144 = y / 262144 := by omega
      rw [k'] at e
      by_cases l : x / 4096 % 64 < y / 4096 % 64
      · exact ⟨[_], [_, _], [_, _], _, _, e, f, u8_lt (by omega) (by omega)⟩
      · have l' : x / 4096 % 64 = y / 4096 % 64 := by omega
        rw [l'] at e
        by_cases m : x / 64 % 64 < y / 64 % 64
        · exact ⟨[_, _], [_], [_], _, _, e, f, u8_lt (by omega) (by omega)⟩
        · have m' : x / 64 % 64 = y / 64 % 64 := by omega
          rw [m'] at e
          exact ⟨[_, _, _], [], [], _, _, e, f, u8_lt (by omega) (by omega)⟩

theorem toList_append (s t : ByteArray) : (s ++ t).toList = s.toList ++ t.toList := by
  rw [ByteArray.toList_eq, ByteArray.toList_eq, ByteArray.toList_eq, ByteArray.data_append, Array.toList_append]
abbrev ints (l : List Nat) : List Int := l.map fun x => ((x : Nat) : Int)

theorem less_runes : ∀ (xs ys : List Nat), (∀ x ∈ xs, scalarB (x : Nat) = true) → (∀ y ∈ ys, scalarB (y : Nat) = true) →
    Op.bytesLess (runesBytes (ints xs)).toList (runesBytes (ints ys)).toList = lex xs ys := by
  intro xs
  induction xs with
  | nil =>
    intro ys _ hy
    cases ys with
    | nil =>
      have e0 : (runesBytes (ints [])).toList = [] := by rw [ByteArray.toList_eq]; rfl
      rw [e0]; rfl
    | cons y ys =>
      have e0 : (runesBytes (ints [])).toList = [] := by rw [ByteArray.toList_eq]; rfl
      have e1 : (runesBytes (ints (y :: ys))).toList = (Utf8.encode (y : Int)).toList ++ (runesBytes (ints ys)).toList := by
        show (runesBytes ((y : Int) :: ints ys)).toList = _
        rw [runesBytes_cons, toList_append]
      rw [e0, e1]
      rcases enc_form y (hy y (by simp)) with ⟨_, e⟩ | ⟨_, _, e⟩ | ⟨_, _, e⟩ | ⟨_, _, e⟩ <;> rw [e] <;> rfl
  | cons x xs ih =>
    intro ys hx hy
    have e1 : (runesBytes (ints (x :: xs))).toList = (Utf8.encode (x : Int)).toList ++ (runesBytes (ints xs)).toList := by
      show (runesBytes ((x : Int) :: ints xs)).toList = _
      rw [runesBytes_cons, toList_append]
    cases ys with
    | nil =>
      have e0 : (runesBytes (ints [])).toList = [] := by rw [ByteArray.toList_eq]; rfl
      rw [e0]
      cases (runesBytes (ints (x :: xs))).toList <;> rfl
    | cons y ys =>
      have e2 : (runesBytes (ints (y :: ys))).toList = (Utf8.encode (y : Int)).toList ++ (runesBytes (ints ys)).toList := by
        show (runesBytes ((y : Int) :: ints ys)).toList = _
        rw [runesBytes_cons, toList_append]
      rw [e1, e2]
      by_cases h1 : x < y
      · obtain ⟨p, u, v, a, b, f1, f2, f3⟩ := enc_less x y (hx x (by simp)) (hy y (by simp)) h1
        rw [f1, f2, List.append_assoc, List.append_assoc, List.cons_append, List.cons_append, (bl_less p _ _ a b f3).1]
        simp [lex, h1]
      by_cases h2 : x = y
      · subst h2
        rw [bl_same, ih ys (fun z hz => hx z (by simp [hz])) (fun z hz => hy z (by simp [hz]))]
        simp [lex]
      · obtain ⟨p, u, v, a, b, f1, f2, f3⟩ := enc_less y x (hy y (by simp)) (hx x (by simp)) (by omega)
        rw [f1, f2, List.append_assoc, List.append_assoc, List.cons_append, List.cons_append, (bl_less p _ _ a b f3).2]
        simp [lex, h1, h2]

/-- right texts -/
theorem less_texts (s t : ByteArray) (hs : ∀ i ∈ places s, Utf8.decode s i ≠ (65533, 1)) (ht : ∀ i ∈ places t, Utf8.decode t i ≠ (65533, 1)) :
    Op.bytesLess s.toList t.toList = lex ((chars s 0).map (·.2)) ((chars t 0).map (·.2)) := by
  have e1 := mend_right s hs
  have e2 := mend_right t ht
  have f : ∀ u : ByteArray, mendB u = runesBytes (ints ((chars u 0).map (·.2))) := fun u => by
    show runesBytes (nums u 0) = _
    congr 1
    unfold nums ints
    rw [List.map_map]; rfl
  have g : ∀ u : ByteArray, ∀ x ∈ (chars u 0).map (·.2), scalarB ((x : Nat) : Int) = true := fun u x hx => by
    obtain ⟨p, hp, rfl⟩ := List.mem_map.1 hx
    exact chars_scalar u u.size 0 (by omega) p hp
  have := less_runes ((chars s 0).map (·.2)) ((chars t 0).map (·.2)) (g s) (g t)
  rw [← f s, ← f t, e1, e2] at this
  exact this

theorem lex_drop (a b : List Nat) : ∀ i, (∀ j, j < i → a[j]? = b[j]?) → i ≤ a.length → i ≤ b.length → lex a b = lex (a.drop i) (b.drop i) := by
  intro i
  induction i with
  | zero => intro _ _ _; rfl
  | succ i ih =>
    intro h h1 h2
    rw [ih (fun j hj => h j (by omega)) (by omega) (by omega)]
    have ha : i < a.length := by omega
    have hb : i < b.length := by omega
    have := h i (by omega)
    rw [List.getElem?_eq_getElem ha, List.getElem?_eq_getElem hb] at this
    have e : a[i] = b[i] := by simpa using this
    rw [List.drop_eq_getElem_cons ha, List.drop_eq_getElem_cons hb]
    simp [lex, e]

end Go.Proofs.Ytgffibonikcecab

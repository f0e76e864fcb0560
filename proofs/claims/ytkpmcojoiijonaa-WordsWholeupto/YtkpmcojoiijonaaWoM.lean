/-
  What package words speaks of, as mathematics: blank characters, loose forms, the words of a text.
-/
import Derived.Test.YtkpmcojoiijonaaMend
import Derived.Test.YtkpmcojoiijonaaStart
import Derived.Test.YtkpmcojoiijonaaRefB
namespace Go.Proofs.Ytkpmcojoiijonaa
open Go.RowKit Go.PlainAid Go.Lib

def blankB (r : Int) : Bool := r == 9 || r == 11 || r == 12 || r == 32 || r == 133 || r == 160 || r == 5760 || r == 8232 || r == 8233 || r == 8239 || r == 8287 || r == 12288 || (decide (8192 ≤ r) && decide (r ≤ 8202))
def countsB (r : Int) : Bool := r != 95 && r != 45 && !blankB r
def smallN (r : Int) : Int := if 65 ≤ r ∧ r ≤ 90 then r + 32 else r
def looseL (l : List Int) : List Int := (l.filter countsB).map smallN
def looseB (s : ByteArray) : ByteArray := runesBytes (looseL (nums s 0))

theorem looseL_append (a b : List Int) : looseL (a ++ b) = looseL a ++ looseL b := by simp [looseL]
theorem looseL_snoc_yes (a : List Int) (r : Int) (h : countsB r = true) : looseL (a ++ [r]) = looseL a ++ [smallN r] := by simp [looseL, h]
theorem looseL_snoc_no (a : List Int) (r : Int) (h : countsB r = false) : looseL (a ++ [r]) = looseL a := by simp [looseL, h]
theorem looseL_len (a : List Int) : (looseL a).length ≤ a.length := by
  unfold looseL; rw [List.length_map]; exact List.length_filter_le _ _
theorem small_counts (r : Int) (h : countsB r = true) : countsB (smallN r) = true := by
  unfold smallN
  split
  · rename_i h1
    unfold countsB blankB
    simp; omega
  · exact h
theorem small_small (r : Int) : smallN (smallN r) = smallN r := by unfold smallN; (repeat' split) <;> omega
theorem looseL_loose (a : List Int) : looseL (looseL a) = looseL a := by
  unfold looseL
  have h1 : (List.map smallN (List.filter countsB a)).filter countsB = List.map smallN (List.filter countsB a) := by
    rw [List.filter_eq_self]
    intro x hx
    obtain ⟨y, hy, rfl⟩ := List.mem_map.1 hx
    exact small_counts y (List.mem_filter.1 hy).2
  rw [h1, List.map_map]
  exact List.map_congr_left fun x _ => small_small x
theorem small_scalar (r : Int) (h : scalarB r = true) : scalarB (smallN r) = true := by
  unfold smallN
  split
  · unfold scalarB halfB; simp; omega
  · exact h
/-- the numbers of a text that characters were written to -/
theorem nums_runes (zs : List Int) (h : ∀ z ∈ zs, scalarB z = true) : nums (runesBytes zs) 0 = zs := by
  have h1 := (chars_runes zs).1
  have e : nums (runesBytes zs) 0 = ((chars (runesBytes zs) 0).map (·.2)).map fun x => ((x : Nat) : Int) := by unfold nums; rw [List.map_map]; rfl
  rw [e, h1, List.map_map]
  rw [List.map_congr_left (g := id)]
  · simp
  · intro z hz
    have hs := h z hz
    have h0 : 0 ≤ z := by unfold scalarB at hs; simp at hs; omega
    show ((fixN z : Nat) : Int) = z
    unfold fixN
    rw [if_pos hs]; omega
theorem nums_scalar (s : ByteArray) : ∀ z ∈ nums s 0, scalarB z = true := by
  intro z hz
  obtain ⟨p, hp, rfl⟩ := List.mem_map.1 hz
  exact chars_scalar s s.size 0 (by omega) p hp
theorem loose_scalar (s : ByteArray) : ∀ z ∈ looseL (nums s 0), scalarB z = true := by
  intro z hz
  obtain ⟨y, hy, rfl⟩ := List.mem_map.1 hz
  exact small_scalar y (nums_scalar s y (List.mem_filter.1 hy).1)
theorem nums_loose (s : ByteArray) : nums (looseB s) 0 = looseL (nums s 0) := nums_runes _ (loose_scalar s)
theorem loose_loose (s : ByteArray) : looseB (looseB s) = looseB s := by
  unfold looseB
  rw [nums_runes _ (loose_scalar s), looseL_loose]
theorem loose_size (s : ByteArray) : (looseB s).size ≤ 4 * s.size := by
  have h1 := runesBytes_size_le (looseL (nums s 0))
  have h2 := looseL_len (nums s 0)
  have h3 : (nums s 0).length = (chars s 0).length := List.length_map _
  have h4 := chars_length s 0
  unfold looseB; omega
theorem runesBytes_append (a b : List Int) : runesBytes (a ++ b) = runesBytes a ++ runesBytes b := by
  induction b generalizing a with
  | nil => rw [List.append_nil]; refine bytes_ext ?_ ?_ <;> simp [runesBytes]
  | cons z b ih =>
    have e : a ++ z :: b = (a ++ [z]) ++ b := by simp
    rw [e, ih, runesBytes_snoc, runesBytes_cons, ByteArray.append_assoc]

/-- a seam at which a character begins parts the characters -/
theorem chars_seam (a b : ByteArray) : ∀ (k i : Nat), a.size - i ≤ k → i ≤ a.size → (a.size ∈ (chars (a ++ b) i).map (·.1) ∨ b.size = 0 ∧ i ≤ a.size ) →
    chars (a ++ b) i = chars a i ++ (chars b 0).map fun p => (a.size + p.1, p.2) := by
  have hsz : (a ++ b).size = a.size + b.size := ByteArray.size_append
  have hex : (a ++ b).extract 0 a.size = a := by
    refine bytes_ext ?_ (fun k hk => ?_)
    · simp [ByteArray.size_extract, hsz]
    · rw [bN_ahead _ _ _ (by omega) (by simpa [ByteArray.size_extract, hsz] using hk), bN_append, if_pos (by simpa [ByteArray.size_extract, hsz] using hk)]
  intro k
  induction k with
  | zero =>
    intro i h1 h2 _
    obtain rfl : i = a.size := by omega
    rw [chars_end a a.size (by omega)]
    exact chars_right a b b.size 0 (by omega)
  | succ k ih =>
    intro i h1 h2 hm
    by_cases hi : i < a.size
    · have hi' : i < (a ++ b).size := by omega
      have hbd := dec_bounds (a ++ b) i hi'
      have hst := chars_step (a ++ b) i hi'
      have hle : i + (Utf8.decode (a ++ b) i).2 ≤ a.size := by
        rcases hm with hm | hm
        · rw [hst] at hm
          rcases List.mem_cons.1 hm with e | e
          · have e' : a.size = i := e
            omega
          · have : ∀ (k i : Nat), (a ++ b).size - i ≤ k → ∀ j ∈ (chars (a ++ b) i).map (·.1), i ≤ j := by
              intro k
              induction k with
              | zero => intro i h j hj; rw [chars_end _ i (by omega)] at hj; simp at hj
              | succ k ih =>
                intro i h j hj
                by_cases h' : i < (a ++ b).size
                · have hb2 := dec_bounds (a ++ b) i h'
                  rw [chars_step _ i h'] at hj
                  rcases List.mem_cons.1 hj with e | e
                  · have e' : j = i := e
                    omega
                  · have := ih _ (by omega) j e; omega
                · rw [chars_end _ i h'] at hj; simp at hj
            exact this _ _ (Nat.le_refl _) _ e
        · omega
      have hd : Utf8.decode a i = Utf8.decode (a ++ b) i := by
        have := dec_ahead (a ++ b) a.size i (by omega) hle hi
        rw [hex] at this; exact this
      have hm2 : a.size ∈ (chars (a ++ b) (i + (Utf8.decode (a ++ b) i).2)).map (·.1) ∨ b.size = 0 ∧ i + (Utf8.decode (a ++ b) i).2 ≤ a.size := by
        rcases hm with hm | hm
        · rw [hst] at hm
          rcases List.mem_cons.1 hm with e | e
          · have e' : a.size = i := e
            omega
          · exact .inl e
        · exact .inr ⟨hm.1, hle⟩
      rw [hst, chars_step a i hi, hd, ih _ (by omega) hle hm2]
      rfl
    · obtain rfl : i = a.size := by omega
      rw [chars_end a a.size (by omega)]
      exact chars_right a b b.size 0 (by omega)
theorem nums_seam (a b : ByteArray) (h : a.size ∈ places (a ++ b)) : nums (a ++ b) 0 = nums a 0 ++ nums b 0 := by
  unfold nums
  rw [chars_seam a b a.size 0 (by omega) (by omega) (.inl h)]
  simp
theorem loose_seam (a b : ByteArray) (h : a.size ∈ places (a ++ b)) : looseB (a ++ b) = looseB a ++ looseB b := by
  unfold looseB
  rw [nums_seam a b h, looseL_append, runesBytes_append]

/-- the words of a text: where each begins and ends -/
def wordsG (s : ByteArray) : List (Nat × Nat) → Nat → Bool → List (Nat × Nat)
  | [], f, true => [(f, s.size)]
  | [], _, false => []
  | (p, r) :: l, f, true => if blankB r then (f, p) :: wordsG s l f false else wordsG s l f true
  | (p, r) :: l, f, false => if blankB r then wordsG s l f false else wordsG s l p true
def wordsL (s : ByteArray) : List (Nat × Nat) := wordsG s (chars s 0) 0 false
theorem wordsG_false (s : ByteArray) : ∀ (l : List (Nat × Nat)) (f g : Nat), wordsG s l f false = wordsG s l g false := by
  intro l
  induction l with
  | nil => intro f g; rfl
  | cons x l ih =>
    intro f g
    obtain ⟨p, r⟩ := x
    unfold wordsG
    split
    · exact ih f g
    · rfl
end Go.Proofs.Ytkpmcojoiijonaa

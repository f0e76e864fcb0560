/-
  A text's lines have fields no longer than the text. What Read of package rows says of a text.
-/
import Derived.Test.YthjnkagepooeiaaGreatDoorRwN
namespace Go.Proofs.YthjnkagepooeiaaGreatDoor
open Go.RowKit Go.PlainAid Go.Lib Go.PHexM Go.Shelf
set_option linter.unusedVariables false
set_option linter.unusedSimpArgs false

theorem lastF_le {n : Nat} {cur x : List UInt8} (h : x ∈ lastF n cur) : x.length ≤ cur.length := by
  unfold lastF at h
  split at h
  · simp at h; subst h; exact Nat.le_refl _
  · simp at h
theorem mach_field_le : ∀ (l : List UInt8) (n : Nat) (cur pend x : List UInt8), x ∈ (mach n cur pend l).1 → x.length ≤ cur.length + pend.length + l.length
  | [], n, cur, pend, x, h => by have := lastF_le (show x ∈ lastF n cur from h); omega
  | b :: l, n, cur, pend, x, h => by
    unfold mach at h
    split at h
    · split at h
      · have := mach_field_le l n [] [] x h; simp only [List.length_nil, List.length_cons] at this ⊢; omega
      · have := mach_field_le l n cur (pend ++ [b]) x h; simp only [List.length_append, List.length_cons, List.length_nil] at this ⊢; omega
    · split at h
      · rcases List.mem_cons.1 h with rfl | h
        · omega
        · have := mach_field_le l (n + 1) [] [] x h; simp only [List.length_nil, List.length_cons] at this ⊢; omega
      · split at h
        · have := lastF_le (show x ∈ lastF n cur from h); omega
        · have := mach_field_le l n (cur ++ pend ++ [b]) [] x h; simp only [List.length_append, List.length_cons, List.length_nil] at this ⊢; omega
theorem cut_field_le {s : ByteArray} {x : List UInt8} (h : x ∈ (cutS s).1) : x.length ≤ s.size := by
  have := mach_field_le (L s) 0 [] [] x h
  rw [L_len] at this
  simpa using this
theorem scan_field_le {no : Int} {s : ByteArray} {x : List UInt8} (h : x ∈ (scanS no s).1.fields) : x.length ≤ s.size := by
  unfold scanS at h
  split at h
  · simp [zeroD] at h
  · split at h
    · unfold orderS at h
      split at h
      · have h1 := cut_field_le h
        have h2 := (until_le 58 ((trimB (L s)).drop 1)).2
        have h3 := trimB_le (L s)
        rw [L_len] at h3
        have e := S_size (untilB 58 ((trimB (L s)).drop 1)).2.1
        rw [List.length_drop] at h2
        omega
      · simp [zeroD] at h
    · unfold plainS at h
      split at h
      · exact cut_field_le h
      · split at h
        · have h1 := cut_field_le h
          have h2 := mach_note_le (L s) 0 [] []
          have e := S_size ((cutS s).2.drop 9)
          rw [List.length_drop] at e
          have e2 : (cutS s).2.length ≤ (L s).length := h2
          rw [L_len] at e2
          omega
        · simp at h
theorem rd_mem (s : ByteArray) : ∀ (l : List (Nat × Nat × Nat)) (d : LineD), d ∈ (rdS s l).1 → ∃ x ∈ l, d = (scanX s x).1
  | [], d, h => by simp [rdS] at h
  | x :: l, d, h => by
    unfold rdS at h
    split at h
    · rcases List.mem_cons.1 h with rfl | h
      · exact ⟨x, by simp, rfl⟩
      · obtain ⟨y, hy, e⟩ := rd_mem s l d h
        exact ⟨y, by simp [hy], e⟩
    · simp at h
theorem read_field_le {s : ByteArray} {d : LineD} (hd : d ∈ (readS s).1) {x : List UInt8} (hx : x ∈ d.fields) : x.length ≤ s.size := by
  obtain ⟨y, _, rfl⟩ := rd_mem s _ d hd
  have h := scan_field_le hx
  have hsz : (s.extract y.2.1 y.2.2).size ≤ s.size := by
    rw [← L_len, L_extract, List.length_take, List.length_drop, L_len]; omega
  omega

/-- the rows that are told, and the first fault -/
def tellR : List (RowD × Int) → List RowD × Option (Int × Int)
  | [] => ([], none)
  | x :: l => if x.2 = 0 then (x.1 :: (tellR l).1, (tellR l).2) else ([], some (x.1.line, x.2))
theorem tell_ok (l : List (RowD × Int)) (h : ∀ x ∈ l, x.2 = 0) : tellR l = (l.map (·.1), none) := by
  induction l with
  | nil => rfl
  | cons a l ih => unfold tellR; rw [if_pos (h a (by simp)), ih (fun x hx => h x (by simp [hx]))]; rfl
theorem tell_bad (l r : List (RowD × Int)) (x : RowD × Int) (h : ∀ y ∈ l, y.2 = 0) (hx : x.2 ≠ 0) : (tellR (l ++ x :: r)).2 = some (x.1.line, x.2) := by
  induction l with
  | nil => show (tellR (x :: r)).2 = _; unfold tellR; rw [if_neg hx]
  | cons a l ih => rw [List.cons_append]; unfold tellR; rw [if_pos (h a (by simp))]; exact ih (fun y hy => h y (by simp [hy]))
/-- what Read of package rows says of a text: the rows, and the fault -/
def rowsS (s : ByteArray) : List RowD × Option (Int × Int) := match (readS s).2 with
  | some (no, code) => ([], some ((no : Int), code))
  | none => tellR (eachR startW (readS s).1)
def rowsC (rs : List RowD) : List Value := rs.flatMap rowC
theorem rowsC_snoc (rs : List RowD) (r : RowD) : rowsC (rs ++ [r]) = rowsC rs ++ rowC r := by simp [rowsC]
/-- rows in memory of the call's own -/
def RowsAt (V : World) (base : Nat) (v : Value) (rs : List RowD) : Prop := V.ownsRow base 29 9 v rs.length (rowsC rs)
theorem each_len (st : WalkD) (ds : List LineD) : (eachR st ds).length ≤ ds.length + 1 := by
  induction ds generalizing st with
  | nil => unfold eachR lastR; split <;> simp
  | cons d ds ih =>
    unfold eachR
    have h1 : (stepR st d).1.length ≤ 1 := by unfold stepR; (repeat' split) <;> simp
    have h2 := ih (stepR st d).2
    rw [List.length_append, List.length_cons]; omega
end Go.Proofs.YthjnkagepooeiaaGreatDoor

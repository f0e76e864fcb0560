/-
  Last of package utf, for every text.
-/
import Derived.Test.YtkckkchnmgidgaaFirst
namespace Go.Proofs.Ytkckkchnmgidgaa
open Go.RowKit Go.PlainAid Go.Lib

theorem decode_extract (s : ByteArray) (a : Nat) (h : a < s.size) : Utf8.decode (s.extract a s.size) 0 = Utf8.decode s a := by
  rw [decode_decB _ _ (by rw [extract_size]; omega), decode_decB s a h]
  simp only [bN_extract, extract_size, Nat.sub_zero, Nat.add_zero, Nat.zero_add]
theorem extract_whole (t : ByteArray) : t.extract 0 t.size = t := by simp
theorem spotOf_extract (s : ByteArray) (a : Nat) (h : a < s.size) : spotOf (s.extract a s.size) 0 = spotV 0 ((Utf8.decode s a).2 : Nat) ((Utf8.decode s a).1 : Nat) (whyN (s.extract a s.size)) := by
  show spotV _ _ _ _ = _
  rw [decode_extract s a h, extract_whole]; rfl
theorem leadAt_lt (s : ByteArray) (h : 0 < s.size) : leadAt s < s.size := by
  have := leadF_le s 4 (s.size - 1)
  unfold leadAt; omega

/-- the place of the last character -/
def lastPos (s : ByteArray) : Nat := if leadAt s + (Utf8.decode s (leadAt s)).2 = s.size then leadAt s else s.size - 1
theorem lastPos_lt (s : ByteArray) (h : 0 < s.size) : lastPos s < s.size := by
  have := leadAt_lt s h
  unfold lastPos; split <;> omega

theorem size_toList (s : ByteArray) : s.toList.length = s.size := by rw [ByteArray.toList_eq, Array.length_toList]; rfl
theorem empty_yes (s : ByteArray) (h : s.size = 0) : s.toList.isEmpty = true := by
  rw [List.isEmpty_iff_length_eq_zero, size_toList, h]
theorem empty_no (s : ByteArray) (h : 0 < s.size) : s.toList.isEmpty = false := by
  cases he : s.toList.isEmpty with
  | false => rfl
  | true => rw [List.isEmpty_iff_length_eq_zero, size_toList] at he; omega

theorem below_after {W w1 : World} {n : Nat} (o : Obj) (h : Below (W.alloc o).heap.size (W.alloc o) w1) (hn : n = W.heap.size) : Below n W w1 := by
  subst hn
  exact ((Below.refl _ _).alloc (Nat.le_refl _) _).trans (h.mono (by simp))

end Go.Proofs.Ytkckkchnmgidgaa

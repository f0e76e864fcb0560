/-
  Last of package utf, for every text.
-/
import Derived.Test.YtjkchpjopgpeeaaFirst
namespace Go.Proofs.Ytjkchpjopgpeeaa
open Go.RowKit Go.PlainAid Go.Lib

theorem decode_extract (s : ByteArray) (a : Nat) (h : a < s.size) : Utf8.decode (s.extract a s.size) 0 = Utf8.decode s a := by
  rw [decode_decB _ _ (by rw [extract_size]; omega), decode_decB s a h]
  simp only [bN_extract, extract_size, Nat.sub_zero, Nat.add_zero, Nat.zero_add]
theorem extract_whole (t : ByteArray) : t.extract 0 t.size = t := by simp
theorem spotOf_extract (s : ByteArray) (a : Nat) (h : a < s.size) : spotOf (s.extract a s.size) 0 = spotV 0 ((Utf8.decode s a).2 : Nat) ((Utf8.decode s a).1 : Nat) (whyN (s.extract a s.size)) := by
  show spotV _ _ _ _ = _
  rw [decode_extract s a h, extract_whole]; rfl
theorem leadAt_lt (s : ByteArray) (h : 0 < s.size) : leadAt s < s.size := by
  have := leadF_le s 4 (s.size - 1)
  unfold leadAt; omega

/-- the place of the last character -/
def lastPos (s : ByteArray) : Nat := if leadAt s + (Utf8.decode s (leadAt s)).2 = s.size then leadAt s else s.size - 1
theorem lastPos_lt (s : ByteArray) (h : 0 < s.size) : lastPos s < s.size := by
  have := leadAt_lt s h
  unfold lastPos; split <;> omega

theorem size_toList (s : ByteArray) : s.toList.length = s.size := by rw [ByteArray.toList_eq, Array.length_toList]; rfl
theorem empty_yes (s : ByteArray) (h : s.size = 0) : s.toList.isEmpty = true := by
  rw [List.isEmpty_iff_length_eq_zero, size_toList, h]
theorem empty_no (s : ByteArray) (h : 0 < s.size) : s.toList.isEmpty = false := by
  cases he : s.toList.isEmpty with
  | false => rfl
  | true => rw [List.isEmpty_iff_length_eq_zero, size_toList] at he; omega

set_option maxRecDepth 100000 in
set_option maxHeartbeats 400000 in
theorem last_nil (s : ByteArray) (w : World) (h0 : s.size = 0) :
    Calls Try.prog 11 #[.string s] w fun e w' => e = .returned (spotV 0 0 0 0) ∧ Below w.heap.size w w' := by
  have he := empty_yes s h0
  clear h0
  go_enter Try.func11, Try.ntmps11
  go_wp2
  go_returns
  exact ⟨rfl, by go_grown⟩

theorem below_after {W w1 : World} {n : Nat} (o : Obj) (h : Below (W.alloc o).heap.size (W.alloc o) w1) (hn : n = W.heap.size) : Below n W w1 := by
  subst hn
  exact ((Below.refl _ _).alloc (Nat.le_refl _) _).trans (h.mono (by simp))

set_option maxRecDepth 100000 in
set_option maxHeartbeats 600000 in
theorem last_any (s : ByteArray) (w : World) (hs : s.size ≤ maxLen) (h0 : 0 < s.size) :
    Calls Try.prog 11 #[.string s] w fun e w' => e = .returned (spotOf s (lastPos s)) ∧ Below w.heap.size w w' := by
  have he := empty_no s h0
  have hlt := leadAt_lt s h0
  have hs' := hs
  unfold maxLen at hs'
  have hd := dec_bounds s (leadAt s) hlt
  have HX : Hid ((s.extract (leadAt s) s.size).size = s.size - leadAt s) := extract_size s (leadAt s)
  have HP' : Hid (Utf8.decode (s.extract (leadAt s) s.size) 0 = Utf8.decode s (leadAt s)) := decode_extract s (leadAt s) hlt
  have HW : Hid (∀ t : ByteArray, t.extract 0 t.size = t) := extract_whole
  have hLP : Hid (lastPos s = if leadAt s + (Utf8.decode s (leadAt s)).2 = s.size then leadAt s else s.size - 1) := rfl
  generalize hA : leadAt s = A at *
  have HA : Hid (leadAt s = A) := hA
  clear hA
  by_cases heq : A + (Utf8.decode s A).2 = s.size
  · have heq' : ((A : Int) + ((Utf8.decode s A).2 : Int) != (s.size : Int)) = false := by simp; omega
    have HQ : Hid (A + (Utf8.decode s A).2 = s.size) := heq
    clear heq
    go_enter Try.func11, Try.ntmps11
    go_wp2_with fail
    refine (lastLead_any s _ hs h0).mono ?_
    rintro e w1 ⟨rfl, rfl⟩
    rw [HA.out]
    go_wp2_with fail
    refine (first_exact _ _ (by rw [HX.out]; unfold maxLen; omega) (by rw [HX.out]; omega)).mono ?_
    rintro e w1 ⟨rfl, rfl⟩
    unfold spotOf
    rw [HP'.out, HW.out]
    go_wp2
    go_returns
    refine ⟨?_, by go_grown⟩
    have hl : lastPos s = A := by rw [hLP.out, if_pos HQ.out]
    rw [hl]
  · have heq' : ((A : Int) + ((Utf8.decode s A).2 : Int) != (s.size : Int)) = true := by simp; omega
    have HQ : Hid (¬ A + (Utf8.decode s A).2 = s.size) := heq
    clear heq
    have HX2 : Hid ((s.extract (s.size - 1) s.size).size = s.size - (s.size - 1)) := extract_size s (s.size - 1)
    have HP2 : Hid (Utf8.decode (s.extract (s.size - 1) s.size) 0 = Utf8.decode s (s.size - 1)) := decode_extract s (s.size - 1) (by omega)
    have hT : ((s.size : Int) - 1).toNat = s.size - 1 := by omega
    go_enter Try.func11, Try.ntmps11
    go_wp2_with fail
    refine (lastLead_any s _ hs h0).mono ?_
    rintro e w1 ⟨rfl, rfl⟩
    rw [HA.out]
    go_wp2_with fail
    refine (first_exact _ _ (by rw [HX.out]; unfold maxLen; omega) (by rw [HX.out]; omega)).mono ?_
    rintro e w1 ⟨rfl, rfl⟩
    unfold spotOf
    rw [HP'.out, HW.out]
    go_wp2_with fail
    refine (first_exact _ _ (by rw [HX2.out]; unfold maxLen; omega) (by rw [HX2.out]; omega)).mono ?_
    rintro e w1 ⟨rfl, rfl⟩
    unfold spotOf
    rw [HP2.out, HW.out]
    go_wp2
    go_returns
    refine ⟨?_, by go_grown⟩
    have hl : lastPos s = s.size - 1 := by rw [hLP.out, if_neg HQ.out]
    rw [hl]
    have e : ((s.size - 1 : Nat) : Int) = (s.size : Int) - 1 := by omega
    rw [← e]

end Go.Proofs.Ytjkchpjopgpeeaa

/-
  The document's answer for layer 1, its small functions: Scalar, Width, one, Sequence.
-/
import Derived.Test.YtnabbahdmajfpaaGreatDoorUb
namespace Go.Proofs.YtnabbahdmajfpaaGreatDoor
open Go.RowKit Go.PlainAid Go.Lib

theorem refScalar_any (r : Int) (w : World) :
    Calls Tryz.prog 113 #[.int .i32 r] w fun e w' => e = .returned (.bool (scalarB r)) ∧ w' = w := by
  go_enter Tryz.func113, Tryz.ntmps113
  go_wp2
  all_goals go_ret
  all_goals exact ⟨ret_bool (by rw [Bool.eq_iff_iff]; simp [scalarB, halfB]; omega), rfl⟩

theorem refWidth_any (r : Int) (w : World) :
    Calls Tryz.prog 93 #[.int .i32 r] w fun e w' => e = .returned (.int .i64 (widthN r)) ∧ w' = w := by
  cases h : scalarB r
  all_goals
    have H := hide h
    clear h
    go_enter Tryz.func93, Tryz.ntmps93
    go_wp2_with (go_at_call 113; refine (refScalar_any _ _).mono ?_; rintro e w' ⟨rfl, rfl⟩; rw [unhide H])
    all_goals go_ret
    all_goals exact ⟨ret_int (by unfold widthN bytesN; rw [unhide H]; simp <;> (repeat' split) <;> omega), rfl⟩

/-- a text of one byte -/
abbrev byte1 (b : Int) : ByteArray := ⟨#[UInt8.ofNat b.toNat]⟩

set_option maxHeartbeats 400000 in
theorem one_any (b : Int) (h0 : 0 ≤ b) (hb : b < 256) (w : World) :
    Calls Tryz.prog 94 #[.int .i64 b] w fun e w' => e = .returned (.string (byte1 b)) ∧ Below w.heap.size w w' := by
  have hcv : (convert 76 9 (.slice (some ⟨w.heap.size, 0, none⟩) 1 1)).run Tryz.prog (w.alloc (.cells #[.int .u8 b] 5)) = .ok (.string (byte1 b)) (w.alloc (.cells #[.int .u8 b] 5)) := by
    rw [run_convert_bytes_string (P := Tryz.prog) _ 76 9 5 _ _ _ Tryz.underlying76 Tryz.underlying5 Tryz.underlying9]
    rw [run_bytesToString (P := Tryz.prog) (w.alloc (.cells #[.int .u8 b] 5)) ⟨w.heap.size, 0, none⟩ 1 1 [b] (by simp [loadCells, go_sem])]
    rfl
  have hw8 : IntKind.u8.wrap b = b := by rw [IntKind.wrap_u8]; omega
  go_enter Tryz.func94, Tryz.ntmps94
  go_wp2
  go_ret
  exact ⟨rfl, by go_grown⟩

theorem ret_str {a b : ByteArray} (h : a = b) : Ending.returned (.string a) = .returned (.string b) := by rw [h]
theorem encode_bad (r : Int) (h : Utf8.valid r = false) : Utf8.encode r = ⟨#[239, 191, 189]⟩ := by
  have e : (if Utf8.valid r = true then r.toNat else Utf8.runeError) = 65533 := by rw [h]; rfl
  unfold Utf8.encode
  rw [e]; rfl
theorem valid_scalar (r : Int) : Utf8.valid r = scalarB r := by
  rw [Bool.eq_iff_iff]; unfold Utf8.valid scalarB halfB; simp; omega

theorem below2 {a b c : World} (h : Below a.heap.size a b) (k : Below b.heap.size b c) : Below a.heap.size a c := h.trans (k.mono h.size)

set_option maxRecDepth 100000 in
set_option maxHeartbeats 1000000 in
theorem sequence_any (r : Int) (w : World) :
    Calls Tryz.prog 72 #[.int .i32 r] w fun e w' => e = .returned (.string (Utf8.encode r)) ∧ Below w.heap.size w w' := by
  cases hs : scalarB r
  · have hv := valid_scalar r
    rw [hs] at hv
    have HW : Hid (widthN r = 0) := by show _ = _; unfold widthN; rw [hs]; rfl
    have HE : Hid (Utf8.encode r = ⟨#[239, 191, 189]⟩) := encode_bad r hv
    clear hv hs
    go_enter Tryz.func72, Tryz.ntmps72
    go_wp2_with (go_at_call 93; refine (refWidth_any _ _).mono ?_; rintro e w' ⟨rfl, rfl⟩; rw [unhide HW])
    go_ret
    exact ⟨ret_str (unhide HE).symm, Below.refl _ _⟩
  · have hb : 0 ≤ r ∧ r ≤ 1114111 := by unfold scalarB at hs; simp at hs; omega
    obtain ⟨h0, h1⟩ := hb
    have hv := valid_scalar r
    rw [hs] at hv
    have hw : widthN r = bytesN r := by unfold widthN; rw [hs]; rfl
    clear hs
    by_cases c1 : r < 128
    · have HW : Hid (widthN r = 1) := by show _ = _; rw [hw]; unfold bytesN; rw [if_pos c1]
      have HE : Hid (Utf8.encode r = byte1 r) := by
        show _ = _; unfold Utf8.encode; rw [hv]; simp only [if_true]; rw [if_pos (by omega)]
      clear hv hw
      go_enter Tryz.func72, Tryz.ntmps72
      go_wp2_with fail
      refine (refWidth_any _ _).mono ?_
      rintro e w' ⟨rfl, rfl⟩
      rw [unhide HW]
      go_wp2_with fail
      refine (one_any _ h0 (by omega) _).mono ?_
      rintro e w2 ⟨rfl, hb2⟩
      go_wp2
      go_ret
      exact ⟨ret_str (unhide HE).symm, hb2⟩
    by_cases c2 : r < 2048
    · have HW : Hid (widthN r = 2) := by show _ = _; rw [hw]; unfold bytesN; rw [if_neg c1, if_pos c2]
      have HE : Hid (Utf8.encode r = byte1 (192 + r / 64) ++ byte1 (128 + r % 64)) := by
        show _ = _; unfold Utf8.encode; rw [hv]; simp only [if_true]; rw [if_neg (by omega), if_pos (by omega)]
        have e1 : (192 + r / 64).toNat = 192 + r.toNat / 64 := by omega
        have e2 : (128 + r % 64).toNat = 128 + r.toNat % 64 := by omega
        unfold byte1; rw [e1, e2]; rfl
      clear hv hw
      go_enter Tryz.func72, Tryz.ntmps72
      go_wp2_with fail
      refine (refWidth_any _ _).mono ?_
      rintro e w' ⟨rfl, rfl⟩
      rw [unhide HW]
      go_wp2_with fail
      refine (one_any _ (by omega) (by omega) _).mono ?_
      rintro e w2 ⟨rfl, hb2⟩
      go_wp2_with fail
      refine (one_any _ (by omega) (by omega) _).mono ?_
      rintro e w3 ⟨rfl, hb3⟩
      go_wp2
      go_ret
      exact ⟨ret_str (unhide HE).symm, below2 hb2 hb3⟩
    by_cases c3 : r < 65536
    · have HW : Hid (widthN r = 3) := by show _ = _; rw [hw]; unfold bytesN; rw [if_neg c1, if_neg c2, if_pos c3]
      have HE : Hid (Utf8.encode r = byte1 (224 + r / 4096) ++ byte1 (128 + r / 64 % 64) ++ byte1 (128 + r % 64)) := by
        show _ = _; unfold Utf8.encode; rw [hv]; simp only [if_true]; rw [if_neg (by omega), if_neg (by omega), if_pos (by omega)]
        have e1 : (224 + r / 4096).toNat = 224 + r.toNat / 4096 := by omega
        have e2 : (128 + r / 64 % 64).toNat = 128 + r.toNat / 64 % 64 := by omega
        have e3 : (128 + r % 64).toNat = 128 + r.toNat % 64 := by omega
        unfold byte1; rw [e1, e2, e3]; rfl
      clear hv hw
      go_enter Tryz.func72, Tryz.ntmps72
      go_wp2_with fail
      refine (refWidth_any _ _).mono ?_
      rintro e w' ⟨rfl, rfl⟩
      rw [unhide HW]
      go_wp2_with fail
      refine (one_any _ (by omega) (by omega) _).mono ?_
      rintro e w2 ⟨rfl, hb2⟩
      go_wp2_with fail
      refine (one_any _ (by omega) (by omega) _).mono ?_
      rintro e w3 ⟨rfl, hb3⟩
      go_wp2_with fail
      refine (one_any _ (by omega) (by omega) _).mono ?_
      rintro e w4 ⟨rfl, hb4⟩
      go_wp2
      go_ret
      exact ⟨ret_str (unhide HE).symm, below2 (below2 hb2 hb3) hb4⟩
    · have HW : Hid (widthN r = 4) := by show _ = _; rw [hw]; unfold bytesN; rw [if_neg c1, if_neg c2, if_neg c3]
      have HE : Hid (Utf8.encode r = byte1 (240 + r / 262144) ++ byte1 (128 + r / 4096 % 64) ++ byte1 (128 + r / 64 % 64) ++ byte1 (128 + r % 64)) := by
        show _ = _; unfold Utf8.encode; rw [hv]; simp only [if_true]; rw [if_neg (by omega), if_neg (by omega), if_neg (by omega)]
        have e0 : (240 + r / 262144).toNat = 240 + r.toNat / 262144 := by omega
        have e1 : (128 + r / 4096 % 64).toNat = 128 + r.toNat / 4096 % 64 := by omega
        have e2 : (128 + r / 64 % 64).toNat = 128 + r.toNat / 64 % 64 := by omega
        have e3 : (128 + r % 64).toNat = 128 + r.toNat % 64 := by omega
        unfold byte1; rw [e0, e1, e2, e3]; rfl
      clear hv hw
      go_enter Tryz.func72, Tryz.ntmps72
      go_wp2_with fail
      refine (refWidth_any _ _).mono ?_
      rintro e w' ⟨rfl, rfl⟩
      rw [unhide HW]
      go_wp2_with fail
      refine (one_any _ (by omega) (by omega) _).mono ?_
      rintro e w2 ⟨rfl, hb2⟩
      go_wp2_with fail
      refine (one_any _ (by omega) (by omega) _).mono ?_
      rintro e w3 ⟨rfl, hb3⟩
      go_wp2_with fail
      refine (one_any _ (by omega) (by omega) _).mono ?_
      rintro e w4 ⟨rfl, hb4⟩
      go_wp2_with fail
      refine (one_any _ (by omega) (by omega) _).mono ?_
      rintro e w5 ⟨rfl, hb5⟩
      go_wp2
      go_ret
      exact ⟨ret_str (unhide HE).symm, below2 (below2 (below2 hb2 hb3) hb4) hb5⟩

end Go.Proofs.YtnabbahdmajfpaaGreatDoor

/-
  Plain facts on the model's reading of one character of a text, held against the document's reasons why a byte is wrong.
-/
import Derived.Test.YtkckkchnmgidgaaSpot
namespace Go.Proofs.Ytkckkchnmgidgaa
open Go.RowKit Go.PlainAid

theorem bt_extract (s : ByteArray) (i k : Nat) : bt (s.extract i s.size) k = bt s (i + k) := by
  unfold bt
  by_cases h : i + k < s.size
  · rw [dif_pos h, dif_pos (by simp [ByteArray.size_extract]; omega)]
    simp [ByteArray.getElem_extract]
  · rw [dif_neg h, dif_neg (by simp [ByteArray.size_extract]; omega)]

/-- byte k as a natural number; 0 behind the end -/
def bN (s : ByteArray) (k : Nat) : Nat := (s.get! k).toNat
theorem bN_lt (s : ByteArray) (k : Nat) : bN s k < 256 := (s.get! k).toNat_lt
theorem get_in (s : ByteArray) (k : Nat) (h : k < s.size) : s.get! k = s[k]'h := by
  simp [ByteArray.get!, getElem!_pos, h]; rfl
theorem get_out (s : ByteArray) (k : Nat) (h : ¬ k < s.size) : s.get! k = 0 := by
  have h' : ¬ k < s.data.size := h
  exact (getElem!_neg s.data k h').trans rfl
theorem bt_bN (s : ByteArray) (k : Nat) : bt s k = (bN s k : Int) := by
  unfold bt bN
  by_cases h : k < s.size
  · rw [dif_pos h, get_in s k h]
  · rw [dif_neg h, get_out s k h]; rfl

/-- the model's reading, told of four bytes and of how many are left -/
def decB (sz b0 b1 b2 b3 : Nat) : Nat × Nat :=
  if b0 < 128 then (b0, 1)
  else if b0 / 32 = 6 ∧ (1 < sz ∧ b1 / 64 = 2) then (if 128 ≤ b0 % 32 * 64 + b1 % 64 then (b0 % 32 * 64 + b1 % 64, 2) else (65533, 1))
  else if b0 / 16 = 14 ∧ (1 < sz ∧ b1 / 64 = 2) ∧ (2 < sz ∧ b2 / 64 = 2) then
    (if 2048 ≤ b0 % 16 * 4096 + b1 % 64 * 64 + b2 % 64 ∧ ¬ (55296 ≤ b0 % 16 * 4096 + b1 % 64 * 64 + b2 % 64 ∧ b0 % 16 * 4096 + b1 % 64 * 64 + b2 % 64 < 57344) then (b0 % 16 * 4096 + b1 % 64 * 64 + b2 % 64, 3) else (65533, 1))
  else if b0 / 8 = 30 ∧ (1 < sz ∧ b1 / 64 = 2) ∧ (2 < sz ∧ b2 / 64 = 2) ∧ (3 < sz ∧ b3 / 64 = 2) then
    (if 65536 ≤ b0 % 8 * 262144 + b1 % 64 * 4096 + b2 % 64 * 64 + b3 % 64 ∧ b0 % 8 * 262144 + b1 % 64 * 4096 + b2 % 64 * 64 + b3 % 64 ≤ 1114111 then (b0 % 8 * 262144 + b1 % 64 * 4096 + b2 % 64 * 64 + b3 % 64, 4) else (65533, 1))
  else (65533, 1)

theorem valid3 (c : Nat) (h : c < 65536) : Utf8.valid (c : Int) = decide (¬ (55296 ≤ c ∧ c < 57344)) := by
  unfold Utf8.valid
  rw [Bool.eq_iff_iff]; simp; omega
theorem valid4 (c : Nat) (h : 65536 ≤ c) : Utf8.valid (c : Int) = decide (c ≤ 1114111) := by
  unfold Utf8.valid
  rw [Bool.eq_iff_iff]; simp; omega

theorem decode_decB (s : ByteArray) (i : Nat) (_hi : i < s.size) : Utf8.decode s i = decB (s.size - i) (bN s i) (bN s (i + 1)) (bN s (i + 2)) (bN s (i + 3)) := by
  have e0 : (s.get! (i + 0)).toNat = bN s i := rfl
  have e1 : (s.get! (i + 1)).toNat = bN s (i + 1) := rfl
  have e2 : (s.get! (i + 2)).toNat = bN s (i + 2) := rfl
  have e3 : (s.get! (i + 3)).toNat = bN s (i + 3) := rfl
  have h0 := bN_lt s i; have h1 := bN_lt s (i + 1); have h2 := bN_lt s (i + 2); have h3 := bN_lt s (i + 3)
  have k1 : (i + 1 < s.size) = (1 < s.size - i) := by simp; omega
  have k2 : (i + 2 < s.size) = (2 < s.size - i) := by simp; omega
  have k3 : (i + 3 < s.size) = (3 < s.size - i) := by simp; omega
  simp only [Utf8.decode, e0, e1, e2, e3, k1, k2, k3, Utf8.runeError]
  unfold decB
  generalize bN s i = b0 at *
  generalize bN s (i + 1) = b1 at *
  generalize bN s (i + 2) = b2 at *
  generalize bN s (i + 3) = b3 at *
  generalize s.size - i = sz at *
  have v3 := valid3 (b0 % 16 * 4096 + b1 % 64 * 64 + b2 % 64) (by omega)
  by_cases c0 : b0 < 128
  · simp [c0]
  rw [if_neg c0, if_neg c0]
  by_cases c1 : b0 / 32 = 6 ∧ (1 < sz ∧ b1 / 64 = 2)
  · rw [if_pos (by simpa using c1), if_pos c1]
  rw [if_neg (by simpa using c1), if_neg c1]
  by_cases c2 : b0 / 16 = 14 ∧ (1 < sz ∧ b1 / 64 = 2) ∧ (2 < sz ∧ b2 / 64 = 2)
  · rw [if_pos (by simpa [and_assoc] using c2), if_pos c2, v3]
    simp only [ge_iff_le, Bool.and_eq_true, decide_eq_true_eq]
  rw [if_neg (by simpa [and_assoc] using c2), if_neg c2]
  by_cases c3 : b0 / 8 = 30 ∧ (1 < sz ∧ b1 / 64 = 2) ∧ (2 < sz ∧ b2 / 64 = 2) ∧ (3 < sz ∧ b3 / 64 = 2)
  · rw [if_pos (by simpa [and_assoc] using c3), if_pos c3]
    by_cases c4 : 65536 ≤ b0 % 8 * 262144 + b1 % 64 * 4096 + b2 % 64 * 64 + b3 % 64
    · rw [valid4 _ c4]
      simp only [ge_iff_le, Bool.and_eq_true, decide_eq_true_eq]
    · rw [if_neg (by simp; omega), if_neg (by omega)]
  rw [if_neg (by simpa [and_assoc] using c3), if_neg c3]

theorem tailB_nat (b : Nat) : tailB b = true ↔ b / 64 = 2 := by
  unfold tailB; simp; omega
theorem why1 (t : ByteArray) (h : bN t 0 < 128) : whyN t = 0 := by
  have hl : leadN (bN t 0 : Int) = 1 := by unfold leadN; (repeat' split) <;> omega
  have hb : leadBits (bN t 0 : Int) = bN t 0 := by unfold leadBits; (repeat' split) <;> omega
  unfold whyN
  rw [bt_bN, hl, hb, if_neg (by decide)]
  show whyNoN (bN t 0 : Int) 1 = 0
  unfold whyNoN
  have e1 : bytesN (bN t 0 : Int) = 1 := by unfold bytesN; rw [if_pos (by omega)]
  have e2 : halfB (bN t 0 : Int) = false := by unfold halfB; simp; omega
  rw [e1, e2]; simp; omega
theorem why0 (t : ByteArray) (h : ¬ bN t 0 < 128 ∧ bN t 0 < 192 ∨ 248 ≤ bN t 0) : whyN t = 10 := by
  have hl : leadN (bN t 0 : Int) = 0 := by unfold leadN; (repeat' split) <;> omega
  unfold whyN
  rw [bt_bN, hl]; rfl
theorem why2 (t : ByteArray) (h : 192 ≤ bN t 0) (h' : bN t 0 < 224) :
    whyN t = if 1 = t.size then 11 else if tailB (bN t 1) then whyNoN ((bN t 0 % 32 * 64 + bN t 1 % 64 : Nat) : Int) 2 else 12 := by
  have hl : leadN (bN t 0 : Int) = 2 := by unfold leadN; (repeat' split) <;> omega
  have hb : leadBits (bN t 0 : Int) = ((bN t 0 % 32 : Nat) : Int) := by unfold leadBits; (repeat' split) <;> omega
  unfold whyN
  rw [bt_bN, hl, hb]
  show whyGo t 2 1 1 _ = _
  simp only [whyGo, bt_bN]
  congr 2
theorem why3 (t : ByteArray) (h : 224 ≤ bN t 0) (h' : bN t 0 < 240) :
    whyN t = if 1 = t.size then 11 else if tailB (bN t 1) then (if 2 = t.size then 11 else if tailB (bN t 2) then whyNoN ((bN t 0 % 16 * 4096 + bN t 1 % 64 * 64 + bN t 2 % 64 : Nat) : Int) 3 else 12) else 12 := by
  have hl : leadN (bN t 0 : Int) = 3 := by unfold leadN; (repeat' split) <;> omega
  have hb : leadBits (bN t 0 : Int) = ((bN t 0 % 16 : Nat) : Int) := by unfold leadBits; (repeat' split) <;> omega
  unfold whyN
  rw [bt_bN, hl, hb]
  show whyGo t 3 2 1 _ = _
  simp only [whyGo, bt_bN]
  have e : ((bN t 0 % 16 : Nat) : Int) * 64 * 64 + 0 = ((bN t 0 % 16 * 4096 : Nat) : Int) := by omega
  have e2 : (((bN t 0 % 16 : Nat) : Int) * 64 + (bN t 1 : Int) % 64) * 64 + (bN t 2 : Int) % 64 = ((bN t 0 % 16 * 4096 + bN t 1 % 64 * 64 + bN t 2 % 64 : Nat) : Int) := by omega
  rw [e2]
theorem why4 (t : ByteArray) (h : 240 ≤ bN t 0) (h' : bN t 0 < 248) :
    whyN t = if 1 = t.size then 11 else if tailB (bN t 1) then (if 2 = t.size then 11 else if tailB (bN t 2) then (if 3 = t.size then 11 else if tailB (bN t 3) then
      whyNoN ((bN t 0 % 8 * 262144 + bN t 1 % 64 * 4096 + bN t 2 % 64 * 64 + bN t 3 % 64 : Nat) : Int) 4 else 12) else 12) else 12 := by
  have hl : leadN (bN t 0 : Int) = 4 := by unfold leadN; (repeat' split) <;> omega
  have hb : leadBits (bN t 0 : Int) = ((bN t 0 % 8 : Nat) : Int) := by unfold leadBits; (repeat' split) <;> omega
  unfold whyN
  rw [bt_bN, hl, hb]
  show whyGo t 4 3 1 _ = _
  simp only [whyGo, bt_bN]
  have e2 : ((((bN t 0 % 8 : Nat) : Int) * 64 + (bN t 1 : Int) % 64) * 64 + (bN t 2 : Int) % 64) * 64 + (bN t 3 : Int) % 64 = ((bN t 0 % 8 * 262144 + bN t 1 % 64 * 4096 + bN t 2 % 64 * 64 + bN t 3 % 64 : Nat) : Int) := by omega
  rw [e2]

theorem whyNo_zero (x n : Nat) (hn : n = 2 ∨ n = 3 ∨ n = 4) (hx : (n = 2 → x < 2048) ∧ (n = 3 → x < 65536)) :
    whyNoN x n = 0 ↔ (scalarB x = true ∧ bytesN x = n) := by
  unfold whyNoN scalarB halfB bytesN
  rcases hn with rfl | rfl | rfl <;> simp at hx ⊢ <;> (repeat' split) <;> simp_all <;> omega

theorem decB_why (t : ByteArray) (h : 0 < t.size) :
    (whyN t = 0 ∧ ∃ x n : Nat, decB t.size (bN t 0) (bN t 1) (bN t 2) (bN t 3) = (x, n) ∧ scalarB x = true ∧ bytesN x = n ∧ n ≤ t.size) ∨
    (whyN t ≠ 0 ∧ decB t.size (bN t 0) (bN t 1) (bN t 2) (bN t 3) = (65533, 1)) := by
  have h0 := bN_lt t 0
  by_cases c0 : bN t 0 < 128
  · refine .inl ⟨why1 t c0, bN t 0, 1, by unfold decB; rw [if_pos c0], ?_, ?_, h⟩
    · unfold scalarB halfB; simp; omega
    · unfold bytesN; rw [if_pos (by omega)]; rfl
  by_cases c1 : bN t 0 < 192 ∨ 248 ≤ bN t 0
  · refine .inr ⟨by rw [why0 t (by omega)]; decide, ?_⟩
    unfold decB; rw [if_neg c0, if_neg (by omega), if_neg (by omega), if_neg (by omega)]
  by_cases c2 : bN t 0 < 224
  · have hw := why2 t (by omega) c2
    by_cases k1 : 1 = t.size
    · refine .inr ⟨by rw [hw, if_pos k1]; decide, ?_⟩
      unfold decB; rw [if_neg c0, if_neg (by omega), if_neg (by omega), if_neg (by omega)]
    rw [if_neg k1] at hw
    by_cases t1 : bN t 1 / 64 = 2
    · rw [if_pos ((tailB_nat _).2 t1)] at hw
      have hz := whyNo_zero (bN t 0 % 32 * 64 + bN t 1 % 64) 2 (.inl rfl) ⟨fun _ => by omega, fun e => by omega⟩
      have hd : decB t.size (bN t 0) (bN t 1) (bN t 2) (bN t 3) = (if 128 ≤ bN t 0 % 32 * 64 + bN t 1 % 64 then (bN t 0 % 32 * 64 + bN t 1 % 64, 2) else (65533, 1)) := by
        unfold decB; rw [if_neg c0, if_pos (by omega)]
      by_cases k2 : 128 ≤ bN t 0 % 32 * 64 + bN t 1 % 64
      · rw [if_pos k2] at hd
        have hs : scalarB ((bN t 0 % 32 * 64 + bN t 1 % 64 : Nat) : Int) = true ∧ bytesN ((bN t 0 % 32 * 64 + bN t 1 % 64 : Nat) : Int) = (2 : Nat) := by
          unfold scalarB halfB bytesN; refine ⟨by simp; omega, ?_⟩; (repeat' split) <;> omega
        exact .inl ⟨by rw [hw]; exact hz.2 hs, _, _, hd, hs.1, hs.2, by omega⟩
      · rw [if_neg k2] at hd
        refine .inr ⟨fun e => ?_, hd⟩
        rw [hw] at e
        have := (hz.1 e).2
        unfold bytesN at this; revert this; (repeat' split) <;> omega
    · rw [if_neg (fun e => t1 ((tailB_nat _).1 e))] at hw
      refine .inr ⟨by rw [hw]; decide, ?_⟩
      unfold decB; rw [if_neg c0, if_neg (by omega), if_neg (by omega), if_neg (by omega)]
  by_cases c3 : bN t 0 < 240
  · have hw := why3 t (by omega) c3
    by_cases k1 : 1 < t.size ∧ bN t 1 / 64 = 2 ∧ 2 < t.size ∧ bN t 2 / 64 = 2
    · rw [if_neg (by omega), if_pos ((tailB_nat _).2 k1.2.1), if_neg (by omega), if_pos ((tailB_nat _).2 k1.2.2.2)] at hw
      have hz := whyNo_zero (bN t 0 % 16 * 4096 + bN t 1 % 64 * 64 + bN t 2 % 64) 3 (.inr (.inl rfl)) ⟨fun e => by omega, fun _ => by omega⟩
      have hd : decB t.size (bN t 0) (bN t 1) (bN t 2) (bN t 3) = (if 2048 ≤ bN t 0 % 16 * 4096 + bN t 1 % 64 * 64 + bN t 2 % 64 ∧ ¬ (55296 ≤ bN t 0 % 16 * 4096 + bN t 1 % 64 * 64 + bN t 2 % 64 ∧ bN t 0 % 16 * 4096 + bN t 1 % 64 * 64 + bN t 2 % 64 < 57344) then (bN t 0 % 16 * 4096 + bN t 1 % 64 * 64 + bN t 2 % 64, 3) else (65533, 1)) := by
        unfold decB; rw [if_neg c0, if_neg (by omega), if_pos (by omega)]
      have hlt : bN t 0 % 16 * 4096 + bN t 1 % 64 * 64 + bN t 2 % 64 < 65536 := by omega
      generalize bN t 0 % 16 * 4096 + bN t 1 % 64 * 64 + bN t 2 % 64 = x at *
      by_cases k2 : 2048 ≤ x ∧ ¬ (55296 ≤ x ∧ x < 57344)
      · rw [if_pos k2] at hd
        have hs : scalarB (x : Int) = true ∧ bytesN (x : Int) = (3 : Nat) := by
          unfold scalarB halfB bytesN; refine ⟨by simp; omega, ?_⟩; (repeat' split) <;> omega
        exact .inl ⟨by rw [hw]; exact hz.2 hs, _, _, hd, hs.1, hs.2, by omega⟩
      · rw [if_neg k2] at hd
        refine .inr ⟨fun e => ?_, hd⟩
        rw [hw] at e
        obtain ⟨e1, e2⟩ := hz.1 e
        unfold bytesN at e2; unfold scalarB halfB at e1; simp at e1; revert e2; (repeat' split) <;> omega
    · have hd : decB t.size (bN t 0) (bN t 1) (bN t 2) (bN t 3) = (65533, 1) := by
        unfold decB; rw [if_neg c0, if_neg (by omega), if_neg (by omega), if_neg (by omega)]
      refine .inr ⟨?_, hd⟩
      rw [hw]
      by_cases a1 : 1 = t.size
      · rw [if_pos a1]; decide
      rw [if_neg a1]
      by_cases t1 : bN t 1 / 64 = 2
      · rw [if_pos ((tailB_nat _).2 t1)]
        by_cases a2 : 2 = t.size
        · rw [if_pos a2]; decide
        rw [if_neg a2, if_neg (fun e => by have := (tailB_nat _).1 e; omega)]; decide
      · rw [if_neg (fun e => t1 ((tailB_nat _).1 e))]; decide
  have hw := why4 t (by omega) (by omega)
  by_cases k1 : 1 < t.size ∧ bN t 1 / 64 = 2 ∧ 2 < t.size ∧ bN t 2 / 64 = 2 ∧ 3 < t.size ∧ bN t 3 / 64 = 2
  · rw [if_neg (by omega), if_pos ((tailB_nat _).2 k1.2.1), if_neg (by omega), if_pos ((tailB_nat _).2 k1.2.2.2.1), if_neg (by omega), if_pos ((tailB_nat _).2 k1.2.2.2.2.2)] at hw
    have hz := whyNo_zero (bN t 0 % 8 * 262144 + bN t 1 % 64 * 4096 + bN t 2 % 64 * 64 + bN t 3 % 64) 4 (.inr (.inr rfl)) ⟨fun e => by omega, fun e => by omega⟩
    have hd : decB t.size (bN t 0) (bN t 1) (bN t 2) (bN t 3) = (if 65536 ≤ bN t 0 % 8 * 262144 + bN t 1 % 64 * 4096 + bN t 2 % 64 * 64 + bN t 3 % 64 ∧ bN t 0 % 8 * 262144 + bN t 1 % 64 * 4096 + bN t 2 % 64 * 64 + bN t 3 % 64 ≤ 1114111 then (bN t 0 % 8 * 262144 + bN t 1 % 64 * 4096 + bN t 2 % 64 * 64 + bN t 3 % 64, 4) else (65533, 1)) := by
      unfold decB; rw [if_neg c0, if_neg (by omega), if_neg (by omega), if_pos (by omega)]
    generalize bN t 0 % 8 * 262144 + bN t 1 % 64 * 4096 + bN t 2 % 64 * 64 + bN t 3 % 64 = x at *
    by_cases k2 : 65536 ≤ x ∧ x ≤ 1114111
    · rw [if_pos k2] at hd
      have hs : scalarB (x : Int) = true ∧ bytesN (x : Int) = (4 : Nat) := by
        unfold scalarB halfB bytesN; refine ⟨by simp; omega, ?_⟩; (repeat' split) <;> omega
      exact .inl ⟨by rw [hw]; exact hz.2 hs, _, _, hd, hs.1, hs.2, by omega⟩
    · rw [if_neg k2] at hd
      refine .inr ⟨fun e => ?_, hd⟩
      rw [hw] at e
      obtain ⟨e1, e2⟩ := hz.1 e
      unfold bytesN at e2; unfold scalarB halfB at e1; simp at e1; revert e2; (repeat' split) <;> omega
  · have hd : decB t.size (bN t 0) (bN t 1) (bN t 2) (bN t 3) = (65533, 1) := by
      unfold decB; rw [if_neg c0, if_neg (by omega), if_neg (by omega), if_neg (by omega)]
    refine .inr ⟨?_, hd⟩
    rw [hw]
    by_cases a1 : 1 = t.size
    · rw [if_pos a1]; decide
    rw [if_neg a1]
    by_cases t1 : bN t 1 / 64 = 2
    · rw [if_pos ((tailB_nat _).2 t1)]
      by_cases a2 : 2 = t.size
      · rw [if_pos a2]; decide
      rw [if_neg a2]
      by_cases t2 : bN t 2 / 64 = 2
      · rw [if_pos ((tailB_nat _).2 t2)]
        by_cases a3 : 3 = t.size
        · rw [if_pos a3]; decide
        rw [if_neg a3, if_neg (fun e => by have := (tailB_nat _).1 e; omega)]; decide
      · rw [if_neg (fun e => t2 ((tailB_nat _).1 e))]; decide
    · rw [if_neg (fun e => t1 ((tailB_nat _).1 e))]; decide

theorem bN_extract (s : ByteArray) (i k : Nat) : bN (s.extract i s.size) k = bN s (i + k) := by
  have := bt_extract s i k
  rw [bt_bN, bt_bN] at this
  omega

/-- ONE CHARACTER: either the bytes from i on begin with a right sequence, or the byte is wrong. -/
theorem dec_why (s : ByteArray) (i : Nat) (hi : i < s.size) :
    (whyN (s.extract i s.size) = 0 ∧ ∃ x n : Nat, Utf8.decode s i = (x, n) ∧ scalarB x = true ∧ bytesN x = n ∧ i + n ≤ s.size) ∨
    (whyN (s.extract i s.size) ≠ 0 ∧ Utf8.decode s i = (65533, 1)) := by
  have h := decB_why (s.extract i s.size) (by rw [extract_size]; omega)
  rw [bN_extract, bN_extract, bN_extract, bN_extract, extract_size] at h
  rw [decode_decB s i hi]
  rcases h with ⟨h1, x, n, h2, h3, h4, h5⟩ | h
  · exact .inl ⟨h1, x, n, h2, h3, h4, by omega⟩
  · exact .inr h

theorem bytesN_ge (x : Int) : 1 ≤ bytesN x ∧ bytesN x ≤ 4 := by unfold bytesN; (repeat' split) <;> omega
theorem dec_bounds (s : ByteArray) (i : Nat) (hi : i < s.size) : 1 ≤ (Utf8.decode s i).2 ∧ (Utf8.decode s i).2 ≤ 4 ∧ i + (Utf8.decode s i).2 ≤ s.size := by
  rcases dec_why s i hi with ⟨_, x, n, h2, _, h4, h5⟩ | ⟨_, h⟩
  · have := bytesN_ge x; rw [h2]; exact ⟨by simp; omega, by simp; omega, h5⟩
  · rw [h]; simp; omega
theorem dec_scalar (s : ByteArray) (i : Nat) (hi : i < s.size) : scalarB (Utf8.decode s i).1 = true := by
  rcases dec_why s i hi with ⟨_, x, n, h2, h3, _, _⟩ | ⟨_, h⟩
  · rw [h2]; exact h3
  · rw [h]; decide
/-- the Spot that spotAt makes of what a range tells -/
theorem spot_dec (s : ByteArray) (i : Nat) (hi : i < s.size) : spotW s i (Utf8.decode s i).1 = (Utf8.decode s i).2 ∧ spotC s i (Utf8.decode s i).1 = whyN (s.extract i s.size) := by
  unfold spotW spotC
  rcases dec_why s i hi with ⟨h1, x, n, h2, h3, h4, _⟩ | ⟨h1, h2⟩
  · rw [if_neg (fun h => h.2 h1), if_neg (fun h => h.2 h1), h2, h1]
    exact ⟨by unfold widthN; simp only []; rw [if_pos h3, h4], rfl⟩
  · rw [if_pos ⟨by rw [h2]; rfl, h1⟩, if_pos ⟨by rw [h2]; rfl, h1⟩, h2]
    exact ⟨rfl, rfl⟩

end Go.Proofs.Ytkckkchnmgidgaa

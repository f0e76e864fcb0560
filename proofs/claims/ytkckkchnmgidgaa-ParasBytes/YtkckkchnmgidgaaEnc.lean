/-
  Plain facts: the bytes of a character are read as that character; and what is read right is written with the same bytes.
-/
import Derived.Test.YtkckkchnmgidgaaJoin
import Derived.Laws.Cover4
namespace Go.Proofs.Ytkckkchnmgidgaa
open Go.RowKit Go.PlainAid Go.Lib

theorem bytes_ext {s t : ByteArray} (h : s.size = t.size) (hb : ∀ k, k < s.size → bN s k = bN t k) : s = t := by
  apply ByteArray.ext
  apply Array.ext
  · exact h
  · intro i h1 h2
    have := hb i h1
    unfold bN at this
    rw [get_in s i h1, get_in t i h2] at this
    exact UInt8.toNat_inj.1 this

theorem enc_valid (x : Nat) (h : scalarB x = true) : Utf8.valid (x : Int) = true := by
  rw [Bool.eq_iff_iff] at *
  unfold scalarB halfB at h
  unfold Utf8.valid
  simp at h ⊢; omega

theorem scalar_bounds (x : Nat) (h : scalarB x = true) : x ≤ 1114111 ∧ ¬ (55296 ≤ x ∧ x < 57344) := by
  unfold scalarB halfB at h; simp at h; omega

/-- the bytes of a character -/
theorem enc_bytes (x : Nat) (h : scalarB x = true) :
    (x < 128 ∧ (Utf8.encode x).size = 1 ∧ bN (Utf8.encode x) 0 = x) ∨
    (128 ≤ x ∧ x < 2048 ∧ (Utf8.encode x).size = 2 ∧ bN (Utf8.encode x) 0 = 192 + x / 64 ∧ bN (Utf8.encode x) 1 = 128 + x % 64) ∨
    (2048 ≤ x ∧ x < 65536 ∧ (Utf8.encode x).size = 3 ∧ bN (Utf8.encode x) 0 = 224 + x / 4096 ∧ bN (Utf8.encode x) 1 = 128 + x / 64 % 64 ∧ bN (Utf8.encode x) 2 = 128 + x % 64) ∨
    (65536 ≤ x ∧ x ≤ 1114111 ∧ (Utf8.encode x).size = 4 ∧ bN (Utf8.encode x) 0 = 240 + x / 262144 ∧ bN (Utf8.encode x) 1 = 128 + x / 4096 % 64 ∧ bN (Utf8.encode x) 2 = 128 + x / 64 % 64 ∧ bN (Utf8.encode x) 3 = 128 + x % 64) := by
  have hv := enc_valid x h
  have hb := scalar_bounds x h
  have hc : (if Utf8.valid (x : Int) = true then (x : Int).toNat else Utf8.runeError) = x := by rw [hv]; rfl
  have hm : ∀ n, n < 256 → (UInt8.ofNat n).toNat = n := fun n hn => by rw [UInt8.toNat_ofNat']; exact Nat.mod_eq_of_lt hn
  by_cases c1 : x < 128
  · left
    have e : Utf8.encode (x : Int) = ⟨#[UInt8.ofNat x]⟩ := by unfold Utf8.encode; rw [hc]; simp only []; rw [if_pos c1]
    rw [e]
    exact ⟨c1, rfl, hm x (by omega)⟩
  by_cases c2 : x < 2048
  · right; left
    have e : Utf8.encode (x : Int) = ⟨#[UInt8.ofNat (192 + x / 64), UInt8.ofNat (128 + x % 64)]⟩ := by unfold Utf8.encode; rw [hc]; simp only []; rw [if_neg c1, if_pos c2]
    rw [e]
    exact ⟨by omega, c2, rfl, hm _ (by omega), hm _ (by omega)⟩
  by_cases c3 : x < 65536
  · right; right; left
    have e : Utf8.encode (x : Int) = ⟨#[UInt8.ofNat (224 + x / 4096), UInt8.ofNat (128 + x / 64 % 64), UInt8.ofNat (128 + x % 64)]⟩ := by unfold Utf8.encode; rw [hc]; simp only []; rw [if_neg c1, if_neg c2, if_pos c3]
    rw [e]
    exact ⟨by omega, c3, rfl, hm _ (by omega), hm _ (by omega), hm _ (by omega)⟩
  · right; right; right
    have e : Utf8.encode (x : Int) = ⟨#[UInt8.ofNat (240 + x / 262144), UInt8.ofNat (128 + x / 4096 % 64), UInt8.ofNat (128 + x / 64 % 64), UInt8.ofNat (128 + x % 64)]⟩ := by unfold Utf8.encode; rw [hc]; simp only []; rw [if_neg c1, if_neg c2, if_neg c3]
    rw [e]
    exact ⟨by omega, hb.1, rfl, hm _ (by omega), hm _ (by omega), hm _ (by omega), hm _ (by omega)⟩

/-- a character's bytes, whatever follows, are read as it -/
theorem dec_enc (x : Nat) (h : scalarB x = true) (t : ByteArray) : Utf8.decode (Utf8.encode x ++ t) 0 = (x, (Utf8.encode x).size) ∧ 1 ≤ (Utf8.encode x).size := by
  have hb := scalar_bounds x h
  have hs : (Utf8.encode (x : Int) ++ t).size = (Utf8.encode (x : Int)).size + t.size := ByteArray.size_append
  have ek : ∀ k, k < (Utf8.encode (x : Int)).size → bN (Utf8.encode (x : Int) ++ t) (0 + k) = bN (Utf8.encode (x : Int)) k := fun k hk => by rw [Nat.zero_add, bN_append, if_pos hk]
  rcases enc_bytes x h with ⟨c, e, e0⟩ | ⟨c, c', e, e0, e1⟩ | ⟨c, c', e, e0, e1, e2⟩ | ⟨c, c', e, e0, e1, e2, e3⟩
  · refine ⟨?_, by omega⟩
    rw [decode_decB _ _ (by omega), show bN (Utf8.encode (x : Int) ++ t) 0 = x from (ek 0 (by omega)).trans e0, e]
    unfold decB; rw [if_pos c]
  · refine ⟨?_, by omega⟩
    rw [decode_decB _ _ (by omega), show bN (Utf8.encode (x : Int) ++ t) 0 = _ from (ek 0 (by omega)).trans e0, (ek 1 (by omega)).trans e1, e]
    have ev : (192 + x / 64) % 32 * 64 + (128 + x % 64) % 64 = x := by omega
    unfold decB
    rw [if_neg (by omega), if_pos (by omega), ev, if_pos (by omega)]
  · refine ⟨?_, by omega⟩
    rw [decode_decB _ _ (by omega), show bN (Utf8.encode (x : Int) ++ t) 0 = _ from (ek 0 (by omega)).trans e0, (ek 1 (by omega)).trans e1, (ek 2 (by omega)).trans e2, e]
    have ev : (224 + x / 4096) % 16 * 4096 + (128 + x / 64 % 64) % 64 * 64 + (128 + x % 64) % 64 = x := by omega
    unfold decB
    rw [if_neg (by omega), if_neg (by omega), if_pos (by omega), ev, if_pos (by omega)]
  · refine ⟨?_, by omega⟩
    rw [decode_decB _ _ (by omega), show bN (Utf8.encode (x : Int) ++ t) 0 = _ from (ek 0 (by omega)).trans e0, (ek 1 (by omega)).trans e1, (ek 2 (by omega)).trans e2, (ek 3 (by omega)).trans e3, e]
    have ev : (240 + x / 262144) % 8 * 262144 + (128 + x / 4096 % 64) % 64 * 4096 + (128 + x / 64 % 64) % 64 * 64 + (128 + x % 64) % 64 = x := by omega
    unfold decB
    rw [if_neg (by omega), if_neg (by omega), if_neg (by omega), if_pos (by omega), ev, if_pos (by omega)]

/-- what is read right has the bytes of its character -/
theorem enc_dec (s : ByteArray) (i x n : Nat) (hi : i < s.size) (h1 : Utf8.decode s i = (x, n)) (h2 : scalarB x = true) (h3 : bytesN x = n) (h4 : i + n ≤ s.size) : s.extract i (i + n) = Utf8.encode x := by
  have hw := right_wide s i x n hi h1 h3
  rw [decode_decB s i hi] at h1
  have hb := scalar_bounds x h2
  have hbx : ∀ k, k < n → bN (s.extract i (i + n)) k = bN s (i + k) := by
    intro k hk
    unfold bN
    rw [get_in _ _ (by simp [ByteArray.size_extract]; omega), get_in s (i + k) (by omega)]
    simp [ByteArray.getElem_extract]
  have hsz : (s.extract i (i + n)).size = n := by simp [ByteArray.size_extract]; omega
  have l0 := bN_lt s i; have l1 := bN_lt s (i + 1); have l2 := bN_lt s (i + 2); have l3 := bN_lt s (i + 3)
  have hn : (n = 1 ∧ x < 128) ∨ (n = 2 ∧ 128 ≤ x ∧ x < 2048) ∨ (n = 3 ∧ 2048 ≤ x ∧ x < 65536) ∨ (n = 4 ∧ 65536 ≤ x) := by
    unfold bytesN at h3; revert h3; (repeat' split) <;> omega
  have key : bN s i = bN (Utf8.encode x) 0 ∧ (1 < n → bN s (i + 1) = bN (Utf8.encode x) 1) ∧ (2 < n → bN s (i + 2) = bN (Utf8.encode x) 2) ∧ (3 < n → bN s (i + 3) = bN (Utf8.encode x) 3) ∧ (Utf8.encode x).size = n := by
    unfold decB at h1
    by_cases c0 : bN s i < 128
    · rw [if_pos c0] at h1
      obtain ⟨rfl, rfl⟩ : bN s i = x ∧ 1 = n := by simpa using h1
      rcases enc_bytes _ h2 with ⟨_, e, e0⟩ | ⟨c, _⟩ | ⟨c, _⟩ | ⟨c, _⟩
      · exact ⟨e0.symm, fun h => by omega, fun h => by omega, fun h => by omega, e⟩
      all_goals omega
    rw [if_neg c0] at h1
    have hn2 : 2 ≤ n := by omega
    by_cases c1 : bN s i / 32 = 6 ∧ (1 < s.size - i ∧ bN s (i + 1) / 64 = 2)
    · rw [if_pos c1] at h1
      split at h1
      · obtain ⟨hx, rfl⟩ : _ = x ∧ 2 = n := by simpa using h1
        rcases enc_bytes _ h2 with ⟨c, _⟩ | ⟨_, _, e, e0, e1⟩ | ⟨c, _⟩ | ⟨c, _⟩
        · omega
        · exact ⟨by rw [e0]; omega, fun h => by rw [e1]; omega, fun h => by omega, fun h => by omega, e⟩
        all_goals omega
      · obtain ⟨_, rfl⟩ : _ = x ∧ 1 = n := by simpa using h1
        omega
    rw [if_neg c1] at h1
    by_cases c2 : bN s i / 16 = 14 ∧ (1 < s.size - i ∧ bN s (i + 1) / 64 = 2) ∧ (2 < s.size - i ∧ bN s (i + 2) / 64 = 2)
    · rw [if_pos c2] at h1
      split at h1
      · obtain ⟨hx, rfl⟩ : _ = x ∧ 3 = n := by simpa using h1
        rcases enc_bytes _ h2 with ⟨c, _⟩ | ⟨_, c, _⟩ | ⟨_, _, e, e0, e1, e2⟩ | ⟨c, _⟩
        · omega
        · omega
        · exact ⟨by rw [e0]; omega, fun h => by rw [e1]; omega, fun h => by rw [e2]; omega, fun h => by omega, e⟩
        · omega
      · obtain ⟨_, rfl⟩ : _ = x ∧ 1 = n := by simpa using h1
        omega
    rw [if_neg c2] at h1
    by_cases c3 : bN s i / 8 = 30 ∧ (1 < s.size - i ∧ bN s (i + 1) / 64 = 2) ∧ (2 < s.size - i ∧ bN s (i + 2) / 64 = 2) ∧ (3 < s.size - i ∧ bN s (i + 3) / 64 = 2)
    · rw [if_pos c3] at h1
      split at h1
      · obtain ⟨hx, rfl⟩ : _ = x ∧ 4 = n := by simpa using h1
        rcases enc_bytes _ h2 with ⟨c, _⟩ | ⟨_, c, _⟩ | ⟨_, c, _⟩ | ⟨_, _, e, e0, e1, e2, e3⟩
        · omega
        · omega
        · omega
        · exact ⟨by rw [e0]; omega, fun h => by rw [e1]; omega, fun h => by rw [e2]; omega, fun h => by rw [e3]; omega, e⟩
      · obtain ⟨_, rfl⟩ : _ = x ∧ 1 = n := by simpa using h1
        omega
    rw [if_neg c3] at h1
    obtain ⟨_, rfl⟩ : _ = x ∧ 1 = n := by simpa using h1
    omega
  obtain ⟨k0, k1, k2, k3, k4⟩ := key
  refine bytes_ext (by rw [hsz, k4]) (fun k hk => ?_)
  rw [hsz] at hk
  rw [hbx k hk]
  have : k = 0 ∨ k = 1 ∨ k = 2 ∨ k = 3 := by omega
  rcases this with rfl | rfl | rfl | rfl
  · exact k0
  · exact k1 hk
  · exact k2 hk
  · exact k3 hk

end Go.Proofs.Ytkckkchnmgidgaa

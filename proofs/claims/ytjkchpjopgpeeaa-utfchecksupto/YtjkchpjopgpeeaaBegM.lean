/-
  The document's way to the longest part at a wrong byte (try all that could follow), by numbers.
-/
import Derived.Test.YtjkchpjopgpeeaaPart
namespace Go.Proofs.Ytjkchpjopgpeeaa
open Go.RowKit Go.PlainAid Go.Lib

/-- what the bits of a sequence's first i + 1 bytes make -/
def accU (u : ByteArray) (m : Int) : Nat → Int
  | 0 => bt u 0 % m
  | i + 1 => accU u m i * 64 + bt u (i + 1) - 128
def maskU (n : Nat) : Int := if n = 1 then 128 else if n = 2 then 32 else if n = 3 then 16 else 8
def TailsU (u : ByteArray) (k : Nat) : Prop := ∀ j, 1 ≤ j → j < k → tailB (bt u j) = true
/-- a text with so many bytes more behind it -/
def padU (u : ByteArray) (b : UInt8) : Nat → ByteArray
  | 0 => u
  | j + 1 => padU u b j ++ ⟨#[b]⟩
theorem padU_size (u : ByteArray) (b : UInt8) : ∀ j, (padU u b j).size = u.size + j
  | 0 => rfl
  | j + 1 => by
    show (padU u b j ++ ⟨#[b]⟩).size = _
    rw [ByteArray.size_append, padU_size u b j]
    have : (⟨#[b]⟩ : ByteArray).size = 1 := rfl
    omega
theorem bt_append (u v : ByteArray) (k : Nat) : bt (u ++ v) k = if k < u.size then bt u k else bt v (k - u.size) := by
  unfold bt
  by_cases h : k < u.size
  · rw [if_pos h, dif_pos (by rw [ByteArray.size_append]; omega), dif_pos h]
    rw [ByteArray.getElem_append_left h]
  · rw [if_neg h]
    by_cases h2 : k - u.size < v.size
    · rw [dif_pos (by rw [ByteArray.size_append]; omega), dif_pos h2]
      rw [ByteArray.getElem_append_right (by omega)]
    · rw [dif_neg (by rw [ByteArray.size_append]; omega), dif_neg h2]
theorem bt_padU (u : ByteArray) (b : UInt8) (k : Nat) : ∀ j, k < u.size + j → bt (padU u b j) k = if k < u.size then bt u k else (b.toNat : Int)
  | 0, h => by rw [if_pos (by omega)]; rfl
  | j + 1, h => by
    show bt (padU u b j ++ ⟨#[b]⟩) k = _
    rw [bt_append, padU_size]
    by_cases h1 : k < u.size + j
    · rw [if_pos h1, bt_padU u b k j h1]
    · rw [if_neg h1, if_neg (by omega)]
      have : k - (u.size + j) = 0 := by omega
      rw [this]
      rfl
/-- is it a character whose right sequence has n bytes -/
def goodN (y : Int) (n : Int) : Prop := scalarB y = true ∧ widthN y = n
theorem good2 (y : Int) : goodN y 2 ↔ 128 ≤ y ∧ y < 2048 := by
  unfold goodN widthN scalarB halfB bytesN
  constructor
  · rintro ⟨h, k⟩; rw [if_pos h] at k; simp at h; (repeat' split at k) <;> omega
  · rintro ⟨h, k⟩
    have hs : (decide (0 ≤ y) && decide (y ≤ 1114111) && !(decide (55296 ≤ y) && decide (y ≤ 57343))) = true := by simp; omega
    refine ⟨hs, ?_⟩
    rw [if_pos hs]; (repeat' split) <;> omega
theorem good3 (y : Int) : goodN y 3 ↔ 2048 ≤ y ∧ y < 65536 ∧ ¬ (55296 ≤ y ∧ y ≤ 57343) := by
  unfold goodN widthN scalarB halfB bytesN
  constructor
  · rintro ⟨h, k⟩; rw [if_pos h] at k; simp at h; (repeat' split at k) <;> omega
  · rintro ⟨h, k, l⟩
    have hs : (decide (0 ≤ y) && decide (y ≤ 1114111) && !(decide (55296 ≤ y) && decide (y ≤ 57343))) = true := by simp; omega
    refine ⟨hs, ?_⟩
    rw [if_pos hs]; (repeat' split) <;> omega
theorem good4 (y : Int) : goodN y 4 ↔ 65536 ≤ y ∧ y ≤ 1114111 := by
  unfold goodN widthN scalarB halfB bytesN
  constructor
  · rintro ⟨h, k⟩; rw [if_pos h] at k; simp at h; (repeat' split at k) <;> omega
  · rintro ⟨h, k⟩
    have hs : (decide (0 ≤ y) && decide (y ≤ 1114111) && !(decide (55296 ≤ y) && decide (y ≤ 57343))) = true := by simp; omega
    refine ⟨hs, ?_⟩
    rw [if_pos hs]; (repeat' split) <;> omega
theorem goOn_iff (a b : Int) : goOnB a b = true ↔ (128 ≤ b ∧ b ≤ 191) ∧ 194 ≤ a ∧ a ≤ 244 ∧ (a = 224 → 160 ≤ b) ∧ (a = 237 → b ≤ 159) ∧ (a = 240 → 144 ≤ b) ∧ (a = 244 → b ≤ 143) := by
  unfold goOnB tailB
  (repeat' split) <;> simp <;> omega
theorem lead_iff (b : Int) : (leadN b = 2 ↔ 192 ≤ b ∧ b < 224) ∧ (leadN b = 3 ↔ 224 ≤ b ∧ b < 240) ∧ (leadN b = 4 ↔ 240 ≤ b ∧ b < 248) := by
  unfold leadN
  refine ⟨?_, ?_, ?_⟩ <;> (repeat' split) <;> omega

/-- the numbers that a beginning can come to -/
theorem begins_math (u : ByteArray) (m n : Nat) (hm : u.size = m) (h2 : 2 ≤ m) (hl : leadN (bt u 0) = (n : Nat)) (hmn : m ≤ n) (ht : TailsU u m) :
    (0 ≤ accU (padU u 128 (n - m)) (maskU n) (n - 1) ∧ accU (padU u 191 (n - m)) (maskU n) (n - 1) < 2097152) ∧ ((∃ y, accU (padU u 128 (n - m)) (maskU n) (n - 1) ≤ y ∧ y ≤ accU (padU u 191 (n - m)) (maskU n) (n - 1) ∧ goodN y (n : Nat)) ↔ goOnB (bt u 0) (bt u 1) = true) := by
  have hn4 : n ≤ 4 := by have := leadN_le (bt u 0); omega
  have t1 := ht 1 (by omega) (by omega)
  have hp : ∀ b k, k < u.size + (n - m) → bt (padU u b (n - m)) k = if k < u.size then bt u k else ((b : UInt8).toNat : Int) := fun b k h => bt_padU u b k _ h
  rw [hm] at hp
  have li := lead_iff (bt u 0)
  rw [goOn_iff]
  have e128 : ((128 : UInt8).toNat : Int) = 128 := rfl
  have e191 : ((191 : UInt8).toNat : Int) = 191 := rfl
  have tb1 : 128 ≤ bt u 1 ∧ bt u 1 ≤ 191 := by simpa [tailB] using t1
  have tb2 : 3 ≤ m → 128 ≤ bt u 2 ∧ bt u 2 ≤ 191 := fun h => by simpa [tailB] using ht 2 (by omega) (by omega)
  have tb3 : 4 ≤ m → 128 ≤ bt u 3 ∧ bt u 3 ≤ 191 := fun h => by simpa [tailB] using ht 3 (by omega) (by omega)
  have cases3 : n = 2 ∨ n = 3 ∨ n = 4 := by omega
  have a0 : ∀ b, bt (padU u b (n - m)) 0 = bt u 0 := fun b => by rw [hp b 0 (by omega), if_pos (by omega)]
  have a1 : ∀ b, bt (padU u b (n - m)) 1 = bt u 1 := fun b => by rw [hp b 1 (by omega), if_pos (by omega)]
  rcases cases3 with rfl | rfl | rfl
  · have hb := li.1.1 hl
    simp only [accU, maskU, a0, a1]
    generalize bt u 0 = x at *
    generalize bt u 1 = y at *
    refine ⟨by simp; omega, ⟨fun ⟨z, h1, h2, h3⟩ => ?_, fun h => ⟨x % 32 * 64 + y - 128, by first | (simp; done) | (simp; omega), by first | (simp; done) | (simp; omega), (good2 _).2 (by omega)⟩⟩⟩
    have := (good2 z).1 h3
    simp at h1 h2
    omega
  · have hb := li.2.1.1 hl
    have c2 : ∀ b, bt (padU u b (3 - m)) 2 = if 3 ≤ m then bt u 2 else ((b : UInt8).toNat : Int) := fun b => by
      rw [hp b 2 (by omega)]
      by_cases h : 3 ≤ m
      · rw [if_pos (by omega), if_pos h]
      · rw [if_neg (by omega), if_neg h]
    simp only [accU, maskU, a0, a1, c2, e128, e191]
    generalize bt u 0 = x at *
    generalize bt u 1 = y at *
    generalize bt u 2 = q at *
    by_cases h3m : 3 ≤ m
    · have := tb2 h3m
      simp only [if_pos h3m]
      refine ⟨by simp; omega, ⟨fun ⟨z, h1, h2, h3⟩ => ?_, fun h => ⟨(x % 16 * 64 + y - 128) * 64 + q - 128, by first | (simp; done) | (simp; omega), by first | (simp; done) | (simp; omega), (good3 _).2 (by omega)⟩⟩⟩
      have := (good3 z).1 h3
      simp at h1 h2
      omega
    · simp only [if_neg h3m]
      refine ⟨by simp; omega, ⟨fun ⟨z, h1, h2, h3⟩ => ?_, fun h => ⟨(x % 16 * 64 + y - 128) * 64 + 128 - 128, by first | (simp; done) | (simp; omega), by first | (simp; done) | (simp; omega), (good3 _).2 (by omega)⟩⟩⟩
      have := (good3 z).1 h3
      simp at h1 h2
      omega
  · have hb := li.2.2.1 hl
    have c2 : ∀ b, bt (padU u b (4 - m)) 2 = if 3 ≤ m then bt u 2 else ((b : UInt8).toNat : Int) := fun b => by
      rw [hp b 2 (by omega)]
      by_cases h : 3 ≤ m
      · rw [if_pos (by omega), if_pos h]
      · rw [if_neg (by omega), if_neg h]
    have c3 : ∀ b, bt (padU u b (4 - m)) 3 = if 4 ≤ m then bt u 3 else ((b : UInt8).toNat : Int) := fun b => by
      rw [hp b 3 (by omega)]
      by_cases h : 4 ≤ m
      · rw [if_pos (by omega), if_pos h]
      · rw [if_neg (by omega), if_neg h]
    simp only [accU, maskU, a0, a1, c2, c3, e128, e191]
    generalize bt u 0 = x at *
    generalize bt u 1 = y at *
    generalize bt u 2 = q at *
    generalize bt u 3 = r at *
    by_cases h3m : 3 ≤ m
    · have := tb2 h3m
      by_cases h4m : 4 ≤ m
      · have := tb3 h4m
        simp only [if_pos h3m, if_pos h4m]
        refine ⟨by simp; omega, ⟨fun ⟨z, h1, h2, h3⟩ => ?_, fun h => ⟨((x % 8 * 64 + y - 128) * 64 + q - 128) * 64 + r - 128, by first | (simp; done) | (simp; omega), by first | (simp; done) | (simp; omega), (good4 _).2 (by omega)⟩⟩⟩
        have := (good4 z).1 h3
        simp at h1 h2
        omega
      · simp only [if_pos h3m, if_neg h4m]
        refine ⟨by simp; omega, ⟨fun ⟨z, h1, h2, h3⟩ => ?_, fun h => ⟨((x % 8 * 64 + y - 128) * 64 + q - 128) * 64 + 128 - 128, by first | (simp; done) | (simp; omega), by first | (simp; done) | (simp; omega), (good4 _).2 (by omega)⟩⟩⟩
        have := (good4 z).1 h3
        simp at h1 h2
        omega
    · simp only [if_neg h3m, if_neg (show ¬ 4 ≤ m by omega)]
      refine ⟨by simp; omega, ⟨fun ⟨z, h1, h2, h3⟩ => ?_, fun h => ⟨((x % 8 * 64 + y - 128) * 64 + 128 - 128) * 64 + 128 - 128, by first | (simp; done) | (simp; omega), by first | (simp; done) | (simp; omega), (good4 _).2 (by omega)⟩⟩⟩
      have := (good4 z).1 h3
      simp at h1 h2
      omega

/-- the first k + 1 bytes begin a right sequence -/
def BegT (t : ByteArray) (k : Nat) : Prop := ((k + 1 : Nat) : Int) ≤ leadN (bt t 0) ∧ TailsU t (k + 1) ∧ goOnB (bt t 0) (bt t 1) = true
theorem goOn_tail2 (a b : Int) (h : goOnB a b = true) : tailB b = true := by
  have := (goOn_iff a b).1 h
  simp [tailB]; omega
theorem goOn_lead (a b : Int) (h : goOnB a b = true) : 2 ≤ leadN a := by
  have := (goOn_iff a b).1 h
  unfold leadN; (repeat' split) <;> omega
theorem part_long (t : ByteArray) (n : Nat) (h1 : 1 ≤ n) (h4 : n ≤ 4) (hs : n ≤ t.size) (hk : ∀ k, 1 ≤ k → k < n → BegT t k) (he : n = 4 ∨ n = t.size ∨ ¬ BegT t n) : partN t = n := by
  unfold partN
  have c : n = 1 ∨ n = 2 ∨ n = 3 ∨ n = 4 := by omega
  rcases c with rfl | rfl | rfl | rfl
  · rw [if_neg]
    rintro ⟨h, g⟩
    rcases he with h' | h' | h'
    · omega
    · omega
    · refine h' ⟨by have := goOn_lead _ _ g; omega, fun j j1 j2 => ?_, g⟩
      obtain rfl : j = 1 := by omega
      exact goOn_tail2 _ _ g
  · obtain ⟨b1, b2, b3⟩ := hk 1 (by omega) (by omega)
    rw [if_pos ⟨hs, b3⟩]
    unfold partGo
    rw [if_neg]
    rintro ⟨g1, g2, g3⟩
    rcases he with h' | h' | h'
    · omega
    · omega
    · refine h' ⟨by omega, fun j j1 j2 => ?_, b3⟩
      have : j = 1 ∨ j = 2 := by omega
      rcases this with rfl | rfl
      · exact b2 1 (by omega) (by omega)
      · exact g3
  · obtain ⟨b1, b2, b3⟩ := hk 2 (by omega) (by omega)
    rw [if_pos ⟨by omega, b3⟩]
    unfold partGo
    rw [if_pos ⟨by omega, by omega, b2 2 (by omega) (by omega)⟩]
    unfold partGo
    rw [if_neg]
    rintro ⟨g1, g2, g3⟩
    rcases he with h' | h' | h'
    · omega
    · omega
    · refine h' ⟨by omega, fun j j1 j2 => ?_, b3⟩
      have : j = 1 ∨ j = 2 ∨ j = 3 := by omega
      rcases this with rfl | rfl | rfl
      · exact b2 1 (by omega) (by omega)
      · exact b2 2 (by omega) (by omega)
      · exact g3
  · obtain ⟨b1, b2, b3⟩ := hk 3 (by omega) (by omega)
    rw [if_pos ⟨by omega, b3⟩]
    unfold partGo
    rw [if_pos ⟨by omega, by omega, b2 2 (by omega) (by omega)⟩]
    unfold partGo
    rw [if_pos ⟨by omega, by omega, b2 3 (by omega) (by omega)⟩]
    rfl
theorem bt_front (s : ByteArray) (i j k : Nat) (hj : j ≤ s.size) (hk : i + k < j) : bt (s.extract i j) k = bt s (i + k) := by
  unfold bt
  rw [dif_pos (by simp [ByteArray.size_extract]; omega), dif_pos (by omega)]
  simp [ByteArray.getElem_extract]
end Go.Proofs.Ytjkchpjopgpeeaa

/-
  The document's Show, of every number.
-/
import Derived.Test.YtnabbahdmajfpaaGreatDoorRwRHex
namespace Go.Proofs.YtnabbahdmajfpaaGreatDoor
open Go.RowKit Go.PlainAid Go.Lib Go.PHexM
set_option linter.unusedVariables false

/-- the byte of a digit -/
def dgt (d : Nat) : UInt8 := UInt8.ofNat (digAt d)
/-- the last i digits of n, the highest first -/
def hexUp : Nat → Nat → List UInt8
  | 0, _ => []
  | i + 1, n => dgt (n / 16 ^ i % 16) :: hexUp i n
def showLen (n : Nat) : Nat := if n < 65536 then 4 else if n < 1048576 then 5 else 6
def showP (n : Nat) : List UInt8 := hexUp (showLen n) n
theorem hexUp_len (i n : Nat) : (hexUp i n).length = i := by
  induction i with
  | zero => rfl
  | succ i ih => simp [hexUp, ih]
def hexS (i n : Nat) : ByteArray := ⟨(hexUp i n).toArray⟩
theorem hexS_size (i n : Nat) : (hexS i n).size = i := by
  show (hexUp i n).toArray.size = i
  simp [hexUp_len]
theorem hexS_succ (i n : Nat) : (⟨#[dgt (n / 16 ^ i % 16)]⟩ : ByteArray) ++ hexS i n = hexS (i + 1) n := by
  apply ByteArray.ext
  rw [ByteArray.data_append]
  simp [hexS, hexUp]
theorem dgt_lit (d : Nat) (h : d < (⟨#[48, 49, 50, 51, 52, 53, 54, 55, 56, 57, 65, 66, 67, 68, 69, 70]⟩ : ByteArray).size) : ((⟨#[48, 49, 50, 51, 52, 53, 54, 55, 56, 57, 65, 66, 67, 68, 69, 70]⟩ : ByteArray)[d]'h) = dgt d := by
  apply UInt8.toNat_inj.1
  rw [lit_at d h, dgt]
  have h' : d < 16 := h
  have : digAt d < 256 := by unfold digAt; split <;> omega
  simp [Nat.mod_eq_of_lt this]

theorem one_conv (w : World) (b : UInt8) :
    (convert 76 9 (.slice (some ⟨w.heap.size, 0, none⟩) 1 1)).run Tryz.prog (w.alloc (.cells #[.int .u8 (b.toNat : Int)] 5)) = .ok (.string ⟨#[b]⟩) (w.alloc (.cells #[.int .u8 (b.toNat : Int)] 5)) := by
  refine run_convert_bytes_back (P := Tryz.prog) _ 76 9 5 ⟨w.heap.size, 0, none⟩ 1 [b] Tryz.underlying76 Tryz.underlying5 Tryz.underlying9 (fun j hj => ?_)
  have : j = 0 := by simp at hj; omega
  subst this
  have h := heap_alloc_new w (.cells #[.int .u8 (b.toNat : Int)] 5)
  have hc : (w.alloc (.cells #[.int .u8 (b.toNat : Int)] 5)).cell? ⟨w.heap.size, 0, none⟩ = some (.int .u8 (b.toNat : Int)) := by
    generalize w.alloc (.cells #[.int .u8 (b.toNat : Int)] 5) = W at h
    simp [World.cell?, h]
  exact hc
/-- a number below 16^6 has fallen to nothing behind its digits -/
theorem show_done {n i : Nat} (hn : n ≤ 1114111) (hp : i ≤ 4 ∨ 0 < n / 16 ^ (i - 1)) (h0 : n / 16 ^ i = 0) (h4 : 4 ≤ i) (h6 : i ≤ 6) : i = showLen n := by
  unfold showLen
  have : i = 4 ∨ i = 5 ∨ i = 6 := by omega
  rcases this with rfl | rfl | rfl
  · rw [if_pos (by have : n / 65536 = 0 := h0; omega)]
  · have h1 : 0 < n / 65536 := by rcases hp with h | h; omega; exact h
    have h2 : n / 1048576 = 0 := h0
    rw [if_neg (by omega), if_pos (by omega)]
  · have h1 : 0 < n / 1048576 := by rcases hp with h | h; omega; exact h
    rw [if_neg (by omega), if_neg (by omega)]
theorem show_room {n i : Nat} (hn : n ≤ 1114111) (h6 : i ≤ 6) (h : 0 < n / 16 ^ i ∨ i < 4) : i + 1 ≤ 6 := by
  rcases Nat.lt_or_ge i 6 with h' | h'
  · omega
  · obtain rfl : i = 6 := by omega
    rcases h with h | h
    · have : 0 < n / 16777216 := h
      omega
    · omega

set_option maxRecDepth 100000 in
set_option maxHeartbeats 2000000 in
theorem refShow_any (n : Nat) (hn : n ≤ 1114111) (w : World) :
    Calls Tryz.prog 42 #[.int .i32 (n : Int)] w fun e w' => e = .returned (.tuple #[.string (hexS (showLen n) n), .int .i64 0]) ∧ Below w.heap.size w w' := by
  obtain ⟨S0, hS0⟩ : ∃ S0, S0 = hexS (showLen n) n := ⟨_, rfl⟩
  rw [← hS0]
  have HS0 := hide hS0
  clear hS0
  go_enter Tryz.func42, Tryz.ntmps42
  go_wp2
  go_loopg [4, 5] 7 (fun kx s4 s5 wr => ∃ (i q : Nat) (S : ByteArray), i ≤ 6 ∧ Hid (i ≤ 4 ∨ 0 < n / 16 ^ (i - 1)) ∧ Hid (q = n / 16 ^ i) ∧ q ≤ 1114111 ∧ S.size = i ∧ Hid (S = hexS i n) ∧ s4 = .string S ∧ s5 = .int .i64 (q : Int) ∧ kx = 7 - i ∧ Below w.heap.size w wr)
  case atStart => exact ⟨0, n, ⟨#[]⟩, by omega, hide (.inl (by omega)), hide (by simp), hn, rfl, hide rfl, rfl, rfl, rfl, Below.refl _ _⟩
  case round =>
    obtain ⟨i, q, S, hi, HP, HQ, hq1, hsz, HSS, rfl, rfl, rfl, hb⟩ := hrel
    have HB := hide hb
    clear hb
    by_cases hc : 0 < q ∨ i < 4
    · have HR := hide (show_room hn hi (by rw [← unhide HQ]; exact hc))
      obtain ⟨r, hr⟩ : ∃ r, r = q % 16 := ⟨_, rfl⟩
      obtain ⟨q2, hq2⟩ : ∃ q2, q2 = q / 16 := ⟨_, rfl⟩
      have hr16 : r < 16 := by omega
      have ht : (q : Int).tmod 16 = (r : Int) := by rw [Int.tmod_eq_emod_of_nonneg (by omega)]; omega
      have htd : (q : Int).tdiv 16 = (q2 : Int) := by rw [Int.tdiv_eq_ediv_of_nonneg (by omega)]; omega
      have hlit := dgt_lit r (show r < 16 by omega)
      have hcv := one_conv wr (dgt r)
      have hq2' : q2 ≤ 1114111 := by omega
      have HS2 : Hid ((⟨#[dgt r]⟩ : ByteArray) ++ S = hexS (i + 1) n) := by
        show _ = _
        rw [unhide HSS, hr, unhide HQ, hexS_succ]
      have HQ2 : Hid (q2 = n / 16 ^ (i + 1)) := by
        show _ = _
        rw [hq2, unhide HQ, Nat.div_div_eq_div_mul, Nat.pow_succ]
      have HP2 : Hid (i + 1 ≤ 4 ∨ 0 < n / 16 ^ (i + 1 - 1)) := by
        show _ ∨ _
        rcases hc with h | h
        · right; rw [Nat.add_sub_cancel, ← unhide HQ]; exact h
        · left; omega
      have HB2 := hide ((unhide HB).alloc (unhide HB).size (.cells #[.int .u8 ((dgt r).toNat : Int)] 5))
      by_cases hz : q = 0
      · obtain rfl : r = 0 := by omega
        obtain rfl : q2 = 0 := by omega
        have hl0 : ((⟨#[48, 49, 50, 51, 52, 53, 54, 55, 56, 57, 65, 66, 67, 68, 69, 70]⟩ : ByteArray)[0]'(by decide)).toNat = (dgt 0).toNat := by rw [dgt_lit 0 (by decide)]
        have hi4 : i < 4 := by omega
        clear hr hq2 ht htd hlit hc
        subst hz
        go_wp2
        go_roundg (7 - (i + 1))
        case measure => omega
        case rel => exact ⟨i + 1, 0, _, unhide HR, HP2, HQ2, by omega, by rw [ByteArray.size_append, hsz]; show 1 + i = i + 1; omega, HS2, rfl, rfl, rfl, unhide HB2⟩
      · have hq0 : 0 < q := by omega
        clear hr hq2 hc
        go_wp2
        go_roundg (7 - (i + 1))
        case measure => omega
        case rel => exact ⟨i + 1, q2, _, unhide HR, HP2, HQ2, by omega, by rw [ByteArray.size_append, hsz]; show 1 + i = i + 1; omega, HS2, rfl, rfl, rfl, unhide HB2⟩
    · have HD := hide (show_done hn (unhide HP) (by rw [← unhide HQ]; omega) (by omega) hi)
      go_wp2
      go_ret2
      exact ⟨by rw [unhide HS0, ← unhide HD, ← unhide HSS]; rfl, unhide HB⟩
end Go.Proofs.YtnabbahdmajfpaaGreatDoor

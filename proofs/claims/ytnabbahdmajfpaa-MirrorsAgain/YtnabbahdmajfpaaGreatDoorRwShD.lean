/-
  The program's Show, of every number that has one.
-/
import Derived.Test.YtnabbahdmajfpaaGreatDoorRwShB
import Derived.Test.YtnabbahdmajfpaaGreatDoorRwShC
import Derived.Test.YtnabbahdmajfpaaGreatDoorRwShelf2
namespace Go.Proofs.YtnabbahdmajfpaaGreatDoor
open Go.RowKit Go.PlainAid Go.Lib Go.Shelf Go.PHexM
set_option linter.unusedVariables false

theorem hexUp_pad (m c n : Nat) (h : n < 16 ^ m) : hexUp (m + c) n = List.replicate c 48 ++ hexUp m n := by
  induction c with
  | zero => simp
  | succ c ih =>
    have h1 : n / 16 ^ (m + c) = 0 := Nat.div_eq_of_lt (Nat.lt_of_lt_of_le h (Nat.pow_le_pow_right (by omega) (by omega)))
    show hexUp (m + c + 1) n = _
    rw [hexUp, ih, h1, List.replicate_succ]
    rfl
theorem showLen_of {n k : Nat} (hn : n ≤ 1114111) (h1 : n < 16 ^ (k + 1)) (h2 : k = 0 ∨ 16 ^ k ≤ n) : showLen n = (k + 1) + (4 - (k + 1)) ∧ k ≤ 5 := by
  have hk : k ≤ 5 := by
    rcases Nat.lt_or_ge k 6 with h | h
    · omega
    · rcases h2 with h2 | h2
      · omega
      · have : 16 ^ 6 ≤ 16 ^ k := Nat.pow_le_pow_right (by omega) h
        omega
  refine ⟨?_, hk⟩
  unfold showLen
  have : k = 0 ∨ k = 1 ∨ k = 2 ∨ k = 3 ∨ k = 4 ∨ k = 5 := by omega
  rcases this with rfl | rfl | rfl | rfl | rfl | rfl <;> simp only [Nat.reducePow, Nat.reduceAdd] at h1 h2
  · rw [if_pos (by omega)]
  · rw [if_pos (by omega)]
  · rw [if_pos (by omega)]
  · rw [if_pos (by omega)]
  · rw [if_neg (by omega), if_pos (by omega)]
  · rw [if_neg (by omega), if_neg (by omega)]
theorem lowDg_up : ∀ d : Fin 16, Lib.toUpperA [lowDg d.val] = [dgt d.val] ∧ (lowDg d.val).toNat < 128 := by decide
theorem lowUp_up (k n : Nat) : Lib.toUpperA (lowUp k n) = hexUp k n := by
  induction k with
  | zero => rfl
  | succ k ih =>
    have h := (lowDg_up ⟨n / 16 ^ k % 16, Nat.mod_lt _ (by omega)⟩).1
    have e : ∀ (b : UInt8) l, Lib.toUpperA (b :: l) = Lib.toUpperA [b] ++ Lib.toUpperA l := fun b l => rfl
    rw [lowUp, hexUp, e, ih, h]
    rfl
theorem lowUp_ascii (k n : Nat) : ∀ (j : Nat) (b : UInt8), (lowUp k n)[j]? = some b → b.toNat < 128 := by
  induction k with
  | zero => intro j b h; simp [lowUp] at h
  | succ k ih =>
    intro j b h
    cases j with
    | zero =>
      have h' := (lowDg_up ⟨n / 16 ^ k % 16, Nat.mod_lt _ (by omega)⟩).2
      simp [lowUp] at h
      rw [← h]; exact h'
    | succ j => exact ih j b (by simpa [lowUp] using h)
theorem toUp_any (k n : Nat) (hk : k ≤ 5) (w : World) :
    Calls Tryz.prog 74 #[.string ⟨(lowUp (k + 1) n).toArray⟩] w fun e w' => e = .returned (.string (hexS (k + 1) n)) ∧ Below w.heap.size w w' := by
  have h := Tryz.strings_ToUpper_ascii ⟨(lowUp (k + 1) n).toArray⟩ w (by show (lowUp (k + 1) n).toArray.size ≤ _; simp [lowUp_len]; omega) (fun j b hb => lowUp_ascii (k + 1) n j b (by simpa using hb))
  have e : (⟨(lowUp (k + 1) n).toArray⟩ : ByteArray).data.toList = lowUp (k + 1) n := by simp
  rw [e, lowUp_up] at h
  exact h
theorem rep_any (c : Nat) (hc : c ≤ 4) (w : World) :
    Calls Tryz.prog 76 #[.string ⟨#[48]⟩, .int .i64 (c : Int)] w fun e w' => e = .returned (.string ⟨(List.replicate c 48).toArray⟩) ∧ Below w.heap.size w w' := by
  have h := Tryz.strings_Repeat ⟨#[48]⟩ c w (by omega) (by show 1 * c ≤ _; omega)
  have e : Lib.repeatL (⟨#[48]⟩ : ByteArray).data.toList c = List.replicate c 48 := by
    clear h hc
    induction c with
    | zero => rfl
    | succ c ih => rw [Lib.repeatL, ih, List.replicate_succ]; rfl
  rw [e] at h
  exact h

set_option maxRecDepth 100000 in
set_option maxHeartbeats 2000000 in
theorem show_any (n : Nat) (hn : n ≤ 1114111) (w : World) (hg : tz16At w) :
    Calls Tryz.prog 61 #[.int .i32 (n : Int)] w fun e w' => e = .returned (.tuple #[.string (hexS (showLen n) n), .int .i64 0]) ∧ Below w.heap.size w w' := by
  obtain ⟨S0, hS0⟩ : ∃ S0, S0 = hexS (showLen n) n := ⟨_, rfl⟩
  rw [← hS0]
  have HS0 := hide hS0
  clear hS0
  have HF := hide (fmtInt_16 n hn w hg)
  clear hg
  go_enter Tryz.func61, Tryz.ntmps61
  go_wp2_with fail
  refine (unhide HF).mono ?_
  rintro e w1 ⟨⟨k, h1, h2, rfl⟩, hb1⟩
  have hL := showLen_of hn h1 h2
  have hk := hL.2
  have HU := hide (toUp_any k n hk w1)
  have HP := hide (hexUp_pad (k + 1) (4 - (k + 1)) n h1)
  have HL := hide hL.1
  have HB1 := hide hb1
  clear h1 h2 hL hb1
  go_wp2_with fail
  refine (unhide HU).mono ?_
  rintro e w2 ⟨rfl, hb2⟩
  have HB2 := hide ((unhide HB1).trans (hb2.mono (unhide HB1).size))
  clear hb2
  have hsz := hexS_size (k + 1) n
  obtain ⟨S, hS⟩ : ∃ S, S = hexS (k + 1) n := ⟨_, rfl⟩
  rw [← hS] at hsz ⊢
  have HS := hide hS
  clear hS
  obtain ⟨c, hc⟩ : ∃ c, c = 4 - (k + 1) := ⟨_, rfl⟩
  have hc4 : c ≤ 4 := by omega
  have HR := hide (rep_any c hc4)
  have emax : max 0 (4 - ((k : Int) + 1)) = (c : Int) := by omega
  have HC := hide hc
  clear hc
  go_wp2_with fail
  refine (unhide HR w2).mono ?_
  rintro e w3 ⟨rfl, hb3⟩
  have HB3 := hide ((unhide HB2).trans (hb3.mono (unhide HB2).size))
  clear hb3
  obtain ⟨R, hR⟩ : ∃ R, R = (⟨(List.replicate c 48).toArray⟩ : ByteArray) := ⟨_, rfl⟩
  have hRz : R.size = c := by rw [hR]; show (List.replicate c (48 : UInt8)).toArray.size = c; simp
  rw [← hR]
  have HE : Hid (R ++ S = S0) := by
    show R ++ S = S0
    rw [unhide HS0, unhide HL, unhide HS, hR, unhide HC]
    apply ByteArray.ext
    rw [ByteArray.data_append]
    show _ = (hexUp (k + 1 + (4 - (k + 1))) n).toArray
    rw [unhide HP]
    simp [hexS]
  clear hR
  go_wp2
  go_ret2
  exact ⟨by rw [← unhide HE]; rfl, unhide HB3⟩
theorem show_no (r : Int) (hr : r < 0 ∨ 1114111 < r) (w : World) :
    Calls Tryz.prog 61 #[.int .i32 r] w fun e w' => e = .returned (.tuple #[.string ⟨#[]⟩, .int .i64 40]) ∧ w' = w := by
  rcases hr with h | h
  · go_enter Tryz.func61, Tryz.ntmps61
    go_wp2
    go_ret2
    exact ⟨rfl, rfl⟩
  · have h0 : 0 ≤ r := by omega
    go_enter Tryz.func61, Tryz.ntmps61
    go_wp2
    go_ret2
    exact ⟨rfl, rfl⟩
theorem refShow_no (r : Int) (hr : r < 0 ∨ 1114111 < r) (w : World) :
    Calls Tryz.prog 42 #[.int .i32 r] w fun e w' => e = .returned (.tuple #[.string ⟨#[]⟩, .int .i64 40]) ∧ w' = w := by
  rcases hr with h | h
  · go_enter Tryz.func42, Tryz.ntmps42
    go_wp2
    go_ret2
    exact ⟨rfl, rfl⟩
  · have h0 : 0 ≤ r := by omega
    go_enter Tryz.func42, Tryz.ntmps42
    go_wp2
    go_ret2
    exact ⟨rfl, rfl⟩
end Go.Proofs.YtnabbahdmajfpaaGreatDoor

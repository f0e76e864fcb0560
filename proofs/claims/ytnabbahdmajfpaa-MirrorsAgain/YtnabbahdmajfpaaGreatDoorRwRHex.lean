/-
  The document's Digit and Read, of every text: what the program's digit and Hex say.
-/
import Derived.Test.YtnabbahdmajfpaaGreatDoorRwHex
namespace Go.Proofs.YtnabbahdmajfpaaGreatDoor
open Go.RowKit Go.PlainAid Go.Lib Go.PHexM
set_option linter.unusedVariables false

/-- the byte of a digit -/
def digAt (j : Nat) : Nat := if j < 10 then 48 + j else 55 + j
theorem dig_at {b : UInt8} {i : Nat} (hi : i < 16) (h : digAt i = b.toNat) : dig b = some i := by
  unfold digAt at h
  split at h
  · rw [dig_low (by omega) (by omega)]; exact congrArg some (by omega)
  · rw [dig_high (by omega) (by omega)]; exact congrArg some (by omega)
theorem dig_nowhere {b : UInt8} (h : ∀ j, j < 16 → ¬ digAt j = b.toNat) : dig b = none := by
  apply dig_not
  by_cases c1 : b.toNat < 48
  · exact .inl c1
  by_cases c2 : b.toNat ≤ 57
  · exact absurd (by unfold digAt; rw [if_pos (by omega)]; omega) (h (b.toNat - 48) (by omega))
  by_cases c3 : b.toNat < 65
  · exact .inr (.inl ⟨by omega, c3⟩)
  by_cases c4 : b.toNat ≤ 70
  · exact absurd (by unfold digAt; rw [if_neg (by omega)]; omega) (h (b.toNat - 55) (by omega))
  · exact .inr (.inr (by omega))
theorem lit_at (i : Nat) (h : i < (⟨#[48, 49, 50, 51, 52, 53, 54, 55, 56, 57, 65, 66, 67, 68, 69, 70]⟩ : ByteArray).size) : ((⟨#[48, 49, 50, 51, 52, 53, 54, 55, 56, 57, 65, 66, 67, 68, 69, 70]⟩ : ByteArray)[i]'h).toNat = digAt i := by
  have : ∀ i : Fin 16, ((#[48, 49, 50, 51, 52, 53, 54, 55, 56, 57, 65, 66, 67, 68, 69, 70] : Array UInt8)[i.val]'i.isLt).toNat = digAt i.val := by decide
  exact this ⟨i, h⟩

def refDigV (b : UInt8) : Int := match dig b with
  | some d => d
  | none => -1
theorem refDigit_any (b : UInt8) (w : World) :
    Calls Tryz.prog 57 #[.int .u8 (b.toNat : Int)] w fun e w' => e = .returned (.int .i64 (refDigV b)) ∧ w' = w := by
  go_enter Tryz.func57, Tryz.ntmps57
  go_wp2
  go_loopg [3] 16 (fun kx s3 wr => ∃ i : Nat, i ≤ 16 ∧ s3 = .int .i64 i ∧ kx = 16 - i ∧ wr = w ∧ ∀ j, j < i → ¬ digAt j = b.toNat)
  case atStart => exact ⟨0, by omega, rfl, rfl, rfl, fun j hj => by omega⟩
  case round =>
    obtain ⟨i, hi, rfl, rfl, rfl, hno⟩ := hrel
    have HNO := hide hno
    clear hno
    by_cases hlt : i < 16
    · have hat := lit_at i hlt
      by_cases heq : digAt i = b.toNat
      · have HV : Hid (refDigV b = (i : Int)) := by
          show refDigV b = _
          rw [refDigV, dig_at hlt heq]
        rw [heq] at hat
        go_wp2
        go_ret
        exact ⟨by rw [unhide HV]; rfl, rfl⟩
      · have heq' : (((digAt i : Nat) : Int) == (b.toNat : Int)) = false := by
          rw [beq_eq_false_iff_ne]
          omega
        have HEQ := hide heq
        clear heq
        go_wp2
        go_roundg (16 - (i + 1))
        case measure => omega
        case rel =>
          refine ⟨i + 1, by omega, rfl, rfl, rfl, fun j hj => ?_⟩
          rcases Nat.lt_succ_iff_lt_or_eq.1 hj with h | rfl
          · exact unhide HNO j h
          · exact unhide HEQ
    · obtain rfl : i = 16 := by omega
      have HV : Hid (refDigV b = -1) := by
        show refDigV b = _
        rw [refDigV, dig_nowhere (unhide HNO)]
      go_wp2
      go_ret
      exact ⟨by rw [unhide HV]; rfl, rfl⟩

theorem refDigit_some {b : UInt8} {d : Nat} (h : dig b = some d) (w : World) :
    Calls Tryz.prog 57 #[.int .u8 (b.toNat : Int)] w fun e w' => e = .returned (.int .i64 d) ∧ w' = w := by
  have := refDigit_any b w
  rwa [refDigV, h] at this
theorem refDigit_none {b : UInt8} (h : dig b = none) (w : World) :
    Calls Tryz.prog 57 #[.int .u8 (b.toNat : Int)] w fun e w' => e = .returned (.int .i64 (-1)) ∧ w' = w := by
  have := refDigit_any b w
  rwa [refDigV, h] at this

theorem refRead_any4 (s : ByteArray) (w : World) :
    Calls Tryz.prog 34 #[.string s] w fun e w' => e = .returned (hexV s.data.toList) ∧ w' = w := by
  have hsz : s.data.toList.length = s.size := by simp
  by_cases a : s.size < 4
  · have HV := hide (hexV_none (hexP_short (l := s.data.toList) (by unfold longOk; rw [hsz]; simp; omega)))
    clear hsz
    go_enter Tryz.func34, Tryz.ntmps34
    go_wp2
    go_ret2
    exact ⟨congrArg _ (unhide HV).symm, rfl⟩
  by_cases b : 6 < s.size
  · have HV := hide (hexV_none (hexP_short (l := s.data.toList) (by unfold longOk; rw [hsz]; simp; omega)))
    clear hsz
    go_enter Tryz.func34, Tryz.ntmps34
    go_wp2
    go_ret2
    exact ⟨congrArg _ (unhide HV).symm, rfl⟩
  have h0 : 0 < s.size := by omega
  have h4 : 4 ≤ s.size := by omega
  have h6 : s.size ≤ 6 := by omega
  have hh : s.data.toList.head? = some s[0] := by
    rw [List.head?_eq_getElem?, Array.getElem?_toList]
    exact Array.getElem?_eq_getElem (by simpa using h0)
  have HH := hide (⟨hsz, hh⟩ : _ ∧ _)
  clear hsz hh a b
  go_enter Tryz.func34, Tryz.ntmps34
  go_wp2
  go_loopg [4, 5] s.size (fun kx s4 s5 wr => ∃ (i n : Nat), i ≤ s.size ∧ s5 = .int .i64 i ∧ digs (s.data.toList.take i) 0 = some n ∧ s4 = .int .i64 n ∧ kx = s.size - i ∧ wr = w)
  case atStart => exact ⟨0, 0, by omega, rfl, rfl, rfl, by omega, rfl⟩
  case round =>
    obtain ⟨i, n, hi, rfl, hn, rfl, rfl, rfl⟩ := hrel
    by_cases hlt : i < s.size
    · have hb : s.data.toList[i]? = some s[i] := by
        rw [Array.getElem?_toList]
        exact Array.getElem?_eq_getElem (by simpa using hlt)
      cases hd : dig s[i] with
      | none =>
        have HD := hide (refDigit_none hd)
        have HV := hide (hexV_none (hexP_stop hb hd))
        clear hb hd hn
        go_wp2_with (go_at_call 57; refine (unhide HD _).mono ?_; rintro e w' ⟨rfl, rfl⟩)
        go_ret2
        exact ⟨congrArg _ (unhide HV).symm, rfl⟩
      | some d =>
        have HD := hide (refDigit_some hd)
        have HN := hide (digs_next hb hd hn)
        have hnl := hexN_lt hn (by omega : i < 6)
        have hdl := dig_lt hd
        clear hb hd hn
        go_wp2_with (go_at_call 57; refine (unhide HD _).mono ?_; rintro e w' ⟨rfl, rfl⟩)
        go_roundg (s.size - (i + 1))
        case measure => omega
        case rel => exact ⟨i + 1, n * 16 + d, by omega, rfl, unhide HN, congrArg (Value.int .i64) (by omega), rfl, rfl⟩
    · have hn' : digs s.data.toList 0 = some n := by rwa [List.take_of_length_le (by simpa using Nat.le_of_not_lt hlt)] at hn
      clear hn
      by_cases hb : 1114111 < n
      · have HV := hide (hexV_none (hexP_far hn' hb))
        clear hn'
        go_wp2
        go_ret2
        exact ⟨congrArg _ (unhide HV).symm, rfl⟩
      · have hnl : n ≤ 1114111 := by omega
        have q : IntKind.i32.wrap (n : Int) = (n : Int) := by rw [IntKind.wrap_i32]; omega
        by_cases c : 4 < s.size
        · by_cases c0 : s[0].toNat = 48
          · have e0 : s[0] = 48 := UInt8.toNat_inj.1 c0
            have HV := hide (hexV_none (hexP_short (l := s.data.toList) (by unfold longOk; rw [(unhide HH).1, (unhide HH).2, e0]; simp; omega)))
            have c2 : ((s[0].toNat : Int) == 48) = true := by rw [c0]; rfl
            clear hn' e0 c0 hb
            go_wp2
            go_ret2
            exact ⟨congrArg _ (unhide HV).symm, rfl⟩
          · have hl : longOk s.data.toList = true := by
              unfold longOk
              rw [(unhide HH).1, (unhide HH).2]
              have : ¬ s[0] = 48 := fun h => c0 (by rw [h]; rfl)
              simp [this]; omega
            have HV := hide (hexV_some (hexP_is hl hn' hb))
            have c2 : ((s[0].toNat : Int) == 48) = false := by rw [beq_eq_false_iff_ne]; omega
            clear hn' c0 hb hl
            go_wp2
            go_ret2
            exact ⟨congrArg _ (unhide HV).symm, rfl⟩
        · have hl : longOk s.data.toList = true := by
            unfold longOk
            rw [(unhide HH).1, (unhide HH).2]
            simp [c]; omega
          have HV := hide (hexV_some (hexP_is hl hn' hb))
          clear hn' hb hl
          go_wp2
          go_ret2
          exact ⟨congrArg _ (unhide HV).symm, rfl⟩
end Go.Proofs.YtnabbahdmajfpaaGreatDoor

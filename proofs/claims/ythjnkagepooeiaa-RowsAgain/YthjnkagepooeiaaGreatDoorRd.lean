/-
  These texts, one behind the other: RwRHex, RwRn, RwRnM, RwRp, RwRpM, RwRm, RChars, RwRc.
-/
import Derived.Test.YthjnkagepooeiaaGreatDoorRwHex
import Derived.Test.YthjnkagepooeiaaGreatDoorRwM
import Derived.Test.YthjnkagepooeiaaGreatDoorLRead
import Derived.Test.YthjnkagepooeiaaGreatDoorMixW
import Derived.BigQuiet
import Derived.Lib.IndexBytes
import Derived.Lib.CountLaws
import Derived.Test.YthjnkagepooeiaaGreatDoorRwP
import Derived.Test.YthjnkagepooeiaaGreatDoorLCheck
/-
  The document's Digit and Read, of every text: what the program's digit and Hex say.
-/
namespace Go.Proofs.YthjnkagepooeiaaGreatDoor
open Go.RowKit Go.PlainAid Go.Lib Go.PHexM
set_option linter.unusedVariables false

/-- the byte of a digit -/
def digAt (j : Nat) : Nat := if j < 10 then 48 + j else 55 + j
theorem dig_at {b : UInt8} {i : Nat} (hi : i < 16) (h : digAt i = b.toNat) : dig b = some i := by
  unfold digAt at h
  split at h
  · rw [dig_low (by omega) (by omega)]; exact congrArg some (by omega)
  · rw [dig_high (by omega) (by omega)]; exact congrArg some (by omega)
theorem dig_nowhere {b : UInt8} (h : ∀ j, j < 16 → ¬ digAt j = b.toNat) : dig b = none := by
  apply dig_not
  by_cases c1 : b.toNat < 48
  · exact .inl c1
  by_cases c2 : b.toNat ≤ 57
  · exact absurd (by unfold digAt; rw [if_pos (by omega)]; omega) (h (b.toNat - 48) (by omega))
  by_cases c3 : b.toNat < 65
  · exact .inr (.inl ⟨by omega, c3⟩)
  by_cases c4 : b.toNat ≤ 70
  · exact absurd (by unfold digAt; rw [if_neg (by omega)]; omega) (h (b.toNat - 55) (by omega))
  · exact .inr (.inr (by omega))
theorem lit_at (i : Nat) (h : i < (⟨#[48, 49, 50, 51, 52, 53, 54, 55, 56, 57, 65, 66, 67, 68, 69, 70]⟩ : ByteArray).size) : ((⟨#[48, 49, 50, 51, 52, 53, 54, 55, 56, 57, 65, 66, 67, 68, 69, 70]⟩ : ByteArray)[i]'h).toNat = digAt i := by
  have : ∀ i : Fin 16, ((#[48, 49, 50, 51, 52, 53, 54, 55, 56, 57, 65, 66, 67, 68, 69, 70] : Array UInt8)[i.val]'i.isLt).toNat = digAt i.val := by decide
  exact this ⟨i, h⟩

def refDigV (b : UInt8) : Int := match dig b with
  | some d => d
  | none => -1
theorem refDigit_any (b : UInt8) (w : World) :
    Calls Tryz.prog 62 #[.int .u8 (b.toNat : Int)] w fun e w' => e = .returned (.int .i64 (refDigV b)) ∧ w' = w := by
  go_enter Tryz.func62, Tryz.ntmps62
  go_wp2
  go_loopg [3] 16 (fun kx s3 wr => ∃ i : Nat, i ≤ 16 ∧ s3 = .int .i64 i ∧ kx = 16 - i ∧ wr = w ∧ ∀ j, j < i → ¬ digAt j = b.toNat)
  case atStart => exact ⟨0, by omega, rfl, rfl, rfl, fun j hj => by omega⟩
  case round =>
    obtain ⟨i, hi, rfl, rfl, rfl, hno⟩ := hrel
    have HNO := hide hno
    clear hno
    by_cases hlt : i < 16
    · have hat := lit_at i hlt
      by_cases heq : digAt i = b.toNat
      · have HV : Hid (refDigV b = (i : Int)) := by
          show refDigV b = _
          rw [refDigV, dig_at hlt heq]
        rw [heq] at hat
        go_wp2
        go_ret
        exact ⟨by rw [unhide HV]; rfl, rfl⟩
      · have heq' : (((digAt i : Nat) : Int) == (b.toNat : Int)) = false := by
          rw [beq_eq_false_iff_ne]
          omega
        have HEQ := hide heq
        clear heq
        go_wp2
        go_roundg (16 - (i + 1))
        case measure => omega
        case rel =>
          refine ⟨i + 1, by omega, rfl, rfl, rfl, fun j hj => ?_⟩
          rcases Nat.lt_succ_iff_lt_or_eq.1 hj with h | rfl
          · exact unhide HNO j h
          · exact unhide HEQ
    · obtain rfl : i = 16 := by omega
      have HV : Hid (refDigV b = -1) := by
        show refDigV b = _
        rw [refDigV, dig_nowhere (unhide HNO)]
      go_wp2
      go_ret
      exact ⟨by rw [unhide HV]; rfl, rfl⟩

theorem refDigit_some {b : UInt8} {d : Nat} (h : dig b = some d) (w : World) :
    Calls Tryz.prog 62 #[.int .u8 (b.toNat : Int)] w fun e w' => e = .returned (.int .i64 d) ∧ w' = w := by
  have := refDigit_any b w
  rwa [refDigV, h] at this
theorem refDigit_none {b : UInt8} (h : dig b = none) (w : World) :
    Calls Tryz.prog 62 #[.int .u8 (b.toNat : Int)] w fun e w' => e = .returned (.int .i64 (-1)) ∧ w' = w := by
  have := refDigit_any b w
  rwa [refDigV, h] at this

theorem refRead_any4 (s : ByteArray) (w : World) :
    Calls Tryz.prog 33 #[.string s] w fun e w' => e = .returned (hexV s.data.toList) ∧ w' = w := by
  have hsz : s.data.toList.length = s.size := by simp
  by_cases a : s.size < 4
  · have HV := hide (hexV_none (hexP_short (l := s.data.toList) (by unfold longOk; rw [hsz]; simp; omega)))
    clear hsz
    go_enter Tryz.func33, Tryz.ntmps33
    go_wp2
    go_ret2
    exact ⟨congrArg _ (unhide HV).symm, rfl⟩
  by_cases b : 6 < s.size
  · have HV := hide (hexV_none (hexP_short (l := s.data.toList) (by unfold longOk; rw [hsz]; simp; omega)))
    clear hsz
    go_enter Tryz.func33, Tryz.ntmps33
    go_wp2
    go_ret2
    exact ⟨congrArg _ (unhide HV).symm, rfl⟩
  have h0 : 0 < s.size := by omega
  have h4 : 4 ≤ s.size := by omega
  have h6 : s.size ≤ 6 := by omega
  have hh : s.data.toList.head? = some s[0] := by
    rw [List.head?_eq_getElem?, Array.getElem?_toList]
    exact Array.getElem?_eq_getElem (by simpa using h0)
  have HH := hide (⟨hsz, hh⟩ : _ ∧ _)
  clear hsz hh a b
  go_enter Tryz.func33, Tryz.ntmps33
  go_wp2
  go_loopg [4, 5] s.size (fun kx s4 s5 wr => ∃ (i n : Nat), i ≤ s.size ∧ s5 = .int .i64 i ∧ digs (s.data.toList.take i) 0 = some n ∧ s4 = .int .i64 n ∧ kx = s.size - i ∧ wr = w)
  case atStart => exact ⟨0, 0, by omega, rfl, rfl, rfl, by omega, rfl⟩
  case round =>
    obtain ⟨i, n, hi, rfl, hn, rfl, rfl, rfl⟩ := hrel
    by_cases hlt : i < s.size
    · have hb : s.data.toList[i]? = some s[i] := by
        rw [Array.getElem?_toList]
        exact Array.getElem?_eq_getElem (by simpa using hlt)
      cases hd : dig s[i] with
      | none =>
        have HD := hide (refDigit_none hd)
        have HV := hide (hexV_none (hexP_stop hb hd))
        clear hb hd hn
        go_wp2_with (go_at_call 62; refine (unhide HD _).mono ?_; rintro e w' ⟨rfl, rfl⟩)
        go_ret2
        exact ⟨congrArg _ (unhide HV).symm, rfl⟩
      | some d =>
        have HD := hide (refDigit_some hd)
        have HN := hide (digs_next hb hd hn)
        have hnl := hexN_lt hn (by omega : i < 6)
        have hdl := dig_lt hd
        clear hb hd hn
        go_wp2_with (go_at_call 62; refine (unhide HD _).mono ?_; rintro e w' ⟨rfl, rfl⟩)
        go_roundg (s.size - (i + 1))
        case measure => omega
        case rel => exact ⟨i + 1, n * 16 + d, by omega, rfl, unhide HN, congrArg (Value.int .i64) (by omega), rfl, rfl⟩
    · have hn' : digs s.data.toList 0 = some n := by rwa [List.take_of_length_le (by simpa using Nat.le_of_not_lt hlt)] at hn
      clear hn
      by_cases hb : 1114111 < n
      · have HV := hide (hexV_none (hexP_far hn' hb))
        clear hn'
        go_wp2
        go_ret2
        exact ⟨congrArg _ (unhide HV).symm, rfl⟩
      · have hnl : n ≤ 1114111 := by omega
        have q : IntKind.i32.wrap (n : Int) = (n : Int) := by rw [IntKind.wrap_i32]; omega
        by_cases c : 4 < s.size
        · by_cases c0 : s[0].toNat = 48
          · have e0 : s[0] = 48 := UInt8.toNat_inj.1 c0
            have HV := hide (hexV_none (hexP_short (l := s.data.toList) (by unfold longOk; rw [(unhide HH).1, (unhide HH).2, e0]; simp; omega)))
            have c2 : ((s[0].toNat : Int) == 48) = true := by rw [c0]; rfl
            clear hn' e0 c0 hb
            go_wp2
            go_ret2
            exact ⟨congrArg _ (unhide HV).symm, rfl⟩
          · have hl : longOk s.data.toList = true := by
              unfold longOk
              rw [(unhide HH).1, (unhide HH).2]
              have : ¬ s[0] = 48 := fun h => c0 (by rw [h]; rfl)
              simp [this]; omega
            have HV := hide (hexV_some (hexP_is hl hn' hb))
            have c2 : ((s[0].toNat : Int) == 48) = false := by rw [beq_eq_false_iff_ne]; omega
            clear hn' c0 hb hl
            go_wp2
            go_ret2
            exact ⟨congrArg _ (unhide HV).symm, rfl⟩
        · have hl : longOk s.data.toList = true := by
            unfold longOk
            rw [(unhide HH).1, (unhide HH).2]
            simp [c]; omega
          have HV := hide (hexV_some (hexP_is hl hn' hb))
          clear hn' hb hl
          go_wp2
          go_ret2
          exact ⟨congrArg _ (unhide HV).symm, rfl⟩
end Go.Proofs.YthjnkagepooeiaaGreatDoor
/-
  The document's number from 0 to 254.
-/
namespace Go.Proofs.YthjnkagepooeiaaGreatDoor
open Go.RowKit Go.PlainAid Go.Lib Go.PHexM
set_option linter.unusedVariables false

def decF : List UInt8 → Nat → Option Nat
  | [], n => some n
  | b :: l, n => if 48 ≤ b.toNat ∧ b.toNat ≤ 57 then decF l (10 * n + (b.toNat - 48)) else none
def numD (l : List UInt8) : Int :=
  if l.length = 0 ∨ 3 < l.length ∨ (1 < l.length ∧ l.head? = some 48) then -1 else
  match decF l 0 with
  | some n => if 254 < n then -1 else n
  | none => -1

set_option maxRecDepth 100000 in
set_option maxHeartbeats 2000000 in
theorem refNumber_any (s : ByteArray) (w : World) :
    Calls Tryz.prog 35 #[.string s] w fun e w' => e = .returned (.int .i64 (numD s.data.toList)) ∧ w' = w := by
  have hsz : s.data.toList.length = s.size := by simp
  by_cases a0 : s.size = 0
  · have hE : s = ⟨#[]⟩ := by obtain ⟨d⟩ := s; congr 1; exact Array.eq_empty_of_size_eq_zero a0
    subst hE
    go_enter Tryz.func35, Tryz.ntmps35
    go_wp2
    go_ret
    exact ⟨rfl, rfl⟩
  have hne : (s.toList == []) = false := by
    rw [ByteArray.toList_eq]
    cases h : s.data.toList with
    | nil => rw [h] at hsz; exact absurd hsz.symm a0
    | cons x l => rfl
  by_cases a3 : 3 < s.size
  · have HV : Hid (numD s.data.toList = -1) := by
      show _ = _
      unfold numD
      rw [if_pos (by rw [hsz]; exact .inr (.inl a3))]
    clear hsz
    go_enter Tryz.func35, Tryz.ntmps35
    go_wp2
    go_ret
    exact ⟨by rw [unhide HV]; rfl, rfl⟩
  have h0 : 0 < s.size := by omega
  have hh : s.data.toList.head? = some s[0] := by
    rw [List.head?_eq_getElem?, Array.getElem?_toList]
    exact Array.getElem?_eq_getElem (by simpa using h0)
  by_cases a1 : 1 < s.size ∧ s[0].toNat = 48
  · obtain ⟨a1, b0⟩ := a1
    have e0 : s[0] = 48 := UInt8.toNat_inj.1 b0
    have HV : Hid (numD s.data.toList = -1) := by
      show _ = _
      unfold numD
      rw [if_pos (by rw [hsz, hh, e0]; exact .inr (.inr ⟨a1, rfl⟩))]
    have c2 : ((s[0].toNat : Int) == 48) = true := by rw [b0]; rfl
    clear hsz hh e0 b0
    go_enter Tryz.func35, Tryz.ntmps35
    go_wp2
    go_ret
    exact ⟨by rw [unhide HV]; rfl, rfl⟩
  have HV : Hid (numD s.data.toList = match decF s.data.toList 0 with | some n => if 254 < n then -1 else (n : Int) | none => -1) := by
    show _ = _
    unfold numD
    rw [if_neg]
    rw [hsz, hh]
    rintro (h | h | ⟨h1, h2⟩)
    · omega
    · omega
    · exact a1 ⟨h1, by rw [Option.some.inj h2]; rfl⟩
  have HS := hide hsz
  clear hsz hh
  by_cases b1 : 1 < s.size
  · have c2 : ((s[0].toNat : Int) == 48) = false := by
      rw [beq_eq_false_iff_ne]
      intro h
      exact a1 ⟨b1, by omega⟩
    clear a1 a0
    go_enter Tryz.func35, Tryz.ntmps35
    go_wp2
    go_loopg [3, 4] s.size (fun kx s3 s4 wr => ∃ (i n : Nat), i ≤ s.size ∧ s4 = .int .i64 i ∧ Hid (decF s.data.toList 0 = decF (s.data.toList.drop i) n) ∧ s3 = .int .i64 n ∧ ((i = 0 ∧ n = 0) ∨ (i = 1 ∧ n ≤ 9) ∨ (i = 2 ∧ n ≤ 99) ∨ (i = 3 ∧ n ≤ 999)) ∧ kx = s.size - i ∧ wr = w)
    case atStart => exact ⟨0, 0, by omega, rfl, by show _ = _; rfl, rfl, by omega, by omega, rfl⟩
    case round =>
      obtain ⟨i, n, hi, rfl, HN, rfl, hin, rfl, rfl⟩ := hrel
      by_cases hlt : i < s.size
      · have hlt' : (i : Int) < (s.size : Int) := by omega
        have hb : s.data.toList.drop i = s[i] :: s.data.toList.drop (i + 1) := by
          rw [List.drop_eq_getElem_cons (by rw [unhide HS]; exact hlt)]
          rfl
        have hstep : decF (s.data.toList.drop i) n = if 48 ≤ s[i].toNat ∧ s[i].toNat ≤ 57 then decF (s.data.toList.drop (i + 1)) (10 * n + (s[i].toNat - 48)) else none := by rw [hb]; rfl
        obtain ⟨b, hbd⟩ : ∃ b : Nat, s[i].toNat = b := ⟨_, rfl⟩
        have hb256 : b < 256 := by rw [← hbd]; exact UInt8.toNat_lt _
        rw [hbd] at hstep
        by_cases c1 : b < 48
        · have HW : Hid (numD s.data.toList = -1) := by
            show _ = _
            rw [unhide HV, unhide HN, hstep, if_neg (by omega)]
          clear hb hstep HN HV
          go_wp2
          go_ret
          exact ⟨by rw [unhide HW]; rfl, rfl⟩
        · by_cases c3 : 57 < b
          · have HW : Hid (numD s.data.toList = -1) := by
              show _ = _
              rw [unhide HV, unhide HN, hstep, if_neg (by omega)]
            clear hb hstep HN HV
            go_wp2
            go_ret
            exact ⟨by rw [unhide HW]; rfl, rfl⟩
          · have HN' : Hid (decF s.data.toList 0 = decF (s.data.toList.drop (i + 1)) (10 * n + (b - 48))) := by
              show _ = _
              rw [unhide HN, hstep, if_pos (by omega)]
            have q1 : IntKind.u8.wrap ((b : Int) - 48) = (b : Int) - 48 := by rw [IntKind.wrap_u8]; omega
            have q2 : IntKind.i64.wrap ((b : Int) - 48) = (b : Int) - 48 := by rw [IntKind.wrap_i64]; omega
            have q3 : IntKind.i64.wrap (10 * (n : Int)) = 10 * (n : Int) := by rw [IntKind.wrap_i64]; omega
            have q4 : IntKind.i64.wrap (10 * (n : Int) + ((b : Int) - 48)) = 10 * (n : Int) + ((b : Int) - 48) := by rw [IntKind.wrap_i64]; omega
            have q5 : IntKind.i64.wrap ((i : Int) + 1) = (i : Int) + 1 := by rw [IntKind.wrap_i64]; omega
            clear hb hstep HN
            go_wp2
            go_roundg (s.size - (i + 1))
            case measure => omega
            case rel => exact ⟨i + 1, 10 * n + (b - 48), by omega, by first | rfl | exact congrArg (Value.int .i64) (by omega), unhide HN', congrArg (Value.int .i64) (by omega), by omega, rfl, rfl⟩
      · have hdn : s.data.toList.drop i = [] := List.drop_eq_nil_of_le (by rw [unhide HS]; omega)
        have hfin : decF s.data.toList 0 = some n := by rw [unhide HN, hdn]; rfl
        by_cases d1 : 254 < n
        · have HW : Hid (numD s.data.toList = -1) := by
            show _ = _
            rw [unhide HV, hfin]
            exact if_pos d1
          clear hdn hfin HN HV
          go_wp2
          go_ret
          exact ⟨by rw [unhide HW]; rfl, rfl⟩
        · have HW : Hid (numD s.data.toList = n) := by
            show _ = _
            rw [unhide HV, hfin]
            exact if_neg d1
          clear hdn hfin HN HV
          go_wp2
          go_ret
          exact ⟨by rw [unhide HW]; rfl, rfl⟩
  · clear a1 a0
    go_enter Tryz.func35, Tryz.ntmps35
    go_wp2
    go_loopg [3, 4] s.size (fun kx s3 s4 wr => ∃ (i n : Nat), i ≤ s.size ∧ s4 = .int .i64 i ∧ Hid (decF s.data.toList 0 = decF (s.data.toList.drop i) n) ∧ s3 = .int .i64 n ∧ ((i = 0 ∧ n = 0) ∨ (i = 1 ∧ n ≤ 9) ∨ (i = 2 ∧ n ≤ 99) ∨ (i = 3 ∧ n ≤ 999)) ∧ kx = s.size - i ∧ wr = w)
    case atStart => exact ⟨0, 0, by omega, rfl, by show _ = _; rfl, rfl, by omega, by omega, rfl⟩
    case round =>
      obtain ⟨i, n, hi, rfl, HN, rfl, hin, rfl, rfl⟩ := hrel
      by_cases hlt : i < s.size
      · have hlt' : (i : Int) < (s.size : Int) := by omega
        have hb : s.data.toList.drop i = s[i] :: s.data.toList.drop (i + 1) := by
          rw [List.drop_eq_getElem_cons (by rw [unhide HS]; exact hlt)]
          rfl
        have hstep : decF (s.data.toList.drop i) n = if 48 ≤ s[i].toNat ∧ s[i].toNat ≤ 57 then decF (s.data.toList.drop (i + 1)) (10 * n + (s[i].toNat - 48)) else none := by rw [hb]; rfl
        obtain ⟨b, hbd⟩ : ∃ b : Nat, s[i].toNat = b := ⟨_, rfl⟩
        have hb256 : b < 256 := by rw [← hbd]; exact UInt8.toNat_lt _
        rw [hbd] at hstep
        by_cases c1 : b < 48
        · have HW : Hid (numD s.data.toList = -1) := by
            show _ = _
            rw [unhide HV, unhide HN, hstep, if_neg (by omega)]
          clear hb hstep HN HV
          go_wp2
          go_ret
          exact ⟨by rw [unhide HW]; rfl, rfl⟩
        · by_cases c3 : 57 < b
          · have HW : Hid (numD s.data.toList = -1) := by
              show _ = _
              rw [unhide HV, unhide HN, hstep, if_neg (by omega)]
            clear hb hstep HN HV
            go_wp2
            go_ret
            exact ⟨by rw [unhide HW]; rfl, rfl⟩
          · have HN' : Hid (decF s.data.toList 0 = decF (s.data.toList.drop (i + 1)) (10 * n + (b - 48))) := by
              show _ = _
              rw [unhide HN, hstep, if_pos (by omega)]
            have q1 : IntKind.u8.wrap ((b : Int) - 48) = (b : Int) - 48 := by rw [IntKind.wrap_u8]; omega
            have q2 : IntKind.i64.wrap ((b : Int) - 48) = (b : Int) - 48 := by rw [IntKind.wrap_i64]; omega
            have q3 : IntKind.i64.wrap (10 * (n : Int)) = 10 * (n : Int) := by rw [IntKind.wrap_i64]; omega
            have q4 : IntKind.i64.wrap (10 * (n : Int) + ((b : Int) - 48)) = 10 * (n : Int) + ((b : Int) - 48) := by rw [IntKind.wrap_i64]; omega
            have q5 : IntKind.i64.wrap ((i : Int) + 1) = (i : Int) + 1 := by rw [IntKind.wrap_i64]; omega
            clear hb hstep HN
            go_wp2
            go_roundg (s.size - (i + 1))
            case measure => omega
            case rel => exact ⟨i + 1, 10 * n + (b - 48), by omega, by first | rfl | exact congrArg (Value.int .i64) (by omega), unhide HN', congrArg (Value.int .i64) (by omega), by omega, rfl, rfl⟩
      · have hdn : s.data.toList.drop i = [] := List.drop_eq_nil_of_le (by rw [unhide HS]; omega)
        have hfin : decF s.data.toList 0 = some n := by rw [unhide HN, hdn]; rfl
        by_cases d1 : 254 < n
        · exact absurd d1 (by omega)
        · have HW : Hid (numD s.data.toList = n) := by
            show _ = _
            rw [unhide HV, hfin]
            exact if_neg d1
          clear hdn hfin HN HV
          go_wp2
          go_ret
          exact ⟨by rw [unhide HW]; rfl, rfl⟩
end Go.Proofs.YthjnkagepooeiaaGreatDoor
/-
  The document's number is the program's.
-/
namespace Go.Proofs.YthjnkagepooeiaaGreatDoor
open Go.RowKit Go.PlainAid Go.Lib Go.PHexM
set_option linter.unusedVariables false

theorem dec_there : ((List.range 255).all fun u => decide (combP (decDigits u) = some u) && decide (numD (decDigits u) = (u : Int)) && decide ((decDigits u).length ≤ 3)) = true := by decide +kernel
def okL (l : List UInt8) : Bool := decide (numD l = -1) || decide (decDigits (numD l).toNat = l ∧ 0 ≤ numD l ∧ numD l ≤ 254)
abbrev dB (a : Nat) : UInt8 := UInt8.ofNat (48 + a)
theorem ok_one : ((List.range 10).all fun a => okL [dB a]) = true := by decide +kernel
theorem ok_two : ((List.range 10).all fun a => (List.range 10).all fun b => okL [dB a, dB b]) = true := by decide +kernel
theorem ok_three : ((List.range 10).all fun a => (List.range 10).all fun b => (List.range 10).all fun c => okL [dB a, dB b, dB c]) = true := by decide +kernel

theorem decF_dig {l : List UInt8} {n m : Nat} (h : decF l n = some m) : ∀ b ∈ l, ∃ a, a < 10 ∧ b = dB a := by
  induction l generalizing n with
  | nil => simp
  | cons x l ih =>
    unfold decF at h
    split at h
    · rename_i hx
      intro b hb
      rcases List.mem_cons.1 hb with rfl | hb
      · refine ⟨b.toNat - 48, by omega, UInt8.toNat_inj.1 ?_⟩
        rw [UInt8.toNat_ofNat']
        omega
      · exact ih h b hb
    · cases h

theorem ok_any (l : List UInt8) : okL l = true := by
  by_cases hm : numD l = -1
  · unfold okL; rw [hm]; rfl
  have h := hm
  unfold numD at h
  split at h
  · exact absurd rfl h
  rename_i hl
  cases hd : decF l 0 with
  | none => rw [hd] at h; exact absurd rfl h
  | some n =>
    have hdig := decF_dig hd
    have a1 := ok_one
    have a2 := ok_two
    have a3 := ok_three
    rw [List.all_eq_true] at a1 a2 a3
    match l, hl, hdig with
    | [], hl, _ => simp at hl
    | [x], _, hdig =>
      obtain ⟨a, ha, rfl⟩ := hdig x (by simp)
      exact a1 a (List.mem_range.2 ha)
    | [x, y], _, hdig =>
      obtain ⟨a, ha, rfl⟩ := hdig x (by simp)
      obtain ⟨b, hb, rfl⟩ := hdig y (by simp)
      exact List.all_eq_true.1 (a2 a (List.mem_range.2 ha)) b (List.mem_range.2 hb)
    | [x, y, z], _, hdig =>
      obtain ⟨a, ha, rfl⟩ := hdig x (by simp)
      obtain ⟨b, hb, rfl⟩ := hdig y (by simp)
      obtain ⟨c, hc, rfl⟩ := hdig z (by simp)
      exact List.all_eq_true.1 (List.all_eq_true.1 (a3 a (List.mem_range.2 ha)) b (List.mem_range.2 hb)) c (List.mem_range.2 hc)
    | _ :: _ :: _ :: _ :: _, hl, _ => simp at hl

theorem num_comb (l : List UInt8) : numD l = match combP l with | some u => (u : Int) | none => -1 := by
  have ht := dec_there
  rw [List.all_eq_true] at ht
  cases hc : combP l with
  | some u =>
    have hu : u ≤ 254 ∧ decDigits u = l := by
      unfold combP at hc
      split at hc
      · split at hc
        · rename_i h
          cases hc
          exact h
        · cases hc
      · cases hc
    have := ht u (List.mem_range.2 (by omega))
    simp only [Bool.and_eq_true, decide_eq_true_eq] at this
    rw [← hu.2]
    exact this.1.2
  | none =>
    have hk := ok_any l
    unfold okL at hk
    rw [Bool.or_eq_true, decide_eq_true_eq, decide_eq_true_eq] at hk
    rcases hk with h | ⟨h1, h2, h3⟩
    · exact h
    · have := ht (numD l).toNat (List.mem_range.2 (by omega))
      simp only [Bool.and_eq_true, decide_eq_true_eq] at this
      rw [h1, hc] at this
      exact absurd this.1.1 (by simp)
end Go.Proofs.YthjnkagepooeiaaGreatDoor
/-
  The document's pieces of a text between its blanks.
-/
namespace Go.Proofs.YthjnkagepooeiaaGreatDoor
open Go.RowKit Go.PlainAid Go.Lib Go.PHexM Go.Shelf
set_option linter.unusedVariables false

/-- a text's pieces between its blanks -/
def splC : List UInt8 → List (List UInt8)
  | [] => [[]]
  | b :: l => if b = 32 then [] :: splC l else match splC l with
    | h :: t => (b :: h) :: t
    | [] => [[b]]
def glueC (cur : List UInt8) : List (List UInt8) → List (List UInt8)
  | h :: t => (cur ++ h) :: t
  | [] => [cur]
theorem splC_ne (l : List UInt8) : splC l ≠ [] := by
  cases l with
  | nil => simp [splC]
  | cons b l => unfold splC; split; · simp
                cases splC l <;> simp
theorem glue_nil (l : List UInt8) : glueC [] (splC l) = splC l := by
  cases h : splC l with
  | nil => exact absurd h (splC_ne l)
  | cons x t => rfl
theorem glue_blank (cur l : List UInt8) : glueC cur (splC (32 :: l)) = cur :: glueC [] (splC l) := by
  rw [glue_nil]
  simp [splC, glueC]
theorem glue_step (cur l : List UInt8) (b : UInt8) (h : b ≠ 32) : glueC cur (splC (b :: l)) = glueC (cur ++ [b]) (splC l) := by
  cases hs : splC l with
  | nil => exact absurd hs (splC_ne l)
  | cons x t =>
    have e : splC (b :: l) = (b :: x) :: t := by
      rw [splC, if_neg h, hs]
    rw [e]
    simp [glueC]
theorem splC_len (l : List UInt8) : (splC l).length ≤ l.length + 1 := by
  induction l with
  | nil => simp [splC]
  | cons b l ih =>
    unfold splC
    split
    · simp; omega
    · cases hs : splC l with
      | nil => simp
      | cons x t => rw [hs] at ih; simpa using Nat.le_succ_of_le ih

theorem glue_end (cur : List UInt8) : glueC cur (splC []) = [cur] := by simp [splC, glueC]

set_option maxRecDepth 100000 in
set_option maxHeartbeats 4000000 in
theorem refPieces6_any (s : ByteArray) (w : World) (hs : s.size ≤ 1099511627776) :
    Calls Tryz.prog 65 #[.string s] w fun e w' => ∃ v, e = .returned v ∧ w'.ownsRow w.heap.size 9 1 v (splC (L s)).length (strVs ((splC (L s)).map S)) ∧ Below w.heap.size w w' := by
  obtain ⟨i0, hi0, hz0, hz1, hz2⟩ := info_parts infoStr
  go_enter Tryz.func65, Tryz.ntmps65
  go_wp2
  have hone : (w.alloc (.cells #[.string ⟨#[]⟩] 9)).ownsRow w.heap.size 9 1 (.slice (some ⟨w.heap.size, 0, none⟩) 1 1) 1 [.string ⟨#[]⟩] := by
    refine ⟨rfl, .inr ⟨w.heap.size, 1, #[.string ⟨#[]⟩], rfl, Nat.le_refl _, heap_alloc_new w _, Nat.le_refl _, by unfold maxLen; omega, rfl, rfl⟩⟩
  go_loopw [3, 4] (fun v3 v4 wr => ∃ (i : Nat) (pre : List (List UInt8)) (cur : List UInt8), i ≤ s.size ∧ v4 = .int .i64 i ∧ pre.length ≤ i ∧ cur.length ≤ i ∧ Hid (splC (L s) = pre ++ glueC cur (splC ((L s).drop i))) ∧ wr.ownsRow w.heap.size 9 1 v3 (pre.length + 1) (strVs ((pre ++ [cur]).map S)) ∧ Below w.heap.size w wr) (fun _ v4 _ => s.size - (RowKit.intOf v4).toNat)
  case atStart => exact ⟨0, [], [], Nat.zero_le _, rfl, Nat.le_refl _, Nat.le_refl _, by show _ = _; rw [List.drop_zero, glue_nil]; rfl, hone, (Below.refl _ w).alloc (Nat.le_refl _) _⟩
  case round =>
    clear hone
    obtain ⟨i, pre, cur, hi, rfl, hpl, hcl, HE, hrow, hB⟩ := hrel
    obtain ⟨g, cap, rfl⟩ := ownsRow_succ hrow
    by_cases hlt : i < s.size
    · have hv : (s[i]'hlt).toNat = bN s i := by rw [bN, get_in s i hlt]
      have hdr := drop_at s i hlt
      have hq5 : IntKind.i64.wrap ((i : Int) + 1) = (i : Int) + 1 := by rw [IntKind.wrap_i64]; omega
      have hBs := hB.size
      by_cases he : bN s i = 32
      · have d1 : ((bN s i : Int) == 32) = true := by simp; omega
        have hc : s.get! i = 32 := by rw [get_eq]; exact he
        have HE2 : Hid (splC (L s) = (pre ++ [cur]) ++ glueC [] (splC ((L s).drop (i + 1)))) := by
          show _ = _
          rw [unhide HE, hdr, hc, glue_blank]; simp
        clear hdr hc HE
        go_wp2_with (at_builtin; refine wpList_append_own _ rfl _ _ 23 rfl w.heap.size 9 i0 (.string ⟨#[]⟩) 1 16 Tryz.underlying23 hi0 hz0 hz1 hz2 rfl (by decide) _ _ _ rfl (hrow.alloc _) ⟨wr.heap.size, 0, none⟩ 1 1 [.string ⟨#[]⟩] rfl rfl (cell_one_new _ _ _) (by simp [Value.oneCell']) (by unfold maxLen; omega) (by omega) (by simp; omega) ?_; intro v' w4 hown' hgrow _)
        have hB2 := belowG (hB.alloc hBs _) (by simp; omega) (hrow.alloc _) hgrow
        clear hrow hB hgrow
        go_roundw
        case rel => exact ⟨i + 1, pre ++ [cur], [], by omega, by go_num, by simp; omega, by simp, HE2, by simpa using hown', hB2⟩
        case measure => simp [RowKit.intOf]; omega
      · have d1 : ((bN s i : Int) == 32) = false := by simp; omega
        have hcne : s.get! i ≠ 32 := fun e => he ((get_eq s i 32).1 e)
        obtain ⟨b, hbb⟩ : ∃ b, s.get! i = b := ⟨_, rfl⟩
        rw [hbb] at hdr hcne
        have HE2 : Hid (splC (L s) = pre ++ glueC (cur ++ [b]) (splC ((L s).drop (i + 1)))) := by
          show _ = _
          rw [unhide HE, hdr, glue_step _ _ _ hcne]
        have c1 : wr.cell? ⟨g, pre.length, none⟩ = some (.string (S cur)) := by
          rw [hrow.cellAt pre.length (by omega), List.map_append, strVs, List.map_append, List.getElem?_append_right (by simp), List.length_map, List.length_map, Nat.sub_self]
          rfl
        have f1 := hrow.frozenAt pre.length
        obtain ⟨k1, k2, k3⟩ : pre.length + 1 ≤ cap ∧ cap ≤ 9223372036854775807 ∧ w.heap.size ≤ g := by
          rcases hrow.2 with ⟨h, _⟩ | ⟨g', cap', cur', h, h0, _, h1, h2, _⟩
          · simp at h
          · simp only [Value.slice.injEq, Option.some.injEq, Addr.mk.injEq, and_true, true_and] at h
            unfold maxLen at h2
            omega
        have hset : Hid ((strVs ((pre ++ [cur]).map S)).set pre.length (.string (S (cur ++ [b]))) = strVs ((pre ++ [cur ++ [b]]).map S)) := by
          show _ = _
          rw [List.map_append, strVs, List.map_append, List.set_append_right _ _ (by simp), List.length_map, List.length_map, Nat.sub_self]
          simp [strVs]
        have hst := hrow.stored pre.length (.string (S (cur ++ [b])))
        rw [hset.out] at hst
        have HST := hide hst.1
        have HBS := hide (hB.setCell (p := ⟨g, pre.length, none⟩) k3 (.string (S (cur ++ [b]))))
        have e1 : s.extract i (i + 1) = S [b] := by
          have h1 : (L s).take (i + 1) = (L s).take i ++ [b] := by rw [List.take_add_one, L_at s i hlt, hbb]; rfl
          rw [extract_eq, hdr]
          simp
        have e2 : S cur ++ S [b] = S (cur ++ [b]) := by
          apply ByteArray.ext
          simp [S]
        have z4 : ((pre.length + 1 : Nat) : Int) - 1 = pre.length := by omega
        generalize hm : pre.length = m at *
        have HM := hide hm
        clear hst hrow hset hB HE hdr hcne hbb hm
        go_wp2
        go_region
        have hst : ((wr.setCell ⟨g, m, none⟩ (.string (S (cur ++ [b])))).drew).ownsRow w.heap.size 9 1 (.slice (some ⟨g, 0, none⟩) (m + 1) cap) (m + 1) (strVs ((pre ++ [cur ++ [b]]).map S)) := unhide HST
        have hbs : Below w.heap.size w ((wr.setCell ⟨g, m, none⟩ (.string (S (cur ++ [b])))).drew) := below_drewN (unhide HBS) 1
        clear HST HBS c1 f1
        go_wp2
        go_roundw
        case rel => exact ⟨i + 1, pre, cur ++ [b], by omega, by go_num, by rw [unhide HM]; omega, by simp; omega, HE2, by rw [unhide HM]; exact hst, hbs⟩
        case measure => simp [RowKit.intOf]; omega
    · obtain rfl : i = s.size := by omega
      have hE : splC (L s) = pre ++ [cur] := by
        rw [unhide HE, List.drop_eq_nil_of_le (by rw [L_len]; exact Nat.le_refl _), glue_end]
      go_wp2
      go_ret
      refine ⟨_, rfl, ?_, hB⟩
      rw [hE]
      simpa using hrow
end Go.Proofs.YthjnkagepooeiaaGreatDoor
/-
  The document's pieces are the program's.
-/
namespace Go.Proofs.YthjnkagepooeiaaGreatDoor
open Go.RowKit Go.PlainAid Go.Lib Go.PHexM
set_option linter.unusedVariables false

theorem spl_cons (b : UInt8) (l x : List UInt8) (t : List (List UInt8)) (h : b ≠ 32) (hs : splC l = x :: t) : splC (b :: l) = (b :: x) :: t := by
  rw [splC, if_neg h, hs]
theorem spl_index (l : List UInt8) : (indexByte l 32 = -1 ∧ splC l = [l]) ∨ ∃ i : Nat, indexByte l 32 = i ∧ i < l.length ∧ splC l = l.take i :: splC (l.drop (i + 1)) := by
  induction l with
  | nil => exact .inl ⟨rfl, rfl⟩
  | cons b l ih =>
    by_cases hb : b = 32
    · subst hb
      exact .inr ⟨0, rfl, by simp, by simp [splC]⟩
    · have hbf : (b == 32) = false := by simpa using hb
      rcases ih with ⟨h1, h2⟩ | ⟨i, h1, h2, h3⟩
      · refine .inl ⟨?_, spl_cons b l _ _ hb h2⟩
        unfold indexByte
        rw [hbf, h1]
        rfl
      · refine .inr ⟨i + 1, ?_, by simp; omega, ?_⟩
        · unfold indexByte
          rw [hbf, h1]
          simp
        · rw [spl_cons b l _ _ hb h3]
          simp
theorem split_spl : ∀ (k : Nat) (l : List UInt8), l.length ≤ k → splitK [32] 0 (count l [32]) l = splC l := by
  intro k
  induction k with
  | zero =>
    intro l hl
    obtain rfl : l = [] := List.eq_nil_of_length_eq_zero (by omega)
    rfl
  | succ k ih =>
    intro l hl
    rcases spl_index l with ⟨h1, h2⟩ | ⟨i, h1, h2, h3⟩
    · rw [count_miss (by rw [index_one]; exact h1), h2]
      rfl
    · have hx : index l [32] = i := by rw [index_one]; exact h1
      rw [count_hit (by simp) hx, Nat.add_comm 1, h3]
      unfold splitK
      rw [hx]
      have : ((i : Int) == -1) = false := by simp
      rw [this]
      simp only [Bool.false_eq_true, if_false, Int.toNat_natCast, Nat.add_zero, List.length_cons, List.length_nil, Nat.zero_add]
      rw [ih (l.drop (i + 1)) (by rw [List.length_drop]; omega)]
theorem pieces_spl (l : List UInt8) : piecesP l = splC l := by
  unfold piecesP
  rw [splitB_data]
  exact split_spl l.length l (Nat.le_refl _)
end Go.Proofs.YthjnkagepooeiaaGreatDoor
/-
  What a character is made of, by the document.
-/
namespace Go.Proofs.YthjnkagepooeiaaGreatDoor
open Go.RowKit Go.PlainAid Go.Lib Go.PHexM Go.Shelf
set_option linter.unusedVariables false
set_option linter.unusedSimpArgs false

def madeV (o : Option Int) : Value := match o with
  | some n => .tuple #[.int .i32 n, .bool true]
  | none => .tuple #[.int .i32 0, .bool false]
theorem tag_bytes (p : ByteArray) : tagB p.data.toList = (decide (2 ≤ p.size) && decide (bN p 0 = 60) && decide (bN p (p.size - 1) = 62)) := by
  have hat := fun i h => L_at p i h
  have hl : p.data.toList.length = p.size := by simp
  have hE : L p = p.data.toList := rfl
  rw [hE] at hat
  unfold bN
  generalize p.data.toList = l at *
  rw [Bool.eq_iff_iff]
  simp only [Bool.and_eq_true, decide_eq_true_eq, tagB, hasPrefix, hasSuffix, List.isPrefixOf_iff_prefix, List.isSuffixOf_iff_suffix]
  constructor
  · rintro ⟨⟨u, rfl⟩, ⟨v, hv⟩⟩
    obtain rfl : v ++ [62] = u := by simpa using hv
    have hn : p.size = v.length + 2 := by rw [← hl]; simp
    refine ⟨⟨by omega, ?_⟩, ?_⟩
    · have := hat 0 (by omega)
      simp at this
      rw [← this]; rfl
    · have := hat (p.size - 1) (by omega)
      rw [hn, show v.length + 2 - 1 = v.length + 1 by omega] at this
      simp at this
      rw [hn, show v.length + 2 - 1 = v.length + 1 by omega, ← this]; rfl
  · rintro ⟨⟨h2, ha⟩, hb⟩
    have h0 := hat 0 (by omega)
    have h1 := hat (p.size - 1) (by omega)
    rw [show p.get! 0 = 60 from UInt8.toNat_inj.1 ha] at h0
    rw [show p.get! (p.size - 1) = 62 from UInt8.toNat_inj.1 hb] at h1
    match l, hl, h0, h1 with
    | [], hl, _, _ => simp at hl; omega
    | a :: t, hl, h0, h1 =>
      simp at h0
      subst h0
      refine ⟨⟨t, rfl⟩, ?_⟩
      have hn : p.size - 1 = (t.length - 1) + 1 := by simp at hl; omega
      rw [hn, List.getElem?_cons_succ, ← List.getLast?_eq_getElem?] at h1
      show [62] <:+ t
      obtain ⟨ys, rfl⟩ := List.getLast?_eq_some_iff.1 h1
      exact ⟨ys, rfl⟩

theorem splC_size (l : List UInt8) : ∀ x ∈ splC l, x.length ≤ l.length := by
  induction l with
  | nil => intro x hx; simp [splC] at hx; subst hx; simp
  | cons b l ih =>
    intro x hx
    by_cases hb : b = 32
    · subst hb
      rw [splC, if_pos rfl] at hx
      rcases List.mem_cons.1 hx with rfl | hx
      · simp
      · have := ih x hx; simp; omega
    · cases hs : splC l with
      | nil => exact absurd hs (splC_ne l)
      | cons y t =>
        rw [spl_cons b l y t hb hs] at hx
        rw [hs] at ih
        rcases List.mem_cons.1 hx with rfl | hx
        · have := ih y (by simp); simp; omega
        · have := ih x (by simp [hx]); simp; omega

set_option maxRecDepth 100000 in
set_option maxHeartbeats 4000000 in
theorem refMade_any (s : ByteArray) (w : World) (hs : s.size ≤ 1073741824) :
    Calls Tryz.prog 38 #[.string s] w fun e w' => e = .returned (madeV (twinP 0 (L s))) ∧ Below w.heap.size w w' := by
  by_cases h0 : L s = []
  · have hE : s = ⟨#[]⟩ := by
      obtain ⟨⟨l⟩⟩ := s
      have : l = [] := h0
      rw [this]
    subst hE
    go_enter Tryz.func38, Tryz.ntmps38
    go_wp2
    go_ret2
    exact ⟨rfl, Below.refl _ _⟩
  have e0 : (s.toList == []) = false := by
    rw [ByteArray.toList_eq]
    cases h : s.data.toList with
    | nil => exact absurd h h0
    | cons x l => rfl
  have HP := hide (refPieces6_any s w (by omega))
  obtain ⟨ps, hps⟩ : ∃ ps, (splC (L s)).map S = ps := ⟨_, rfl⟩
  have hpc : piecesP (L s) = ps.map (·.data.toList) := by
    rw [pieces_spl, ← hps, List.map_map]
    simp [Function.comp_def, S]
  have hlen : (splC (L s)).length = ps.length := by rw [← hps, List.length_map]
  have hpl : 1 ≤ ps.length := by
    rw [← hlen]
    exact List.length_pos_iff.2 (splC_ne _)
  have hub : ps.length ≤ 1073741825 := by
    have h1 := splC_len (L s)
    rw [L_len] at h1
    omega
  rw [hps, hlen] at HP
  obtain ⟨p0, hp0⟩ : ∃ p, ps[0]? = some p := ⟨_, List.getElem?_eq_getElem (by omega)⟩
  have hbp : p0.size ≤ 1073741824 := by
    have hm := List.mem_of_getElem? hp0
    rw [← hps] at hm
    obtain ⟨x, hx, rfl⟩ := List.mem_map.1 hm
    have h1 := splC_size (L s) x hx
    rw [L_len] at h1
    have h2 : (S x).size = x.length := S_size x
    omega
  obtain ⟨N, hN⟩ : ∃ N, ps.length = N := ⟨_, rfl⟩
  obtain ⟨t, ht⟩ : ∃ t, tagB p0.data.toList = t := ⟨_, rfl⟩
  have HT := hide (tag_bytes p0)
  have H0 := hide (⟨h0, hpc, hp0, ht⟩ : L s ≠ [] ∧ piecesP (L s) = ps.map (·.data.toList) ∧ ps[0]? = some p0 ∧ tagB p0.data.toList = t)
  rw [hN] at HP hpl hub
  have HN := hide hN
  have HX := hide (fun (q : ByteArray) (V : World) => refRead_any4 q V)
  clear h0 hpc hp0 hlen hps hN
  go_enter Tryz.func38, Tryz.ntmps38
  go_wp2_with fail
  refine (unhide HP).mono ?_
  rintro e w1 ⟨v, rfl, hrow, hb1⟩
  obtain ⟨N', rfl⟩ : ∃ M, N = M + 1 := ⟨N - 1, by omega⟩
  obtain ⟨g, cap, rfl⟩ := ownsRow_succ hrow
  obtain ⟨k1, k2, k3⟩ : N' + 1 ≤ cap ∧ cap ≤ 9223372036854775807 ∧ w.heap.size ≤ g := by
    rcases hrow.2 with ⟨h, _⟩ | ⟨g', cap', cur', h, h0, _, h1, h2, _⟩
    · simp at h
    · simp only [Value.slice.injEq, Option.some.injEq, Addr.mk.injEq, and_true, true_and] at h
      unfold maxLen at h2
      omega
  have HC : Hid (∀ i q, ps[i]? = some q → w1.cell? ⟨g, i, none⟩ = some (.string q)) := fun i q hq => by
    have hl := (List.getElem?_eq_some_iff.1 hq).1
    rw [hrow.cellAt i (by have := unhide HN; omega), strVs, List.getElem?_map, hq]
    rfl
  have c0 := unhide HC 0 p0 (unhide H0).2.2.1
  have HB := hide hb1
  clear hrow hb1 HP
  have hv0 : ∀ h : 0 < p0.size, (p0[0]'h).toNat = bN p0 0 := fun h => by rw [bN, get_in p0 0 h]
  have hvl : ∀ h : p0.size - 1 < p0.size, (p0[p0.size - 1]'h).toNat = bN p0 (p0.size - 1) := fun h => by rw [bN, get_in p0 _ h]
  have hz1 : ∀ h : 2 ≤ p0.size, ((p0.size : Int) - 1).toNat = p0.size - 1 := fun h => by omega
  by_cases a1 : 2 ≤ p0.size
  · have a1' : (2 : Int) ≤ (p0.size : Int) := by omega
    have hz2 := hz1 a1
    have hz0 := hv0 (by omega)
    have hzl := hvl (by omega)
    by_cases a2 : bN p0 0 = 60
    · have b2 : ((bN p0 0 : Int) == 60) = true := by simp; omega
      by_cases a3 : bN p0 (p0.size - 1) = 62
      · have b3 : ((bN p0 (p0.size - 1) : Int) == 62) = true := by simp; omega
        obtain rfl : t = true := by rw [← ht, unhide HT]; simp [a1, a2, a3]
        clear ht HT
        by_cases hone : N' = 0
        · subst hone
          obtain rfl : ps = [p0] := by
            have h1 := unhide HN
            have h2 := (unhide H0).2.2.1
            match ps, h1, h2 with
            | [a], _, h2 => simp at h2; subst h2; rfl
          have HT2 : Hid (twinP 0 (L s) = none) := twin_tag (unhide H0).1 (unhide H0).2.1 (unhide H0).2.2.2
          have hwr : wrap64 ((p0.size : Int) - 1) = (p0.size : Int) - 1 := by have := IntKind.wrap_i64 ((p0.size : Int) - 1); simp only [wrap64]; omega
          by_cases hc1 : cap = 1
          · go_wp2
            go_ret2
            exact ⟨by rw [unhide HT2]; rfl, unhide HB⟩
          · go_wp2
            go_ret2
            exact ⟨by rw [unhide HT2]; rfl, unhide HB⟩
        · have hM0 : ((N' : Int) == 0) = false := by simp; omega
          have hM1 : ((N' : Int) + 1 - 1) = (N' : Int) := by omega
          have hc1 : ¬ cap = 1 := by omega
          go_wp2
          go_loopw [7, 8] (fun v7 v8 wr => ∃ (i : Nat) (k : Int), v8 = .int .i64 i ∧ v7 = .int .i32 k ∧ i ≤ N' ∧ Hid (∀ j q, j < i → ps[j + 1]? = some q → (hexP q.data.toList).isSome = true) ∧ Hid (∀ q, i = 1 → ps[1]? = some q → ∃ m : Nat, hexP q.data.toList = some m ∧ k = m) ∧ wr = w1) (fun _ v8 _ => N' - (RowKit.intOf v8).toNat)
          case atStart => exact ⟨0, 0, rfl, rfl, Nat.zero_le _, fun j q hj => by omega, fun q hj => by omega, rfl⟩
          case round =>
            obtain ⟨i, k, rfl, rfl, hi, HA, HK1, rfl⟩ := hrel
            by_cases hlt : i < N'
            · have hlt' : (i : Int) < ((N' : Nat) : Int) := by omega
              obtain ⟨q, hq⟩ : ∃ q, ps[i + 1]? = some q := ⟨_, List.getElem?_eq_getElem (by have := unhide HN; omega)⟩
              have cq := unhide HC _ q hq
              have cq2 : wr.cell? ⟨g, 1 + i, none⟩ = some (.string q) := by rw [Nat.add_comm]; exact cq
              have hq1 : IntKind.i64.wrap ((i : Int) + 1) = (i : Int) + 1 := by rw [IntKind.wrap_i64]; omega
              have HQ := hide hq
              cases hx : hexP q.data.toList with
              | none =>
                have HV := unhide HX q wr
                rw [hexV_none hx] at HV
                have HVV := hide HV
                have HT2 : Hid (twinP 0 (L s) = none) := twin_bad (i := i) (q := q) (unhide H0).1 (unhide H0).2.1 (unhide H0).2.2.1 (unhide H0).2.2.2 (by rw [List.getElem?_drop]; simpa [Nat.add_comm] using hq) hx
                clear hx HV hq
                go_wp2_with (go_at_call 33; refine (unhide HVV).mono ?_; rintro e w' ⟨rfl, hw⟩; obtain rfl : wr = w' := hw.symm)
                go_ret2
                exact ⟨by rw [unhide HT2]; rfl, unhide HB⟩
              | some m =>
                have HV := unhide HX q wr
                rw [hexV_some hx] at HV
                have HVV := hide HV
                have HKK := hide hx
                clear hx HV hq
                go_wp2_with (go_at_call 33; refine (unhide HVV).mono ?_; rintro e w' ⟨rfl, hw⟩; obtain rfl : wr = w' := hw.symm)
                go_roundw
                case rel =>
                  refine ⟨i + 1, m, by go_num, rfl, by omega, fun j q' hj hq' => ?_, fun q' hi1 hq' => ?_, trivial⟩
                  · by_cases hji : j < i
                    · exact unhide HA j q' hji hq'
                    · obtain rfl : j = i := by omega
                      rw [show j + 1 = j + 1 from rfl, unhide HQ] at hq'
                      cases hq'
                      rw [unhide HKK]; rfl
                  · obtain rfl : i = 0 := by omega
                    have := unhide HQ
                    try simp only [Nat.zero_add] at this
                    rw [this] at hq'
                    cases hq'
                    exact ⟨m, unhide HKK, rfl⟩
                case measure => simp [RowKit.intOf]; omega
            · obtain rfl : i = N' := by omega
              have HT2 : Hid (twinP 0 (L s) = some 0) := twin_ok (unhide H0).1 (unhide H0).2.1 (unhide H0).2.2.1 (unhide H0).2.2.2 (by
                  intro q hq
                  obtain ⟨j, hj⟩ := List.getElem?_of_mem hq
                  rw [List.getElem?_drop] at hj
                  have hjl := (List.getElem?_eq_some_iff.1 hj).1
                  have := unhide HN
                  exact unhide HA j q (by simp at hjl; omega) (by simpa [Nat.add_comm] using hj)) (by have := unhide HN; simp; omega)
              go_wp2
              go_ret2
              exact ⟨by rw [unhide HT2]; rfl, unhide HB⟩
      · have b3 : ((bN p0 (p0.size - 1) : Int) == 62) = false := by simp; omega
        obtain rfl : t = false := by rw [← ht, unhide HT]; simp [a1, a2, a3]
        clear ht HT
        have hM0 : ((N' : Int) + 1 == 0) = false := by rw [beq_eq_false_iff_ne]; omega
        go_wp2
        clear b2 b3 a1 a1' a2 a3 hz0 hzl hz2 hv0 hvl hz1 hbp c0
        go_loopw [7, 8] (fun v7 v8 wr => ∃ (i : Nat) (k : Int), v8 = .int .i64 i ∧ v7 = .int .i32 k ∧ i ≤ (N' + 1) ∧ Hid (∀ j q, j < i → ps[j + 0]? = some q → (hexP q.data.toList).isSome = true) ∧ Hid (∀ q, i = 1 → ps[0]? = some q → ∃ m : Nat, hexP q.data.toList = some m ∧ k = m) ∧ wr = w1) (fun _ v8 _ => (N' + 1) - (RowKit.intOf v8).toNat)
        case atStart => exact ⟨0, 0, rfl, rfl, Nat.zero_le _, fun j q hj => by omega, fun q hj => by omega, rfl⟩
        case round =>
          obtain ⟨i, k, rfl, rfl, hi, HA, HK1, rfl⟩ := hrel
          by_cases hlt : i < (N' + 1)
          · have hlt' : (i : Int) < (((N' + 1) : Nat) : Int) := by omega
            obtain ⟨q, hq⟩ : ∃ q, ps[i]? = some q := ⟨_, List.getElem?_eq_getElem (by have := unhide HN; omega)⟩
            have cq := unhide HC _ q hq
            have hq1 : IntKind.i64.wrap ((i : Int) + 1) = (i : Int) + 1 := by rw [IntKind.wrap_i64]; omega
            have HQ := hide hq
            cases hx : hexP q.data.toList with
            | none =>
              have HV := unhide HX q wr
              rw [hexV_none hx] at HV
              have HVV := hide HV
              have HT2 : Hid (twinP 0 (L s) = none) := twin_bad (i := i) (q := q) (unhide H0).1 (unhide H0).2.1 (unhide H0).2.2.1 (unhide H0).2.2.2 (by rw [List.getElem?_drop]; simpa [Nat.add_comm] using hq) hx
              clear hx HV hq
              go_wp2_with (go_at_call 33; refine (unhide HVV).mono ?_; rintro e w' ⟨rfl, hw⟩; obtain rfl : wr = w' := hw.symm)
              go_ret2
              exact ⟨by rw [unhide HT2]; rfl, unhide HB⟩
            | some m =>
              have HV := unhide HX q wr
              rw [hexV_some hx] at HV
              have HVV := hide HV
              have HKK := hide hx
              clear hx HV hq
              go_wp2_with (go_at_call 33; refine (unhide HVV).mono ?_; rintro e w' ⟨rfl, hw⟩; obtain rfl : wr = w' := hw.symm)
              go_roundw
              case rel =>
                refine ⟨i + 1, m, by go_num, rfl, by omega, fun j q' hj hq' => ?_, fun q' hi1 hq' => ?_, trivial⟩
                · by_cases hji : j < i
                  · exact unhide HA j q' hji hq'
                  · obtain rfl : j = i := by omega
                    rw [show j + 0 = j from rfl, unhide HQ] at hq'
                    cases hq'
                    rw [unhide HKK]; rfl
                · obtain rfl : i = 0 := by omega
                  have := unhide HQ
                  try simp only [Nat.zero_add] at this
                  rw [this] at hq'
                  cases hq'
                  exact ⟨m, unhide HKK, rfl⟩
              case measure => simp [RowKit.intOf]; omega
          · obtain rfl : i = (N' + 1) := by omega
            by_cases h1 : N' = 0
            · subst h1
              obtain ⟨m, hm, rfl⟩ := unhide HK1 p0 rfl (unhide H0).2.2.1
              obtain rfl : ps = [p0] := by
                have h1 := unhide HN
                have h2 := (unhide H0).2.2.1
                match ps, h1, h2 with
                | [a], _, h2 => simp at h2; subst h2; rfl
              have HT2 : Hid (twinP 0 (L s) = some (m : Int)) := twin_one (unhide H0).1 (unhide H0).2.1 (unhide H0).2.2.2 hm
              clear hm
              go_wp2
              go_ret2
              exact ⟨by rw [unhide HT2]; rfl, unhide HB⟩
            · have h1' : (1 : Int) < ((N' + 1 : Nat) : Int) := by omega
              have HT2 : Hid (twinP 0 (L s) = some 0) := twin_ok (unhide H0).1 (unhide H0).2.1 (unhide H0).2.2.1 (unhide H0).2.2.2 (by
                intro q hq
                obtain ⟨j, hj⟩ := List.getElem?_of_mem hq
                rw [List.getElem?_drop] at hj
                have hjl := (List.getElem?_eq_some_iff.1 hj).1
                have := unhide HN
                exact unhide HA j q (by simp at hjl; omega) (by simpa [Nat.add_comm] using hj)) (by have := unhide HN; simp; omega)
              go_wp2
              go_ret2
              exact ⟨by rw [unhide HT2]; rfl, unhide HB⟩
    · have b2 : ((bN p0 0 : Int) == 60) = false := by simp; omega
      obtain rfl : t = false := by rw [← ht, unhide HT]; simp [a1, a2]
      clear ht HT
      have hM0 : ((N' : Int) + 1 == 0) = false := by rw [beq_eq_false_iff_ne]; omega
      go_wp2
      clear b2 a1 a1' a2 hz0 hzl hz2 hv0 hvl hz1 hbp c0
      go_loopw [7, 8] (fun v7 v8 wr => ∃ (i : Nat) (k : Int), v8 = .int .i64 i ∧ v7 = .int .i32 k ∧ i ≤ (N' + 1) ∧ Hid (∀ j q, j < i → ps[j + 0]? = some q → (hexP q.data.toList).isSome = true) ∧ Hid (∀ q, i = 1 → ps[0]? = some q → ∃ m : Nat, hexP q.data.toList = some m ∧ k = m) ∧ wr = w1) (fun _ v8 _ => (N' + 1) - (RowKit.intOf v8).toNat)
      case atStart => exact ⟨0, 0, rfl, rfl, Nat.zero_le _, fun j q hj => by omega, fun q hj => by omega, rfl⟩
      case round =>
        obtain ⟨i, k, rfl, rfl, hi, HA, HK1, rfl⟩ := hrel
        by_cases hlt : i < (N' + 1)
        · have hlt' : (i : Int) < (((N' + 1) : Nat) : Int) := by omega
          obtain ⟨q, hq⟩ : ∃ q, ps[i]? = some q := ⟨_, List.getElem?_eq_getElem (by have := unhide HN; omega)⟩
          have cq := unhide HC _ q hq
          have hq1 : IntKind.i64.wrap ((i : Int) + 1) = (i : Int) + 1 := by rw [IntKind.wrap_i64]; omega
          have HQ := hide hq
          cases hx : hexP q.data.toList with
          | none =>
            have HV := unhide HX q wr
            rw [hexV_none hx] at HV
            have HVV := hide HV
            have HT2 : Hid (twinP 0 (L s) = none) := twin_bad (i := i) (q := q) (unhide H0).1 (unhide H0).2.1 (unhide H0).2.2.1 (unhide H0).2.2.2 (by rw [List.getElem?_drop]; simpa [Nat.add_comm] using hq) hx
            clear hx HV hq
            go_wp2_with (go_at_call 33; refine (unhide HVV).mono ?_; rintro e w' ⟨rfl, hw⟩; obtain rfl : wr = w' := hw.symm)
            go_ret2
            exact ⟨by rw [unhide HT2]; rfl, unhide HB⟩
          | some m =>
            have HV := unhide HX q wr
            rw [hexV_some hx] at HV
            have HVV := hide HV
            have HKK := hide hx
            clear hx HV hq
            go_wp2_with (go_at_call 33; refine (unhide HVV).mono ?_; rintro e w' ⟨rfl, hw⟩; obtain rfl : wr = w' := hw.symm)
            go_roundw
            case rel =>
              refine ⟨i + 1, m, by go_num, rfl, by omega, fun j q' hj hq' => ?_, fun q' hi1 hq' => ?_, trivial⟩
              · by_cases hji : j < i
                · exact unhide HA j q' hji hq'
                · obtain rfl : j = i := by omega
                  rw [show j + 0 = j from rfl, unhide HQ] at hq'
                  cases hq'
                  rw [unhide HKK]; rfl
              · obtain rfl : i = 0 := by omega
                have := unhide HQ
                try simp only [Nat.zero_add] at this
                rw [this] at hq'
                cases hq'
                exact ⟨m, unhide HKK, rfl⟩
            case measure => simp [RowKit.intOf]; omega
        · obtain rfl : i = (N' + 1) := by omega
          by_cases h1 : N' = 0
          · subst h1
            obtain ⟨m, hm, rfl⟩ := unhide HK1 p0 rfl (unhide H0).2.2.1
            obtain rfl : ps = [p0] := by
              have h1 := unhide HN
              have h2 := (unhide H0).2.2.1
              match ps, h1, h2 with
              | [a], _, h2 => simp at h2; subst h2; rfl
            have HT2 : Hid (twinP 0 (L s) = some (m : Int)) := twin_one (unhide H0).1 (unhide H0).2.1 (unhide H0).2.2.2 hm
            clear hm
            go_wp2
            go_ret2
            exact ⟨by rw [unhide HT2]; rfl, unhide HB⟩
          · have h1' : (1 : Int) < ((N' + 1 : Nat) : Int) := by omega
            have HT2 : Hid (twinP 0 (L s) = some 0) := twin_ok (unhide H0).1 (unhide H0).2.1 (unhide H0).2.2.1 (unhide H0).2.2.2 (by
              intro q hq
              obtain ⟨j, hj⟩ := List.getElem?_of_mem hq
              rw [List.getElem?_drop] at hj
              have hjl := (List.getElem?_eq_some_iff.1 hj).1
              have := unhide HN
              exact unhide HA j q (by simp at hjl; omega) (by simpa [Nat.add_comm] using hj)) (by have := unhide HN; simp; omega)
            go_wp2
            go_ret2
            exact ⟨by rw [unhide HT2]; rfl, unhide HB⟩
  · obtain rfl : t = false := by rw [← ht, unhide HT]; simp [a1]
    clear ht HT
    have hM0 : ((N' : Int) + 1 == 0) = false := by rw [beq_eq_false_iff_ne]; omega
    go_wp2
    clear a1 hv0 hvl hz1 hbp c0
    go_loopw [7, 8] (fun v7 v8 wr => ∃ (i : Nat) (k : Int), v8 = .int .i64 i ∧ v7 = .int .i32 k ∧ i ≤ (N' + 1) ∧ Hid (∀ j q, j < i → ps[j + 0]? = some q → (hexP q.data.toList).isSome = true) ∧ Hid (∀ q, i = 1 → ps[0]? = some q → ∃ m : Nat, hexP q.data.toList = some m ∧ k = m) ∧ wr = w1) (fun _ v8 _ => (N' + 1) - (RowKit.intOf v8).toNat)
    case atStart => exact ⟨0, 0, rfl, rfl, Nat.zero_le _, fun j q hj => by omega, fun q hj => by omega, rfl⟩
    case round =>
      obtain ⟨i, k, rfl, rfl, hi, HA, HK1, rfl⟩ := hrel
      by_cases hlt : i < (N' + 1)
      · have hlt' : (i : Int) < (((N' + 1) : Nat) : Int) := by omega
        obtain ⟨q, hq⟩ : ∃ q, ps[i]? = some q := ⟨_, List.getElem?_eq_getElem (by have := unhide HN; omega)⟩
        have cq := unhide HC _ q hq
        have hq1 : IntKind.i64.wrap ((i : Int) + 1) = (i : Int) + 1 := by rw [IntKind.wrap_i64]; omega
        have HQ := hide hq
        cases hx : hexP q.data.toList with
        | none =>
          have HV := unhide HX q wr
          rw [hexV_none hx] at HV
          have HVV := hide HV
          have HT2 : Hid (twinP 0 (L s) = none) := twin_bad (i := i) (q := q) (unhide H0).1 (unhide H0).2.1 (unhide H0).2.2.1 (unhide H0).2.2.2 (by rw [List.getElem?_drop]; simpa [Nat.add_comm] using hq) hx
          clear hx HV hq
          go_wp2_with (go_at_call 33; refine (unhide HVV).mono ?_; rintro e w' ⟨rfl, hw⟩; obtain rfl : wr = w' := hw.symm)
          go_ret2
          exact ⟨by rw [unhide HT2]; rfl, unhide HB⟩
        | some m =>
          have HV := unhide HX q wr
          rw [hexV_some hx] at HV
          have HVV := hide HV
          have HKK := hide hx
          clear hx HV hq
          go_wp2_with (go_at_call 33; refine (unhide HVV).mono ?_; rintro e w' ⟨rfl, hw⟩; obtain rfl : wr = w' := hw.symm)
          go_roundw
          case rel =>
            refine ⟨i + 1, m, by go_num, rfl, by omega, fun j q' hj hq' => ?_, fun q' hi1 hq' => ?_, trivial⟩
            · by_cases hji : j < i
              · exact unhide HA j q' hji hq'
              · obtain rfl : j = i := by omega
                rw [show j + 0 = j from rfl, unhide HQ] at hq'
                cases hq'
                rw [unhide HKK]; rfl
            · obtain rfl : i = 0 := by omega
              have := unhide HQ
              try simp only [Nat.zero_add] at this
              rw [this] at hq'
              cases hq'
              exact ⟨m, unhide HKK, rfl⟩
          case measure => simp [RowKit.intOf]; omega
      · obtain rfl : i = (N' + 1) := by omega
        by_cases h1 : N' = 0
        · subst h1
          obtain ⟨m, hm, rfl⟩ := unhide HK1 p0 rfl (unhide H0).2.2.1
          obtain rfl : ps = [p0] := by
            have h1 := unhide HN
            have h2 := (unhide H0).2.2.1
            match ps, h1, h2 with
            | [a], _, h2 => simp at h2; subst h2; rfl
          have HT2 : Hid (twinP 0 (L s) = some (m : Int)) := twin_one (unhide H0).1 (unhide H0).2.1 (unhide H0).2.2.2 hm
          clear hm
          go_wp2
          go_ret2
          exact ⟨by rw [unhide HT2]; rfl, unhide HB⟩
        · have h1' : (1 : Int) < ((N' + 1 : Nat) : Int) := by omega
          have HT2 : Hid (twinP 0 (L s) = some 0) := twin_ok (unhide H0).1 (unhide H0).2.1 (unhide H0).2.2.1 (unhide H0).2.2.2 (by
            intro q hq
            obtain ⟨j, hj⟩ := List.getElem?_of_mem hq
            rw [List.getElem?_drop] at hj
            have hjl := (List.getElem?_eq_some_iff.1 hj).1
            have := unhide HN
            exact unhide HA j q (by simp at hjl; omega) (by simpa [Nat.add_comm] using hj)) (by have := unhide HN; simp; omega)
          go_wp2
          go_ret2
          exact ⟨by rw [unhide HT2]; rfl, unhide HB⟩
end Go.Proofs.YthjnkagepooeiaaGreatDoor
/-
  The document's Chars (furrowref03): what the bytes of a text stand for, for every text.
-/
namespace Go.Proofs.YthjnkagepooeiaaGreatDoor
open Go.RowKit Go.PlainAid Go.Lib Go.Shelf
attribute [local go_sem] World.iter
set_option linter.unusedVariables false

theorem infoChar : (Tryz.prog.info? 122).map (fun i => (i.zero, i.size, i.bytes)) = some (some (.agg #[.int .i64 0, .int .i64 0, .int .i32 0, .bool false]), 4, 24) := by kernel_rfl
/-- do the bytes at a place stand for a character? -/
def isB (s : ByteArray) (i : Nat) : Bool := decide ((Utf8.decode s i).1 ≠ 65533) || decide ((Utf8.decode s i).2 = 3)
def charC (s : ByteArray) (i : Nat) : List Value := [.int .i64 (i : Nat), .int .i64 ((Utf8.decode s i).2 : Nat), .int .i32 ((Utf8.decode s i).1 : Nat), .bool (isB s i)]
def rawC (s : ByteArray) (i : Nat) : List Value := [.int .i64 (i : Nat), .int .i64 0, .int .i32 ((Utf8.decode s i).1 : Nat), .bool false]
/-- the cells of the Chars at the places l; and ahead of their widths -/
def charCs (s : ByteArray) (l : List Nat) : List Value := l.flatMap (charC s)
def rawCs (s : ByteArray) (l : List Nat) : List Value := l.flatMap (rawC s)
theorem charCs_snoc (s : ByteArray) (l : List Nat) (i : Nat) : charCs s (l ++ [i]) = charCs s l ++ charC s i := by simp [charCs]
theorem rawCs_snoc (s : ByteArray) (l : List Nat) (i : Nat) : rawCs s (l ++ [i]) = rawCs s l ++ rawC s i := by simp [rawCs]
theorem rawCs_cons (s : ByteArray) (i : Nat) (l : List Nat) : rawCs s (i :: l) = rawC s i ++ rawCs s l := rfl
theorem charCs_len (s : ByteArray) (l : List Nat) : (charCs s l).length = l.length * 4 := by
  induction l with
  | nil => rfl
  | cons x l ih => simp only [charCs, charC, List.flatMap_cons, List.length_append, List.length_cons, List.length_nil] at ih ⊢; omega
theorem cell4_new (w : World) (a b c d : Value) (t : TypeId) : ∀ j u, [a, b, c, d][j]? = some u → (w.alloc (.cells #[a, b, c, d] t)).cell? ((⟨w.heap.size, 0, none⟩ : Addr).add j) = some u := by
  intro j u hj
  match j, hj with
  | 0, hj => simp at hj; subst hj; simp [Addr.add]
  | 1, hj => simp at hj; subst hj; simp [Addr.add]
  | 2, hj => simp at hj; subst hj; simp [Addr.add]
  | 3, hj => simp at hj; subst hj; simp [Addr.add]
  | j + 4, hj => simp at hj
/-- the places of the characters from byte i on -/
def plF (s : ByteArray) (i : Nat) : List Nat := (chars s i).map (·.1)
theorem plF_step (s : ByteArray) (i : Nat) (h : i < s.size) : plF s i = i :: plF s (i + (Utf8.decode s i).2) := by unfold plF; rw [chars_step s i h]; rfl
theorem plF_end (s : ByteArray) (i : Nat) (h : ¬ i < s.size) : plF s i = [] := by unfold plF; rw [chars_end s i h]; rfl
theorem plF_len (s : ByteArray) : (plF s 0).length ≤ s.size := by have := chars_length s 0; unfold plF; simp; omega
theorem rowLe {w : World} {b b' : Nat} {e : TypeId} {size : Nat} {v : Value} {n : Nat} {xs : List Value} (h : w.ownsRow b e size v n xs) (hb : b' ≤ b) : w.ownsRow b' e size v n xs := by
  refine ⟨h.1, ?_⟩
  rcases h.2 with h | ⟨g, cap, cur, h1, h2, h3⟩
  · exact .inl h
  · exact .inr ⟨g, cap, cur, h1, Nat.le_trans hb h2, h3⟩
theorem row_form {w : World} {base : Nat} {e : TypeId} {size : Nat} {v : Value} {n : Nat} {xs : List Value} (h : w.ownsRow base e size v n xs) (h0 : 0 < n) : ∃ g c, v = .slice (some ⟨g, 0, none⟩) n c ∧ n ≤ c ∧ c ≤ maxLen ∧ base ≤ g ∧ g < w.heap.size := by
  rcases h.2 with ⟨_, h1⟩ | ⟨g, cap, cur, rfl, hb, hg, h3, h4, h5⟩
  · omega
  · exact ⟨g, cap, rfl, h3, h4, hb, (Array.getElem?_eq_some_iff.1 hg).1⟩

set_option maxRecDepth 100000 in
set_option maxHeartbeats 2000000 in
theorem refChars_any (s : ByteArray) (w : World) (hs : s.size ≤ 1099511627776) :
    Calls Tryz.prog 34 #[.string s] w fun e w' => ∃ v, e = .returned v ∧ w'.ownsRow w.heap.size 122 4 v (plF s 0).length (charCs s (plF s 0)) ∧ Below w.heap.size w w' := by
  obtain ⟨i0, hi, hz0, hz1, hz2⟩ := info_parts infoChar
  have hcl := plF_len s
  go_enter Tryz.func34, Tryz.ntmps34
  go_wp2
  go_loopw [3] (fun v3 wr => ∃ (pos : Nat) (pre : List Nat), Hid (pre ++ plF s pos = plF s 0) ∧ wr.heap[w.heap.size]? = some (.stringIter s pos) ∧ wr.ownsRow (w.heap.size + 1) 122 4 v3 pre.length (rawCs s pre) ∧ Below w.heap.size w wr) (fun _ wr => s.size - wr.iterPos w.heap.size)
  case atStart => exact ⟨0, [], rfl, heap_alloc_new w _, by simpa [rawCs] using World.ownsRow_nil _ _ _ _, (Below.refl _ _).alloc (Nat.le_refl _) _⟩
  case round =>
    obtain ⟨pos, pre, HP, hit, hrow, hB⟩ := hrel
    by_cases hlt : pos < s.size
    · have hnx := fun ty => run_next_any_at (P := Tryz.prog) wr w.heap.size s pos ty hit hlt
      have hb := dec_bounds s pos hlt
      have hit2 := iterAt_heap wr w.heap.size s pos (pos + (Utf8.decode s pos).2) hit
      have hB2 : Below w.heap.size w (wr.iterAt w.heap.size s (pos + (Utf8.decode s pos).2)) := hB.grown (grownBy_iterAt wr w.heap.size s _) hB.size (fun k e => by cases e; exact Nat.le_refl _)
      have hrow2 := ownsRow_iterAt hrow (Nat.lt_succ_self w.heap.size) s (pos + (Utf8.decode s pos).2)
      have hmeas : s.size - (pos + (Utf8.decode s pos).2) < s.size - wr.iterPos w.heap.size := by rw [iterPos_of hit]; omega
      have HP2 : Hid (pre ++ [pos] ++ plF s (pos + (Utf8.decode s pos).2) = plF s 0) := by
        show _ = _
        rw [← HP.out, plF_step s pos hlt]; simp
      have hpl : pre.length + 1 ≤ s.size := by
        have := congrArg List.length HP2.out
        simp at this; omega
      have hsz : w.heap.size < (wr.iterAt w.heap.size s (pos + (Utf8.decode s pos).2)).heap.size := (Array.getElem?_eq_some_iff.1 hit2).1
      have HSN := hide (rawCs_snoc s pre pos)
      unfold rawC at HSN
      generalize hW3 : wr.iterAt w.heap.size s (pos + (Utf8.decode s pos).2) = W3 at *
      clear hW3 hrow HP hB
      generalize (Utf8.decode s pos).1 = R at *
      generalize (Utf8.decode s pos).2 = D at *
      obtain ⟨a, n', c, rfl⟩ := row_slice hrow2
      go_wp2_with (at_builtin; refine wpList_append_own _ rfl _ _ 78 rfl (w.heap.size + 1) 122 i0 (.agg #[.int .i64 0, .int .i64 0, .int .i32 0, .bool false]) 4 24 Tryz.underlying78 hi hz0 hz1 hz2 rfl (by decide) _ _ _ rfl (hrow2.alloc _) ⟨W3.heap.size, 0, none⟩ 1 1 [.int .i64 (pos : Nat), .int .i64 0, .int .i32 (R : Nat), .bool false] rfl rfl (by simpa using cell4_new W3 (.int .i64 (pos : Nat)) (.int .i64 0) (.int .i32 (R : Nat)) (.bool false) 122) (by simp [Value.oneCell']) (by unfold maxLen; omega) (by omega) (by simp; omega) ?_; intro v' w4 hown' hgrow _)
      have hit4 : w4.heap[w.heap.size]? = some (.stringIter s (pos + D)) := (hgrow.block w.heap.size (by simp; omega) (fun e => by have := (hrow2.lt _ e.symm).1; omega)).trans ((Below.heap_alloc _ _ _ (by omega)).trans hit2)
      go_roundw
      case rel => exact ⟨pos + D, pre ++ [pos], HP2, hit4, by rw [unhide HSN, List.length_append]; exact hown', (hB2.alloc (by omega) _).grown hgrow (by simp; omega) (fun k e1 => by have := (hrow2.lt k e1).1; omega)⟩
      case measure => rw [iterPos_of hit4]; exact hmeas
    · have hnx := fun ty => run_next_end_at (P := Tryz.prog) wr w.heap.size s pos ty hit hlt
      have hpe : pre = plF s 0 := by have := HP.out; rw [plF_end s pos hlt] at this; simpa using this
      rw [hpe] at hrow
      clear hpe HP
      obtain ⟨N, hN⟩ : ∃ N, (plF s 0).length = N := ⟨_, rfl⟩
      rw [hN] at hrow hcl
      have HN := hide hN
      clear hN
      have hrow0 := rowLe hrow (Nat.le_succ w.heap.size)
      clear hrow
      go_wp2
      go_loopw [6] (fun v6 wr2 => ∃ (p2 : Nat) (pre : List Nat), v6 = .int .i64 (pre.length : Nat) ∧ Hid (pre ++ plF s p2 = plF s 0) ∧ Hid (p2 ≤ s.size) ∧ wr2.ownsRow w.heap.size 122 4 u3 N (charCs s pre ++ rawCs s (plF s p2)) ∧ Below w.heap.size w wr2) (fun v6 _ => N - (RowKit.intOf v6).toNat)
      case atStart => exact ⟨0, [], rfl, rfl, Nat.zero_le _, hrow0, hB⟩
      case round =>
        obtain ⟨p2, pre, rfl, HP, Hp, hrow, hB⟩ := hrel
        obtain ⟨k, hk⟩ : ∃ k, pre.length = k := ⟨_, rfl⟩
        rw [hk]
        by_cases hkn : k < N
        · have hlt2 : p2 < s.size := by
            rcases Nat.lt_or_ge p2 s.size with h | h
            · exact h
            · have := congrArg List.length HP.out
              rw [plF_end s p2 (by omega)] at this
              have := unhide HN
              simp at *; omega
          have hb := dec_bounds s p2 hlt2
          have hst := plF_step s p2 hlt2
          have hnx2 : Hid ((k + 1 < N → plF s (p2 + (Utf8.decode s p2).2) = (p2 + (Utf8.decode s p2).2) :: plF s ((p2 + (Utf8.decode s p2).2) + (Utf8.decode s (p2 + (Utf8.decode s p2).2)).2)) ∧ (¬ k + 1 < N → p2 + (Utf8.decode s p2).2 = s.size)) := by
            have h1 := congrArg List.length HP.out
            have h2 := unhide HN
            rw [hst, List.length_append, hk, List.length_cons] at h1
            refine ⟨fun h => plF_step s _ ?_, fun h => ?_⟩
            · rcases Nat.lt_or_ge (p2 + (Utf8.decode s p2).2) s.size with h' | h'
              · exact h'
              · rw [plF_end s _ (by omega)] at h1; simp at h1; omega
            · rcases Nat.lt_or_ge (p2 + (Utf8.decode s p2).2) s.size with h' | h'
              · rw [plF_step s _ h'] at h1; simp at h1; omega
              · omega
          obtain ⟨g, c, rfl, hc1, hc2, hgb, hgl⟩ := row_form hrow (by omega)
          have hcells := fun j (hj : j < N * 4) => hrow.cellAt j hj
          have hm : ∀ j, (charCs s pre ++ rawCs s (plF s p2))[k * 4 + j]? = (rawCs s (plF s p2))[j]? := by
            intro j
            rw [List.getElem?_append_right (by rw [charCs_len, hk]; omega), charCs_len, hk]
            congr 1; omega
          rw [hst] at hm hrow hcells
          have y0 : wr.cell? ⟨g, k * 4, none⟩ = some (.int .i64 (p2 : Nat)) := (hcells (k * 4) (by omega)).trans (hm 0)
          have y2 : wr.cell? ⟨g, k * 4 + 2, none⟩ = some (.int .i32 ((Utf8.decode s p2).1 : Nat)) := (hcells (k * 4 + 2) (by omega)).trans (hm 2)
          have y1 : wr.cell? ⟨g, k * 4 + 1, none⟩ = some (.int .i64 0) := (hcells (k * 4 + 1) (by omega)).trans (hm 1)
          have y3 : wr.cell? ⟨g, k * 4 + 3, none⟩ = some (.bool false) := (hcells (k * 4 + 3) (by omega)).trans (hm 3)
          have f1 := hrow.frozenAt (k * 4 + 1)
          have f3 := hrow.frozenAt (k * 4 + 3)
          have hset : Hid (∀ v1 v3, v1 = Value.int .i64 ((Utf8.decode s p2).2 : Nat) → v3 = Value.bool (isB s p2) → ((charCs s pre ++ rawCs s (p2 :: plF s (p2 + (Utf8.decode s p2).2))).set (k * 4 + 1) v1).set (k * 4 + 3) v3 = charCs s (pre ++ [p2]) ++ rawCs s (plF s (p2 + (Utf8.decode s p2).2))) := by
            rintro v1 v3 rfl rfl
            have hl : (charCs s pre).length = k * 4 := by rw [charCs_len, hk]
            rw [List.set_append_right _ _ (by omega), List.set_append_right _ _ (by omega), hl, show k * 4 + 1 - k * 4 = 1 by omega, show k * 4 + 3 - k * 4 = 3 by omega, charCs_snoc, rawCs_cons, List.append_assoc]
            rfl
          have hlen : Hid ((pre ++ [p2]).length = k + 1) := by show _ = _; simp [hk]
          have HP2 : Hid (pre ++ [p2] ++ plF s (p2 + (Utf8.decode s p2).2) = plF s 0) := by
            show _ = _
            rw [← HP.out, hst]; simp
          have y4 : Hid (k + 1 < N → wr.cell? ⟨g, (k + 1) * 4, none⟩ = some (.int .i64 (((p2 + (Utf8.decode s p2).2 : Nat) : Int)))) := by
            intro h
            refine (hcells ((k + 1) * 4) (by omega)).trans ?_
            have := hm 4
            rw [show k * 4 + 4 = (k + 1) * 4 by omega] at this
            rw [this, rawCs_cons, hnx2.out.1 h]; rfl
          clear hcells hm
          have hm1 : maxLen = 9223372036854775807 := rfl
          rw [hm1] at hc2
          have z1 : ∀ v, (wr.setCell ⟨g, k * 4 + 1, none⟩ v).cell? ⟨g, k * 4 + 1, none⟩ = some v := fun v => ((hrow.stored (k * 4 + 1) v).1.cellAt (k * 4 + 1) (by omega)).trans (by rw [List.getElem?_set_self (by rw [hrow.1]; omega)])
          have z2 : ∀ v, (wr.setCell ⟨g, k * 4 + 1, none⟩ v).cell? ⟨g, k * 4 + 2, none⟩ = some (.int .i32 ((Utf8.decode s p2).1 : Nat)) := fun v => ((hrow.stored (k * 4 + 1) v).1.cellAt (k * 4 + 2) (by omega)).trans (by rw [List.getElem?_set_ne (by omega)]; exact (hrow.cellAt (k * 4 + 2) (by omega)).symm.trans y2)
          have z3 : ∀ v, (wr.setCell ⟨g, k * 4 + 1, none⟩ v).frozen? ⟨g, k * 4 + 3, none⟩ = false := fun v => (hrow.stored (k * 4 + 1) v).1.frozenAt (k * 4 + 3)
          have HR := hide (fun v u => ((hrow.stored (k * 4 + 1) v).1.stored (k * 4 + 3) u).1)
          have HBB := hide (fun v u => ((hB.setCell (p := ⟨g, k * 4 + 1, none⟩) hgb v).setCell (p := ⟨g, k * 4 + 3, none⟩) hgb u))
          have HI : Hid (isB s p2 = (decide ((Utf8.decode s p2).1 ≠ 65533) || decide ((Utf8.decode s p2).2 = 3))) := rfl
          clear hrow hB hst HP hk
          generalize (Utf8.decode s p2).1 = R at *
          generalize (Utf8.decode s p2).2 = D at *
          have fin : ∀ (W : World) (v1 v3 : Value), W = (wr.setCell ⟨g, k * 4 + 1, none⟩ v1).setCell ⟨g, k * 4 + 3, none⟩ v3 → v1 = Value.int .i64 (D : Nat) → v3 = Value.bool (isB s p2) → ∃ (p2 : Nat) (pre : List Nat), Value.int .i64 ((k : Int) + 1) = .int .i64 (pre.length : Nat) ∧ Hid (pre ++ plF s p2 = plF s 0) ∧ Hid (p2 ≤ s.size) ∧ W.ownsRow w.heap.size 122 4 (.slice (some ⟨g, 0, none⟩) N c) N (charCs s pre ++ rawCs s (plF s p2)) ∧ Below w.heap.size w W := by
            rintro W v1 v3 rfl e1 e3
            refine ⟨p2 + D, pre ++ [p2], by rw [hlen.out]; rfl, HP2.out, hb.2.2, ?_, unhide HBB _ _⟩
            rw [← hset.out v1 v3 e1 e3]; exact unhide HR v1 v3
          have FIN := hide fin
          clear fin hset HP2 HBB HR hlen
          by_cases hn1 : k + 1 < N
          · have d1 : decide ((k : Int) + 1 < (N : Int)) = true := decide_eq_true (by omega)
            have d1' : (k : Int) + 1 < (N : Int) := by omega
            have y4' := y4.out hn1
            have hsub : ((p2 + D : Nat) : Int) - (p2 : Int) = (D : Int) := by omega
            obtain ⟨Q, hQ⟩ : ∃ Q : Int, ((p2 + D : Nat) : Int) = Q := ⟨_, rfl⟩
            have hq0 : 0 ≤ Q := by omega
            have hq1 : Q ≤ (s.size : Int) := by omega
            rw [hQ] at y4' hsub
            clear hQ y4
            by_cases hR : R = 65533
            · have d2 : ((R : Int) != 65533) = false := by simp; omega
              by_cases hD : D = 3
              · have d3 : ((D : Int) == 3) = true := by simp; omega
                go_wp2
                go_roundw
                case rel => exact unhide FIN _ _ _ rfl (by first | rfl | simp_all) (by rw [HI.out]; simp_all)
                case measure => simp [RowKit.intOf]; omega
              · have d3 : ((D : Int) == 3) = false := by simp; omega
                go_wp2
                go_roundw
                case rel => exact unhide FIN _ _ _ rfl (by first | rfl | simp_all) (by rw [HI.out]; simp_all)
                case measure => simp [RowKit.intOf]; omega
            · have d2 : ((R : Int) != 65533) = true := by simp; omega
              go_wp2
              go_roundw
              case rel => exact unhide FIN _ _ _ rfl (by first | rfl | simp_all) (by rw [HI.out]; simp_all)
              case measure => simp [RowKit.intOf]; omega
          · have d1 : decide ((k : Int) + 1 < (N : Int)) = false := decide_eq_false (by omega)
            have d1' : ¬ (k : Int) + 1 < (N : Int) := by omega
            have hsub : (s.size : Int) - (p2 : Int) = (D : Int) := by have := hnx2.out.2 hn1; omega
            clear y4
            by_cases hR : R = 65533
            · have d2 : ((R : Int) != 65533) = false := by simp; omega
              by_cases hD : D = 3
              · have d3 : ((D : Int) == 3) = true := by simp; omega
                go_wp2
                go_roundw
                case rel => exact unhide FIN _ _ _ rfl (by first | rfl | simp_all) (by rw [HI.out]; simp_all)
                case measure => simp [RowKit.intOf]; omega
              · have d3 : ((D : Int) == 3) = false := by simp; omega
                go_wp2
                go_roundw
                case rel => exact unhide FIN _ _ _ rfl (by first | rfl | simp_all) (by rw [HI.out]; simp_all)
                case measure => simp [RowKit.intOf]; omega
            · have d2 : ((R : Int) != 65533) = true := by simp; omega
              go_wp2
              go_roundw
              case rel => exact unhide FIN _ _ _ rfl (by first | rfl | simp_all) (by rw [HI.out]; simp_all)
              case measure => simp [RowKit.intOf]; omega
        · have hpe : pre = plF s 0 := by
            have h1 := congrArg List.length HP.out
            have h2 := unhide HN
            have h3 : plF s p2 = [] := List.length_eq_zero_iff.1 (by rw [List.length_append, hk] at h1; omega)
            have := HP.out
            rw [h3, List.append_nil] at this; exact this
          have hkN : k = N := by have h2 := unhide HN; rw [← hk, hpe]; exact h2
          have hend : plF s p2 = [] := by
            have := HP.out
            rw [hpe] at this; simpa using this
          rw [hend, hpe] at hrow
          have hrow' : wr.ownsRow w.heap.size 122 4 u3 (plF s 0).length (charCs s (plF s 0)) := by rw [unhide HN]; simpa [rawCs] using hrow
          clear hpe hend hk HP
          obtain ⟨a3, c3, rfl⟩ := row_slice2 hrow
          subst hkN
          go_wp2
          go_ret
          exact ⟨_, rfl, hrow', hB⟩
/-- a Char of a list of places, in memory -/
def CharsAt (w : World) (s : ByteArray) (a : Option Addr) (l : List Nat) : Prop :=
  ∀ (i x : Nat), l[i]? = some x → ∃ g, a = some ⟨g, 0, none⟩ ∧ w.cell? ⟨g, i * 4, none⟩ = some (.int .i64 (x : Nat)) ∧ w.cell? ⟨g, i * 4 + 1, none⟩ = some (.int .i64 ((Utf8.decode s x).2 : Nat)) ∧ w.cell? ⟨g, i * 4 + 2, none⟩ = some (.int .i32 ((Utf8.decode s x).1 : Nat)) ∧ w.cell? ⟨g, i * 4 + 3, none⟩ = some (.bool (isB s x))
theorem cc_at (s : ByteArray) : ∀ (l : List Nat) (i x : Nat), l[i]? = some x → (charCs s l)[i * 4]? = some (.int .i64 (x : Nat)) ∧ (charCs s l)[i * 4 + 1]? = some (.int .i64 ((Utf8.decode s x).2 : Nat)) ∧ (charCs s l)[i * 4 + 2]? = some (.int .i32 ((Utf8.decode s x).1 : Nat)) ∧ (charCs s l)[i * 4 + 3]? = some (.bool (isB s x)) := by
  intro l
  induction l with
  | nil => intro i x h; simp at h
  | cons y l ih =>
    intro i x h
    cases i with
    | zero =>
      obtain rfl : y = x := by simpa using h
      exact ⟨rfl, rfl, rfl, rfl⟩
    | succ i =>
      have := ih i x (by simpa using h)
      have e1 : (i + 1) * 4 = i * 4 + 1 + 1 + 1 + 1 := by omega
      rw [e1]
      exact this
theorem cc_row {w1 : World} {base : Nat} {s : ByteArray} {v : Value} {n : Nat} {l : List Nat} (h : w1.ownsRow base 122 4 v n (charCs s l)) :
    ∃ a c, v = .slice a n c ∧ n = l.length ∧ CharsAt w1 s a l := by
  have hn : l.length = n := by have := h.1; rw [charCs_len] at this; omega
  rcases h.2 with ⟨rfl, h0⟩ | ⟨g, cap, cur, rfl, _, hg, _⟩
  · refine ⟨none, 0, by rw [h0], hn.symm, fun i x hx => ?_⟩
    have := (List.getElem?_eq_some_iff.1 hx).1
    omega
  · refine ⟨_, _, rfl, hn.symm, fun i x hx => ⟨g, rfl, ?_, ?_, ?_, ?_⟩⟩ <;> have hi := (List.getElem?_eq_some_iff.1 hx).1
    · exact (h.cellAt _ (by omega)).trans (cc_at s l i x hx).1
    · exact (h.cellAt _ (by omega)).trans (cc_at s l i x hx).2.1
    · exact (h.cellAt _ (by omega)).trans (cc_at s l i x hx).2.2.1
    · exact (h.cellAt _ (by omega)).trans (cc_at s l i x hx).2.2.2

end Go.Proofs.YthjnkagepooeiaaGreatDoor
/-
  How many characters a text has: the document's list of characters and Go's count.
-/
namespace Go.Proofs.YthjnkagepooeiaaGreatDoor
open Go.RowKit Go.PlainAid Go.Lib
set_option linter.unusedVariables false

theorem count_from (s : ByteArray) : ∀ fuel pos, s.size - pos ≤ fuel → runeCountFrom s fuel pos = (chars s pos).length := by
  intro fuel
  induction fuel with
  | zero => intro pos h; rw [chars_end s pos (by omega)]; rfl
  | succ fuel ih =>
    intro pos h
    by_cases hp : pos < s.size
    · have hb := dec_bounds s pos hp
      rw [runeCountFrom, if_pos hp, chars_step s pos hp, List.length_cons, ih _ (by omega)]
      omega
    · rw [runeCountFrom_end s _ pos hp, chars_end s pos (by omega)]; rfl
theorem count_chars (s : ByteArray) : runeCount s = (plF s 0).length := by
  unfold runeCount plF
  rw [count_from s s.size 0 (by omega), List.length_map]
theorem name_ok (l : List UInt8) : nameOk l = (decide (1 ≤ (plF (S l) 0).length) && decide ((plF (S l) 0).length ≤ 256)) := by
  unfold nameOk
  rw [count_chars]
end Go.Proofs.YthjnkagepooeiaaGreatDoor

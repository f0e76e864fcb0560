/-
  These texts, one behind the other: PHexM, PMay, PHex.
-/
import Derived.Test.YthgaadjkjnibaaaGreatDoorRows
import Derived.Handy
import Derived.WalkKit
import Derived.WalkSpells
import Derived.WalkLawsBesides
import Derived.PlainAid
import Derived.Deep.LoopGhost
import Derived.Laws.BitsLemmas
/-
  Digits to the base sixteen, as mathematics: the digit of a byte, the number of a row of digits, what Hex says.
-/
namespace Go.PHexM

/-- the number of a digit: 0 to 9, A to F -/
def dig (b : UInt8) : Option Nat := if 48 ≤ b.toNat ∧ b.toNat ≤ 57 then some (b.toNat - 48) else if 65 ≤ b.toNat ∧ b.toNat ≤ 70 then some (b.toNat - 55) else none
/-- the number of a row of digits behind the number a -/
def digs : List UInt8 → Nat → Option Nat
  | [], a => some a
  | b :: l, a => match dig b with
    | none => none
    | some d => digs l (a * 16 + d)
def longOk (l : List UInt8) : Bool := decide (4 ≤ l.length) && decide (l.length ≤ 6) && !(decide (4 < l.length) && (l.head? == some 48))
/-- what Hex says of a text -/
def hexP (l : List UInt8) : Option Nat := if longOk l then match digs l 0 with
    | none => none
    | some n => if 1114111 < n then none else some n
  else none

theorem dig_lt {b : UInt8} {d : Nat} (h : dig b = some d) : d < 16 := by
  unfold dig at h
  split at h
  · cases h; omega
  · split at h
    · cases h; omega
    · cases h
theorem dig_low {b : UInt8} (h1 : 48 ≤ b.toNat) (h2 : b.toNat ≤ 57) : dig b = some (b.toNat - 48) := if_pos ⟨h1, h2⟩
theorem dig_high {b : UInt8} (h1 : 65 ≤ b.toNat) (h2 : b.toNat ≤ 70) : dig b = some (b.toNat - 55) := by
  unfold dig
  rw [if_neg (by omega), if_pos ⟨h1, h2⟩]
theorem dig_not {b : UInt8} (h : b.toNat < 48 ∨ 57 < b.toNat ∧ b.toNat < 65 ∨ 70 < b.toNat) : dig b = none := by
  unfold dig
  rw [if_neg (by omega), if_neg (by omega)]
theorem digs_append (l r : List UInt8) (a : Nat) : digs (l ++ r) a = (digs l a).bind (digs r) := by
  induction l generalizing a with
  | nil => rfl
  | cons b l ih =>
    simp only [List.cons_append, digs]
    cases dig b with
    | none => rfl
    | some d => exact ih _
theorem digs_lt {l : List UInt8} {a n : Nat} (h : digs l a = some n) : n < (a + 1) * 16 ^ l.length := by
  induction l generalizing a with
  | nil => cases h; simp
  | cons b l ih =>
    simp only [digs] at h
    cases hd : dig b with
    | none => rw [hd] at h; cases h
    | some d =>
      rw [hd] at h
      have := ih h
      have hd' := dig_lt hd
      have e : (a * 16 + d + 1) * 16 ^ l.length ≤ ((a + 1) * 16) * 16 ^ l.length := Nat.mul_le_mul_right _ (by omega)
      rw [List.length_cons, Nat.pow_succ, Nat.mul_comm (16 ^ l.length) 16, ← Nat.mul_assoc]
      omega
theorem digs_take_succ {l : List UInt8} {i a : Nat} {b : UInt8} (hb : l[i]? = some b) : digs (l.take (i + 1)) a = (digs (l.take i) a).bind fun n => (dig b).map fun d => n * 16 + d := by
  rw [List.take_add_one, hb, digs_append]
  congr 1
  funext n
  simp only [Option.toList, digs]
  cases dig b <;> rfl
theorem digs_none_of_take {l : List UInt8} {i a : Nat} (h : digs (l.take i) a = none) : digs l a = none := by
  rw [← List.take_append_drop i l, digs_append, h]; rfl
end Go.PHexM
/-
  May of every range.
-/
namespace Go.Proofs.YthgaadjkjnibaaaGreatDoor
open Go.RowKit Go.PlainAid Go.Lib

theorem hide {p : Prop} (h : p) : Hid p := h
theorem unhide {p : Prop} (h : Hid p) : p := h

def mayB (lo hi : Int) : Bool := decide (0 ≤ lo) && (decide (lo ≤ hi) && decide (hi ≤ 1114111))
theorem mayB_iff {lo hi : Int} : mayB lo hi = true ↔ 0 ≤ lo ∧ lo ≤ hi ∧ hi ≤ 1114111 := by simp [mayB]

theorem may_any (lo hi : Int) (w : World) :
    Calls Tryz.prog 64 #[.agg #[.int .i32 lo, .int .i32 hi]] w fun e w' => e = .returned (.bool (mayB lo hi)) ∧ w' = w.alloc (.cells #[.int .i32 lo, .int .i32 hi] 32) := by
  by_cases h1 : 0 ≤ lo <;> by_cases h2 : lo ≤ hi <;> by_cases h3 : hi ≤ 1114111
  any_goals (exfalso; omega)
  all_goals (go_enter Tryz.func64, Tryz.ntmps64; go_wp2)
  all_goals go_ret
  all_goals exact ⟨by first | rfl | simp [mayB, h1, h2, h3] | (simp [mayB]; omega), rfl⟩
end Go.Proofs.YthgaadjkjnibaaaGreatDoor
/-
  The program's digit and Hex, of every text.
-/
namespace Go.Proofs.YthgaadjkjnibaaaGreatDoor
open Go.RowKit Go.PlainAid Go.Lib Go.PHexM
set_option linter.unusedVariables false

def digV (b : UInt8) : Value := match dig b with
  | some d => .tuple #[.int .i32 d, .bool true]
  | none => .tuple #[.int .i32 0, .bool false]
theorem digit_any (b : UInt8) (w : World) :
    Calls Tryz.prog 161 #[.int .u8 (b.toNat : Int)] w fun e w' => e = .returned (digV b) ∧ w' = w := by
  have hN : b.toNat ≤ 255 := by have := b.toNat_lt; omega
  have hd1 : 48 ≤ b.toNat → b.toNat ≤ 57 → digV b = .tuple #[.int .i32 ((b.toNat : Int) - 48), .bool true] := fun h1 h2 => by
    rw [digV, dig_low h1 h2]
    exact congrArg (fun x => Value.tuple #[.int .i32 x, .bool true]) (by omega)
  have hd2 : 65 ≤ b.toNat → b.toNat ≤ 70 → digV b = .tuple #[.int .i32 ((b.toNat : Int) - 65 + 10), .bool true] := fun h1 h2 => by
    rw [digV, dig_high h1 h2]
    exact congrArg (fun x => Value.tuple #[.int .i32 x, .bool true]) (by omega)
  have hd3 : b.toNat < 48 ∨ 57 < b.toNat ∧ b.toNat < 65 ∨ 70 < b.toNat → digV b = .tuple #[.int .i32 0, .bool false] := fun h => by rw [digV, dig_not h]
  generalize digV b = V at hd1 hd2 hd3
  generalize b.toNat = n at *
  obtain ⟨z, hz⟩ : ∃ z : Int, z = n := ⟨_, rfl⟩
  rw [← hz] at hd1 hd2 ⊢
  have hz0 : 0 ≤ z := by omega
  have hz1 : z ≤ 255 := by omega
  by_cases c1 : z < 48
  · have hV := hide (hd3 (by omega))
    clear hd1 hd2 hd3 hN hz
    go_enter Tryz.func161, Tryz.ntmps161
    go_wp2
    go_ret2
    exact ⟨congrArg _ (unhide hV).symm, rfl⟩
  by_cases c2 : z ≤ 57
  · have hV := hide (hd1 (by omega) (by omega))
    have q1 : IntKind.u8.wrap (z - 48) = z - 48 := by rw [IntKind.wrap_u8]; omega
    have q2 : IntKind.i32.wrap (z - 48) = z - 48 := by rw [IntKind.wrap_i32]; omega
    have c1' : 48 ≤ z := by omega
    clear hd1 hd2 hd3 hN hz
    go_enter Tryz.func161, Tryz.ntmps161
    go_wp2
    go_ret2
    exact ⟨congrArg _ (unhide hV).symm, rfl⟩
  by_cases c3 : z < 65
  · have hV := hide (hd3 (by omega))
    clear hd1 hd2 hd3 hN hz
    have c1' : 48 ≤ z := by omega
    go_enter Tryz.func161, Tryz.ntmps161
    go_wp2
    go_ret2
    exact ⟨congrArg _ (unhide hV).symm, rfl⟩
  by_cases c4 : z ≤ 70
  · have hV := hide (hd2 (by omega) (by omega))
    have q1 : IntKind.u8.wrap (z - 65) = z - 65 := by rw [IntKind.wrap_u8]; omega
    have q2 : IntKind.i32.wrap (z - 65) = z - 65 := by rw [IntKind.wrap_i32]; omega
    have q3 : IntKind.i32.wrap (z - 65 + 10) = z - 65 + 10 := by rw [IntKind.wrap_i32]; omega
    clear hd1 hd2 hd3 hN hz
    have c1' : 48 ≤ z := by omega
    have c3' : 65 ≤ z := by omega
    go_enter Tryz.func161, Tryz.ntmps161
    go_wp2
    go_ret2
    exact ⟨congrArg _ (unhide hV).symm, rfl⟩
  · have hV := hide (hd3 (by omega))
    clear hd1 hd2 hd3 hN hz
    have c1' : 48 ≤ z := by omega
    have c3' : 65 ≤ z := by omega
    go_enter Tryz.func161, Tryz.ntmps161
    go_wp2
    go_ret2
    exact ⟨congrArg _ (unhide hV).symm, rfl⟩
def hexV (l : List UInt8) : Value := match hexP l with
  | some n => .tuple #[.int .i32 n, .int .i64 0]
  | none => .tuple #[.int .i32 0, .int .i64 40]
theorem hexV_none {l : List UInt8} (h : hexP l = none) : hexV l = .tuple #[.int .i32 0, .int .i64 40] := by rw [hexV, h]
theorem hexV_some {l : List UInt8} {n : Nat} (h : hexP l = some n) : hexV l = .tuple #[.int .i32 n, .int .i64 0] := by rw [hexV, h]
theorem digit_some {b : UInt8} {d : Nat} (h : dig b = some d) (w : World) :
    Calls Tryz.prog 161 #[.int .u8 (b.toNat : Int)] w fun e w' => e = .returned (.tuple #[.int .i32 d, .bool true]) ∧ w' = w := by
  have := digit_any b w
  rwa [digV, h] at this
theorem digit_none {b : UInt8} (h : dig b = none) (w : World) :
    Calls Tryz.prog 161 #[.int .u8 (b.toNat : Int)] w fun e w' => e = .returned (.tuple #[.int .i32 0, .bool false]) ∧ w' = w := by
  have := digit_any b w
  rwa [digV, h] at this

theorem hexP_stop {l : List UInt8} {i : Nat} {b : UInt8} (hb : l[i]? = some b) (hd : dig b = none) : hexP l = none := by
  have h : digs l 0 = none := by
    apply digs_none_of_take (i := i + 1)
    rw [digs_take_succ hb, hd]
    cases digs (l.take i) 0 <;> rfl
  unfold hexP
  rw [h]
  split <;> rfl
theorem hexP_far {l : List UInt8} {n : Nat} (h : digs l 0 = some n) (hn : 1114111 < n) : hexP l = none := by
  unfold hexP
  rw [h]
  split
  · exact if_pos hn
  · rfl
theorem hexP_is {l : List UInt8} {n : Nat} (hl : longOk l = true) (h : digs l 0 = some n) (hn : ¬ 1114111 < n) : hexP l = some n := by
  unfold hexP
  rw [if_pos hl, h]
  exact if_neg hn
theorem hexP_short {l : List UInt8} (hl : longOk l = false) : hexP l = none := by
  unfold hexP
  rw [if_neg (by simp [hl])]
theorem digs_next {l : List UInt8} {i n d : Nat} {b : UInt8} (hb : l[i]? = some b) (hd : dig b = some d) (hn : digs (l.take i) 0 = some n) : digs (l.take (i + 1)) 0 = some (n * 16 + d) := by
  rw [digs_take_succ hb, hn, hd]; rfl
theorem hexN_lt {l : List UInt8} {i n : Nat} (hn : digs (l.take i) 0 = some n) (hi : i < 6) : n < 1048576 := by
  have h := digs_lt hn
  have h1 : (l.take i).length ≤ 5 := by rw [List.length_take]; omega
  have h2 : 16 ^ (l.take i).length ≤ 16 ^ 5 := Nat.pow_le_pow_right (by omega) h1
  omega
theorem or_next {n d : Nat} (hn : n < 1048576) (hd : d < 16) : bits BinOp.or IntKind.i32 (wrap32 ((n : Int) * 16)) (d : Int) = ((n * 16 + d : Nat) : Int) := by
  have e : wrap32 ((n : Int) * 16) = (n : Int) * 16 := by unfold wrap32; omega
  rw [e, bits_join .i32 31 (by decide) wraps_i32 4 _ _ (by omega) (by omega) (by omega) (by omega) (by omega) (by omega)]
  omega

theorem hex_long (s : ByteArray) (hl : longOk s.data.toList = true) (h4 : 4 ≤ s.size) (h6 : s.size ≤ 6) (hc : s.size = 4 ∨ 4 < s.size ∧ ∀ h : 0 < s.size, ¬ s[0].toNat = 48) (w : World) :
    Calls Tryz.prog 126 #[.string s] w fun e w' => e = .returned (hexV s.data.toList) ∧ w' = w := by
  have HL := hide hl
  clear hl
  rcases hc with hc | ⟨hc, hx⟩
  · go_enter Tryz.func126, Tryz.ntmps126
    go_wp2
    go_loopg [4, 28] s.size (fun kx s4 s28 wr => ∃ (i n : Nat), i ≤ s.size ∧ s28 = .int .i64 i ∧ digs (s.data.toList.take i) 0 = some n ∧ s4 = .int .i32 n ∧ kx = s.size - i ∧ wr = w)
    case atStart => exact ⟨0, 0, by omega, rfl, rfl, rfl, by omega, rfl⟩
    case round =>
      obtain ⟨i, n, hi, rfl, hn, rfl, rfl, rfl⟩ := hrel
      by_cases hlt : i < s.size
      · have hb : s.data.toList[i]? = some s[i] := by
          rw [Array.getElem?_toList]
          exact Array.getElem?_eq_getElem (by simpa using hlt)
        cases hd : dig s[i] with
        | none =>
          have HD := hide (digit_none hd)
          have HV := hide (hexV_none (hexP_stop hb hd))
          go_wp2_with (go_at_call 161; refine (unhide HD _).mono ?_; rintro e w' ⟨rfl, rfl⟩)
          go_ret2
          exact ⟨congrArg _ (unhide HV).symm, rfl⟩
        | some d =>
          have HD := hide (digit_some hd)
          have HN := hide (digs_next hb hd hn)
          have HO := hide (or_next (by have := hexN_lt hn (by omega : i < 6); omega) (dig_lt hd))
          go_wp2_with (go_at_call 161; refine (unhide HD _).mono ?_; rintro e w' ⟨rfl, rfl⟩)
          rw [unhide HO]
          go_roundg (s.size - (i + 1))
          case measure => omega
          case rel => exact ⟨i + 1, n * 16 + d, by omega, rfl, unhide HN, rfl, rfl, rfl⟩
      · have hn' : digs s.data.toList 0 = some n := by rwa [List.take_of_length_le (by simpa using Nat.le_of_not_lt hlt)] at hn
        by_cases hb : 1114111 < n
        · have HV := hide (hexV_none (hexP_far hn' hb))
          go_wp2
          go_ret2
          exact ⟨congrArg _ (unhide HV).symm, rfl⟩
        · have HV := hide (hexV_some (hexP_is (unhide HL) hn' hb))
          go_wp2
          go_ret2
          exact ⟨congrArg _ (unhide HV).symm, rfl⟩
  · have hx0 : ((s[0].toNat : Int) == 48) = false := by
      have := hx (by omega)
      simp only [beq_eq_false_iff_ne]
      omega
    clear hx
    go_enter Tryz.func126, Tryz.ntmps126
    go_wp2
    go_loopg [4, 28] s.size (fun kx s4 s28 wr => ∃ (i n : Nat), i ≤ s.size ∧ s28 = .int .i64 i ∧ digs (s.data.toList.take i) 0 = some n ∧ s4 = .int .i32 n ∧ kx = s.size - i ∧ wr = w)
    case atStart => exact ⟨0, 0, by omega, rfl, rfl, rfl, by omega, rfl⟩
    case round =>
      obtain ⟨i, n, hi, rfl, hn, rfl, rfl, rfl⟩ := hrel
      by_cases hlt : i < s.size
      · have hb : s.data.toList[i]? = some s[i] := by
          rw [Array.getElem?_toList]
          exact Array.getElem?_eq_getElem (by simpa using hlt)
        cases hd : dig s[i] with
        | none =>
          have HD := hide (digit_none hd)
          have HV := hide (hexV_none (hexP_stop hb hd))
          go_wp2_with (go_at_call 161; refine (unhide HD _).mono ?_; rintro e w' ⟨rfl, rfl⟩)
          go_ret2
          exact ⟨congrArg _ (unhide HV).symm, rfl⟩
        | some d =>
          have HD := hide (digit_some hd)
          have HN := hide (digs_next hb hd hn)
          have HO := hide (or_next (by have := hexN_lt hn (by omega : i < 6); omega) (dig_lt hd))
          go_wp2_with (go_at_call 161; refine (unhide HD _).mono ?_; rintro e w' ⟨rfl, rfl⟩)
          rw [unhide HO]
          go_roundg (s.size - (i + 1))
          case measure => omega
          case rel => exact ⟨i + 1, n * 16 + d, by omega, rfl, unhide HN, rfl, rfl, rfl⟩
      · have hn' : digs s.data.toList 0 = some n := by rwa [List.take_of_length_le (by simpa using Nat.le_of_not_lt hlt)] at hn
        by_cases hb : 1114111 < n
        · have HV := hide (hexV_none (hexP_far hn' hb))
          go_wp2
          go_ret2
          exact ⟨congrArg _ (unhide HV).symm, rfl⟩
        · have HV := hide (hexV_some (hexP_is (unhide HL) hn' hb))
          go_wp2
          go_ret2
          exact ⟨congrArg _ (unhide HV).symm, rfl⟩

theorem hex_any (s : ByteArray) (w : World) :
    Calls Tryz.prog 126 #[.string s] w fun e w' => e = .returned (hexV s.data.toList) ∧ w' = w := by
  have hsz : s.data.toList.length = s.size := by simp
  by_cases a : s.size < 4
  · have HV := hide (hexV_none (hexP_short (l := s.data.toList) (by unfold longOk; rw [hsz]; simp; omega)))
    clear hsz
    go_enter Tryz.func126, Tryz.ntmps126
    go_wp2
    go_ret2
    exact ⟨congrArg _ (unhide HV).symm, rfl⟩
  by_cases b : 6 < s.size
  · have HV := hide (hexV_none (hexP_short (l := s.data.toList) (by unfold longOk; rw [hsz]; simp; omega)))
    clear hsz
    go_enter Tryz.func126, Tryz.ntmps126
    go_wp2
    go_ret2
    exact ⟨congrArg _ (unhide HV).symm, rfl⟩
  have h0 : 0 < s.size := by omega
  have hh : s.data.toList.head? = some s[0] := by
    rw [List.head?_eq_getElem?, Array.getElem?_toList]
    exact Array.getElem?_eq_getElem (by simpa using h0)
  by_cases c : 4 < s.size ∧ s[0].toNat = 48
  · have e0 : s[0] = 48 := UInt8.toNat_inj.1 c.2
    have HV := hide (hexV_none (hexP_short (l := s.data.toList) (by unfold longOk; rw [hsz, hh, e0]; simp; omega)))
    have c1 := c.1
    have c2 : ((s[0].toNat : Int) == 48) = true := by rw [c.2]; rfl
    have b' : s.size ≤ 6 := by omega
    clear hsz c hh e0 b
    go_enter Tryz.func126, Tryz.ntmps126
    go_wp2
    go_ret2
    exact ⟨congrArg _ (unhide HV).symm, rfl⟩
  · refine hex_long s ?_ (by omega) (by omega) ?_ w
    · unfold longOk
      rw [hsz, hh]
      have e1 : decide (4 ≤ s.size) = true := by simp; omega
      have e2 : decide (s.size ≤ 6) = true := by simp; omega
      rw [e1, e2]
      by_cases d : 4 < s.size
      · have : ¬ s[0] = 48 := fun h => c ⟨d, by rw [h]; rfl⟩
        simp [this]
      · simp [d]
    · by_cases d : 4 < s.size
      · exact .inr ⟨d, fun _ h => c ⟨d, h⟩⟩
      · exact .inl (by omega)

end Go.Proofs.YthgaadjkjnibaaaGreatDoor

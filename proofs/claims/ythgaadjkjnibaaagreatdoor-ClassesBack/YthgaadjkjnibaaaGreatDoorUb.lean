/-
  These texts, one behind the other: Leaf, Why, Spot, Math, Chars, First, Last, Runes, New, Place, Spots, Check, Join, Start, Lives, Copy.
-/
import Derived.Test.YthgaadjkjnibaaaGreatDoorRows
import Derived.WalkKit
import Derived.WalkSpells
import Derived.WalkLawsBesides
import Derived.Handy
import Derived.PlainAid
import Derived.Lib.OthersKept
import Derived.Laws.IdiomStrings
import Derived.Laws.Cover4
import Derived.RangeFuncBox
import Derived.Maps.AppendAt
import Derived.RangeFuncNested
import Derived.RangeFuncBound
import Derived.RangeFuncCalls
import Derived.RangeFuncLeaves
import Derived.Shelf.Abstract
import Derived.Shelf.RegionOpen
import Derived.OwnWalkIn
import Derived.TacticsInMore
import Derived.LoopNIn
import Derived.LoopIn
import Derived.OpenShut
/-
  What the small functions of package utf answer, for every argument: Scalar, Width and their helpers, the first byte of a sequence. Nothing is written.
-/
namespace Go.Proofs.YthgaadjkjnibaaaGreatDoor
open Go.RowKit

theorem ret_int {k : IntKind} {a b : Int} (h : a = b) : Ending.returned (.int k a) = .returned (.int k b) := by rw [h]
theorem ret_int2 {k l : IntKind} {a b c d : Int} (h : a = b) (h' : c = d) : Ending.returned (.tuple #[.int k a, .int l c]) = .returned (.tuple #[.int k b, .int l d]) := by rw [h, h']
theorem ret_bool {a b : Bool} (h : a = b) : Ending.returned (.bool a) = .returned (.bool b) := by rw [h]

def halfB (r : Int) : Bool := decide (55296 ≤ r) && decide (r ≤ 57343)
def scalarB (r : Int) : Bool := decide (0 ≤ r) && decide (r ≤ 1114111) && !halfB r
def bytesN (r : Int) : Int := if r < 128 then 1 else if r < 2048 then 2 else if r < 65536 then 3 else 4
def widthN (r : Int) : Int := if scalarB r then bytesN r else 0
def tailB (b : Int) : Bool := decide (128 ≤ b) && decide (b ≤ 191)

theorem isHalf_any (r : Int) (w : World) :
    Calls Tryz.prog 225 #[.int .i32 r] w fun e w' => e = .returned (.bool (halfB r)) ∧ w' = w := by
  go_enter Tryz.func225, Tryz.ntmps225
  go_wp2
  all_goals go_ret
  all_goals exact ⟨by simp [halfB]; omega, rfl⟩

theorem scalar_any (r : Int) (w : World) :
    Calls Tryz.prog 214 #[.int .i32 r] w fun e w' => e = .returned (.bool (scalarB r)) ∧ w' = w := by
  go_enter Tryz.func214, Tryz.ntmps214
  go_wp2_with (go_at_call 225; refine (isHalf_any _ _).mono ?_; rintro e w' ⟨rfl, rfl⟩)
  all_goals go_ret
  all_goals exact ⟨by simp [scalarB, *]; try omega, rfl⟩

theorem bytesFor_any (r : Int) (w : World) :
    Calls Tryz.prog 215 #[.int .i32 r] w fun e w' => e = .returned (.int .i64 (bytesN r)) ∧ w' = w := by
  go_enter Tryz.func215, Tryz.ntmps215
  go_wp2
  all_goals go_ret
  all_goals exact ⟨ret_int (by unfold bytesN; (repeat' split) <;> omega), rfl⟩

theorem width_any (r : Int) (w : World) :
    Calls Tryz.prog 189 #[.int .i32 r] w fun e w' => e = .returned (.int .i64 (widthN r)) ∧ w' = w := by
  cases h : scalarB r
  all_goals
    go_enter Tryz.func189, Tryz.ntmps189
    go_wp2_with (first | (go_at_call 214; refine (scalar_any _ _).mono ?_; rintro e w' ⟨rfl, rfl⟩) | (go_at_call 215; refine (bytesFor_any _ _).mono ?_; rintro e w' ⟨rfl, rfl⟩))
    go_ret
    exact ⟨by simp [widthN, h], rfl⟩

theorem isTail_any (b : Int) (w : World) :
    Calls Tryz.prog 212 #[.int .u8 b] w fun e w' => e = .returned (.bool (tailB b)) ∧ w' = w := by
  go_enter Tryz.func212, Tryz.ntmps212
  go_wp2
  all_goals go_ret
  all_goals exact ⟨by simp [tailB]; omega, rfl⟩

/-- How many bytes a sequence has that begins with b. -/
def leadN (b : Int) : Int := if b < 128 then 1 else if b < 192 then 0 else if b < 224 then 2 else if b < 240 then 3 else if b < 248 then 4 else 0
/-- The bits that b gives. -/
def leadBits (b : Int) : Int := if b < 128 then b else if b < 192 then 0 else if b < 224 then b % 32 else if b < 240 then b % 16 else if b < 248 then b % 8 else 0

theorem lead_any (b : Int) (h0 : 0 ≤ b) (h1 : b ≤ 255) (w : World) :
    Calls Tryz.prog 211 #[.int .u8 b] w fun e w' => e = .returned (.tuple #[.int .i64 (leadN b), .int .i32 (leadBits b)]) ∧ w' = w := by
  go_enter Tryz.func211, Tryz.ntmps211
  have e1 := u8_and31 b h0 (by omega)
  have e2 := u8_and15 b h0 (by omega)
  have e3 := u8_and7 b h0 (by omega)
  go_wp2
  all_goals go_ret2
  all_goals exact ⟨ret_int2 (by unfold leadN; (repeat' split) <;> omega) (by unfold leadBits; (repeat' split) <;> omega), rfl⟩

/-- Why a number may not be written in n bytes; 0: it may. -/
def whyNoN (r n : Int) : Int := if bytesN r < n then 13 else if halfB r then 14 else if 1114111 < r then 15 else 0

theorem whyNo_any (r n : Int) (w : World) :
    Calls Tryz.prog 213 #[.int .i32 r, .int .i64 n] w fun e w' => e = .returned (.int .i64 (whyNoN r n)) ∧ w' = w := by
  cases hh : halfB r
  all_goals
    go_enter Tryz.func213, Tryz.ntmps213
    go_wp2_with (first | (go_at_call 225; refine (isHalf_any _ _).mono ?_; rintro e w' ⟨rfl, rfl⟩) | (go_at_call 215; refine (bytesFor_any _ _).mono ?_; rintro e w' ⟨rfl, rfl⟩))
    all_goals go_ret
    all_goals exact ⟨ret_int (by unfold whyNoN; (repeat' split) <;> (first | rfl | omega | simp_all)), rfl⟩

end Go.Proofs.YthgaadjkjnibaaaGreatDoor
/-
  Why the first byte of a text is wrong: what the function whyWrong of package utf answers, for every text that is not empty.
-/
namespace Go.Proofs.YthgaadjkjnibaaaGreatDoor
open Go.RowKit Go.PlainAid

def whyGo (t : ByteArray) (n : Int) : Nat → Nat → Int → Int
  | 0, _, acc => whyNoN acc n
  | f + 1, i, acc => if i = t.size then 11 else if tailB (bt t i) then whyGo t n f (i + 1) (acc * 64 + bt t i % 64) else 12
def whyN (t : ByteArray) : Int :=
  if leadN (bt t 0) = 0 then 10 else whyGo t (leadN (bt t 0)) (leadN (bt t 0) - 1).toNat 1 (leadBits (bt t 0))

theorem leadN_cases (b : Int) : leadN b = 0 ∨ leadN b = 1 ∨ leadN b = 2 ∨ leadN b = 3 ∨ leadN b = 4 := by
  unfold leadN; (repeat' split) <;> simp
theorem leadN_le (b : Int) : 0 ≤ leadN b ∧ leadN b ≤ 4 := by have := leadN_cases b; omega
theorem leadBits_le (b : Int) (h0 : 0 ≤ b) : 0 ≤ leadBits b ∧ leadBits b < 128 := by
  unfold leadBits; (repeat' split) <;> omega
theorem leadBits_le2 (b : Int) (_h0 : 0 ≤ b) (h : 1 < leadN b) : 0 ≤ leadBits b ∧ leadBits b < 32 := by
  unfold leadN at h; unfold leadBits; revert h; (repeat' split) <;> omega

/-- What has come of the bits when the bytes ahead of i are through. -/
def accN (t : ByteArray) : Nat → Int
  | 0 => 0
  | 1 => leadBits (bt t 0)
  | i + 2 => accN t (i + 1) * 64 + bt t (i + 1) % 64
theorem acc_succ (t : ByteArray) (i : Nat) (h : 1 ≤ i) : accN t (i + 1) = accN t i * 64 + bt t i % 64 := by
  obtain ⟨j, rfl⟩ : ∃ j, i = j + 1 := ⟨i - 1, by omega⟩
  rfl
theorem acc_le (t : ByteArray) (h : 1 < leadN (bt t 0)) (i : Nat) : i ≤ 4 → 1 ≤ i → 0 ≤ accN t i ∧ accN t i < 32 * 64 ^ (i - 1) := by
  intro h4 h1
  have hl := leadBits_le2 (bt t 0) (bt_nonneg t 0) h
  have b1 := bt_nonneg t 1; have b2 := bt_nonneg t 2; have b3 := bt_nonneg t 3
  have e1 : accN t 1 = leadBits (bt t 0) := rfl
  have e2 : accN t 2 = accN t 1 * 64 + bt t 1 % 64 := rfl
  have e3 : accN t 3 = accN t 2 * 64 + bt t 2 % 64 := rfl
  have e4 : accN t 4 = accN t 3 * 64 + bt t 3 % 64 := rfl
  have : i = 1 ∨ i = 2 ∨ i = 3 ∨ i = 4 := by omega
  rcases this with rfl | rfl | rfl | rfl <;> simp <;> omega
theorem acc_small (t : ByteArray) (h : 1 < leadN (bt t 0)) (i : Nat) (h4 : i ≤ 4) (h1 : 1 ≤ i) : 0 ≤ accN t i ∧ accN t i < 8388608 := by
  have := acc_le t h i h4 h1
  have : i = 1 ∨ i = 2 ∨ i = 3 ∨ i = 4 := by omega
  rcases this with rfl | rfl | rfl | rfl <;> simp at * <;> omega

theorem whyGo_step (t : ByteArray) (n : Int) (i : Nat) (acc : Int) (h : (i : Int) < n) :
    whyGo t n (n - i).toNat i acc = if i = t.size then 11 else if tailB (bt t i) then whyGo t n (n - (i + 1 : Nat)).toNat (i + 1) (acc * 64 + bt t i % 64) else 12 := by
  have e : (n - i).toNat = (n - (i + 1 : Nat)).toNat + 1 := by omega
  rw [e]; rfl
theorem whyGo_end (t : ByteArray) (n : Int) (i : Nat) (acc : Int) (h : (i : Int) = n) : whyGo t n (n - i).toNat i acc = whyNoN acc n := by
  have e : (n - i).toNat = 0 := by omega
  rw [e]; rfl

set_option maxHeartbeats 400000 in
theorem whyWrong_any (t : ByteArray) (w : World) (hs : t.size ≤ maxLen) (h0 : 0 < t.size) :
    Calls Tryz.prog 188 #[.string t] w fun e w' => e = .returned (.int .i64 (whyN t)) ∧ w' = w := by
  unfold maxLen at hs
  have hb := get_bt t
  have b0 := bt_nonneg t 0
  have b1 := bt_le t 0
  by_cases hz : leadN (bt t 0) = 0
  · have hz' : (leadN (bt t 0) == 0) = true := beq_iff_eq.2 hz
    have HZ : Hid (leadN (bt t 0) = 0) := hz
    clear hz
    go_enter Tryz.func188, Tryz.ntmps188
    go_wp2_with (go_at_call 211; refine (lead_any _ b0 b1 _).mono ?_; rintro e w' ⟨rfl, rfl⟩)
    go_ret
    exact ⟨ret_int (by rw [whyN, if_pos HZ.out]), rfl⟩
  · have hz' : (leadN (bt t 0) == 0) = false := beq_eq_false_iff_ne.2 hz
    have hl := leadN_le (bt t 0)
    have ha := acc_small t
    have HA : Hid (1 < leadN (bt t 0) → ∀ (i : Nat), i ≤ 4 → 1 ≤ i → 0 ≤ accN t i ∧ accN t i < 8388608) := ha
    have hl1 : 1 ≤ leadN (bt t 0) := by omega
    have HW : Hid (whyN t = whyGo t (leadN (bt t 0)) (leadN (bt t 0) - (1 : Nat)).toNat 1 (accN t 1)) := by
      show whyN t = _
      rw [whyN, if_neg hz]; rfl
    clear hz ha
    generalize hn : leadN (bt t 0) = n at *
    have HN : Hid (leadN (bt t 0) = n) := hn
    clear hn
    go_enter Tryz.func188, Tryz.ntmps188
    go_wp2_with (go_at_call 211; refine (lead_any _ b0 b1 _).mono ?_; rintro e w' ⟨rfl, rfl⟩; rw [HN.out])
    go_loop [4, 5] (fun v4 v5 => ∃ i : Nat, 1 ≤ i ∧ (i : Int) ≤ n ∧ i ≤ t.size ∧ v5 = .int .i64 i ∧ v4 = .int .i32 (accN t i) ∧ Hid (whyN t = whyGo t n (n - i).toNat i (accN t i))) (fun _ v5 => 5 - (intOf v5).toNat)
    case atStart => exact ⟨1, Nat.le_refl _, hl1, h0, rfl, rfl, HW⟩
    case round =>
      obtain ⟨i, hi1, hi2, hi3, rfl, rfl, HV⟩ := hrel
      have c0 := bt_nonneg t i
      have c1 := bt_le t i
      by_cases hlt : (i : Int) < n
      · have hac := HA.out (by omega) i (by omega) hi1
        have HS := whyGo_step t n i (accN t i) hlt
        have HS' : Hid (whyGo t n (n - i).toNat i (accN t i) = if i = t.size then 11 else if tailB (bt t i) then whyGo t n (n - (i + 1 : Nat)).toNat (i + 1) (accN t i * 64 + bt t i % 64) else 12) := HS
        clear HS
        by_cases he : i = t.size
        · have he' : ((i : Int) == (t.size : Int)) = true := by simp [he]
          have HE : Hid (i = t.size) := he
          clear he
          go_wp2
          go_ret
          exact ⟨ret_int (by rw [HV.out, HS'.out, if_pos HE.out]), rfl⟩
        · have he' : ((i : Int) == (t.size : Int)) = false := by simp; omega
          have hlt' : i < t.size := by omega
          have HE : Hid (¬ i = t.size) := he
          clear he
          have e63 := u8_and63 (bt t i) c0 (by omega)
          have eor := i32_or6 (accN t i * 64) (bt t i % 64) (by omega) (by omega) (by omega) (by omega) (by omega)
          cases htl : tailB (bt t i)
          · have HT : Hid (tailB (bt t i) = false) := htl
            clear htl
            go_wp2_with (go_at_call 212; refine (isTail_any _ _).mono ?_; rintro e w' ⟨rfl, rfl⟩; rw [HT.out])
            go_ret
            exact ⟨ret_int (by rw [HV.out, HS'.out, if_neg HE.out, if_neg (by rw [HT.out]; simp)]), rfl⟩
          · have HT : Hid (tailB (bt t i) = true) := htl
            clear htl
            go_wp2_with (go_at_call 212; refine (isTail_any _ _).mono ?_; rintro e w' ⟨rfl, rfl⟩; rw [HT.out])
            go_round
            case rel => exact ⟨i + 1, by omega, by omega, by omega, by go_num, by rw [acc_succ t i hi1], show _ = _ by rw [HV.out, HS'.out, if_neg HE.out, if_pos HT.out, acc_succ t i hi1]⟩
            case measure => simp [intOf]; omega
      · have HS : Hid (whyGo t n (n - i).toNat i (accN t i) = whyNoN (accN t i) n) := whyGo_end t n i (accN t i) (by omega)
        go_wp2_with (go_at_call 213; refine (whyNo_any _ _ _).mono ?_; rintro e w' ⟨rfl, rfl⟩)
        go_ret
        exact ⟨ret_int (by rw [HV.out, HS.out]), rfl⟩

end Go.Proofs.YthgaadjkjnibaaaGreatDoor
/-
  The Spot of a character: what spotAt, First of package utf answer, for every text.
-/
namespace Go.Proofs.YthgaadjkjnibaaaGreatDoor
open Go.RowKit Go.PlainAid

theorem bcell {W w1 : World} (hb : Below W.heap.size W w1) : (∀ b o, b < W.heap.size → w1.cell? ⟨b, o, none⟩ = W.cell? ⟨b, o, none⟩) ∧ (∀ b o, b < W.heap.size → w1.frozen? ⟨b, o, none⟩ = W.frozen? ⟨b, o, none⟩) :=
  ⟨fun b o h => hb.cell (p := ⟨b, o, none⟩) h, fun b o h => hb.frozen (p := ⟨b, o, none⟩) h⟩

abbrev spotV (a b c d : Int) : Value := .agg #[.int .i64 a, .int .i64 b, .int .i32 c, .int .i64 d]

/-- the width and the code of the Spot that spotAt makes of r at the place at -/
def spotW (s : ByteArray) (at' : Nat) (r : Int) : Int := if r = 65533 ∧ whyN (s.extract at' s.size) ≠ 0 then 1 else widthN r
def spotC (s : ByteArray) (at' : Nat) (r : Int) : Int := if r = 65533 ∧ whyN (s.extract at' s.size) ≠ 0 then whyN (s.extract at' s.size) else 0

theorem extract_size (s : ByteArray) (i : Nat) : (s.extract i s.size).size = s.size - i := by simp [ByteArray.size_extract]

abbrev spotCells (a b c d : Int) : Obj := .cells #[.int .i64 a, .int .i64 b, .int .i32 c, .int .i64 d] 178

set_option maxHeartbeats 400000 in
theorem spotAt_any (s : ByteArray) (i : Nat) (r : Int) (w : World) (hs : s.size ≤ maxLen) (hi : i < s.size) :
    Calls Tryz.prog 154 #[.string s, .int .i64 i, .int .i32 r] w fun e w' => e = .returned (spotV i (spotW s i r) r (spotC s i r)) ∧ w' = w.alloc (spotCells i (spotW s i r) r (spotC s i r)) := by
  have hx := extract_size s i
  have HX : Hid ((s.extract i s.size).size = s.size - i) := hx
  clear hx
  by_cases hr : r = 65533
  · have hr' : (r == 65533) = true := beq_iff_eq.2 hr
    have HR : Hid (r = 65533) := hr
    clear hr
    by_cases hz : whyN (s.extract i s.size) = 0
    · have HZ : Hid (whyN (s.extract i s.size) = 0) := hz
      have hz' : (whyN (s.extract i s.size) != 0) = false := by simp [hz]
      clear hz
      have eW : Hid (spotW s i r = widthN r) := by show _ = _; rw [spotW, if_neg (fun h => h.2 HZ.out)]
      have eC : Hid (spotC s i r = 0) := by show _ = _; rw [spotC, if_neg (fun h => h.2 HZ.out)]
      go_enter Tryz.func154, Tryz.ntmps154
      go_wp2_with (first | (go_at_call 189; refine (width_any _ _).mono ?_; rintro e w' ⟨rfl, rfl⟩) | (go_at_call 188; refine (whyWrong_any _ _ (by rw [HX.out]; omega) (by rw [HX.out]; omega)).mono ?_; rintro e w' ⟨rfl, rfl⟩))
      go_returns
      exact ⟨by rw [eW.out, eC.out], by rw [eW.out, eC.out]⟩
    · have HZ : Hid (¬ whyN (s.extract i s.size) = 0) := hz
      have hz' : (whyN (s.extract i s.size) != 0) = true := by simp [hz]
      clear hz
      have eW : Hid (spotW s i r = 1) := by show _ = _; rw [spotW, if_pos ⟨HR.out, HZ.out⟩]
      have eC : Hid (spotC s i r = whyN (s.extract i s.size)) := by show _ = _; rw [spotC, if_pos ⟨HR.out, HZ.out⟩]
      go_enter Tryz.func154, Tryz.ntmps154
      go_wp2_with (go_at_call 188; refine (whyWrong_any _ _ (by rw [HX.out]; omega) (by rw [HX.out]; omega)).mono ?_; rintro e w' ⟨rfl, rfl⟩)
      go_returns
      exact ⟨by rw [eW.out, eC.out], by rw [eW.out, eC.out]⟩
  · have hr' : (r == 65533) = false := beq_eq_false_iff_ne.2 hr
    have eW : Hid (spotW s i r = widthN r) := by show _ = _; rw [spotW, if_neg (fun h => hr h.1)]
    have eC : Hid (spotC s i r = 0) := by show _ = _; rw [spotC, if_neg (fun h => hr h.1)]
    clear hr
    go_enter Tryz.func154, Tryz.ntmps154
    go_wp2_with (go_at_call 189; refine (width_any _ _).mono ?_; rintro e w' ⟨rfl, rfl⟩)
    go_returns
    exact ⟨by rw [eW.out, eC.out], by rw [eW.out, eC.out]⟩

end Go.Proofs.YthgaadjkjnibaaaGreatDoor
/-
  Plain facts on the model's reading of one character of a text, held against the document's reasons why a byte is wrong.
-/
namespace Go.Proofs.YthgaadjkjnibaaaGreatDoor
open Go.RowKit Go.PlainAid

theorem bt_extract (s : ByteArray) (i k : Nat) : bt (s.extract i s.size) k = bt s (i + k) := by
  unfold bt
  by_cases h : i + k < s.size
  · rw [dif_pos h, dif_pos (by simp [ByteArray.size_extract]; omega)]
    simp [ByteArray.getElem_extract]
  · rw [dif_neg h, dif_neg (by simp [ByteArray.size_extract]; omega)]

/-- byte k as a natural number; 0 behind the end -/
def bN (s : ByteArray) (k : Nat) : Nat := (s.get! k).toNat
theorem bN_lt (s : ByteArray) (k : Nat) : bN s k < 256 := (s.get! k).toNat_lt
theorem get_in (s : ByteArray) (k : Nat) (h : k < s.size) : s.get! k = s[k]'h := by
  simp [ByteArray.get!, getElem!_pos, h]; rfl
theorem get_out (s : ByteArray) (k : Nat) (h : ¬ k < s.size) : s.get! k = 0 := by
  have h' : ¬ k < s.data.size := h
  exact (getElem!_neg s.data k h').trans rfl
theorem bt_bN (s : ByteArray) (k : Nat) : bt s k = (bN s k : Int) := by
  unfold bt bN
  by_cases h : k < s.size
  · rw [dif_pos h, get_in s k h]
  · rw [dif_neg h, get_out s k h]; rfl

/-- the model's reading, told of four bytes and of how many are left -/
def decB (sz b0 b1 b2 b3 : Nat) : Nat × Nat :=
  if b0 < 128 then (b0, 1)
  else if b0 / 32 = 6 ∧ (1 < sz ∧ b1 / 64 = 2) then (if 128 ≤ b0 % 32 * 64 + b1 % 64 then (b0 % 32 * 64 + b1 % 64, 2) else (65533, 1))
  else if b0 / 16 = 14 ∧ (1 < sz ∧ b1 / 64 = 2) ∧ (2 < sz ∧ b2 / 64 = 2) then
    (if 2048 ≤ b0 % 16 * 4096 + b1 % 64 * 64 + b2 % 64 ∧ ¬ (55296 ≤ b0 % 16 * 4096 + b1 % 64 * 64 + b2 % 64 ∧ b0 % 16 * 4096 + b1 % 64 * 64 + b2 % 64 < 57344) then (b0 % 16 * 4096 + b1 % 64 * 64 + b2 % 64, 3) else (65533, 1))
  else if b0 / 8 = 30 ∧ (1 < sz ∧ b1 / 64 = 2) ∧ (2 < sz ∧ b2 / 64 = 2) ∧ (3 < sz ∧ b3 / 64 = 2) then
    (if 65536 ≤ b0 % 8 * 262144 + b1 % 64 * 4096 + b2 % 64 * 64 + b3 % 64 ∧ b0 % 8 * 262144 + b1 % 64 * 4096 + b2 % 64 * 64 + b3 % 64 ≤ 1114111 then (b0 % 8 * 262144 + b1 % 64 * 4096 + b2 % 64 * 64 + b3 % 64, 4) else (65533, 1))
  else (65533, 1)

theorem valid3 (c : Nat) (h : c < 65536) : Utf8.valid (c : Int) = decide (¬ (55296 ≤ c ∧ c < 57344)) := by
  unfold Utf8.valid
  rw [Bool.eq_iff_iff]; simp; omega
theorem valid4 (c : Nat) (h : 65536 ≤ c) : Utf8.valid (c : Int) = decide (c ≤ 1114111) := by
  unfold Utf8.valid
  rw [Bool.eq_iff_iff]; simp; omega

theorem decode_decB (s : ByteArray) (i : Nat) (_hi : i < s.size) : Utf8.decode s i = decB (s.size - i) (bN s i) (bN s (i + 1)) (bN s (i + 2)) (bN s (i + 3)) := by
  have e0 : (s.get! (i + 0)).toNat = bN s i := rfl
  have e1 : (s.get! (i + 1)).toNat = bN s (i + 1) := rfl
  have e2 : (s.get! (i + 2)).toNat = bN s (i + 2) := rfl
  have e3 : (s.get! (i + 3)).toNat = bN s (i + 3) := rfl
  have h0 := bN_lt s i; have h1 := bN_lt s (i + 1); have h2 := bN_lt s (i + 2); have h3 := bN_lt s (i + 3)
  have k1 : (i + 1 < s.size) = (1 < s.size - i) := by simp; omega
  have k2 : (i + 2 < s.size) = (2 < s.size - i) := by simp; omega
  have k3 : (i + 3 < s.size) = (3 < s.size - i) := by simp; omega
  simp only [Utf8.decode, e0, e1, e2, e3, k1, k2, k3, Utf8.runeError]
  unfold decB
  generalize bN s i = b0 at *
  generalize bN s (i + 1) = b1 at *
  generalize bN s (i + 2) = b2 at *
  generalize bN s (i + 3) = b3 at *
  generalize s.size - i = sz at *
  have v3 := valid3 (b0 % 16 * 4096 + b1 % 64 * 64 + b2 % 64) (by omega)
  by_cases c0 : b0 < 128
  · simp [c0]
  rw [if_neg c0, if_neg c0]
  by_cases c1 : b0 / 32 = 6 ∧ (1 < sz ∧ b1 / 64 = 2)
  · rw [if_pos (by simpa using c1), if_pos c1]
  rw [if_neg (by simpa using c1), if_neg c1]
  by_cases c2 : b0 / 16 = 14 ∧ (1 < sz ∧ b1 / 64 = 2) ∧ (2 < sz ∧ b2 / 64 = 2)
  · rw [if_pos (by simpa [and_assoc] using c2), if_pos c2, v3]
    simp only [ge_iff_le, Bool.and_eq_true, decide_eq_true_eq]
  rw [if_neg (by simpa [and_assoc] using c2), if_neg c2]
  by_cases c3 : b0 / 8 = 30 ∧ (1 < sz ∧ b1 / 64 = 2) ∧ (2 < sz ∧ b2 / 64 = 2) ∧ (3 < sz ∧ b3 / 64 = 2)
  · rw [if_pos (by simpa [and_assoc] using c3), if_pos c3]
    by_cases c4 : 65536 ≤ b0 % 8 * 262144 + b1 % 64 * 4096 + b2 % 64 * 64 + b3 % 64
    · rw [valid4 _ c4]
      simp only [ge_iff_le, Bool.and_eq_true, decide_eq_true_eq]
    · rw [if_neg (by simp; omega), if_neg (by omega)]
  rw [if_neg (by simpa [and_assoc] using c3), if_neg c3]

theorem tailB_nat (b : Nat) : tailB b = true ↔ b / 64 = 2 := by
  unfold tailB; simp; omega
theorem why1 (t : ByteArray) (h : bN t 0 < 128) : whyN t = 0 := by
  have hl : leadN (bN t 0 : Int) = 1 := by unfold leadN; (repeat' split) <;> omega
  have hb : leadBits (bN t 0 : Int) = bN t 0 := by unfold leadBits; (repeat' split) <;> omega
  unfold whyN
  rw [bt_bN, hl, hb, if_neg (by decide)]
  show whyNoN (bN t 0 : Int) 1 = 0
  unfold whyNoN
  have e1 : bytesN (bN t 0 : Int) = 1 := by unfold bytesN; rw [if_pos (by omega)]
  have e2 : halfB (bN t 0 : Int) = false := by unfold halfB; simp; omega
  rw [e1, e2]; simp; omega
theorem why0 (t : ByteArray) (h : ¬ bN t 0 < 128 ∧ bN t 0 < 192 ∨ 248 ≤ bN t 0) : whyN t = 10 := by
  have hl : leadN (bN t 0 : Int) = 0 := by unfold leadN; (repeat' split) <;> omega
  unfold whyN
  rw [bt_bN, hl]; rfl
theorem why2 (t : ByteArray) (h : 192 ≤ bN t 0) (h' : bN t 0 < 224) :
    whyN t = if 1 = t.size then 11 else if tailB (bN t 1) then whyNoN ((bN t 0 % 32 * 64 + bN t 1 % 64 : Nat) : Int) 2 else 12 := by
  have hl : leadN (bN t 0 : Int) = 2 := by unfold leadN; (repeat' split) <;> omega
  have hb : leadBits (bN t 0 : Int) = ((bN t 0 % 32 : Nat) : Int) := by unfold leadBits; (repeat' split) <;> omega
  unfold whyN
  rw [bt_bN, hl, hb]
  show whyGo t 2 1 1 _ = _
  simp only [whyGo, bt_bN]
  congr 2
theorem why3 (t : ByteArray) (h : 224 ≤ bN t 0) (h' : bN t 0 < 240) :
    whyN t = if 1 = t.size then 11 else if tailB (bN t 1) then (if 2 = t.size then 11 else if tailB (bN t 2) then whyNoN ((bN t 0 % 16 * 4096 + bN t 1 % 64 * 64 + bN t 2 % 64 : Nat) : Int) 3 else 12) else 12 := by
  have hl : leadN (bN t 0 : Int) = 3 := by unfold leadN; (repeat' split) <;> omega
  have hb : leadBits (bN t 0 : Int) = ((bN t 0 % 16 : Nat) : Int) := by unfold leadBits; (repeat' split) <;> omega
  unfold whyN
  rw [bt_bN, hl, hb]
  show whyGo t 3 2 1 _ = _
  simp only [whyGo, bt_bN]
  have e : ((bN t 0 % 16 : Nat) : Int) * 64 * 64 + 0 = ((bN t 0 % 16 * 4096 : Nat) : Int) := by omega
  have e2 : (((bN t 0 % 16 : Nat) : Int) * 64 + (bN t 1 : Int) % 64) * 64 + (bN t 2 : Int) % 64 = ((bN t 0 % 16 * 4096 + bN t 1 % 64 * 64 + bN t 2 % 64 : Nat) : Int) := by omega
  rw [e2]
theorem why4 (t : ByteArray) (h : 240 ≤ bN t 0) (h' : bN t 0 < 248) :
    whyN t = if 1 = t.size then 11 else if tailB (bN t 1) then (if 2 = t.size then 11 else if tailB (bN t 2) then (if 3 = t.size then 11 else if tailB (bN t 3) then
      whyNoN ((bN t 0 % 8 * 262144 + bN t 1 % 64 * 4096 + bN t 2 % 64 * 64 + bN t 3 % 64 : Nat) : Int) 4 else 12) else 12) else 12 := by
  have hl : leadN (bN t 0 : Int) = 4 := by unfold leadN; (repeat' split) <;> omega
  have hb : leadBits (bN t 0 : Int) = ((bN t 0 % 8 : Nat) : Int) := by unfold leadBits; (repeat' split) <;> omega
  unfold whyN
  rw [bt_bN, hl, hb]
  show whyGo t 4 3 1 _ = _
  simp only [whyGo, bt_bN]
  have e2 : ((((bN t 0 % 8 : Nat) : Int) * 64 + (bN t 1 : Int) % 64) * 64 + (bN t 2 : Int) % 64) * 64 + (bN t 3 : Int) % 64 = ((bN t 0 % 8 * 262144 + bN t 1 % 64 * 4096 + bN t 2 % 64 * 64 + bN t 3 % 64 : Nat) : Int) := by omega
  rw [e2]

theorem whyNo_zero (x n : Nat) (hn : n = 2 ∨ n = 3 ∨ n = 4) (hx : (n = 2 → x < 2048) ∧ (n = 3 → x < 65536)) :
    whyNoN x n = 0 ↔ (scalarB x = true ∧ bytesN x = n) := by
  unfold whyNoN scalarB halfB bytesN
  rcases hn with rfl | rfl | rfl <;> simp at hx ⊢ <;> (repeat' split) <;> simp_all <;> omega

theorem decB_why (t : ByteArray) (h : 0 < t.size) :
    (whyN t = 0 ∧ ∃ x n : Nat, decB t.size (bN t 0) (bN t 1) (bN t 2) (bN t 3) = (x, n) ∧ scalarB x = true ∧ bytesN x = n ∧ n ≤ t.size) ∨
    (whyN t ≠ 0 ∧ decB t.size (bN t 0) (bN t 1) (bN t 2) (bN t 3) = (65533, 1)) := by
  have h0 := bN_lt t 0
  by_cases c0 : bN t 0 < 128
  · refine .inl ⟨why1 t c0, bN t 0, 1, by unfold decB; rw [if_pos c0], ?_, ?_, h⟩
    · unfold scalarB halfB; simp; omega
    · unfold bytesN; rw [if_pos (by omega)]; rfl
  by_cases c1 : bN t 0 < 192 ∨ 248 ≤ bN t 0
  · refine .inr ⟨by rw [why0 t (by omega)]; decide, ?_⟩
    unfold decB; rw [if_neg c0, if_neg (by omega), if_neg (by omega), if_neg (by omega)]
  by_cases c2 : bN t 0 < 224
  · have hw := why2 t (by omega) c2
    by_cases k1 : 1 = t.size
    · refine .inr ⟨by rw [hw, if_pos k1]; decide, ?_⟩
      unfold decB; rw [if_neg c0, if_neg (by omega), if_neg (by omega), if_neg (by omega)]
    rw [if_neg k1] at hw
    by_cases t1 : bN t 1 / 64 = 2
    · rw [if_pos ((tailB_nat _).2 t1)] at hw
      have hz := whyNo_zero (bN t 0 % 32 * 64 + bN t 1 % 64) 2 (.inl rfl) ⟨fun _ => by omega, fun e => by omega⟩
      have hd : decB t.size (bN t 0) (bN t 1) (bN t 2) (bN t 3) = (if 128 ≤ bN t 0 % 32 * 64 + bN t 1 % 64 then (bN t 0 % 32 * 64 + bN t 1 % 64, 2) else (65533, 1)) := by
        unfold decB; rw [if_neg c0, if_pos (by omega)]
      by_cases k2 : 128 ≤ bN t 0 % 32 * 64 + bN t 1 % 64
      · rw [if_pos k2] at hd
        have hs : scalarB ((bN t 0 % 32 * 64 + bN t 1 % 64 : Nat) : Int) = true ∧ bytesN ((bN t 0 % 32 * 64 + bN t 1 % 64 : Nat) : Int) = (2 : Nat) := by
          unfold scalarB halfB bytesN; refine ⟨by simp; omega, ?_⟩; (repeat' split) <;> omega
        exact .inl ⟨by rw [hw]; exact hz.2 hs, _, _, hd, hs.1, hs.2, by omega⟩
      · rw [if_neg k2] at hd
        refine .inr ⟨fun e => ?_, hd⟩
        rw [hw] at e
        have := (hz.1 e).2
        unfold bytesN at this; revert this; (repeat' split) <;> omega
    · rw [if_neg (fun e => t1 ((tailB_nat _).1 e))] at hw
      refine .inr ⟨by rw [hw]; decide, ?_⟩
      unfold decB; rw [if_neg c0, if_neg (by omega), if_neg (by omega), if_neg (by omega)]
  by_cases c3 : bN t 0 < 240
  · have hw := why3 t (by omega) c3
    by_cases k1 : 1 < t.size ∧ bN t 1 / 64 = 2 ∧ 2 < t.size ∧ bN t 2 / 64 = 2
    · rw [if_neg (by omega), if_pos ((tailB_nat _).2 k1.2.1), if_neg (by omega), if_pos ((tailB_nat _).2 k1.2.2.2)] at hw
      have hz := whyNo_zero (bN t 0 % 16 * 4096 + bN t 1 % 64 * 64 + bN t 2 % 64) 3 (.inr (.inl rfl)) ⟨fun e => by omega, fun _ => by omega⟩
      have hd : decB t.size (bN t 0) (bN t 1) (bN t 2) (bN t 3) = (if 2048 ≤ bN t 0 % 16 * 4096 + bN t 1 % 64 * 64 + bN t 2 % 64 ∧ ¬ (55296 ≤ bN t 0 % 16 * 4096 + bN t 1 % 64 * 64 + bN t 2 % 64 ∧ bN t 0 % 16 * 4096 + bN t 1 % 64 * 64 + bN t 2 % 64 < 57344) then (bN t 0 % 16 * 4096 + bN t 1 % 64 * 64 + bN t 2 % 64, 3) else (65533, 1)) := by
        unfold decB; rw [if_neg c0, if_neg (by omega), if_pos (by omega)]
      have hlt : bN t 0 % 16 * 4096 + bN t 1 % 64 * 64 + bN t 2 % 64 < 65536 := by omega
      generalize bN t 0 % 16 * 4096 + bN t 1 % 64 * 64 + bN t 2 % 64 = x at *
      by_cases k2 : 2048 ≤ x ∧ ¬ (55296 ≤ x ∧ x < 57344)
      · rw [if_pos k2] at hd
        have hs : scalarB (x : Int) = true ∧ bytesN (x : Int) = (3 : Nat) := by
          unfold scalarB halfB bytesN; refine ⟨by simp; omega, ?_⟩; (repeat' split) <;> omega
        exact .inl ⟨by rw [hw]; exact hz.2 hs, _, _, hd, hs.1, hs.2, by omega⟩
      · rw [if_neg k2] at hd
        refine .inr ⟨fun e => ?_, hd⟩
        rw [hw] at e
        obtain ⟨e1, e2⟩ := hz.1 e
        unfold bytesN at e2; unfold scalarB halfB at e1; simp at e1; revert e2; (repeat' split) <;> omega
    · have hd : decB t.size (bN t 0) (bN t 1) (bN t 2) (bN t 3) = (65533, 1) := by
        unfold decB; rw [if_neg c0, if_neg (by omega), if_neg (by omega), if_neg (by omega)]
      refine .inr ⟨?_, hd⟩
      rw [hw]
      by_cases a1 : 1 = t.size
      · rw [if_pos a1]; decide
      rw [if_neg a1]
      by_cases t1 : bN t 1 / 64 = 2
      · rw [if_pos ((tailB_nat _).2 t1)]
        by_cases a2 : 2 = t.size
        · rw [if_pos a2]; decide
        rw [if_neg a2, if_neg (fun e => by have := (tailB_nat _).1 e; omega)]; decide
      · rw [if_neg (fun e => t1 ((tailB_nat _).1 e))]; decide
  have hw := why4 t (by omega) (by omega)
  by_cases k1 : 1 < t.size ∧ bN t 1 / 64 = 2 ∧ 2 < t.size ∧ bN t 2 / 64 = 2 ∧ 3 < t.size ∧ bN t 3 / 64 = 2
  · rw [if_neg (by omega), if_pos ((tailB_nat _).2 k1.2.1), if_neg (by omega), if_pos ((tailB_nat _).2 k1.2.2.2.1), if_neg (by omega), if_pos ((tailB_nat _).2 k1.2.2.2.2.2)] at hw
    have hz := whyNo_zero (bN t 0 % 8 * 262144 + bN t 1 % 64 * 4096 + bN t 2 % 64 * 64 + bN t 3 % 64) 4 (.inr (.inr rfl)) ⟨fun e => by omega, fun e => by omega⟩
    have hd : decB t.size (bN t 0) (bN t 1) (bN t 2) (bN t 3) = (if 65536 ≤ bN t 0 % 8 * 262144 + bN t 1 % 64 * 4096 + bN t 2 % 64 * 64 + bN t 3 % 64 ∧ bN t 0 % 8 * 262144 + bN t 1 % 64 * 4096 + bN t 2 % 64 * 64 + bN t 3 % 64 ≤ 1114111 then (bN t 0 % 8 * 262144 + bN t 1 % 64 * 4096 + bN t 2 % 64 * 64 + bN t 3 % 64, 4) else (65533, 1)) := by
      unfold decB; rw [if_neg c0, if_neg (by omega), if_neg (by omega), if_pos (by omega)]
    generalize bN t 0 % 8 * 262144 + bN t 1 % 64 * 4096 + bN t 2 % 64 * 64 + bN t 3 % 64 = x at *
    by_cases k2 : 65536 ≤ x ∧ x ≤ 1114111
    · rw [if_pos k2] at hd
      have hs : scalarB (x : Int) = true ∧ bytesN (x : Int) = (4 : Nat) := by
        unfold scalarB halfB bytesN; refine ⟨by simp; omega, ?_⟩; (repeat' split) <;> omega
      exact .inl ⟨by rw [hw]; exact hz.2 hs, _, _, hd, hs.1, hs.2, by omega⟩
    · rw [if_neg k2] at hd
      refine .inr ⟨fun e => ?_, hd⟩
      rw [hw] at e
      obtain ⟨e1, e2⟩ := hz.1 e
      unfold bytesN at e2; unfold scalarB halfB at e1; simp at e1; revert e2; (repeat' split) <;> omega
  · have hd : decB t.size (bN t 0) (bN t 1) (bN t 2) (bN t 3) = (65533, 1) := by
      unfold decB; rw [if_neg c0, if_neg (by omega), if_neg (by omega), if_neg (by omega)]
    refine .inr ⟨?_, hd⟩
    rw [hw]
    by_cases a1 : 1 = t.size
    · rw [if_pos a1]; decide
    rw [if_neg a1]
    by_cases t1 : bN t 1 / 64 = 2
    · rw [if_pos ((tailB_nat _).2 t1)]
      by_cases a2 : 2 = t.size
      · rw [if_pos a2]; decide
      rw [if_neg a2]
      by_cases t2 : bN t 2 / 64 = 2
      · rw [if_pos ((tailB_nat _).2 t2)]
        by_cases a3 : 3 = t.size
        · rw [if_pos a3]; decide
        rw [if_neg a3, if_neg (fun e => by have := (tailB_nat _).1 e; omega)]; decide
      · rw [if_neg (fun e => t2 ((tailB_nat _).1 e))]; decide
    · rw [if_neg (fun e => t1 ((tailB_nat _).1 e))]; decide

theorem bN_extract (s : ByteArray) (i k : Nat) : bN (s.extract i s.size) k = bN s (i + k) := by
  have := bt_extract s i k
  rw [bt_bN, bt_bN] at this
  omega

/-- ONE CHARACTER: either the bytes from i on begin with a right sequence, or the byte is wrong. -/
theorem dec_why (s : ByteArray) (i : Nat) (hi : i < s.size) :
    (whyN (s.extract i s.size) = 0 ∧ ∃ x n : Nat, Utf8.decode s i = (x, n) ∧ scalarB x = true ∧ bytesN x = n ∧ i + n ≤ s.size) ∨
    (whyN (s.extract i s.size) ≠ 0 ∧ Utf8.decode s i = (65533, 1)) := by
  have h := decB_why (s.extract i s.size) (by rw [extract_size]; omega)
  rw [bN_extract, bN_extract, bN_extract, bN_extract, extract_size] at h
  rw [decode_decB s i hi]
  rcases h with ⟨h1, x, n, h2, h3, h4, h5⟩ | h
  · exact .inl ⟨h1, x, n, h2, h3, h4, by omega⟩
  · exact .inr h

theorem bytesN_ge (x : Int) : 1 ≤ bytesN x ∧ bytesN x ≤ 4 := by unfold bytesN; (repeat' split) <;> omega
theorem dec_bounds (s : ByteArray) (i : Nat) (hi : i < s.size) : 1 ≤ (Utf8.decode s i).2 ∧ (Utf8.decode s i).2 ≤ 4 ∧ i + (Utf8.decode s i).2 ≤ s.size := by
  rcases dec_why s i hi with ⟨_, x, n, h2, _, h4, h5⟩ | ⟨_, h⟩
  · have := bytesN_ge x; rw [h2]; exact ⟨by simp; omega, by simp; omega, h5⟩
  · rw [h]; simp; omega
theorem dec_scalar (s : ByteArray) (i : Nat) (hi : i < s.size) : scalarB (Utf8.decode s i).1 = true := by
  rcases dec_why s i hi with ⟨_, x, n, h2, h3, _, _⟩ | ⟨_, h⟩
  · rw [h2]; exact h3
  · rw [h]; decide
/-- the Spot that spotAt makes of what a range tells -/
theorem spot_dec (s : ByteArray) (i : Nat) (hi : i < s.size) : spotW s i (Utf8.decode s i).1 = (Utf8.decode s i).2 ∧ spotC s i (Utf8.decode s i).1 = whyN (s.extract i s.size) := by
  unfold spotW spotC
  rcases dec_why s i hi with ⟨h1, x, n, h2, h3, h4, _⟩ | ⟨h1, h2⟩
  · rw [if_neg (fun h => h.2 h1), if_neg (fun h => h.2 h1), h2, h1]
    exact ⟨by unfold widthN; simp only []; rw [if_pos h3, h4], rfl⟩
  · rw [if_pos ⟨by rw [h2]; rfl, h1⟩, if_pos ⟨by rw [h2]; rfl, h1⟩, h2]
    exact ⟨rfl, rfl⟩

end Go.Proofs.YthgaadjkjnibaaaGreatDoor
/-
  The characters of a text with their places, as a list; Count, First of package utf.
-/
namespace Go.Proofs.YthgaadjkjnibaaaGreatDoor
open Go.RowKit Go.PlainAid

def charsF (s : ByteArray) : Nat → Nat → List (Nat × Nat)
  | 0, _ => []
  | f + 1, i => if i < s.size then (i, (Utf8.decode s i).1) :: charsF s f (i + (Utf8.decode s i).2) else []
/-- the characters from byte i on, each with its place -/
def chars (s : ByteArray) (i : Nat) : List (Nat × Nat) := charsF s (s.size - i) i

theorem charsF_end (s : ByteArray) (f i : Nat) (h : ¬ i < s.size) : charsF s f i = [] := by
  cases f with
  | zero => rfl
  | succ f => simp [charsF, h]
theorem charsF_any (s : ByteArray) : ∀ (f g i : Nat), s.size - i ≤ f → s.size - i ≤ g → charsF s f i = charsF s g i := by
  intro f
  induction f with
  | zero => intro g i h _; rw [charsF_end s 0 i (by omega), charsF_end s g i (by omega)]
  | succ f ih =>
    intro g i hf hg
    by_cases hi : i < s.size
    · cases g with
      | zero => omega
      | succ g =>
        have hb := dec_bounds s i hi
        simp only [charsF, hi, if_true]
        rw [ih g _ (by omega) (by omega)]
    · rw [charsF_end s _ i hi, charsF_end s g i hi]
theorem chars_end (s : ByteArray) (i : Nat) (h : ¬ i < s.size) : chars s i = [] := charsF_end s _ i h
theorem chars_step (s : ByteArray) (i : Nat) (h : i < s.size) : chars s i = (i, (Utf8.decode s i).1) :: chars s (i + (Utf8.decode s i).2) := by
  have hb := dec_bounds s i h
  obtain ⟨f, hf⟩ : ∃ f, s.size - i = f + 1 := ⟨s.size - i - 1, by omega⟩
  unfold chars
  rw [hf]
  simp only [charsF, h, if_true]
  rw [charsF_any s f (s.size - (i + (Utf8.decode s i).2)) _ (by omega) (by omega)]
theorem chars_len (s : ByteArray) : ∀ (k i : Nat), s.size - i ≤ k → (chars s i).length ≤ s.size - i := by
  intro k
  induction k with
  | zero => intro i h; rw [chars_end s i (by omega)]; simp
  | succ k ih =>
    intro i h
    by_cases hi : i < s.size
    · have hb := dec_bounds s i hi
      rw [chars_step s i hi]
      have := ih (i + (Utf8.decode s i).2) (by omega)
      simp; omega
    · rw [chars_end s i hi]; simp
theorem chars_length (s : ByteArray) (i : Nat) : (chars s i).length ≤ s.size - i := chars_len s _ i (Nat.le_refl _)

set_option maxRecDepth 100000 in
set_option maxHeartbeats 400000 in
theorem count_any (s : ByteArray) (w : World) (hs : s.size ≤ maxLen) :
    Calls Tryz.prog 162 #[.string s] w fun e w' => e = .returned (.int .i64 (chars s 0).length) ∧ Below w.heap.size w w' := by
  unfold maxLen at hs
  have hcl := chars_length s 0
  generalize hL : (chars s 0).length = L at *
  have HL : Hid ((chars s 0).length = L) := hL
  clear hL
  go_enter Tryz.func162, Tryz.ntmps162
  go_wp2
  go_loopw [3] (fun v wr => ∃ pos k : Nat, v = .int .i64 k ∧ wr = w.iter s pos ∧ Hid (k + (chars s pos).length = L)) (fun _ wr => s.size - wr.iterPos w.heap.size)
  case atStart => exact ⟨0, 0, rfl, rfl, show _ = _ by rw [HL.out]; omega⟩
  case round =>
    obtain ⟨pos, k, rfl, rfl, HK⟩ := hrel
    by_cases hlt : pos < s.size
    · have hnx := fun ty => run_next_any (P := Tryz.prog) w s pos ty hlt
      have hb := dec_bounds s pos hlt
      have hc := chars_step s pos hlt
      have HC : Hid (k + 1 + (chars s (pos + (Utf8.decode s pos).2)).length = L) := by
        show _ = _
        have := HK.out
        rw [hc] at this; simp at this; omega
      have hk1 : k + 1 ≤ L := by have := HC.out; omega
      clear hc
      go_wp2
      go_roundw
      case rel => exact ⟨_, k + 1, by go_num, rfl, HC⟩
      case measure => simp; omega
    · have hnx := fun ty => run_next_end (P := Tryz.prog) w s pos ty hlt
      have hK : k = L := by have := HK.out; rw [chars_end s pos hlt] at this; simpa using this
      have HE : Hid (k = L) := hK
      clear hK
      go_wp2
      go_ret
      exact ⟨ret_int (by rw [HE.out]), (Below.refl _ _).alloc (Nat.le_refl _) _⟩

end Go.Proofs.YthgaadjkjnibaaaGreatDoor
/-
  First, Last of package utf, for every text.
-/
namespace Go.Proofs.YthgaadjkjnibaaaGreatDoor
open Go.RowKit Go.PlainAid Go.Lib
attribute [local go_sem] World.iter

/-- the Spot of the character at byte i -/
abbrev spotOf (s : ByteArray) (i : Nat) : Value := spotV i ((Utf8.decode s i).2 : Nat) ((Utf8.decode s i).1 : Nat) (whyN (s.extract i s.size))

set_option maxRecDepth 100000 in
set_option maxHeartbeats 400000 in
theorem first_nil (s : ByteArray) (w : World) (h0 : s.size = 0) :
    Calls Tryz.prog 112 #[.string s] w fun e w' => e = .returned (spotV 0 0 0 0) ∧ Below w.heap.size w w' := by
  have hlt : ¬ 0 < s.size := by omega
  have hnx := fun ty => run_next_end (P := Tryz.prog) (w.alloc (spotCells 0 0 0 0)) s 0 ty hlt
  simp only [World.size_alloc, World.iter] at hnx
  clear h0
  go_enter Tryz.func112, Tryz.ntmps112
  go_wp2
  refine wp_loop_rounds 1 ?_
  rw [rounds_succ]
  go_wp2
  go_returns
  exact ⟨rfl, by go_grown⟩

set_option maxRecDepth 100000 in
set_option maxHeartbeats 400000 in
theorem first_exact (s : ByteArray) (w : World) (hs : s.size ≤ maxLen) (h0 : 0 < s.size) :
    Calls Tryz.prog 112 #[.string s] w fun e w' => e = .returned (spotOf s 0) ∧
      w' = ((w.alloc (spotCells 0 ((Utf8.decode s 0).2 : Nat) ((Utf8.decode s 0).1 : Nat) (whyN s))).alloc (.stringIter s (Utf8.decode s 0).2)).alloc (spotCells 0 ((Utf8.decode s 0).2 : Nat) ((Utf8.decode s 0).1 : Nat) (whyN s)) := by
  have hnx := fun ty => run_next_any (P := Tryz.prog) (w.alloc (spotCells 0 0 0 0)) s 0 ty h0
  simp only [World.size_alloc, World.iter] at hnx
  have hd := spot_dec s 0 h0
  have HD : Hid (spotW s 0 (Utf8.decode s 0).1 = (Utf8.decode s 0).2 ∧ spotC s 0 (Utf8.decode s 0).1 = whyN (s.extract 0 s.size)) := hd
  clear hd
  go_enter Tryz.func112, Tryz.ntmps112
  go_wp2
  refine wp_loop_rounds 1 ?_
  rw [rounds_succ]
  go_wp2_with (go_at_call 154; refine (spotAt_any s 0 _ _ hs h0).mono ?_; rintro e w' ⟨rfl, rfl⟩)
  go_returns
  have e : s.extract 0 s.size = s := by simp
  have h2 := HD.out.2
  rw [e] at h2
  refine ⟨?_, ?_⟩
  · rw [HD.out.1, HD.out.2]; rfl
  · rw [HD.out.1, h2]

theorem first_any (s : ByteArray) (w : World) (hs : s.size ≤ maxLen) (h0 : 0 < s.size) :
    Calls Tryz.prog 112 #[.string s] w fun e w' => e = .returned (spotOf s 0) ∧ Below w.heap.size w w' :=
  (first_exact s w hs h0).mono fun e w' ⟨he, hw⟩ => ⟨he, by subst hw; go_grown⟩

/-- where a right sequence that ends s would begin -/
def leadF (s : ByteArray) : Nat → Nat → Nat
  | 0, i => i
  | f + 1, i => if 0 < i ∧ s.size < i + 4 ∧ tailB (bt s i) then leadF s f (i - 1) else i
def leadAt (s : ByteArray) : Nat := leadF s 4 (s.size - 1)
theorem leadF_le (s : ByteArray) : ∀ f i, leadF s f i ≤ i := by
  intro f
  induction f with
  | zero => intro i; exact Nat.le_refl _
  | succ f ih =>
    intro i
    unfold leadF
    split
    · have := ih (i - 1); omega
    · exact Nat.le_refl _

end Go.Proofs.YthgaadjkjnibaaaGreatDoor
/-
  Last of package utf, for every text.
-/
namespace Go.Proofs.YthgaadjkjnibaaaGreatDoor
open Go.RowKit Go.PlainAid Go.Lib

theorem decode_extract (s : ByteArray) (a : Nat) (h : a < s.size) : Utf8.decode (s.extract a s.size) 0 = Utf8.decode s a := by
  rw [decode_decB _ _ (by rw [extract_size]; omega), decode_decB s a h]
  simp only [bN_extract, extract_size, Nat.sub_zero, Nat.add_zero, Nat.zero_add]
theorem extract_whole (t : ByteArray) : t.extract 0 t.size = t := by simp
theorem spotOf_extract (s : ByteArray) (a : Nat) (h : a < s.size) : spotOf (s.extract a s.size) 0 = spotV 0 ((Utf8.decode s a).2 : Nat) ((Utf8.decode s a).1 : Nat) (whyN (s.extract a s.size)) := by
  show spotV _ _ _ _ = _
  rw [decode_extract s a h, extract_whole]; rfl
theorem leadAt_lt (s : ByteArray) (h : 0 < s.size) : leadAt s < s.size := by
  have := leadF_le s 4 (s.size - 1)
  unfold leadAt; omega

/-- the place of the last character -/
def lastPos (s : ByteArray) : Nat := if leadAt s + (Utf8.decode s (leadAt s)).2 = s.size then leadAt s else s.size - 1
theorem lastPos_lt (s : ByteArray) (h : 0 < s.size) : lastPos s < s.size := by
  have := leadAt_lt s h
  unfold lastPos; split <;> omega

theorem size_toList (s : ByteArray) : s.toList.length = s.size := by rw [ByteArray.toList_eq, Array.length_toList]; rfl
theorem empty_yes (s : ByteArray) (h : s.size = 0) : s.toList.isEmpty = true := by
  rw [List.isEmpty_iff_length_eq_zero, size_toList, h]
theorem empty_no (s : ByteArray) (h : 0 < s.size) : s.toList.isEmpty = false := by
  cases he : s.toList.isEmpty with
  | false => rfl
  | true => rw [List.isEmpty_iff_length_eq_zero, size_toList] at he; omega

theorem below_after {W w1 : World} {n : Nat} (o : Obj) (h : Below (W.alloc o).heap.size (W.alloc o) w1) (hn : n = W.heap.size) : Below n W w1 := by
  subst hn
  exact ((Below.refl _ _).alloc (Nat.le_refl _) _).trans (h.mono (by simp))

end Go.Proofs.YthgaadjkjnibaaaGreatDoor
/-
  Runes, Encode of package utf: the conversions between texts and lists of runes.
-/
namespace Go.Proofs.YthgaadjkjnibaaaGreatDoor
open Go.RowKit Go.PlainAid Go.Lib

/-- what a text stands for, as values -/
def runeVals (s : ByteArray) : List Value := (chars s 0).map fun p => .int .i32 (p.2 : Nat)
theorem runeVals_len (s : ByteArray) : (runeVals s).length = (chars s 0).length := by simp [runeVals]
theorem runesFrom_chars (s : ByteArray) : ∀ (b i : Nat) (acc : Array Value), Conv.runesFrom s b i acc = acc ++ ((charsF s b i).map fun p => Value.int .i32 (p.2 : Nat)).toArray := by
  intro b
  induction b with
  | zero => intro i acc; simp [Conv.runesFrom, charsF]
  | succ b ih =>
    intro i acc
    unfold Conv.runesFrom charsF
    by_cases h : i < s.size
    · simp only [h, if_true]
      rw [ih]
      simp
    · simp [h]
theorem runesFrom_vals (s : ByteArray) : Conv.runesFrom s s.size 0 #[] = (runeVals s).toArray := by
  rw [runesFrom_chars]; simp [runeVals, chars]

theorem encode_nil (w : World) (l c : Nat) : Calls Tryz.prog 165 #[.slice none l c] w fun e w' => e = .returned (.string ByteArray.empty) ∧ w' = w := by
  have hconv := run_convert_runes_string (P := Tryz.prog) w 226 9 21 none l c Tryz.underlying226 Tryz.underlying21 Tryz.underlying9
  have h2 : (Conv.runesToString (.slice none l c)).run Tryz.prog w = .ok (.string ByteArray.empty) w := by simp [Conv.runesToString, Sem.run_pure]
  rw [h2] at hconv
  clear h2
  go_enter Tryz.func165, Tryz.ntmps165
  go_wp2
  go_ret
  exact ⟨rfl, rfl⟩

theorem encode_any (w : World) (a : Addr) (len cap : Nat) (zs : List Int) (hl : zs.length = len) (hc : ∀ j, j < zs.length → w.cell? (a.add j) = some (.int .i32 (zs.getD j 0))) :
    Calls Tryz.prog 165 #[.slice (some a) len cap] w fun e w' => e = .returned (.string (runesBytes zs)) ∧ w' = w := by
  have hconv := run_convert_runes (P := Tryz.prog) w 226 9 21 a len cap zs (by omega) Tryz.underlying226 Tryz.underlying21 Tryz.underlying9 hc
  rw [List.take_of_length_le (by omega)] at hconv
  clear hc hl
  go_enter Tryz.func165, Tryz.ntmps165
  go_wp2
  go_ret
  exact ⟨rfl, rfl⟩

end Go.Proofs.YthgaadjkjnibaaaGreatDoor
/-
  New of package utf: the places of a text, in memory of their own.
-/
namespace Go.Proofs.YthgaadjkjnibaaaGreatDoor
open Go.RowKit Go.PlainAid Go.Lib
attribute [local go_sem] World.iter

theorem infoInt : (Tryz.prog.info? 3).map (fun i => (i.zero, i.size, i.bytes)) = some (some (.int .i64 0), 1, 8) := by kernel_rfl

/-- the values of the byte places of characters -/
def posVals (l : List (Nat × Nat)) : List Value := l.map fun p => .int .i64 (p.1 : Nat)
/-- what the places of a text keep: where each character begins, and the end -/
def startVals (s : ByteArray) : List Value := posVals (chars s 0) ++ [.int .i64 s.size]

theorem not_iter {w : World} {base : Nat} {e : TypeId} {size : Nat} {v : Value} {n : Nat} {xs : List Value} (h : w.ownsRow base e size v n xs) {k : Nat} {s : ByteArray} {p : Nat} (hk : w.heap[k]? = some (.stringIter s p)) : v.ownBlock ≠ some k := by
  intro e1
  rcases h.2 with ⟨rfl, _⟩ | ⟨g, cap, cur, rfl, _, hg, _⟩
  · simp [Value.ownBlock] at e1
  · simp [Value.ownBlock] at e1
    subst e1
    rw [hk] at hg; cases hg
theorem grownBy_iterAt (w : World) (k : Nat) (s : ByteArray) (p : Nat) : w.grownBy (w.iterAt k s p) (some k) :=
  ⟨rfl, rfl, rfl, by rw [iterAt_size]; exact Nat.le_refl _, fun j _ hj => iterAt_other w k j s p (fun e => hj (by rw [e]))⟩
theorem row_iterAt {w : World} {base : Nat} {e : TypeId} {size : Nat} {v : Value} {n : Nat} {xs : List Value} (h : w.ownsRow base e size v n xs) {k : Nat} {s : ByteArray} {p : Nat} (hk : w.heap[k]? = some (.stringIter s p)) (p' : Nat) : (w.iterAt k s p').ownsRow base e size v n xs :=
  h.kept (grownBy_iterAt w k s p') (.inr (not_iter h hk))
theorem own_base {w : World} {base : Nat} {e : TypeId} {size : Nat} {v : Value} {n : Nat} {xs : List Value} (h : w.ownsRow base e size v n xs) : ∀ k, v.ownBlock = some k → base ≤ k := fun k e1 => (h.lt k e1).1

theorem posVals_snoc (l : List (Nat × Nat)) (x : Nat × Nat) : posVals (l ++ [x]) = posVals l ++ [.int .i64 (x.1 : Nat)] := by simp [posVals]
/-- an iterator's block lies on behind an append to a row -/
theorem iter_grown {W w4 : World} {base : Nat} {e : TypeId} {size : Nat} {v : Value} {n : Nat} {xs : List Value} (h : W.ownsRow base e size v n xs) {tmp : Obj} (hg : (W.alloc tmp).grownBy w4 v.ownBlock) {k : Nat} {s : ByteArray} {p : Nat} (hk : W.heap[k]? = some (.stringIter s p)) : w4.heap[k]? = some (.stringIter s p) := by
  have hlt : k < W.heap.size := (Array.getElem?_eq_some_iff.1 hk).1
  refine (hg.block k (by simp; omega) (fun e => not_iter h hk e.symm)).trans ?_
  exact (Below.heap_alloc W tmp k hlt).trans hk
theorem below_grown {a W w4 : World} {B : Nat} {e : TypeId} {size : Nat} {v : Value} {n : Nat} {xs : List Value} (hB : Below B a W) (hB' : B ≤ W.heap.size) (h : W.ownsRow B e size v n xs) {tmp : Obj} (hg : (W.alloc tmp).grownBy w4 v.ownBlock) : Below B a w4 :=
  (hB.alloc hB' tmp).grown hg (by simp; omega) (own_base h)

end Go.Proofs.YthgaadjkjnibaaaGreatDoor
/-
  isMade, Len, Byte of the places of a text, and of none.
-/
namespace Go.Proofs.YthgaadjkjnibaaaGreatDoor
open Go.RowKit Go.PlainAid Go.Lib

theorem hide {p : Prop} (h : p) : Hid p := h
theorem unhide {p : Prop} (h : Hid p) : p := h

theorem own_zero {w : World} {base : Nat} {e : TypeId} {size : Nat} {v : Value} {n : Nat} {xs : List Value} (h : w.ownsRow base e size v n xs) : w.ownsRow 0 e size v n xs := by
  refine ⟨h.1, ?_⟩
  rcases h.2 with h | ⟨g, cap, cur, h1, _, h3⟩
  · exact .inl h
  · exact .inr ⟨g, cap, cur, h1, Nat.zero_le _, h3⟩
theorem row_below {w w' : World} {e : TypeId} {size : Nat} {v : Value} {n : Nat} {xs : List Value} (h : w.ownsRow 0 e size v n xs) (hb : Below w.heap.size w w') : w'.ownsRow 0 e size v n xs := by
  refine ⟨h.1, ?_⟩
  rcases h.2 with h | ⟨g, cap, cur, h1, h2, h3, h4⟩
  · exact .inl h
  · exact .inr ⟨g, cap, cur, h1, h2, (hb.block g (Array.getElem?_eq_some_iff.1 h3).1).trans h3, h4⟩
theorem cells2 {w : World} {b : Nat} {x y : Value} {t : TypeId} (h : w.heap[b]? = some (.cells #[x, y] t)) : w.cell? ⟨b, 0, none⟩ = some x ∧ w.cell? ⟨b, 1, none⟩ = some y := by
  constructor <;> simp [World.cell?, h]

/-- the byte place at which character at begins; of the number of characters: how many bytes there are -/
def startN (s : ByteArray) (k : Nat) : Nat := ((chars s 0).map (·.1) ++ [s.size]).getD k 0
theorem startVals_at (s : ByteArray) (k : Nat) (h : k < (chars s 0).length + 1) : (startVals s)[k]? = some (.int .i64 (startN s k : Nat)) := by
  have e : startVals s = ((chars s 0).map (·.1) ++ [s.size]).map fun n => .int .i64 (n : Nat) := by simp [startVals, posVals]
  rw [e, List.getElem?_map, List.getElem?_eq_getElem (by simpa using h)]
  simp [startN, List.getD, List.getElem?_eq_getElem (show k < ((chars s 0).map (·.1) ++ [s.size]).length by simpa using h)]

end Go.Proofs.YthgaadjkjnibaaaGreatDoor
/-
  Spots of package utf: an iterator that tells each character of a text as a Spot, whatever the loop's body does with it.
-/
namespace Go.Proofs.YthgaadjkjnibaaaGreatDoor
open Go.RowKit Go.PlainAid Go.Lib Go.Shelf
attribute [local go_sem] World.iter
attribute [local go_sem] Oper.semAt_some

/-- a place of a byte of the text -/
abbrev Pl (s : ByteArray) : Type := { i : Nat // i < s.size }
/-- the places at which characters begin -/
def places (s : ByteArray) : List Nat := (chars s 0).map (·.1)
theorem places_length (s : ByteArray) : (places s).length = (chars s 0).length := by simp [places]

/-- what a round keeps: iterators, maps; and the box that holds the text -/
def KpS (Bs : Nat) (s : ByteArray) (W W' : World) : Prop := KeepsWalks W W' ∧ (Boxed W Bs 9 (.string s) → Boxed W' Bs 9 (.string s))
theorem kpS_t {Bs : Nat} {s : ByteArray} {A B C : World} (h : KpS Bs s A B) (k : KpS Bs s B C) : KpS Bs s A C := ⟨h.1.trans k.1, fun x => k.2 (h.2 x)⟩
theorem kpS_b {Bs : Nat} {s : ByteArray} {w : World} (W : World) (l : Nat) (o o' : Obj) (_ : w.heap.size ≤ l) (h : W.heap[l]? = some o) (hc : o.isCells = false) (hw : o.isWalk = false) : KpS Bs s W (W.putObj l o') := by
  refine ⟨KeepsWalks.putObj _ h hw, fun x => ?_⟩
  have hne : Bs ≠ l := by
    intro e; subst e
    have hx : W.heap[Bs]? = _ := x
    rw [h] at hx; cases hx; simp [Obj.isCells] at hc
  exact (World.putObj_heap_other hne).trans x

/-- spotAt at what a range tells -/
theorem spotAt_dec (s : ByteArray) (i : Nat) (w : World) (hs : s.size ≤ maxLen) (hi : i < s.size) :
    Calls Tryz.prog 154 #[.string s, .int .i64 i, .int .i32 ((Utf8.decode s i).1 : Nat)] w fun e w' => e = .returned (spotOf s i) ∧ w' = w.alloc (spotCells i ((Utf8.decode s i).2 : Nat) ((Utf8.decode s i).1 : Nat) (whyN (s.extract i s.size))) := by
  refine (spotAt_any s i _ w hs hi).mono ?_
  rintro e w' ⟨rfl, rfl⟩
  have hd := spot_dec s i hi
  rw [hd.1, hd.2]
  exact ⟨rfl, rfl⟩

theorem iterAt_boxed {W : World} {k : Nat} {s : ByteArray} {p p' : Nat} (hk : W.heap[k]? = some (.stringIter s p)) {B : Nat} {t : TypeId} {v : Value} (h : Boxed W B t v) : Boxed (W.iterAt k s p') B t v := by
  refine h.kept (grownBy_iterAt W k s p') ?_
  intro e
  have e2 : B = k := by simpa using e
  subst e2
  have hx : W.heap[B]? = _ := h
  rw [hk] at hx; cases hx
theorem walks_iter {W W' : World} (h : KeepsWalks W W') {k : Nat} {s : ByteArray} {p : Nat} (hk : W.heap[k]? = some (.stringIter s p)) : W'.heap[k]? = some (.stringIter s p) := h.same k _ hk rfl

end Go.Proofs.YthgaadjkjnibaaaGreatDoor
/-
  firstWrong, Check of package utf, for every text.
-/
namespace Go.Proofs.YthgaadjkjnibaaaGreatDoor
open Go.RowKit Go.PlainAid Go.Lib Go.Shelf
attribute [local go_sem] Oper.semAt_some

/-- why the byte at i is wrong; 0: it isn't, or nothing begins there -/
abbrev why (s : ByteArray) (i : Nat) : Int := whyN (s.extract i s.size)

theorem own_block {β : Type} (B b : Nat) (o : Obj) (ho : o.isCells = true) : OwnFrom B (fun (_ : β) W => W.heap[b]? = some o) :=
  fun _ _ _ _ hs hg hr => (grownBy_keeps_cells hg (fun r e => (hr r e).2) hs ho).trans hs
theorem own_pure {β : Type} (B : Nat) (p : β → Prop) : OwnFrom B (fun b (_ : World) => p b) := fun _ _ _ _ hs _ _ => hs

theorem spot_cells {W : World} {b : Nat} {x y z u : Int} (h : W.heap[b]? = some (spotCells x y z u)) :
    W.cell? ⟨b, 0, none⟩ = some (.int .i64 x) ∧ W.cell? ⟨b, 1, none⟩ = some (.int .i64 y) ∧ W.cell? ⟨b, 2, none⟩ = some (.int .i32 z) ∧ W.cell? ⟨b, 3, none⟩ = some (.int .i64 u) := by
  refine ⟨?_, ?_, ?_, ?_⟩ <;> simp [World.cell?, h]
theorem spot_frozen {W : World} {b : Nat} {x y z u : Int} (h : W.heap[b]? = some (spotCells x y z u)) :
    W.frozen? ⟨b, 0, none⟩ = false ∧ W.frozen? ⟨b, 1, none⟩ = false ∧ W.frozen? ⟨b, 2, none⟩ = false ∧ W.frozen? ⟨b, 3, none⟩ = false := by
  refine ⟨?_, ?_, ?_, ?_⟩ <;> simp [World.frozen?, h]

/-- the block of the Spot of the character at i -/
abbrev spotBlk (s : ByteArray) (i : Nat) : Obj := spotCells i ((Utf8.decode s i).2 : Nat) ((Utf8.decode s i).1 : Nat) (why s i)

theorem blk_set {W : World} {b i : Nat} {cs : Array Value} {t : TypeId} {fz : Nat × Nat} (v : Value) (h : W.heap[b]? = some (.cells cs t fz)) : (W.setCell ⟨b, i, none⟩ v).heap[b]? = some (.cells (cs.setIfInBounds i v) t fz) := by
  obtain ⟨hlt, hk⟩ := Array.getElem?_eq_some_iff.1 h
  show (W.heap.modify b _)[b]? = _
  rw [Array.getElem?_eq_getElem (by rw [Array.size_modify]; exact hlt), Array.getElem_modify_self, hk]
  rfl

/-- a Spot stored over a Spot's block -/
theorem spot_stored {W : World} {b : Nat} {x y z u : Int} (x' y' z' u' : Int) (h : W.heap[b]? = some (spotCells x y z u)) :
    (((((W.setCell ⟨b, 0, none⟩ (.int .i64 x')).setCell ⟨b, 1, none⟩ (.int .i64 y')).setCell ⟨b, 2, none⟩ (.int .i32 z')).setCell ⟨b, 3, none⟩ (.int .i64 u')).heap[b]? = some (spotCells x' y' z' u')) ∧
    (∀ k, k ≠ b → ((((W.setCell ⟨b, 0, none⟩ (.int .i64 x')).setCell ⟨b, 1, none⟩ (.int .i64 y')).setCell ⟨b, 2, none⟩ (.int .i32 z')).setCell ⟨b, 3, none⟩ (.int .i64 u')).heap[k]? = W.heap[k]?) ∧
    KeepsOthers W ((((W.setCell ⟨b, 0, none⟩ (.int .i64 x')).setCell ⟨b, 1, none⟩ (.int .i64 y')).setCell ⟨b, 2, none⟩ (.int .i32 z')).setCell ⟨b, 3, none⟩ (.int .i64 u')) := by
  refine ⟨?_, ?_, ?_⟩
  · exact blk_set (i := 3) _ (blk_set (i := 2) _ (blk_set (i := 1) _ (blk_set (i := 0) _ h)))
  · intro k hk
    rw [Below.heap_setCell _ _ _ _ hk, Below.heap_setCell _ _ _ _ hk, Below.heap_setCell _ _ _ _ hk, Below.heap_setCell _ _ _ _ hk]
  · exact (((KeepsOthers.setCell _ _ _).trans (KeepsOthers.setCell _ _ _)).trans (KeepsOthers.setCell _ _ _)).trans (KeepsOthers.setCell _ _ _)
theorem pl_mem {s : ByteArray} {pre : List (Pl s)} {L : List Nat} (h : pre.map (·.1) = L) {p : Nat → Prop} (hp : ∀ x ∈ pre, p x.1) : ∀ i ∈ L, p i := by
  intro i hi
  rw [← h] at hi
  obtain ⟨x, hx, rfl⟩ := List.mem_map.1 hi
  exact hp x hx

/-- where the first wrong byte is, or how many bytes there are; and why -/
def checkV (s : ByteArray) (a : Nat) (c : Int) : Prop :=
  ((∀ i ∈ places s, why s i = 0) ∧ a = s.size ∧ c = 0) ∨ (∃ pre rest, places s = pre ++ a :: rest ∧ (∀ j ∈ pre, why s j = 0) ∧ why s a ≠ 0 ∧ c = why s a)

end Go.Proofs.YthgaadjkjnibaaaGreatDoor
/-
  Plain facts: what a text stands for, when another text is laid behind it.
-/
namespace Go.Proofs.YthgaadjkjnibaaaGreatDoor
open Go.RowKit Go.PlainAid Go.Lib

/-- a right sequence stays one in whatever text has its bytes -/
theorem decB_keep (sz b0 b1 b2 b3 x n : Nat) (h : decB sz b0 b1 b2 b3 = (x, n)) (h2 : 2 ≤ n ∨ b0 < 128) (sz' b1' b2' b3' : Nat) (hn : n ≤ sz')
    (e1 : 1 < n → b1' = b1) (e2 : 2 < n → b2' = b2) (e3 : 3 < n → b3' = b3) : decB sz' b0 b1' b2' b3' = (x, n) := by
  unfold decB at h
  by_cases c0 : b0 < 128
  · rw [if_pos c0] at h
    unfold decB; rw [if_pos c0]; exact h
  rw [if_neg c0] at h
  have hn2 : 2 ≤ n := by omega
  by_cases c1 : b0 / 32 = 6 ∧ (1 < sz ∧ b1 / 64 = 2)
  · rw [if_pos c1] at h
    split at h
    · obtain ⟨rfl, rfl⟩ : _ = x ∧ 2 = n := by simpa using h
      obtain rfl := e1 (by omega)
      unfold decB; rw [if_neg c0, if_pos (by omega), if_pos (by assumption)]
    · obtain ⟨_, rfl⟩ : _ = x ∧ 1 = n := by simpa using h
      omega
  rw [if_neg c1] at h
  by_cases c2 : b0 / 16 = 14 ∧ (1 < sz ∧ b1 / 64 = 2) ∧ (2 < sz ∧ b2 / 64 = 2)
  · rw [if_pos c2] at h
    split at h
    · obtain ⟨rfl, rfl⟩ : _ = x ∧ 3 = n := by simpa using h
      obtain rfl := e1 (by omega)
      obtain rfl := e2 (by omega)
      unfold decB; rw [if_neg c0, if_neg (by omega), if_pos (by omega), if_pos (by assumption)]
    · obtain ⟨_, rfl⟩ : _ = x ∧ 1 = n := by simpa using h
      omega
  rw [if_neg c2] at h
  by_cases c3 : b0 / 8 = 30 ∧ (1 < sz ∧ b1 / 64 = 2) ∧ (2 < sz ∧ b2 / 64 = 2) ∧ (3 < sz ∧ b3 / 64 = 2)
  · rw [if_pos c3] at h
    split at h
    · obtain ⟨rfl, rfl⟩ : _ = x ∧ 4 = n := by simpa using h
      obtain rfl := e1 (by omega)
      obtain rfl := e2 (by omega)
      obtain rfl := e3 (by omega)
      unfold decB; rw [if_neg c0, if_neg (by omega), if_neg (by omega), if_pos (by omega), if_pos (by assumption)]
    · obtain ⟨_, rfl⟩ : _ = x ∧ 1 = n := by simpa using h
      omega
  rw [if_neg c3] at h
  obtain ⟨_, rfl⟩ : _ = x ∧ 1 = n := by simpa using h
  omega

/-- a sequence of two bytes or more: the bytes behind the first are tails, the first is none -/
theorem decB_tails (sz b0 b1 b2 b3 x n : Nat) (h : decB sz b0 b1 b2 b3 = (x, n)) (hn : 2 ≤ n) :
    192 ≤ b0 ∧ n ≤ sz ∧ n ≤ 4 ∧ b1 / 64 = 2 ∧ (2 < n → b2 / 64 = 2) ∧ (3 < n → b3 / 64 = 2) := by
  unfold decB at h
  by_cases c0 : b0 < 128
  · rw [if_pos c0] at h
    obtain ⟨_, rfl⟩ : _ = x ∧ 1 = n := by simpa using h
    omega
  rw [if_neg c0] at h
  by_cases c1 : b0 / 32 = 6 ∧ (1 < sz ∧ b1 / 64 = 2)
  · rw [if_pos c1] at h
    split at h
    · obtain ⟨_, rfl⟩ : _ = x ∧ 2 = n := by simpa using h
      omega
    · obtain ⟨_, rfl⟩ : _ = x ∧ 1 = n := by simpa using h
      omega
  rw [if_neg c1] at h
  by_cases c2 : b0 / 16 = 14 ∧ (1 < sz ∧ b1 / 64 = 2) ∧ (2 < sz ∧ b2 / 64 = 2)
  · rw [if_pos c2] at h
    split at h
    · obtain ⟨_, rfl⟩ : _ = x ∧ 3 = n := by simpa using h
      omega
    · obtain ⟨_, rfl⟩ : _ = x ∧ 1 = n := by simpa using h
      omega
  rw [if_neg c2] at h
  by_cases c3 : b0 / 8 = 30 ∧ (1 < sz ∧ b1 / 64 = 2) ∧ (2 < sz ∧ b2 / 64 = 2) ∧ (3 < sz ∧ b3 / 64 = 2)
  · rw [if_pos c3] at h
    split at h
    · obtain ⟨_, rfl⟩ : _ = x ∧ 4 = n := by simpa using h
      omega
    · obtain ⟨_, rfl⟩ : _ = x ∧ 1 = n := by simpa using h
      omega
  rw [if_neg c3] at h
  obtain ⟨_, rfl⟩ : _ = x ∧ 1 = n := by simpa using h
  omega

/-- one byte wide: an ASCII byte, or a wrong one -/
theorem dec_one (s : ByteArray) (i : Nat) (hi : i < s.size) (h : (Utf8.decode s i).2 = 1) : bN s i < 128 ∨ Utf8.decode s i = (65533, 1) := by
  rcases dec_why s i hi with ⟨_, x, n, h1, h2, h3, _⟩ | ⟨_, h⟩
  · left
    rw [h1] at h
    have hn : n = 1 := h
    subst hn
    have hx : (x : Int) < 128 := by unfold bytesN at h3; revert h3; (repeat' split) <;> omega
    rw [decode_decB s i hi] at h1
    apply Decidable.byContradiction
    intro hb
    unfold decB at h1
    rw [if_neg hb] at h1
    revert h1
    (repeat' split) <;> simp <;> omega
  · exact .inr h

theorem bN_append (s t : ByteArray) (k : Nat) : bN (s ++ t) k = if k < s.size then bN s k else bN t (k - s.size) := by
  have h := bt_bN (s ++ t) k
  by_cases h1 : k < s.size
  · rw [if_pos h1]
    have e : bt (s ++ t) k = bt s k := by
      unfold bt
      rw [dif_pos (by rw [ByteArray.size_append]; omega), dif_pos h1, ByteArray.getElem_append_left h1]
    rw [e, bt_bN] at h; omega
  · rw [if_neg h1]
    by_cases h2 : k - s.size < t.size
    · have e : bt (s ++ t) k = bt t (k - s.size) := by
        unfold bt
        rw [dif_pos (by rw [ByteArray.size_append]; omega), dif_pos h2, ByteArray.getElem_append_right (by omega)]
      rw [e, bt_bN] at h; omega
    · unfold bN
      rw [get_out _ _ (by rw [ByteArray.size_append]; omega), get_out _ _ h2]

theorem dec_right (s t : ByteArray) (i : Nat) : i < t.size → Utf8.decode (s ++ t) (s.size + i) = Utf8.decode t i := by
  intro hi
  rw [decode_decB _ _ (by rw [ByteArray.size_append]; omega), decode_decB t i hi]
  have e : ∀ k, bN (s ++ t) (s.size + i + k) = bN t (i + k) := by
    intro k
    rw [bN_append, if_neg (by omega)]
    congr 1; omega
  have e0 := e 0
  simp only [Nat.add_zero] at e0
  rw [e 1, e 2, e 3, e0, ByteArray.size_append]
  congr 1; omega

theorem right_wide (s : ByteArray) (i x n : Nat) (hi : i < s.size) (h1 : Utf8.decode s i = (x, n)) (h3 : bytesN x = n) : 2 ≤ n ∨ bN s i < 128 := by
  by_cases hn : 2 ≤ n
  · exact .inl hn
  · have hb := dec_bounds s i hi
    rw [h1] at hb
    have hn1 : n = 1 := by have := hb.1; simp at this; omega
    subst hn1
    rcases dec_one s i hi (by rw [h1]) with h | h
    · exact .inr h
    · rw [h] at h1
      obtain ⟨rfl, _⟩ : 65533 = x ∧ 1 = 1 := by simpa using h1
      exact absurd h3 (by decide)

/-- the text in front, if its byte i is right, or if what follows doesn't go on with a tail -/
theorem dec_left (s t : ByteArray) (i : Nat) (hi : i < s.size) (h : whyN (s.extract i s.size) = 0 ∨ t.size = 0 ∨ ¬ bN t 0 / 64 = 2) : Utf8.decode (s ++ t) i = Utf8.decode s i := by
  have hi' : i < (s ++ t).size := by rw [ByteArray.size_append]; omega
  have hsz : (s ++ t).size = s.size + t.size := ByteArray.size_append
  have ek : ∀ k, i + k < s.size → bN (s ++ t) (i + k) = bN s (i + k) := fun k hk => by rw [bN_append, if_pos hk]
  have e0 : bN (s ++ t) i = bN s i := ek 0 hi
  rcases dec_why s i hi with ⟨h0, x, n, h1, h2, h3, h4⟩ | ⟨h0, h1⟩
  · have hw := right_wide s i x n hi h1 h3
    rw [h1, decode_decB _ _ hi', e0]
    rw [decode_decB s i hi] at h1
    exact decB_keep _ _ _ _ _ x n h1 hw _ _ _ _ (by omega) (fun _ => ek 1 (by omega)) (fun _ => ek 2 (by omega)) (fun _ => ek 3 (by omega))
  · have hnt : ¬ bN t 0 / 64 = 2 := by
      rcases h with h | h | h
      · exact absurd h h0
      · have : bN t 0 = 0 := by unfold bN; rw [get_out t 0 (by omega)]; rfl
        omega
      · exact h
    rcases dec_why (s ++ t) i hi' with ⟨_, x, n, g1, g2, g3, g4⟩ | ⟨_, g1⟩
    · exfalso
      have hw := right_wide (s ++ t) i x n hi' g1 g3
      rw [e0] at hw
      have g1' := g1
      rw [decode_decB _ _ hi', e0] at g1'
      have key : i + n ≤ s.size := by
        apply Decidable.byContradiction
        intro hlt
        have hn2 : 2 ≤ n := by omega
        obtain ⟨_, _, hn4, t1, t2, t3⟩ := decB_tails _ _ _ _ _ x n g1' hn2
        have hk : s.size - i = 1 ∨ s.size - i = 2 ∨ s.size - i = 3 := by omega
        rcases hk with hk | hk | hk
        · rw [bN_append, if_neg (by omega), show i + 1 - s.size = 0 by omega] at t1
          exact hnt t1
        · have := t2 (by omega)
          rw [bN_append, if_neg (by omega), show i + 2 - s.size = 0 by omega] at this
          exact hnt this
        · have := t3 (by omega)
          rw [bN_append, if_neg (by omega), show i + 3 - s.size = 0 by omega] at this
          exact hnt this
      have hE := decB_keep _ _ _ _ _ x n g1' hw (s.size - i) (bN s (i + 1)) (bN s (i + 2)) (bN s (i + 3)) (by omega) (fun _ => (ek 1 (by omega)).symm) (fun _ => (ek 2 (by omega)).symm) (fun _ => (ek 3 (by omega)).symm)
      rw [← decode_decB s i hi, h1] at hE
      obtain ⟨rfl, rfl⟩ : 65533 = x ∧ 1 = n := by simpa using hE
      exact absurd g3 (by decide)
    · rw [g1, h1]

/-- the characters of a text behind another one -/
theorem chars_right (s t : ByteArray) : ∀ (k i : Nat), t.size - i ≤ k → chars (s ++ t) (s.size + i) = (chars t i).map fun p => (s.size + p.1, p.2) := by
  intro k
  induction k with
  | zero =>
    intro i h
    rw [chars_end _ _ (by rw [ByteArray.size_append]; omega), chars_end t i (by omega)]; rfl
  | succ k ih =>
    intro i h
    by_cases hi : i < t.size
    · have hb := dec_bounds t i hi
      rw [chars_step _ _ (by rw [ByteArray.size_append]; omega), chars_step t i hi, dec_right s t i hi, Nat.add_assoc, ih _ (by omega)]
      rfl
    · rw [chars_end _ _ (by rw [ByteArray.size_append]; omega), chars_end t i hi]; rfl

/-- all characters from i on are right, or what follows doesn't go on with a tail -/
theorem chars_left (s t : ByteArray) (h : (∀ i ∈ (chars s 0).map (·.1), whyN (s.extract i s.size) = 0) ∨ t.size = 0 ∨ ¬ bN t 0 / 64 = 2) :
    ∀ (k i : Nat), s.size - i ≤ k → i ≤ s.size → (∀ j ∈ (chars s i).map (·.1), j ∈ (chars s 0).map (·.1)) →
      chars (s ++ t) i = chars s i ++ (chars t 0).map fun p => (s.size + p.1, p.2) := by
  intro k
  induction k with
  | zero =>
    intro i h1 h2 _
    obtain rfl : i = s.size := by omega
    rw [chars_end s s.size (by omega)]
    exact chars_right s t t.size 0 (by omega)
  | succ k ih =>
    intro i h1 h2 hm
    by_cases hi : i < s.size
    · have hb := dec_bounds s i hi
      have hst := chars_step s i hi
      have hd : Utf8.decode (s ++ t) i = Utf8.decode s i := by
        refine dec_left s t i hi ?_
        rcases h with h | h
        · exact .inl (h i (hm i (by rw [hst]; simp)))
        · exact .inr h
      rw [chars_step (s ++ t) i (by rw [ByteArray.size_append]; omega), hd, hst, ih _ (by omega) (by omega) (fun j hj => hm j (by rw [hst]; simp at hj ⊢; exact .inr hj))]
      rfl
    · obtain rfl : i = s.size := by omega
      rw [chars_end s s.size (by omega)]
      exact chars_right s t t.size 0 (by omega)

theorem runeVals_append (s t : ByteArray) (h : (∀ i ∈ (chars s 0).map (·.1), whyN (s.extract i s.size) = 0) ∨ t.size = 0 ∨ ¬ bN t 0 / 64 = 2) : runeVals (s ++ t) = runeVals s ++ runeVals t := by
  unfold runeVals
  rw [chars_left s t h s.size 0 (by omega) (by omega) (fun _ hj => hj)]
  simp

end Go.Proofs.YthgaadjkjnibaaaGreatDoor
/-
  Where the characters of a text begin: each where the one ahead ends; and the last one of what is ahead of a character's beginning.
-/
namespace Go.Proofs.YthgaadjkjnibaaaGreatDoor
open Go.RowKit Go.PlainAid Go.Lib

/-- where the characters from i on begin, and behind them the text's end -/
def starts (s : ByteArray) (i : Nat) : List Nat := (chars s i).map (·.1) ++ [s.size]
theorem startN_starts (s : ByteArray) (k : Nat) : startN s k = (starts s 0).getD k 0 := rfl
theorem starts_step (s : ByteArray) (i : Nat) (h : i < s.size) : starts s i = i :: starts s (i + (Utf8.decode s i).2) := by
  unfold starts; rw [chars_step s i h]; rfl
theorem starts_end (s : ByteArray) (i : Nat) (h : ¬ i < s.size) : starts s i = [s.size] := by
  unfold starts; rw [chars_end s i h]; rfl
theorem starts_head (s : ByteArray) (i : Nat) (h : i ≤ s.size) : (starts s i).getD 0 0 = i := by
  by_cases hi : i < s.size
  · rw [starts_step s i hi]; rfl
  · rw [starts_end s i hi]; show s.size = i; omega
theorem starts_next (s : ByteArray) : ∀ (k i : Nat), i ≤ s.size → k < (chars s i).length →
    (starts s i).getD k 0 < s.size ∧ (starts s i).getD (k + 1) 0 = (starts s i).getD k 0 + (Utf8.decode s ((starts s i).getD k 0)).2 := by
  intro k
  induction k with
  | zero =>
    intro i h hk
    have hi : i < s.size := by
      refine Decidable.byContradiction fun hn => ?_
      rw [chars_end s i hn] at hk; simp at hk
    have hb := dec_bounds s i hi
    rw [starts_step s i hi]
    refine ⟨hi, ?_⟩
    show (starts s (i + (Utf8.decode s i).2)).getD 0 0 = i + (Utf8.decode s i).2
    exact starts_head s _ hb.2.2
  | succ k ih =>
    intro i h hk
    have hi : i < s.size := by
      refine Decidable.byContradiction fun hn => ?_
      rw [chars_end s i hn] at hk; simp at hk
    have hb := dec_bounds s i hi
    rw [chars_step s i hi, List.length_cons] at hk
    have := ih (i + (Utf8.decode s i).2) hb.2.2 (by omega)
    rw [starts_step s i hi]
    exact this
theorem start_zero (s : ByteArray) : startN s 0 = 0 := starts_head s 0 (Nat.zero_le _)
theorem start_len (s : ByteArray) : startN s (chars s 0).length = s.size := by
  unfold startN
  rw [List.getD_eq_getElem?_getD, List.getElem?_append_right (by simp)]
  simp
theorem start_lt (s : ByteArray) (k : Nat) (h : k < (chars s 0).length) : startN s k < s.size := (starts_next s k 0 (Nat.zero_le _) h).1
theorem start_next (s : ByteArray) (k : Nat) (h : k < (chars s 0).length) : startN s (k + 1) = startN s k + (Utf8.decode s (startN s k)).2 := (starts_next s k 0 (Nat.zero_le _) h).2
theorem start_up (s : ByteArray) (k : Nat) (h : k < (chars s 0).length) : startN s k < startN s (k + 1) := by
  have := start_next s k h
  have := dec_bounds s _ (start_lt s k h)
  omega
theorem start_mono (s : ByteArray) (j : Nat) : ∀ d, j + d ≤ (chars s 0).length → startN s j + d ≤ startN s (j + d) := by
  intro d
  induction d with
  | zero => intro _; exact Nat.le_refl _
  | succ d ih =>
    intro h
    have := ih (by omega)
    have := start_up s (j + d) (by omega)
    show startN s j + (d + 1) ≤ startN s (j + d + 1)
    omega
theorem start_le (s : ByteArray) (j k : Nat) (h : j ≤ k) (hk : k ≤ (chars s 0).length) : startN s j ≤ startN s k := by
  have := start_mono s j (k - j) (by omega)
  rw [show j + (k - j) = k by omega] at this; omega
theorem start_lt_lt (s : ByteArray) (j k : Nat) (h : j < k) (hk : k ≤ (chars s 0).length) : startN s j < startN s k := by
  have := start_mono s j (k - j) (by omega)
  rw [show j + (k - j) = k by omega] at this; omega
theorem start_size (s : ByteArray) (k : Nat) (h : k ≤ (chars s 0).length) : startN s k ≤ s.size := by
  have := start_le s k _ h (Nat.le_refl _)
  rw [start_len] at this; exact this
/-- the character that has the byte b -/
theorem start_find (s : ByteArray) (b : Nat) : ∀ d, d ≤ (chars s 0).length → b < startN s d → ∃ k, k < d ∧ startN s k ≤ b ∧ b < startN s (k + 1) := by
  intro d
  induction d with
  | zero => intro _ h; rw [start_zero] at h; omega
  | succ d ih =>
    intro h hb
    by_cases hd : b < startN s d
    · obtain ⟨k, h1, h2⟩ := ih (by omega) hd
      exact ⟨k, by omega, h2⟩
    · exact ⟨d, by omega, by omega, hb⟩
theorem place_start (s : ByteArray) (k : Nat) (h : k < (chars s 0).length) : (places s)[k]? = some (startN s k) := by
  unfold startN places
  rw [List.getD_eq_getElem?_getD, List.getElem?_append_left (by simpa using h)]
  have : k < ((chars s 0).map (·.1)).length := by simpa using h
  rw [List.getElem?_eq_getElem this]; rfl

theorem decB_keep' (sz b0 b1 b2 b3 : Nat) (p : Nat × Nat) (h : decB sz b0 b1 b2 b3 = p) (h2 : 2 ≤ p.2 ∨ b0 < 128) (sz' b1' b2' b3' : Nat) (hn : p.2 ≤ sz')
    (e1 : 1 < p.2 → b1' = b1) (e2 : 2 < p.2 → b2' = b2) (e3 : 3 < p.2 → b3' = b3) : decB sz' b0 b1' b2' b3' = p := by
  obtain ⟨x, n⟩ := p
  exact decB_keep _ _ _ _ _ _ _ h h2 _ _ _ _ hn e1 e2 e3
theorem decB_tails' (sz b0 b1 b2 b3 : Nat) (p : Nat × Nat) (h : decB sz b0 b1 b2 b3 = p) (hn : 2 ≤ p.2) :
    192 ≤ b0 ∧ p.2 ≤ sz ∧ p.2 ≤ 4 ∧ b1 / 64 = 2 ∧ (2 < p.2 → b2 / 64 = 2) ∧ (3 < p.2 → b3 / 64 = 2) := by
  obtain ⟨x, n⟩ := p
  exact decB_tails _ _ _ _ _ _ _ h hn
theorem bN_ahead (s : ByteArray) (e k : Nat) (he : e ≤ s.size) (h : k < e) : bN (s.extract 0 e) k = bN s k := by
  have hsz : (s.extract 0 e).size = e := by simp [ByteArray.size_extract]; omega
  unfold bN
  rw [get_in _ k (by omega), get_in s k (by omega), ByteArray.getElem_extract]
  simp
theorem dec_ahead (s : ByteArray) (e i : Nat) (he : e ≤ s.size) (hi : i + (Utf8.decode s i).2 ≤ e) (hi' : i < e) : Utf8.decode (s.extract 0 e) i = Utf8.decode s i := by
  have hsz : (s.extract 0 e).size = e := by simp [ByteArray.size_extract]; omega
  have hs := decode_decB s i (by omega)
  have ht := decode_decB (s.extract 0 e) i (by omega)
  rw [hsz] at ht
  have b0 := bN_ahead s e i he hi'
  by_cases h2 : 2 ≤ (Utf8.decode s i).2 ∨ bN s i < 128
  · rw [ht, b0]
    exact decB_keep' _ _ _ _ _ (Utf8.decode s i) hs.symm h2 _ _ _ _ (by omega) (fun h => bN_ahead s e _ he (by omega)) (fun h => bN_ahead s e _ he (by omega)) (fun h => bN_ahead s e _ he (by omega))
  · have hb := dec_bounds s i (by omega)
    have hw : (Utf8.decode s i).2 = 1 := by omega
    have hbt := dec_bounds (s.extract 0 e) i (by omega)
    rcases dec_one s i (by omega) hw with h | h
    · omega
    · by_cases h3 : (Utf8.decode (s.extract 0 e) i).2 = 1
      · rcases dec_one _ i (by omega) h3 with h4 | h4
        · omega
        · rw [h4, h]
      · have := decB_keep' _ _ _ _ _ (Utf8.decode (s.extract 0 e) i) ht.symm (.inl (by omega)) (s.size - i) (bN s (i + 1)) (bN s (i + 2)) (bN s (i + 3)) (by omega) (fun h => (bN_ahead s e _ he (by omega)).symm) (fun h => (bN_ahead s e _ he (by omega)).symm) (fun h => (bN_ahead s e _ he (by omega)).symm)
        rw [b0, ← hs] at this
        rw [this] at hw
        exact absurd hw h3
theorem wide_ahead (s : ByteArray) (e i : Nat) (he : e ≤ s.size) (hi : i < e) (h : 2 ≤ (Utf8.decode (s.extract 0 e) i).2) : Utf8.decode s i = Utf8.decode (s.extract 0 e) i := by
  have hsz : (s.extract 0 e).size = e := by simp [ByteArray.size_extract]; omega
  have hs := decode_decB s i (by omega)
  have ht := decode_decB (s.extract 0 e) i (by omega)
  rw [hsz] at ht
  have hbt := dec_bounds (s.extract 0 e) i (by omega)
  have := decB_keep' _ _ _ _ _ (Utf8.decode (s.extract 0 e) i) ht.symm (.inl h) (s.size - i) (bN s (i + 1)) (bN s (i + 2)) (bN s (i + 3)) (by omega) (fun h => (bN_ahead s e _ he (by omega)).symm) (fun h => (bN_ahead s e _ he (by omega)).symm) (fun h => (bN_ahead s e _ he (by omega)).symm)
  rw [bN_ahead s e i he hi, ← hs] at this
  exact this
theorem dec_tails (s : ByteArray) (i : Nat) (hi : i < s.size) (h : 2 ≤ (Utf8.decode s i).2) : 192 ≤ bN s i ∧ ∀ j, i < j → j < i + (Utf8.decode s i).2 → bN s j / 64 = 2 := by
  have hb := dec_bounds s i hi
  obtain ⟨h1, _, _, h2, h3, h4⟩ := decB_tails' _ _ _ _ _ (Utf8.decode s i) (decode_decB s i hi).symm h
  refine ⟨h1, fun j hj hj' => ?_⟩
  obtain rfl | rfl | rfl : j = i + 1 ∨ j = i + 2 ∨ j = i + 3 := by omega
  · exact h2
  · exact h3 (by omega)
  · exact h4 (by omega)
theorem tail_yes (t : ByteArray) (j : Nat) (h : bN t j / 64 = 2) : tailB (bt t j) = true := by rw [bt_bN]; exact (tailB_nat _).2 h
theorem tail_no (t : ByteArray) (j : Nat) (h : 192 ≤ bN t j) : ¬ tailB (bt t j) = true := by
  rw [bt_bN]; intro h'
  have := (tailB_nat _).1 h'; have := bN_lt t j; omega
/-- a right sequence of two bytes and more that ends a text is found -/
theorem lead_wide (t : ByteArray) (i : Nat) (hi : i < t.size) (h : 2 ≤ (Utf8.decode t i).2) (he : i + (Utf8.decode t i).2 = t.size) : leadAt t = i := by
  have hb := dec_bounds t i hi
  obtain ⟨h1, h2⟩ := dec_tails t i hi h
  have n0 := tail_no t i h1
  have t1 := fun j hj hj' => tail_yes t j (h2 j hj hj')
  unfold leadAt
  obtain e | e | e : t.size = i + 2 ∨ t.size = i + 3 ∨ t.size = i + 4 := by omega
  · rw [e, show i + 2 - 1 = i + 1 from rfl]
    unfold leadF
    rw [if_pos ⟨by omega, by omega, t1 _ (by omega) (by omega)⟩, show i + 1 - 1 = i from rfl]
    unfold leadF
    rw [if_neg (fun h => n0 h.2.2)]
  · rw [e, show i + 3 - 1 = i + 2 from rfl]
    unfold leadF
    rw [if_pos ⟨by omega, by omega, t1 _ (by omega) (by omega)⟩, show i + 2 - 1 = i + 1 from rfl]
    unfold leadF
    rw [if_pos ⟨by omega, by omega, t1 _ (by omega) (by omega)⟩, show i + 1 - 1 = i from rfl]
    unfold leadF
    rw [if_neg (fun h => n0 h.2.2)]
  · rw [e, show i + 4 - 1 = i + 3 from rfl]
    unfold leadF
    rw [if_pos ⟨by omega, by omega, t1 _ (by omega) (by omega)⟩, show i + 3 - 1 = i + 2 from rfl]
    unfold leadF
    rw [if_pos ⟨by omega, by omega, t1 _ (by omega) (by omega)⟩, show i + 2 - 1 = i + 1 from rfl]
    unfold leadF
    rw [if_pos ⟨by omega, by omega, t1 _ (by omega) (by omega)⟩, show i + 1 - 1 = i from rfl]
    unfold leadF
    rw [if_neg (fun h => n0 h.2.2)]

/-- FROM BEHIND: the last character of what is ahead of a character's end is that character -/
theorem last_start (s : ByteArray) (k : Nat) (hk : k < (chars s 0).length) :
    lastPos (s.extract 0 (startN s (k + 1))) = startN s k ∧ Utf8.decode (s.extract 0 (startN s (k + 1))) (startN s k) = Utf8.decode s (startN s k) ∧ (s.extract 0 (startN s (k + 1))).size = startN s (k + 1) := by
  have he := start_size s (k + 1) hk
  have hn := start_next s k hk
  have hl := start_lt s k hk
  have hu := start_up s k hk
  have hsz : (s.extract 0 (startN s (k + 1))).size = startN s (k + 1) := by simp [ByteArray.size_extract]; omega
  have hd := dec_ahead s (startN s (k + 1)) (startN s k) he (by omega) hu
  have hb := dec_bounds s _ hl
  refine ⟨?_, hd, hsz⟩
  by_cases hw : 2 ≤ (Utf8.decode s (startN s k)).2
  · have hle := lead_wide (s.extract 0 (startN s (k + 1))) (startN s k) (by omega) (by rw [hd]; exact hw) (by rw [hd, hsz]; omega)
    unfold lastPos
    rw [hle, if_pos (by rw [hd, hsz]; omega)]
  · unfold lastPos
    split
    · rename_i hL
      have hlt := leadAt_lt (s.extract 0 (startN s (k + 1))) (by omega)
      generalize hLd : leadAt (s.extract 0 (startN s (k + 1))) = L at *
      rw [hsz] at hL hlt
      refine Decidable.byContradiction fun hne => ?_
      have hw2 : 2 ≤ (Utf8.decode (s.extract 0 (startN s (k + 1))) L).2 := by omega
      have hw3 := wide_ahead s _ L he hlt hw2
      obtain ⟨k', h1, h2, h3⟩ := start_find s L (k + 1) hk hlt
      have hlead := (dec_tails s L (by omega) (by rw [hw3]; exact hw2)).1
      by_cases hq : startN s k' = L
      · have h4 := start_next s k' (by omega)
        rw [hq, hw3] at h4
        have h5 : startN s (k' + 1) = startN s (k + 1) := by omega
        have h6 : k' = k := by
          refine Decidable.byContradiction fun hn => ?_
          have := start_lt_lt s (k' + 1) (k + 1) (by omega) hk
          omega
        subst h6
        exact hne hq.symm
      · have h4 := start_next s k' (by omega)
        have h5 := start_lt s k' (by omega)
        have h6 := (dec_tails s (startN s k') h5 (by omega)).2 L (by omega) (by omega)
        omega
    · rw [hsz]; omega

end Go.Proofs.YthgaadjkjnibaaaGreatDoor
/-
  What every program tells of a few bytes: the law's function lives answers true.
-/
namespace Go.Proofs.YthgaadjkjnibaaaGreatDoor
open Go.RowKit Go.PlainAid Go.Lib

abbrev sL : ByteArray := ⟨#[97, 195, 169, 226, 130]⟩
theorem charsL : chars sL 0 = [(0, 97), (1, 233), (3, 65533), (4, 65533)] := by decide +kernel
theorem placesL : places sL = [0, 1, 3, 4] := by rw [places, charsL]; rfl
theorem whyL0 : why sL 0 = 0 := by decide +kernel
theorem whyL1 : why sL 1 = 0 := by decide +kernel
theorem whyL3 : why sL 3 = 11 := by decide +kernel
theorem whyL4 : why sL 4 = 10 := by decide +kernel
theorem lastL : lastPos sL = 4 := by decide +kernel
theorem startL : startN sL 2 = 3 := by rw [startN, charsL]; rfl
theorem decL4 : Utf8.decode sL 4 = (65533, 1) := by decide +kernel
theorem encL : runesBytes [128512] = ⟨#[240, 159, 152, 128]⟩ := by decide +kernel

theorem checkL (a : Nat) (c : Int) (h : checkV sL a c) : a = 3 ∧ c = 11 := by
  rcases h with ⟨h, _, _⟩ | ⟨pre, rest, h1, h2, h3, h4⟩
  · have := h 3 (by rw [placesL]; simp)
    rw [whyL3] at this; cases this
  · rw [placesL] at h1
    match pre, h1 with
    | [], h1 => simp at h1; rw [← h1.1] at h3; exact absurd whyL0 h3
    | [x], h1 => simp at h1; rw [← h1.2.1] at h3; exact absurd whyL1 h3
    | [x, y], h1 =>
      simp at h1
      obtain ⟨_, _, rfl, _⟩ := h1
      exact ⟨rfl, by rw [h4, whyL3]⟩
    | x :: y :: z :: r, h1 =>
      simp at h1
      have := h2 3 (by rw [← h1.2.2.1]; simp)
      rw [whyL3] at this; cases this

end Go.Proofs.YthgaadjkjnibaaaGreatDoor
/-
  Lists of runes that came in, their copies, and the conversions of lists and texts, in whatever world.
-/
namespace Go.Proofs.YthgaadjkjnibaaaGreatDoor
open Go.RowKit Go.PlainAid Go.Lib

/-- a list of 32-bit integers that came in: nil, or a row of 'cap' cells of which the first 'len' are its elements -/
def IsRow (w : World) (a : Option Addr) (len cap : Nat) (zs : List Int) : Prop :=
  (a = none ∧ len = 0 ∧ cap = 0 ∧ zs = []) ∨
  ∃ x, a = some x ∧ len ≤ cap ∧ cap ≤ maxLen ∧ zs.length = cap ∧ (∀ i, i < zs.length → w.cell? (x.add i) = some (.int .i32 (zs.getD i 0)))

/-- '[]rune(s)' in whatever world -/
theorem conv_runes (s : ByteArray) (W : World) (hs : s.size ≤ 70368744177664) :
    ∃ cap W', (convert 9 226 (.string s)).run Tryz.prog W = .ok (.slice (some ⟨W.heap.size, 0, none⟩) (chars s 0).length cap) W' ∧
      W'.ownsRow 0 21 1 (.slice (some ⟨W.heap.size, 0, none⟩) (chars s 0).length cap) (chars s 0).length (runeVals s) ∧ Below W.heap.size W W' := by
  have hl := chars_length s 0
  have hconv := run_runes_of_string (P := Tryz.prog) W 9 226 21 s Tryz.underlying9 Tryz.underlying226 Tryz.underlying21 (by rw [runesFrom_vals]; simp [runeVals]; omega)
  rw [runesFrom_vals] at hconv
  have hrl := runeVals_len s
  simp only [List.size_toArray, hrl] at hconv
  refine ⟨_, _, hconv, ⟨by rw [hrl]; omega, .inr ⟨W.heap.size, _, _, rfl, Nat.zero_le _, heap_alloc_new W.drew _, grownCap_ge _ _ _ _, grownCap_le_maxLen _ _ _ _ (by unfold maxLen; omega), ?_, ?_⟩⟩, by go_grown⟩
  · have := grownCap_ge W (chars s 0).length 0 21
    simp [hrl]; omega
  · simp [← hrl]

theorem infoRune : (Tryz.prog.info? 21).map (fun i => (i.zero, i.size, i.bytes)) = some (some (.int .i32 0), 1, 4) := by kernel_rfl
theorem conv_own {W : World} {base : Nat} {v : Value} {n : Nat} {zs : List Int} (h : W.ownsRow base 21 1 v n (zs.map (Value.int .i32))) : (convert 226 9 v).run Tryz.prog W = .ok (.string (runesBytes zs)) W := by
  have hn : zs.length = n := by have := h.1; simpa using this
  rcases h.2 with ⟨rfl, h0⟩ | ⟨g, cap, cur, rfl, _⟩
  · have hz : zs = [] := List.eq_nil_of_length_eq_zero (by omega)
    subst hz
    rw [run_convert_runes_string (P := Tryz.prog) W 226 9 21 none 0 0 Tryz.underlying226 Tryz.underlying21 Tryz.underlying9]
    simp [Conv.runesToString, Sem.run_pure, runesBytes]
  · rw [run_convert_runes (P := Tryz.prog) W 226 9 21 ⟨g, 0, none⟩ n cap zs (by omega) Tryz.underlying226 Tryz.underlying21 Tryz.underlying9 (fun j hj => h.cells rfl j _ (by simp [List.getElem?_eq_getElem hj]))]
    rw [List.take_of_length_le (by omega)]
theorem encode_own {W : World} {base : Nat} {v : Value} {n : Nat} {zs : List Int} (h : W.ownsRow base 21 1 v n (zs.map (Value.int .i32))) :
    Calls Tryz.prog 165 #[v] W fun e w' => e = .returned (.string (runesBytes zs)) ∧ w' = W := by
  have hconv := conv_own h
  have hv : ∃ a n' c, v = .slice a n' c := by
    rcases h.2 with ⟨rfl, _⟩ | ⟨g, cap, cur, rfl, _⟩
    · exact ⟨_, _, _, rfl⟩
    · exact ⟨_, _, _, rfl⟩
  obtain ⟨a, n', c, rfl⟩ := hv
  clear h
  go_enter Tryz.func165, Tryz.ntmps165
  go_wp2
  go_ret
  exact ⟨rfl, rfl⟩

/-- the elements of a list that came in, in a later world -/
theorem news_at {w W : World} {x : Addr} {len cap : Nat} {zs : List Int} (hb : Below w.heap.size w W) (hl : len ≤ cap) (hz : zs.length = cap) (hc : ∀ i, i < zs.length → w.cell? (x.add i) = some (.int .i32 (zs.getD i 0))) :
    ((zs.take len).map (Value.int .i32)).length = len * 1 ∧ (∀ j u, ((zs.take len).map (Value.int .i32))[j]? = some u → W.cell? (x.add j) = some u) ∧ (∀ u ∈ (zs.take len).map (Value.int .i32), u.oneCell' = true) := by
  refine ⟨by simp; omega, ?_, ?_⟩
  · intro j u hu
    rw [List.getElem?_map, List.getElem?_take] at hu
    split at hu
    · rename_i hj
      have hjz : j < zs.length := by omega
      rw [List.getElem?_eq_getElem hjz] at hu
      have hcj := hc j hjz
      have he : zs.getD j 0 = zs[j] := by simp [List.getD, List.getElem?_eq_getElem hjz]
      rw [he] at hcj
      have hu' : u = .int .i32 zs[j] := by simpa using hu.symm
      rw [hu', ← hcj]
      exact hb.cell (p := x.add j) (World.block_lt_of_cell? w _ hcj)
    · simp at hu
  · intro u hu
    obtain ⟨z, _, rfl⟩ := List.mem_map.1 hu
    rfl

theorem IsRow.below {w W : World} {a : Option Addr} {len cap : Nat} {zs : List Int} (h : IsRow w a len cap zs) (hb : Below w.heap.size w W) : IsRow W a len cap zs := by
  rcases h with h | ⟨x, h1, h2, h3, h4, h5⟩
  · exact .inl h
  · refine .inr ⟨x, h1, h2, h3, h4, fun i hi => ?_⟩
    rw [← h5 i hi]
    exact hb.cell (p := x.add i) (World.block_lt_of_cell? w _ (h5 i hi))
/-- an element of a list that came in -/
theorem IsRow.at {w : World} {a : Option Addr} {len cap : Nat} {zs : List Int} (h : IsRow w a len cap zs) {k : Nat} (hk : k < len) :
    ∃ b off, a = some ⟨b, off, none⟩ ∧ w.cell? ⟨b, off + k, none⟩ = some (.int .i32 (zs.getD k 0)) := by
  rcases h with ⟨_, h, _⟩ | ⟨x, h1, h2, h3, h4, h5⟩
  · omega
  · obtain ⟨b, off, rfl, hc⟩ := ints_at h5 (by omega)
    exact ⟨b, off, h1, hc k (by omega)⟩

/-- a list of runes in memory, whatever its spare room -/
def Reads (w : World) (a : Option Addr) (zs : List Int) : Prop := ∀ k, k < zs.length → ∃ b off, a = some ⟨b, off, none⟩ ∧ w.cell? ⟨b, off + k, none⟩ = some (.int .i32 (zs.getD k 0))
theorem IsRow.reads {w : World} {a : Option Addr} {len cap : Nat} {zs : List Int} (h : IsRow w a len cap zs) : Reads w a (zs.take len) ∧ (zs.take len).length = len := by
  have hl : len ≤ zs.length := by rcases h with ⟨_, h, _⟩ | ⟨_, _, h2, _, h4, _⟩ <;> omega
  refine ⟨fun k hk => ?_, by rw [List.length_take]; omega⟩
  have hk' : k < len := by rw [List.length_take] at hk; omega
  obtain ⟨b, off, h1, h2⟩ := h.at hk'
  refine ⟨b, off, h1, h2.trans ?_⟩
  simp [List.getD, hk']
theorem reads_own {w : World} {base : Nat} {a : Option Addr} {n c : Nat} {zs : List Int} (h : w.ownsRow base 21 1 (.slice a n c) n (zs.map (Value.int .i32))) : Reads w a zs := by
  intro k hk
  have hn : zs.length = n := by have := h.1; simpa using this
  rcases h.2 with ⟨_, h0⟩ | ⟨g, cap, cur, hv, _, hg, _⟩
  · omega
  · obtain ⟨rfl, rfl⟩ : a = some ⟨g, 0, none⟩ ∧ c = cap := by simpa using hv
    refine ⟨g, 0, rfl, ?_⟩
    rw [Nat.zero_add, h.cellAt k (by omega)]
    simp [List.getD, List.getElem?_eq_getElem hk]
theorem Reads.below {w W : World} {a : Option Addr} {zs : List Int} (h : Reads w a zs) (hb : Below w.heap.size w W) : Reads W a zs := by
  intro k hk
  obtain ⟨b, off, h1, h2⟩ := h k hk
  exact ⟨b, off, h1, (hb.cell (p := ⟨b, off + k, none⟩) (World.block_lt_of_cell? w _ h2)).trans h2⟩
theorem Reads.front {w : World} {a : Option Addr} {zs ys : List Int} (h : Reads w a (zs ++ ys)) : Reads w a zs := by
  intro k hk
  obtain ⟨b, off, h1, h2⟩ := h k (by rw [List.length_append]; omega)
  refine ⟨b, off, h1, h2.trans ?_⟩
  simp [List.getD, List.getElem?_append, hk]
theorem encode_reads (w : World) (a : Option Addr) (cap : Nat) (zs : List Int) (h : Reads w a zs) (hn : a = none → zs = []) :
    Calls Tryz.prog 165 #[.slice a zs.length cap] w fun e w' => e = .returned (.string (runesBytes zs)) ∧ w' = w := by
  cases a with
  | none =>
    have hz := hn rfl
    subst hz
    exact encode_nil w _ _
  | some x =>
    obtain ⟨b, off, sp⟩ := x
    by_cases hz : zs = []
    · subst hz
      exact encode_any w _ _ _ [] rfl (fun j hj => by simp at hj)
    · have h0 : 0 < zs.length := List.length_pos_iff.2 hz
      obtain ⟨b', off', e, _⟩ := h 0 h0
      obtain ⟨rfl, rfl, rfl⟩ : b = b' ∧ off = off' ∧ sp = none := by simpa using e
      refine encode_any w _ _ _ zs rfl (fun j hj => ?_)
      obtain ⟨b2, off2, e2, h2⟩ := h j hj
      obtain ⟨rfl, rfl⟩ : b = b2 ∧ off = off2 := by simpa using e2
      have ea : (⟨b, off, none⟩ : Addr).add j = ⟨b, off + j, none⟩ := by
        by_cases hj0 : j = 0
        · subst hj0; rfl
        · simp [Addr.add, hj0]
      rw [ea]; exact h2

end Go.Proofs.YthgaadjkjnibaaaGreatDoor

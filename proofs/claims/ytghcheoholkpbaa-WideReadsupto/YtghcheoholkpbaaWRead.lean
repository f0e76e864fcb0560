/-
  Read of package wide: the units of bytes, in either order, and the mark.
-/
import Derived.Test.YtghcheoholkpbaaWAwake
import Derived.Deep.RegionHeld3
import Derived.Deep.DrawnRows
namespace Go.Proofs.Ytghcheoholkpbaa
open Go.RowKit Go.PlainAid Go.Lib
set_option linter.unusedVariables false

/-- does a text begin with these two bytes? -/
def markB (s : ByteArray) (x y : Nat) : Bool := decide (2 ≤ s.size) && (decide (bN s 0 = x) && decide (bN s 1 = y))

theorem two_list (s : ByteArray) (h : 2 ≤ s.size) : (s.extract 0 2).toList = [UInt8.ofNat (bN s 0), UInt8.ofNat (bN s 1)] := by
  have e : s.extract 0 2 = ⟨#[UInt8.ofNat (bN s 0), UInt8.ofNat (bN s 1)]⟩ := by
    refine bytes_ext (by simp [ByteArray.size_extract]; show _ = 2; omega) (fun k hk => ?_)
    have hk' : k < 2 := by simp [ByteArray.size_extract] at hk; omega
    have l0 := bN_lt s 0
    have l1 := bN_lt s 1
    have hx : bN (s.extract 0 2) k = bN s k := by
      unfold bN
      rw [get_in _ _ hk, get_in s k (by omega)]
      simp [ByteArray.getElem_extract]
    rw [hx]
    have : k = 0 ∨ k = 1 := by omega
    rcases this with rfl | rfl
    · show _ = (UInt8.ofNat (bN s 0)).toNat
      rw [UInt8.toNat_ofNat']; omega
    · show _ = (UInt8.ofNat (bN s 1)).toNat
      rw [UInt8.toNat_ofNat']; omega
  rw [e, ByteArray.toList_eq]
theorem byte_eq (n : Nat) (h : n < 256) (x : UInt8) : (UInt8.ofNat n == x) = decide (n = x.toNat) := by
  rw [Bool.eq_iff_iff]; simp
  constructor
  · intro e; rw [← e, UInt8.toNat_ofNat']; omega
  · intro e; rw [e]; simp
theorem prefix_two (s : ByteArray) (x y : UInt8) (h : 2 ≤ s.size) : ((s.extract 0 2).toList == [x, y]) = markB s x.toNat y.toNat := by
  rw [two_list s h]
  have l0 := bN_lt s 0
  have l1 := bN_lt s 1
  show ((UInt8.ofNat (bN s 0) == x) && ((UInt8.ofNat (bN s 1) == y) && true)) = _
  rw [byte_eq _ l0, byte_eq _ l1]
  unfold markB
  simp [h]

set_option maxRecDepth 100000 in
theorem hasPrefix_two (s : ByteArray) (x y : UInt8) (w : World) (hs : s.size ≤ maxLen) :
    Calls Try.prog 86 #[.string s, .string ⟨#[x, y]⟩] w fun e w' => e = .returned (.bool (markB s x.toNat y.toNat)) ∧ w' = w := by
  unfold maxLen at hs
  by_cases h2 : 2 ≤ s.size
  · have hd : decide ((2 : Int) ≤ (s.size : Int)) = true := by simp; omega
    go_enter Try.func86, Try.ntmps86
    go_wp2
    go_ret
    exact ⟨ret_bool (prefix_two s x y h2), rfl⟩
  · have hd : decide ((2 : Int) ≤ (s.size : Int)) = false := by simp; omega
    go_enter Try.func86, Try.ntmps86
    go_wp2
    go_ret
    exact ⟨ret_bool (by unfold markB; simp [h2]), rfl⟩

theorem cutPrefix0_two (s : ByteArray) (x y : UInt8) (w : World) (hs : s.size ≤ maxLen) :
    Calls Try.prog 85 #[.string s, .string ⟨#[x, y]⟩] w fun e w' => e = .returned (.tuple #[.string (if markB s x.toNat y.toNat then s.extract 2 s.size else s), .bool (markB s x.toNat y.toNat)]) ∧ w' = w := by
  unfold maxLen at hs
  cases hm : markB s x.toNat y.toNat
  · have HM := hide hm
    clear hm
    go_enter Try.func85, Try.ntmps85
    go_wp2_with (go_at_call 86; refine (hasPrefix_two _ _ _ _ (by unfold maxLen; omega)).mono ?_; rintro e w' ⟨rfl, rfl⟩; rw [unhide HM])
    go_returns
    exact ⟨rfl, rfl⟩
  · have h2 : 2 ≤ s.size := by unfold markB at hm; simp at hm; exact hm.1
    have HM := hide hm
    clear hm
    go_enter Try.func85, Try.ntmps85
    go_wp2_with (go_at_call 86; refine (hasPrefix_two _ _ _ _ (by unfold maxLen; omega)).mono ?_; rintro e w' ⟨rfl, rfl⟩; rw [unhide HM])
    go_returns
    exact ⟨rfl, rfl⟩
theorem cutPrefix_two (s : ByteArray) (x y : UInt8) (w : World) (hs : s.size ≤ maxLen) :
    Calls Try.prog 81 #[.string s, .string ⟨#[x, y]⟩] w fun e w' => e = .returned (.tuple #[.string (if markB s x.toNat y.toNat then s.extract 2 s.size else s), .bool (markB s x.toNat y.toNat)]) ∧ w' = w := by
  go_enter Try.func81, Try.ntmps81
  go_wp2_with (go_at_call 85; refine (cutPrefix0_two _ _ _ _ hs).mono ?_; rintro e w' ⟨rfl, rfl⟩)
  all_goals go_returns
  all_goals exact ⟨rfl, rfl⟩

/-- the order that the mark tells, and what stands behind it -/
def ordR (o : Int) (s : ByteArray) : Int := if markB s 254 255 then 0 else if markB s 255 254 then 1 else o
def restR (s : ByteArray) : ByteArray := if markB s 254 255 || markB s 255 254 then s.extract 2 s.size else s

set_option maxRecDepth 100000 in
theorem cutMark_any (o : Int) (s : ByteArray) (w : World) (hs : s.size ≤ maxLen) :
    Calls Try.prog 69 #[.int .u8 o, .string s] w fun e w' => e = .returned (.tuple #[.int .u8 (ordR o s), .string (restR s)]) ∧ w' = w := by
  have HC1 := hide (fun w => cutPrefix_two s 254 255 w hs)
  have HC2 := hide (fun w => cutPrefix_two s 255 254 w hs)
  have e1 : (254 : UInt8).toNat = 254 := rfl
  have e2 : (255 : UInt8).toNat = 255 := rfl
  rw [e1, e2] at HC1 HC2
  cases hm : markB s 254 255
  · cases hn : markB s 255 254
    · have HO : Hid (ordR o s = o ∧ restR s = s) := hide ⟨by unfold ordR; rw [hm, hn]; rfl, by unfold restR; rw [hm, hn]; rfl⟩
      rw [hm] at HC1
      rw [hn] at HC2
      clear hm hn
      go_enter Try.func69, Try.ntmps69
      go_wp2_with (first | (go_at_call 81; with_reducible refine (unhide HC1 _).mono ?_; rintro e w' ⟨rfl, rfl⟩) | (go_at_call 81; with_reducible refine (unhide HC2 _).mono ?_; rintro e w' ⟨rfl, rfl⟩))
      go_returns
      rw [(unhide HO).1, (unhide HO).2]
      exact ⟨rfl, rfl⟩
    · have HO : Hid (ordR o s = 1 ∧ restR s = s.extract 2 s.size) := hide ⟨by unfold ordR; rw [hm, hn]; rfl, by unfold restR; rw [hm, hn]; rfl⟩
      rw [hm] at HC1
      rw [hn] at HC2
      clear hm hn
      go_enter Try.func69, Try.ntmps69
      go_wp2_with (first | (go_at_call 81; with_reducible refine (unhide HC1 _).mono ?_; rintro e w' ⟨rfl, rfl⟩) | (go_at_call 81; with_reducible refine (unhide HC2 _).mono ?_; rintro e w' ⟨rfl, rfl⟩))
      go_returns
      rw [(unhide HO).1, (unhide HO).2]
      exact ⟨rfl, rfl⟩
  · have HO : Hid (ordR o s = 0 ∧ restR s = s.extract 2 s.size) := hide ⟨by unfold ordR; rw [hm]; rfl, by unfold restR; rw [hm]; rfl⟩
    rw [hm] at HC1
    clear hm
    go_enter Try.func69, Try.ntmps69
    go_wp2_with (first | (go_at_call 81; with_reducible refine (unhide HC1 _).mono ?_; rintro e w' ⟨rfl, rfl⟩))
    go_returns
    rw [(unhide HO).1, (unhide HO).2]
    exact ⟨rfl, rfl⟩

end Go.Proofs.Ytghcheoholkpbaa

/-
  The texts of errors whose numbers are small.
-/
import Derived.Test.YtijiiapnbeljnaaGreatDoorBrK
import Derived.Test.YtijiiapnbeljnaaGreatDoorRwShelf2
namespace Go.Proofs.YtijiiapnbeljnaaGreatDoor
open Go.RowKit Go.PlainAid Go.Lib Go.Shelf
set_option linter.unusedVariables false
set_option linter.unusedSimpArgs false

abbrev decS (n : Nat) : ByteArray := ⟨(Lib.decDigits n).toArray⟩
theorem decS_le (n : Nat) (h : n < 100) : (decS n).size ≤ 2 := by
  have : ∀ k : Fin 100, (Lib.decDigits k.1).length ≤ 2 := by decide +kernel
  show (Lib.decDigits n).toArray.size ≤ 2
  simpa using this ⟨n, h⟩
def errnoS (n : Nat) : ByteArray := ⟨#[101, 114, 114, 111, 114, 32]⟩ ++ decS n
theorem errno_any (n : Nat) (h : n < 100) (w : World) : Calls Tryz.prog 244 #[.int .i64 (n : Nat)] w fun e w' => e = .returned (.string (errnoS n)) ∧ w' = w := by
  have HI := hide (fun W => Tryz.strconv_Itoa_small n h W)
  have hl := decS_le n h
  have HE : Hid (errnoS n = ⟨#[101, 114, 114, 111, 114, 32]⟩ ++ decS n) := rfl
  obtain ⟨D, hD⟩ : ∃ D, decS n = D := ⟨_, rfl⟩
  have hD' : (⟨(Lib.decDigits n).toArray⟩ : ByteArray) = D := hD
  rw [hD'] at HI
  rw [hD] at HE hl
  clear hD hD'
  have n1 : ¬ 9223372036854775807 < 6 + D.size := by omega
  go_enter Tryz.func244, Tryz.ntmps244
  go_wp2_with (go_at_call 245; with_reducible refine (unhide HI _).mono ?_; rintro e w' ⟨rfl, rfl⟩)
  go_ret
  exact ⟨by rw [HE.out]; rfl, rfl⟩
/-- a fault's text -/
def faultS (file : ByteArray) (line code : Nat) : ByteArray := if file = ⟨#[]⟩ then ⟨#[108, 105, 110, 101, 32]⟩ ++ decS line ++ ⟨#[58, 32]⟩ ++ errnoS code else file ++ ⟨#[58]⟩ ++ decS line ++ ⟨#[58, 32]⟩ ++ errnoS code

set_option maxRecDepth 100000 in
theorem fault_file (file : ByteArray) (hf : file.toList.isEmpty = false) (hfs : file.size ≤ 1000) (line code : Nat) (hl : line < 100) (hc : code < 100) (fb : Nat) (w : World) (hb : w.heap[fb]? = some (.cells #[.string file, .int .i64 (line : Nat), .int .i64 (code : Nat)] 93 (0, 0))) :
    Calls Tryz.prog 248 #[.pointer (some ⟨fb, 0, none⟩)] w fun e w' => e = .returned (.string (file ++ ⟨#[58]⟩ ++ decS line ++ ⟨#[58, 32]⟩ ++ errnoS code)) ∧ Below w.heap.size w w' := by
  have b : Blk w fb [.string file, .int .i64 (line : Nat), .int .i64 (code : Nat)] 93 := hb
  have c0 := b.cell (j := 0) rfl
  have c1 := b.cell (j := 1) rfl
  have c2 := b.cell (j := 2) rfl
  have HI := hide (fun W => Tryz.strconv_Itoa_small line hl W)
  have HC := hide (fun W => errno_any code hc W)
  have l1 := decS_le line hl
  have l2 : (errnoS code).size ≤ 8 := by
    have := decS_le code hc
    have e6 : (⟨#[101, 114, 114, 111, 114, 32]⟩ : ByteArray).size = 6 := rfl
    unfold errnoS
    rw [ByteArray.size_append]; omega
  obtain ⟨D, hD⟩ : ∃ D, decS line = D := ⟨_, rfl⟩
  have hD' : (⟨(Lib.decDigits line).toArray⟩ : ByteArray) = D := hD
  rw [hD'] at HI
  rw [hD] at l1 ⊢
  generalize errnoS code = E at *
  clear hD hD' b hb
  have e1 : (⟨#[58]⟩ : ByteArray).size = 1 := rfl
  have e2 : (⟨#[58, 32]⟩ : ByteArray).size = 2 := rfl
  have n1 : ¬ 9223372036854775807 < file.size + 1 := by omega
  have n2 : ¬ 9223372036854775807 < (file ++ ⟨#[58]⟩).size + D.size := by simp only [ByteArray.size_append]; omega
  have n3 : ¬ 9223372036854775807 < (file ++ ⟨#[58]⟩ ++ D).size + 2 := by simp only [ByteArray.size_append]; omega
  have n4 : ¬ 9223372036854775807 < (file ++ ⟨#[58]⟩ ++ D ++ ⟨#[58, 32]⟩).size + E.size := by simp only [ByteArray.size_append]; omega
  clear e1 e2
  go_enter Tryz.func248, Tryz.ntmps248
  go_wp2
  go_quiet (first | (go_at_call 245; refine Calls.quiet_of_same (unhide HI _)) | (go_at_call 244; refine Calls.quiet_of_same (unhide HC _)))
  go_wp2
  go_ret
  exact ⟨rfl, bdrN (Below.refl _ _) _⟩
end Go.Proofs.YtijiiapnbeljnaaGreatDoor

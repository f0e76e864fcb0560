/-
  Print of package mirrors, and the document's Print, for every list.
-/
import Derived.Test.YtnabbahdmajfpaaGreatDoorMrRc
import Derived.Test.YtnabbahdmajfpaaGreatDoorMrX
import Derived.Test.YtnabbahdmajfpaaGreatDoorRwShD
import Derived.Test.YtnabbahdmajfpaaGreatDoorMrS
namespace Go.Proofs.YtnabbahdmajfpaaGreatDoor
open Go.RowKit Go.PlainAid Go.Lib Go.PHexM Go.Shelf
set_option linter.unusedVariables false
set_option linter.unusedSimpArgs false

theorem tz16_belowM {w w' : World} (h : tz16At w) (hb : Below w.heap.size w w') : tz16At w' := (hb.cell (World.block_lt_of_cell? _ _ h)).trans h
theorem showLen_leM (n : Nat) : showLen n ≤ 6 := by unfold showLen; (repeat' split) <;> omega
abbrev bestN : ByteArray := ⟨#[32, 35, 32, 91, 66, 69, 83, 84, 32, 70, 73, 84, 93]⟩
abbrev hexM (z : Int) : ByteArray := hexS (showLen z.toNat) z.toNat
def headM (x : MirD) : ByteArray := hexM x.frm ++ ⟨#[59, 32]⟩ ++ hexM x.to
/-- the line of a mirror -/
def writM (x : MirD) : ByteArray := (if x.best then headM x ++ bestN else headM x) ++ ⟨#[10]⟩
theorem headM_size (x : MirD) : (headM x).size ≤ 14 := by
  unfold headM
  have e : (⟨#[59, 32]⟩ : ByteArray).size = 2 := rfl
  have h1 := showLen_leM x.frm.toNat
  have h2 := showLen_leM x.to.toNat
  rw [ByteArray.size_append, ByteArray.size_append, hexS_size, hexS_size, e]
  omega
theorem writM_size (x : MirD) : (writM x).size ≤ 28 := by
  have h := headM_size x
  have e : bestN.size = 13 := rfl
  have e1 : (⟨#[10]⟩ : ByteArray).size = 1 := rfl
  unfold writM
  rw [ByteArray.size_append, e1]
  split
  · rw [ByteArray.size_append, e]; omega
  · omega
def textM (l : List MirD) : Nat → ByteArray
  | 0 => ByteArray.empty
  | i + 1 => textM l i ++ writM (l.getD i zeroM)
theorem textM_size (l : List MirD) : ∀ i, (textM l i).size ≤ 28 * i
  | 0 => by simp [textM]
  | i + 1 => by
    have := textM_size l i
    have := writM_size (l.getD i zeroM)
    unfold textM
    rw [ByteArray.size_append]
    omega
/-- what Print says of a list -/
def printM (l : List MirD) : ByteArray := if (chkM l).2 = 0 then textM l l.length else ByteArray.empty
theorem ok_points {l : List MirD} (h : (chkM l).2 = 0) : ∀ x ∈ l, isPtM x.frm = true ∧ isPtM x.to = true := by
  intro x hx
  obtain ⟨i, hi⟩ := List.getElem?_of_mem hx
  have h1 := (chk_inv h).1 i (List.getElem?_eq_some_iff.1 hi).1
  have hy : whyM x = 0 := by
    unfold wrongM at h1
    rw [getD_at hi] at h1
    by_cases e : whyM x = 0
    · exact e
    · rw [if_pos e] at h1; exact h1
  unfold whyM at hy
  split at hy
  · rename_i hh
    rw [Bool.and_eq_true] at hh
    exact hh
  · exact absurd hy (by decide)
theorem pt_nat {z : Int} (h : isPtM z = true) : ∃ n : Nat, z = n ∧ n ≤ 1114111 := by
  unfold isPtM at h
  simp only [Bool.and_eq_true, decide_eq_true_eq] at h
  exact ⟨z.toNat, by omega, by omega⟩

set_option maxRecDepth 100000 in
set_option maxHeartbeats 2000000 in
theorem written9_any (x : MirD) (w : World) (hg : tz16At w) (h1 : isPtM x.frm = true) (h2 : isPtM x.to = true) :
    Calls Tryz.prog 40 #[mirV x] w fun e w' => e = .returned (.string (writM x)) ∧ Below w.heap.size w w' := by
  obtain ⟨x0, x1, x2, x3⟩ := x
  obtain ⟨a, rfl, ha⟩ := pt_nat h1
  obtain ⟨b, rfl, hb⟩ := pt_nat h2
  obtain ⟨W0, hW0⟩ : ∃ W0, w.alloc (.cells #[.int .i64 x0, .int .i32 (a : Nat), .int .i32 (b : Nat), .bool x3] 27) = W0 := ⟨_, rfl⟩
  have hb0 : Below w.heap.size w W0 := by rw [← hW0]; exact (Below.refl _ w).alloc (Nat.le_refl _) _
  have mb : MirAt W0 w.heap.size ⟨x0, (a : Nat), (b : Nat), x3⟩ := by rw [← hW0]; exact heap_alloc_new w _
  have HA := hide (show_any a ha W0 (tz16_belowM hg hb0))
  have HBB := hide (fun V (hV : Below W0.heap.size W0 V) => show_any b hb V (tz16_belowM (tz16_belowM hg hb0) hV))
  have HK : Hid (∀ V, Below W0.heap.size W0 V → MirAt V w.heap.size ⟨x0, (a : Nat), (b : Nat), x3⟩ ∧ Below w.heap.size w V) := fun V hV => ⟨mb.below hV, hb0.trans (hV.mono hb0.size)⟩
  have HE : Hid (writM ⟨x0, (a : Nat), (b : Nat), x3⟩ = (if x3 then hexS (showLen a) a ++ ⟨#[59, 32]⟩ ++ hexS (showLen b) b ++ bestN else hexS (showLen a) a ++ ⟨#[59, 32]⟩ ++ hexS (showLen b) b) ++ ⟨#[10]⟩) := rfl
  have c1 := mb.cell (j := 1) rfl
  have z1 := hexS_size (showLen a) a
  have z2 := hexS_size (showLen b) b
  have l1 := showLen_leM a
  have l2 := showLen_leM b
  generalize hexS (showLen a) a = A at *
  generalize hexS (showLen b) b = B at *
  have e2 : (⟨#[59, 32]⟩ : ByteArray).size = 2 := rfl
  have e13 : bestN.size = 13 := rfl
  have e1 : (⟨#[10]⟩ : ByteArray).size = 1 := rfl
  have y1 : ¬ 9223372036854775807 < A.size + 2 := by omega
  have y2 : ¬ 9223372036854775807 < A.size + 2 + B.size := by omega
  have y3 : ¬ 9223372036854775807 < A.size + 2 + B.size + 13 := by omega
  have y4 : ¬ 9223372036854775807 < A.size + 2 + B.size + 13 + 1 := by omega
  have y5 : ¬ 9223372036854775807 < A.size + 2 + B.size + 1 := by omega
  clear mb hb0 h1 h2 hg
  cases x3 with
  | true =>
    go_enter Tryz.func40, Tryz.ntmps40
    go_wp2_with fail
    refine (unhide HA).mono ?_
    rintro e w1 ⟨rfl, hb1⟩
    obtain ⟨m1, hB1⟩ := unhide HK _ hb1
    have d2 := m1.cell (j := 2) rfl
    have HB1 := hide hb1
    clear m1 hB1 hW0
    go_wp2_with fail
    refine (unhide HBB _ (unhide HB1)).mono ?_
    rintro e w2 ⟨rfl, hb2⟩
    obtain ⟨m2, hB2⟩ := unhide HK _ ((unhide HB1).trans (hb2.mono (unhide HB1).size))
    have d3 := m2.cell (j := 3) rfl
    have HB2 := hide hB2
    clear m2 hB2 d2 hb2 hb1
    go_wp2
    go_ret
    exact ⟨by rw [unhide HE]; rfl, unhide HB2⟩
  | false =>
    go_enter Tryz.func40, Tryz.ntmps40
    go_wp2_with fail
    refine (unhide HA).mono ?_
    rintro e w1 ⟨rfl, hb1⟩
    obtain ⟨m1, hB1⟩ := unhide HK _ hb1
    have d2 := m1.cell (j := 2) rfl
    have HB1 := hide hb1
    clear m1 hB1 hW0
    go_wp2_with fail
    refine (unhide HBB _ (unhide HB1)).mono ?_
    rintro e w2 ⟨rfl, hb2⟩
    obtain ⟨m2, hB2⟩ := unhide HK _ ((unhide HB1).trans (hb2.mono (unhide HB1).size))
    have d3 := m2.cell (j := 3) rfl
    have HB2 := hide hB2
    clear m2 hB2 d2 hb2 hb1
    go_wp2
    go_ret
    exact ⟨by rw [unhide HE]; rfl, unhide HB2⟩
end Go.Proofs.YtnabbahdmajfpaaGreatDoor

/-
  Check of package lines, for every text.
-/
import Derived.Test.YtlgolaoabgmijaaGreatDoorLb
namespace Go.Proofs.YtlgolaoabgmijaaGreatDoor
open Go.RowKit Go.PlainAid Go.Lib Go.Shelf
attribute [local go_sem] World.iter
set_option linter.unusedVariables false

/-- where a line is wrong first, and why: what is left of its characters, the places from k on -/
def chk (s : ByteArray) : Nat → List (Nat × Nat) → Nat × Int
  | _, [] => (0, 0)
  | k, (i, r) :: l => if k = 4096 then (k, 32) else if r = 65533 ∧ (Utf8.decode s i).2 = 1 then (k, 30) else if ctrlB (r : Int) = true then (k, 31) else chk s (k + 1) l
def chkS (s : ByteArray) : Nat × Int := chk s 0 (chars s 0)

set_option maxRecDepth 100000 in
set_option maxHeartbeats 1000000 in
theorem check3_any (s : ByteArray) (w : World) (hs : s.size ≤ maxLen) :
    Calls Tryz.prog 88 #[.string s] w fun e w' => e = .returned (.tuple #[.int .i64 ((chkS s).1 : Nat), .int .i64 (chkS s).2]) ∧ Below w.heap.size w w' := by
  have hmx := hs
  have hW := fun i w (hi : i < s.size) => isWrong_any s i w hs hi
  have HW := hide hW
  clear hW
  unfold maxLen at hs
  have hcl := chars_length s 0
  obtain ⟨A, hA⟩ : ∃ A, chkS s = A := ⟨_, rfl⟩
  rw [hA]
  have HA : Hid (chk s 0 (chars s 0) = A) := hA
  clear hA
  go_enter Tryz.func88, Tryz.ntmps88
  go_wp2
  go_loopw [4] (fun v wr => ∃ pos k : Nat, v = .int .i64 k ∧ wr.heap[w.heap.size]? = some (.stringIter s pos) ∧ Below w.heap.size w wr ∧ Hid (chk s k (chars s pos) = A) ∧ Hid (k + (chars s pos).length ≤ s.size)) (fun _ wr => s.size - wr.iterPos w.heap.size)
  case atStart => exact ⟨0, 0, rfl, heap_alloc_new w _, (Below.refl _ _).alloc (Nat.le_refl _) _, HA, by show _ ≤ _; omega⟩
  case round =>
    obtain ⟨pos, k, rfl, hit, hB, HC, HK⟩ := hrel
    by_cases hlt : pos < s.size
    · have hnx := fun ty => run_next_any_at (P := Tryz.prog) wr w.heap.size s pos ty hit hlt
      have hb := dec_bounds s pos hlt
      have hit2 := iterAt_heap wr w.heap.size s pos (pos + (Utf8.decode s pos).2) hit
      have hB2 : Below w.heap.size w (wr.iterAt w.heap.size s (pos + (Utf8.decode s pos).2)) := hB.grown (grownBy_iterAt wr w.heap.size s _) hB.size (fun k e => by cases e; exact Nat.le_refl _)
      have hmeas : s.size - (pos + (Utf8.decode s pos).2) < s.size - wr.iterPos w.heap.size := by rw [iterPos_of hit]; omega
      have HS : Hid (chk s k ((pos, (Utf8.decode s pos).1) :: chars s (pos + (Utf8.decode s pos).2)) = A) := by
        show _ = _
        rw [← chars_step s pos hlt]; exact HC.out
      have HK2 : Hid (k + 1 + (chars s (pos + (Utf8.decode s pos).2)).length ≤ s.size) := by
        show _ ≤ _
        have := HK.out; rw [chars_step s pos hlt, List.length_cons] at this; omega
      have hk : k < s.size := by have := HK2.out; omega
      have hks : (chars s (pos + (Utf8.decode s pos).2)).length + k + 1 ≤ s.size := by have := HK2.out; omega
      generalize hW3 : wr.iterAt w.heap.size s (pos + (Utf8.decode s pos).2) = W3 at *
      clear hW3 HC HK
      have hWp := unhide HW pos
      generalize hR : (Utf8.decode s pos).1 = R at *
      generalize hD : (Utf8.decode s pos).2 = D at *
      by_cases k1 : k = 4096
      · have d1 : ((k : Int) == 4096) = true := by simp; omega
        have HE : Hid (A = (k, 32)) := by show _ = _; rw [← HS.out]; simp [chk, k1]
        go_wp2
        go_ret2
        exact ⟨by rw [HE.out]; rfl, hB2⟩
      · have d1 : ((k : Int) == 4096) = false := by simp; omega
        have ends : ∀ W5, Below W3.heap.size W3 W5 → Below w.heap.size w W5 ∧ W5.heap[w.heap.size]? = some (.stringIter s (pos + D)) := fun W5 h5 =>
          ⟨hB2.trans (h5.mono hB2.size), (h5.block _ (Array.getElem?_eq_some_iff.1 hit2).1).trans hit2⟩
        have ENDS := hide ends
        clear ends
        have HC2 : Hid (ctrlB (R : Int) = false → ¬ (R = 65533 ∧ D = 1) → chk s (k + 1) (chars s (pos + D)) = A) := by
          intro h1 h2
          rw [← HS.out]; simp only [chk, k1, if_false, hD, h2, h1]; simp
        by_cases k2 : R = 65533 ∧ D = 1
        · have d2 : ((R : Int) == 65533) = true := by simp; omega
          have hWt : ∀ w, Calls Tryz.prog 129 #[.string s, .int .i64 (pos : Nat)] w fun e w' => e = .returned (.bool true) ∧ Below w.heap.size w w' := fun w => (hWp w hlt).mono fun e w' ⟨a, b⟩ => ⟨by rw [a, k2.2]; rfl, b⟩
          have HE : Hid (A = (k, 30)) := by show _ = _; rw [← HS.out]; simp only [chk, k1, if_false, hD, k2.1, k2.2]; simp
          have HWt := hide hWt
          clear hWp hWt HS HC2 hR hD
          obtain ⟨rfl, rfl⟩ := k2
          go_wp2_with (go_at_call 129; refine (unhide HWt _).mono ?_; rintro e w5 ⟨rfl, hb5⟩)
          go_ret2
          exact ⟨by rw [HE.out]; rfl, (unhide ENDS _ hb5).1⟩
        · cases hc : ctrlB (R : Int) with
          | true =>
            have HE : Hid (A = (k, 31)) := by show _ = _; rw [← HS.out]; simp only [chk, k1, if_false, hD, k2, hc]; simp
            have hCt : ∀ w, Calls Tryz.prog 130 #[.int .i32 (R : Nat)] w fun e w' => e = .returned (.bool true) ∧ w' = w := fun w => (isControl_any (R : Int) w).mono fun e w' ⟨a, b⟩ => ⟨by rw [a, hc], b⟩
            have HCt := hide hCt
            have k3 : R ≠ 65533 := by intro e; rw [e] at hc; exact absurd hc (by decide)
            have d2 : ((R : Int) == 65533) = false := by simp; omega
            clear hCt hc HS HC2 hWp hR hD k3 k2
            go_wp2_with (go_at_call 130; refine (unhide HCt _).mono ?_; rintro e w5 ⟨rfl, rfl⟩)
            go_ret2
            exact ⟨by rw [HE.out]; rfl, hB2⟩
          | false =>
            have HC3 := hide (HC2.out hc k2)
            have hCt : ∀ w, Calls Tryz.prog 130 #[.int .i32 (R : Nat)] w fun e w' => e = .returned (.bool false) ∧ w' = w := fun w => (isControl_any (R : Int) w).mono fun e w' ⟨a, b⟩ => ⟨by rw [a, hc], b⟩
            have HCt := hide hCt
            by_cases k3 : R = 65533
            · have hWt : ∀ w, Calls Tryz.prog 129 #[.string s, .int .i64 (pos : Nat)] w fun e w' => e = .returned (.bool false) ∧ Below w.heap.size w w' := fun w => (hWp w hlt).mono fun e w' ⟨a, b⟩ => ⟨by rw [a, decide_eq_false (fun h => k2 ⟨k3, h⟩)], b⟩
              have HWt := hide hWt
              have d2 : ((R : Int) == 65533) = true := by simp; omega
              clear hCt hc HS HC2 hWp hWt hR k2 hD
              subst k3
              go_wp2_with (first | (go_at_call 129; refine (unhide HWt _).mono ?_; rintro e w5 ⟨rfl, hb5⟩) | (go_at_call 130; refine (unhide HCt _).mono ?_; rintro e w6 ⟨rfl, rfl⟩))
              go_roundw
              case rel => exact ⟨_, k + 1, by go_num, (unhide ENDS _ hb5).2, (unhide ENDS _ hb5).1, HC3, HK2⟩
              case measure => rw [iterPos_of (unhide ENDS _ hb5).2]; exact hmeas
            · have d2 : ((R : Int) == 65533) = false := by simp; omega
              clear hCt hc HS HC2 hWp hR k2 k3 hD
              go_wp2_with (go_at_call 130; refine (unhide HCt _).mono ?_; rintro e w5 ⟨rfl, rfl⟩)
              go_roundw
              case rel => exact ⟨_, k + 1, by go_num, hit2, hB2, HC3, HK2⟩
              case measure => rw [iterPos_of hit2]; exact hmeas
    · have hnx := fun ty => run_next_end_at (P := Tryz.prog) wr w.heap.size s pos ty hit hlt
      have HE : Hid (A = (0, 0)) := by
        show _ = _
        have := HC.out
        rw [chars_end s pos hlt] at this; exact this.symm
      go_wp2
      go_ret2
      exact ⟨by rw [HE.out]; rfl, hB⟩
end Go.Proofs.YtlgolaoabgmijaaGreatDoor

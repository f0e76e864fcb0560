/-
  What every program tells of a few units and bytes: the law's function awake answers true.
-/
import Derived.Test.YtghcheoholkpbaaWPlaces
import Derived.Test.YtghcheoholkpbaaWLay
namespace Go.Proofs.Ytghcheoholkpbaa
open Go.RowKit Go.PlainAid Go.Lib
set_option linter.unusedVariables false

abbrev sA : ByteArray := ⟨#[97, 255]⟩
abbrev sB : ByteArray := ⟨#[240, 159, 152, 128, 97]⟩
theorem unitsA : units (nums sA 0) = [97, 65533] := by decide +kernel
theorem unitB : unitR sB 4 = (2, 0) := by decide +kernel
theorem layA : layU 1 true [97] = [255, 254, 97, 0] := by decide +kernel
theorem textA : runesBytes (wrunes [97, 65533]) = ⟨#[97, 239, 191, 189]⟩ := by decide +kernel
theorem joinA : joinN 55357 56832 = 128512 := by decide
theorem one_reads (w : World) (u : Int) (t : TypeId) : ReadsU (w.alloc (.cells #[.int .u16 u] t)) (some ⟨w.heap.size, 0, none⟩) [u] := by
  intro k hk
  obtain rfl : k = 0 := by simp at hk; omega
  exact ⟨_, _, rfl, by simp [uA]⟩
theorem fits_of {us : List Int} (h : (us.all fun x => decide (0 ≤ x) && decide (x ≤ 65535)) = true) : Fits us := by
  intro x hx
  have := List.all_eq_true.1 h x hx
  simpa using this

set_option maxRecDepth 100000 in
set_option maxHeartbeats 2000000 in
theorem awake_any (w : World) : Calls Try.prog 20 #[] w fun e w' => e = .returned (.bool true) ∧ Below w.heap.size w w' := by
  go_enter Try.func20, Try.ntmps20
  go_wp2_with fail
  refine (join_yes 55357 56832 _ (by decide) (by decide)).mono ?_
  rintro e w1 ⟨rfl, rfl⟩
  rw [joinA]
  go_wp2_with fail
  refine (fromText_any sA _ (by decide)).mono ?_
  rintro e w2 ⟨v, rfl, hrow, hb2⟩
  rw [unitsA] at hrow
  obtain ⟨a, c, rfl⟩ := row_is hrow
  obtain ⟨g, rfl⟩ := row_at hrow (by decide)
  have hrow0 := hide hrow
  clear hrow
  go_wp2_with fail
  refine (unitAt_in sB 4 _ (by decide) (by decide) (by decide)).mono ?_
  rintro e w3 ⟨rfl, hb3⟩
  rw [unitB]
  go_wp2_with fail
  refine (lay_any (some ⟨w3.heap.size, 0, none⟩) 1 [97] 1 true _ (.inr rfl) (fits_of (by decide)) (one_reads w3 97 _) (by decide)).mono ?_
  rintro e w4 ⟨rfl, hb4⟩
  rw [layA]
  have hB4 : Below w2.heap.size w2 w4 := hb3.trans ((below_after _ hb4 rfl).mono hb3.size)
  have hrow4 := rowBelow (unhide hrow0) hB4
  have hW : Below w1.heap.size w1 w4 := hb2.trans (hB4.mono hb2.size)
  have k0 := hrow4.cellAt 0 (by decide)
  have k1 := hrow4.cellAt 1 (by decide)
  simp only [List.map_cons, List.map_nil, List.getElem?_cons_zero, List.getElem?_cons_succ] at k0 k1
  have hcap : 2 ≤ c ∧ c ≤ maxLen := by
    rcases hrow4.2 with ⟨h0, _⟩ | ⟨g', cap, cur, h0, _, _, h1, h2, _⟩
    · cases h0
    · obtain ⟨_, rfl⟩ : g = g' ∧ c = cap := by simpa using h0
      exact ⟨h1, h2⟩
  have HT := hide (wtext_any [97, 65533] (some ⟨g, 0, none⟩) c w4 (fits_of (by decide)) (by decide) hcap.1 hcap.2 (readsU_own hrow4))
  rw [textA] at HT
  clear hrow4 hrow0 hb2 hb3 hb4 hB4 hcap
  go_wp2_with fail
  refine (unhide HT).mono ?_
  rintro e w5 ⟨rfl, hb5⟩
  go_wp2
  go_ret
  exact ⟨rfl, hW.trans (hb5.mono hW.size)⟩

end Go.Proofs.Ytghcheoholkpbaa

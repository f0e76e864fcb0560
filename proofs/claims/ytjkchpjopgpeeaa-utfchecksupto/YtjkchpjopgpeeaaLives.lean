/-
  What every program tells of a few bytes: the law's function lives answers true.
-/
import Derived.Test.YtjkchpjopgpeeaaCheck
namespace Go.Proofs.Ytjkchpjopgpeeaa
open Go.RowKit Go.PlainAid Go.Lib

abbrev sL : ByteArray := ⟨#[97, 195, 169, 226, 130]⟩
theorem charsL : chars sL 0 = [(0, 97), (1, 233), (3, 65533), (4, 65533)] := by decide +kernel
theorem placesL : places sL = [0, 1, 3, 4] := by rw [places, charsL]; rfl
theorem whyL0 : why sL 0 = 0 := by decide +kernel
theorem whyL1 : why sL 1 = 0 := by decide +kernel
theorem whyL3 : why sL 3 = 11 := by decide +kernel
theorem whyL4 : why sL 4 = 10 := by decide +kernel
theorem lastL : lastPos sL = 4 := by decide +kernel
theorem startL : startN sL 2 = 3 := by rw [startN, charsL]; rfl
theorem decL4 : Utf8.decode sL 4 = (65533, 1) := by decide +kernel
theorem encL : runesBytes [128512] = ⟨#[240, 159, 152, 128]⟩ := by decide +kernel

theorem checkL (a : Nat) (c : Int) (h : checkV sL a c) : a = 3 ∧ c = 11 := by
  rcases h with ⟨h, _, _⟩ | ⟨pre, rest, h1, h2, h3, h4⟩
  · have := h 3 (by rw [placesL]; simp)
    rw [whyL3] at this; cases this
  · rw [placesL] at h1
    match pre, h1 with
    | [], h1 => simp at h1; rw [← h1.1] at h3; exact absurd whyL0 h3
    | [x], h1 => simp at h1; rw [← h1.2.1] at h3; exact absurd whyL1 h3
    | [x, y], h1 =>
      simp at h1
      obtain ⟨_, _, rfl, _⟩ := h1
      exact ⟨rfl, by rw [h4, whyL3]⟩
    | x :: y :: z :: r, h1 =>
      simp at h1
      have := h2 3 (by rw [← h1.2.2.1]; simp)
      rw [whyL3] at this; cases this

set_option maxRecDepth 100000 in
set_option maxHeartbeats 2000000 in
theorem lives_any (w : World) : Calls Try.prog 15 #[] w fun e w' => e = .returned (.bool true) ∧ Below w.heap.size w w' := by
  go_enter Try.func15, Try.ntmps15
  go_wp2_with fail
  refine (runes_any sL _ (by decide)).mono ?_
  rintro e w1 ⟨cap, rfl, hrow, hb1⟩
  have hn : (chars sL 0).length = 4 := by rw [charsL]; rfl
  rw [hn] at hrow ⊢
  have hv : runeVals sL = [.int .i32 97, .int .i32 233, .int .i32 65533, .int .i32 65533] := by rw [runeVals, charsL]; rfl
  rw [hv] at hrow
  have hrow0 := own_zero hrow
  have HROW := hide hrow0
  clear hrow hrow0 hv hn
  go_wp2_with fail
  refine (check_any sL _ (by decide)).mono ?_
  rintro e w2 ⟨a, c, hcv, rfl, hb2⟩
  obtain ⟨rfl, rfl⟩ := checkL a c hcv
  clear hcv
  go_wp2_with fail
  refine (last_any sL _ (by decide) (by decide)).mono ?_
  rintro e w3 ⟨rfl, hb3⟩
  have hsp : spotOf sL (lastPos sL) = spotV 4 1 65533 10 := by
    rw [lastL]
    show spotV _ _ _ (why sL 4) = _
    rw [decL4, whyL4]; rfl
  rw [hsp]
  clear hsp
  go_wp2_with fail
  refine (new_places sL _ (by decide)).mono ?_
  rintro e w4 ⟨b, rfl, hpl, hb4⟩
  have HPL := hide hpl
  clear hpl
  go_wp2_with fail
  have hby : Calls Try.prog 32 #[.pointer (some ⟨b, 0, none⟩), .int .i64 2] w4 fun e w' => e = .returned (.tuple #[.int .i64 3, .int .i64 0]) ∧ w' = w4 := by
    have := byte_any w4 _ sL (by decide) (unhide HPL) 2 (by rw [charsL]; decide)
    rw [startL] at this; exact this
  refine hby.mono ?_
  clear hby
  rintro e w5 ⟨rfl, rfl⟩
  -- the runes, in this world
  have hB4 : Below w1.heap.size w1 w5 := (hb2.trans (hb3.mono hb2.size)).trans ((below_after _ hb4 rfl).mono (Nat.le_trans hb2.size hb3.size))
  have hrow4 := row_below (unhide HROW) hB4
  have k0 := hrow4.cellAt 0 (by decide)
  have k1 := hrow4.cellAt 1 (by decide)
  have k2 := hrow4.cellAt 2 (by decide)
  have k3 := hrow4.cellAt 3 (by decide)
  simp only [List.getElem?_cons_zero, List.getElem?_cons_succ] at k0 k1 k2 k3
  -- the Spot
  have hz4 : w3.heap.size < w5.heap.size := by have := hb4.size; simp at this; omega
  have hx4 : w5.heap[w3.heap.size]? = some (spotCells 4 1 65533 10) := (hb4.block w3.heap.size (by simp)).trans (heap_alloc_new w3 _)
  obtain ⟨x0, x1, x2, x3⟩ := spot_cells hx4
  have hW : Below w.heap.size w w5 := hb1.trans (hB4.mono hb1.size)
  clear hrow4 hx4 HROW HPL hb1 hb2 hb3 hb4 hB4
  go_wp2_with fail
  refine (encode_any _ ⟨w5.heap.size, 0, none⟩ 1 1 [128512] rfl (fun j hj => ?_)).mono ?_
  · obtain rfl : j = 0 := by simp at hj; omega
    exact cell_one_new w5 _ _ 0 _ rfl
  rintro e w6 ⟨rfl, rfl⟩
  rw [encL]
  go_wp2_with fail
  refine (count_any sL _ (by decide)).mono ?_
  rintro e w7 ⟨rfl, hb7⟩
  have hn : (chars sL 0).length = 4 := by rw [charsL]; rfl
  rw [hn]
  clear hn
  go_wp2
  go_ret
  exact ⟨rfl, hW.trans ((below_after _ hb7 rfl).mono hW.size)⟩

end Go.Proofs.Ytjkchpjopgpeeaa

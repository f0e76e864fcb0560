/-
  The law RowsFinds, walked.
-/
import Derived.Test.YthjnkagepooeiaaGreatDoorRwKe
namespace Go.Proofs.YthjnkagepooeiaaGreatDoor
open Go.RowKit Go.PlainAid Go.Lib Go.PHexM Go.Shelf
set_option linter.unusedVariables false
set_option linter.unusedSimpArgs false

set_option maxRecDepth 100000 in
set_option maxHeartbeats 4000000 in
theorem finds_walk (rs : List RowD) (a : Option Addr) (n c : Nat) (r : Int) (w : World) (hg : Glob w) (hn : rs.length = n) (hc : n ≤ c) (hnb : n ≤ 1099511627776) (h : RwMem w a rs) :
    Calls Tryz.prog 6 #[.slice a n c, .int .i32 r] w fun e w' => e = .returned (.bool true) ∧ Below w.heap.size w w' := by
  have HL := hide (lent_any rs a n c w hn hc hnb h)
  have hF1 := fun ad cp wr hm => find_any rs ad n cp r wr hn hnb hm
  have hF2 := fun ad cp wr hm => refFind_any rs ad n cp r wr hn hnb hm
  have HK := hide (fun g cap ad cp wr k1 k2 hf hm => kept_yes rs g cap ad n cp wr hn hnb k1 k2 hf hm)
  obtain ⟨x, hx⟩ : ∃ x, (findR rs r).getD zeroR = x := ⟨_, rfl⟩
  obtain ⟨k, hk⟩ : ∃ k, (findR rs r).isSome = k := ⟨_, rfl⟩
  rw [hx, hk] at hF1 hF2
  have HF1 := hide hF1
  have HF2 := hide hF2
  have HM := hide h
  have HG := hide hg
  clear hF1 hF2 hx hk h hg hn
  go_enter Tryz.func6, Tryz.ntmps6
  go_wp2_with fail
  refine (unhide HL).mono ?_
  rintro e w1 ⟨v, rfl, ⟨g, cap, rfl, hc1, hc2, hgb, hm1⟩, hb1⟩
  have HM1 := hide hm1
  clear hm1 HL
  go_wp2_with fail
  refine (unhide HF1 _ _ _ (unhide HM1).left).mono ?_
  rintro e w2 ⟨rfl, hb2⟩
  have HB2 : Hid (Below w.heap.size w w2) := hb1.trans (hb2.mono hb1.size)
  have HM2 := hide ((unhide HM1).below hb2)
  obtain ⟨W2, hW2⟩ : ∃ W2, w2.alloc (.cells #[.int .i64 x.line, .int .i32 x.first, .int .i32 x.last, .string (S x.name), .string (S x.cat), .int .u8 x.comb, .int .u8 x.cls, .int .i32 x.twin, .bool x.mir] 29) = W2 := ⟨_, rfl⟩
  have bx2 : RowAt W2 w2.heap.size x := by rw [← hW2]; exact heap_alloc_new w2 _
  have hl2 : w2.heap.size < W2.heap.size := by rw [← hW2]; simp
  have hbW : Below w2.heap.size w2 W2 := by rw [← hW2]; exact (Below.refl _ w2).alloc (Nat.le_refl _) _
  have HBW2 : Hid (Below w.heap.size w W2) := (unhide HB2).trans (hbW.mono (unhide HB2).size)
  have HMW2 := hide ((unhide HM2).below hbW)
  clear hb1 hb2 hbW HM1 HM2 HB2
  go_wp2_with fail
  refine (unhide HF2 _ _ _ ((unhide HM).below (unhide HBW2))).mono ?_
  rintro e w3 ⟨rfl, hb3⟩
  have bx3 := bx2.below hb3
  have HB3 : Hid (Below w.heap.size w w3) := (unhide HBW2).trans (hb3.mono (unhide HBW2).size)
  have HM3 := hide ((unhide HMW2).below hb3)
  have hl3 : w2.heap.size < w3.heap.size := Nat.lt_of_lt_of_le hl2 hb3.size
  obtain ⟨W3, hW3⟩ : ∃ W3, w3.alloc (.cells #[.int .i64 x.line, .int .i32 x.first, .int .i32 x.last, .string (S x.name), .string (S x.cat), .int .u8 x.comb, .int .u8 x.cls, .int .i32 x.twin, .bool x.mir] 29) = W3 := ⟨_, rfl⟩
  have by3 : RowAt W3 w3.heap.size x := by rw [← hW3]; exact heap_alloc_new w3 _
  have hbW3 : Below w3.heap.size w3 W3 := by rw [← hW3]; exact (Below.refl _ w3).alloc (Nat.le_refl _) _
  have bz3 := bx3.below hbW3
  have HBW3 : Hid (Below w.heap.size w W3) := (unhide HB3).trans (hbW3.mono (unhide HB3).size)
  have HMW3 := hide ((unhide HM3).below hbW3)
  have y0 := by3.cell (j := 0) rfl
  have y1 := by3.cell (j := 1) rfl
  have y2 := by3.cell (j := 2) rfl
  have y3 := by3.cell (j := 3) rfl
  have y4 := by3.cell (j := 4) rfl
  have y5 := by3.cell (j := 5) rfl
  have y6 := by3.cell (j := 6) rfl
  have y7 := by3.cell (j := 7) rfl
  have y8 := by3.cell (j := 8) rfl
  have z0 := bz3.cell (j := 0) rfl
  have z1 := bz3.cell (j := 1) rfl
  have z2 := bz3.cell (j := 2) rfl
  have z3 := bz3.cell (j := 3) rfl
  have z4 := bz3.cell (j := 4) rfl
  have z5 := bz3.cell (j := 5) rfl
  have z6 := bz3.cell (j := 6) rfl
  have z7 := bz3.cell (j := 7) rfl
  have z8 := bz3.cell (j := 8) rfl
  clear bx2 bx3 by3 bz3 hb3 hbW3 HM3 HB3 hW2 HMW2 hl2 hl3
  go_wp2_with fail
  refine (unhide HK _ _ _ _ _ hc1 hc2 (unhide HMW3) ((unhide HM).below (unhide HBW3))).mono ?_
  rintro e w4 ⟨rfl, hb4⟩
  have HB4 : Hid (Below w.heap.size w w4) := (unhide HBW3).trans (hb4.mono (unhide HBW3).size)
  clear y0 y1 y2 y3 y4 y5 y6 y7 y8 z0 z1 z2 z3 z4 z5 z6 z7 z8 hb4 HMW3
  go_wp2_with fail
  refine (awake6_any _ ((unhide HG).below (unhide HB4))).mono ?_
  rintro e w5 ⟨rfl, hb5⟩
  have HB5 : Hid (Below w.heap.size w w5) := (unhide HB4).trans (hb5.mono (unhide HB4).size)
  clear hb5
  go_wp2
  go_ret
  exact ⟨rfl, unhide HB5⟩
end Go.Proofs.YthjnkagepooeiaaGreatDoor

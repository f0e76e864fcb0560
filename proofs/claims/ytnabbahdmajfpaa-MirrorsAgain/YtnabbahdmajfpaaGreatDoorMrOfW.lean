/-
  The law MirrorsOf, walked.
-/
import Derived.Test.YtnabbahdmajfpaaGreatDoorMrAw
import Derived.Test.YtnabbahdmajfpaaGreatDoorMrOf
namespace Go.Proofs.YtnabbahdmajfpaaGreatDoor
open Go.RowKit Go.PlainAid Go.Lib Go.PHexM Go.Shelf
set_option linter.unusedVariables false
set_option linter.unusedSimpArgs false

theorem err_below {w V : World} (hg : errTypeAt w) (hb : Below w.heap.size w V) : errTypeAt V := (hb.cell (World.block_lt_of_cell? _ _ hg)).trans hg

set_option maxRecDepth 100000 in
set_option maxHeartbeats 2000000 in
theorem of_walk (l : List MirD) (a : Option Addr) (n c : Nat) (r : Int) (w : World) (hg : errTypeAt w) (hn : l.length = n) (hc : n ≤ c) (hnb : n ≤ 1099511627776) (h : MrMem w a l) :
    Calls Tryz.prog 6 #[.slice a n c, .int .i32 r] w fun e w' => e = .returned (.bool true) ∧ Below w.heap.size w w' := by
  have HL := hide (lent9_any l a n c w hn hc hnb h)
  have hF1 := fun ad cp wr hm => of9_any l ad n cp r wr hn hnb hm
  have hF2 := fun ad cp wr hm => refOf_any l ad n cp r wr hn hnb hm
  have HK := hide (fun g cap ad cp wr k1 k2 hf hm => kept9_yes l g cap ad n cp wr hn hnb k1 k2 hf hm)
  obtain ⟨x, hx⟩ : ∃ x, (ofM l r).getD r = x := ⟨_, rfl⟩
  obtain ⟨k, hk⟩ : ∃ k, (ofM l r).isSome = k := ⟨_, rfl⟩
  rw [hx, hk] at hF1 hF2
  have HF1 := hide hF1
  have HF2 := hide hF2
  have HM := hide h
  have HG := hide hg
  clear hF1 hF2 hx hk h hg hn
  have dx : (x == x) = true := by simp
  have dk : (k == k) = true := by simp
  go_enter Tryz.func6, Tryz.ntmps6
  go_wp2_with fail
  refine (unhide HL).mono ?_
  rintro e w1 ⟨v, rfl, ⟨g, cap, rfl, hc1, hc2, hgb, hm1⟩, hb1⟩
  have HM1 := hide hm1
  clear hm1 HL
  go_wp2_with fail
  refine (unhide HF1 _ _ _ (unhide HM1).left).mono ?_
  rintro e w2 ⟨rfl, hb2⟩
  have HB2 : Hid (Below w.heap.size w w2) := hb1.trans (hb2.mono hb1.size)
  have HM2 := hide ((unhide HM1).below hb2)
  clear hb1 hb2 HM1
  go_wp2_with fail
  refine (unhide HF2 _ _ _ ((unhide HM).below (unhide HB2))).mono ?_
  rintro e w3 ⟨rfl, h3⟩
  obtain rfl : w2 = w3 := h3.symm
  go_wp2_with fail
  refine (unhide HK _ _ _ _ _ hc1 hc2 (unhide HM2) ((unhide HM).below (unhide HB2))).mono ?_
  rintro e w4 ⟨rfl, hb4⟩
  have HB4 : Hid (Below w.heap.size w w4) := (unhide HB2).trans (hb4.mono (unhide HB2).size)
  clear hb4 HM2
  go_wp2_with fail
  refine (awake9_any _ (err_below (unhide HG) (unhide HB4))).mono ?_
  rintro e w5 ⟨rfl, hb5⟩
  have HB5 : Hid (Below w.heap.size w w5) := (unhide HB4).trans (hb5.mono (unhide HB4).size)
  clear hb5
  go_wp2
  go_ret
  exact ⟨rfl, unhide HB5⟩
end Go.Proofs.YtnabbahdmajfpaaGreatDoor

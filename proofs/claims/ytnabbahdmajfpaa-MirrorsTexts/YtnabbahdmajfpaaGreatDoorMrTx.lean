/-
  The law MirrorsTexts, walked.
-/
import Derived.Test.YtnabbahdmajfpaaGreatDoorMrRt
namespace Go.Proofs.YtnabbahdmajfpaaGreatDoor
open Go.RowKit Go.PlainAid Go.Lib Go.PHexM Go.Shelf
set_option linter.unusedVariables false
set_option linter.unusedSimpArgs false

set_option maxRecDepth 100000 in
set_option maxHeartbeats 2000000 in
theorem texts_walk (l : List MirD) (a : Option Addr) (n c : Nat) (s : ByteArray) (w : World) (hg : errTypeAt w) (hn : l.length = n) (hc : n ≤ c) (hnb : n ≤ 1099511627776) (hok : ∀ x ∈ l, MirOk x) (h : MrMem w a l) (hs : s.size ≤ 1073741824) :
    Calls Tryz.prog 7 #[.slice a n c, .string s] w fun e w' => e = .returned (.bool true) ∧ Below w.heap.size w w' := by
  have HFT := hide (fit_any a n c w)
  have HL := hide (lent9_any l a n c w hn hc hnb h)
  have hF1 := fun ad cp wr hm => text9_any l ad n cp s wr hn hnb hok hm (by omega)
  have hF2 := fun ad cp wr hm => refText_any l ad n cp s wr hn hnb hm hs
  have HK := hide (fun g cap ad cp wr k1 k2 hf hm => kept9_yes l g cap ad n cp wr hn hnb k1 k2 hf hm)
  obtain ⟨T, hT⟩ : ∃ T, (outR l s 0).1 = T := ⟨_, rfl⟩
  obtain ⟨N, hN⟩ : ∃ N, (outR l s 0).2 = N := ⟨_, rfl⟩
  rw [hT, hN] at hF1 hF2
  have HF1 := hide hF1
  have HF2 := hide hF2
  have HM := hide h
  have HG := hide hg
  clear hF1 hF2 hT hN h hg hn hok
  have dN : ((N : Int) == (N : Int)) = true := by simp
  by_cases hf : n ≤ 2000
  · rw [decide_eq_true hf] at HFT
    go_enter Tryz.func7, Tryz.ntmps7
    go_wp2_with (go_at_call 16; with_reducible refine (unhide HFT).mono ?_; rintro e w' ⟨rfl, h'⟩; obtain rfl : w = w' := h'.symm)
    refine (unhide HL).mono ?_
    rintro e w1 ⟨v, rfl, ⟨g, cap, rfl, hc1, hc2, hgb, hm1⟩, hb1⟩
    have HM1 := hide hm1
    clear hm1 HL
    go_wp2_with fail
    refine (unhide HF1 _ _ _ (unhide HM1).left).mono ?_
    rintro e w2 ⟨rfl, hb2⟩
    have HB2 : Hid (Below w.heap.size w w2) := hb1.trans (hb2.mono hb1.size)
    have HM2 := hide ((unhide HM1).below hb2)
    clear hb1 hb2 HM1
    go_wp2_with fail
    refine (unhide HF2 _ _ _ ((unhide HM).below (unhide HB2))).mono ?_
    rintro e w3 ⟨rfl, hb3⟩
    have HB3 : Hid (Below w.heap.size w w3) := (unhide HB2).trans (hb3.mono (unhide HB2).size)
    have HM3 := hide ((unhide HM2).below hb3)
    clear hb3 HM2 HB2
    go_wp2_with fail
    refine (unhide HK _ _ _ _ _ hc1 hc2 (unhide HM3) ((unhide HM).below (unhide HB3))).mono ?_
    rintro e w4 ⟨rfl, hb4⟩
    have HB4 : Hid (Below w.heap.size w w4) := (unhide HB3).trans (hb4.mono (unhide HB3).size)
    clear hb4 HM3
    go_wp2_with fail
    refine (awake9_any _ (err_below (unhide HG) (unhide HB4))).mono ?_
    rintro e w5 ⟨rfl, hb5⟩
    have HB5 : Hid (Below w.heap.size w w5) := (unhide HB4).trans (hb5.mono (unhide HB4).size)
    clear hb5
    go_wp2
    go_ret
    exact ⟨rfl, unhide HB5⟩
  · rw [decide_eq_false hf] at HFT
    have HA := hide (awake9_any w (unhide HG))
    clear HL HF1 HF2 HK HM HG
    go_enter Tryz.func7, Tryz.ntmps7
    go_wp2_with (first | (go_at_call 16; with_reducible refine (unhide HFT).mono ?_; rintro e w' ⟨rfl, h'⟩; obtain rfl : w = w' := h'.symm) | (go_at_call 15; with_reducible refine (unhide HA).mono ?_; rintro e w1 ⟨rfl, hb⟩))
    go_ret
    exact ⟨rfl, hb⟩
end Go.Proofs.YtnabbahdmajfpaaGreatDoor

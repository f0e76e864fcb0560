/-
  The law MirrorsChecks, walked.
-/
import Derived.Test.YtnabbahdmajfpaaGreatDoorMrPr2
import Derived.Test.YtnabbahdmajfpaaGreatDoorMrOfW
namespace Go.Proofs.YtnabbahdmajfpaaGreatDoor
open Go.RowKit Go.PlainAid Go.Lib Go.PHexM Go.Shelf
set_option linter.unusedVariables false
set_option linter.unusedSimpArgs false

set_option maxRecDepth 100000 in
set_option maxHeartbeats 2000000 in
theorem checks_walk (l : List MirD) (a : Option Addr) (n c : Nat) (w : World) (hg : errTypeAt w) (htz : tz16At w) (hn : l.length = n) (hc : n ≤ c) (hnb : n ≤ 1073741825) (hok : ∀ x ∈ l, MirOk x) (h : MrMem w a l) :
    Calls Tryz.prog 4 #[.slice a n c] w fun e w' => e = .returned (.bool true) ∧ Below w.heap.size w w' := by
  have HFT := hide (fit_any a n c w)
  have HL := hide (lent9_any l a n c w hn hc (by omega) h)
  have hF1 := fun ad cp wr hm => check9_any l ad n cp wr hn (by omega) hok hm
  have hF2 := fun ad cp wr hm => refCheck9_any l ad n cp wr hn (by omega) hm
  have hF3 := fun ad cp wr (hz : tz16At wr) hm => print9_any l ad n cp wr hz hn hnb hok hm
  have hF4 := fun ad cp wr hm => refPrint9_any l ad n cp wr hn hnb hm
  have HK := hide (fun g cap ad cp wr k1 k2 hf hm => kept9_yes l g cap ad n cp wr hn (by omega) k1 k2 hf hm)
  obtain ⟨cp, hcp⟩ : ∃ cp, (chkM l).1 = cp := ⟨_, rfl⟩
  obtain ⟨cc, hcc⟩ : ∃ cc, (chkM l).2 = cc := ⟨_, rfl⟩
  obtain ⟨T, hT⟩ : ∃ T, printM l = T := ⟨_, rfl⟩
  rw [hcp, hcc] at hF1 hF2
  rw [hcc, hT] at hF3 hF4
  have HF1 := hide hF1
  have HF2 := hide hF2
  have HF3 := hide hF3
  have HF4 := hide hF4
  have HM := hide h
  have HG := hide hg
  have HZ := hide htz
  clear hF1 hF2 hF3 hF4 hT hcp hcc h hg htz hn hok
  have d1 : ((cp : Int) == (cp : Int)) = true := by simp
  have d2 : (cc == cc) = true := by simp
  by_cases hf : n ≤ 2000
  · rw [decide_eq_true hf] at HFT
    go_enter Tryz.func4, Tryz.ntmps4
    go_wp2_with (go_at_call 16; with_reducible refine (unhide HFT).mono ?_; rintro e w' ⟨rfl, h'⟩; obtain rfl : w = w' := h'.symm)
    refine (unhide HL).mono ?_
    rintro e w1 ⟨v, rfl, ⟨g, cap, rfl, hc1, hc2, hgb, hm1⟩, hb1⟩
    have HM1 := hide hm1
    have HB1 := hide hb1
    clear hm1 HL hb1
    go_wp2_with fail
    refine (unhide HF1 _ _ _ (unhide HM1).left).mono ?_
    rintro e w2 ⟨rfl, hb2⟩
    have HB2 : Hid (Below w.heap.size w w2) := (unhide HB1).trans (hb2.mono (unhide HB1).size)
    have HM2 := hide ((unhide HM1).below hb2)
    clear hb2 HM1 HB1
    go_wp2_with fail
    refine (unhide HF2 _ _ _ ((unhide HM).below (unhide HB2))).mono ?_
    rintro e w3 ⟨rfl, hb3⟩
    have HB3 : Hid (Below w.heap.size w w3) := (unhide HB2).trans (hb3.mono (unhide HB2).size)
    have HM3 := hide ((unhide HM2).below hb3)
    clear hb3 HM2 HB2
    go_wp2_with fail
    refine (unhide HF3 _ _ _ (tz16_belowM (unhide HZ) (unhide HB3)) (unhide HM3).left).mono ?_
    rintro e w4 ⟨rfl, hb4⟩
    have HB4 : Hid (Below w.heap.size w w4) := (unhide HB3).trans (hb4.mono (unhide HB3).size)
    have HM4 := hide ((unhide HM3).below hb4)
    clear hb4 HM3 HB3
    go_wp2_with fail
    refine (unhide HF4 _ _ _ ((unhide HM).below (unhide HB4))).mono ?_
    rintro e w5 ⟨rfl, hb5⟩
    have HB5 : Hid (Below w.heap.size w w5) := (unhide HB4).trans (hb5.mono (unhide HB4).size)
    have HM5 := hide ((unhide HM4).below hb5)
    clear hb5 HM4 HB4
    go_wp2_with fail
    refine (unhide HK _ _ _ _ _ hc1 hc2 (unhide HM5) ((unhide HM).below (unhide HB5))).mono ?_
    rintro e w6 ⟨rfl, hb6⟩
    have HB6 : Hid (Below w.heap.size w w6) := (unhide HB5).trans (hb6.mono (unhide HB5).size)
    clear hb6 HM5
    go_wp2_with fail
    refine (awake9_any _ (err_below (unhide HG) (unhide HB6))).mono ?_
    rintro e w7 ⟨rfl, hb7⟩
    have HB7 : Hid (Below w.heap.size w w7) := (unhide HB6).trans (hb7.mono (unhide HB6).size)
    clear hb7
    go_wp2
    go_ret
    exact ⟨rfl, unhide HB7⟩
  · rw [decide_eq_false hf] at HFT
    have HA := hide (awake9_any w (unhide HG))
    clear HL HF1 HF2 HF3 HF4 HK HM HG HZ
    go_enter Tryz.func4, Tryz.ntmps4
    go_wp2_with (first | (go_at_call 16; with_reducible refine (unhide HFT).mono ?_; rintro e w' ⟨rfl, h'⟩; obtain rfl : w = w' := h'.symm) | (go_at_call 15; with_reducible refine (unhide HA).mono ?_; rintro e w1 ⟨rfl, hb⟩))
    go_ret
    exact ⟨rfl, hb⟩
end Go.Proofs.YtnabbahdmajfpaaGreatDoor

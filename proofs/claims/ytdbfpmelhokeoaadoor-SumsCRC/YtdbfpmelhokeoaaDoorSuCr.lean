/-
  The law SumsCRC, walked.
-/
import Derived.Test.YtdbfpmelhokeoaaDoorSuSt
import Derived.Test.YtdbfpmelhokeoaaDoorSuK
namespace Go.Proofs.YtdbfpmelhokeoaaDoor
open Go.RowKit Go.PlainAid Go.Lib Go.SuM
set_option linter.unusedVariables false
set_option linter.unusedSimpArgs false
theorem TxAt.below {w w' : World} {a : Option Addr} {l : List ByteArray} (h : TxAt w a l) (hb : Below w.heap.size w w') : TxAt w' a l := by
  refine ⟨fun h0 => ?_, h.small⟩
  obtain ⟨b, off, rfl, hc⟩ := h.at_ h0
  exact ⟨b, off, rfl, fun i hi => (hb.cell (World.block_lt_of_cell? _ _ (hc i hi))).trans (hc i hi)⟩
set_option maxHeartbeats 2000000 in
set_option maxRecDepth 20000 in
theorem crc_walk (l : List ByteArray) (a : Option Addr) (n cap : Nat) (hn : l.length = n) (hnc : n ≤ cap) (hcap : cap ≤ maxLen) (c : Nat) (hc : c < 4294967296) (s : ByteArray) (hs : s.size ≤ 140737488351232) (hbig : n * 16 ≤ 140737488351232) (w : World) (ht : TxAt w a l) (hf : FoursAt w) : Calls Tryd.prog 3 #[.slice a n cap, .int .u32 (c : Int), .string s] w fun e w' => e = .returned (.bool true) ∧ Below w.heap.size w w' := by
  have hO0 : OwnS w w.heap.size (.slice none 0 0) [] := ⟨rfl, .inl ⟨rfl, rfl⟩⟩
  obtain ⟨v1, w1, hap1, hO1, hb1, _⟩ := append_anyS w w.heap.size (.slice none 0 0) [] cap a l ht hO0 (Nat.le_refl _) (by simp; omega) 22
  rw [List.nil_append] at hO1
  rw [hn] at hap1
  -- the mark behind them
  have hb2 : Below w.heap.size w (w1.alloc (.cells #[.string ⟨#[109, 97, 114, 107]⟩] 9)) := hb1.alloc hb1.size _
  have hO1' : OwnS (w1.alloc (.cells #[.string ⟨#[109, 97, 114, 107]⟩] 9)) w.heap.size v1 l := World.ownsRow.alloc hO1 _
  have htm : TxAt (w1.alloc (.cells #[.string ⟨#[109, 97, 114, 107]⟩] 9)) (some ⟨w1.heap.size, 0, none⟩) [⟨#[109, 97, 114, 107]⟩] := ⟨fun _ => ⟨_, _, rfl, fun i hi => by
    obtain rfl : i = 0 := by simp at hi; exact hi
    simp⟩, fun x hx => by rw [List.mem_singleton.1 hx]; simp [maxLen, ByteArray.size]⟩
  obtain ⟨v3, w3, hap3, hO3, hb3, hg3⟩ := append_anyS _ w.heap.size v1 l 1 _ [⟨#[109, 97, 114, 107]⟩] htm hO1' hb2.size (by simp; omega) 22
  obtain ⟨g, c3, rfl⟩ := hg3 (by simp)
  have hb3' : Below w.heap.size w w3 := hb2.trans hb3
  have e1 : l.length + [(⟨#[109, 97, 114, 107]⟩ : ByteArray)].length = n + 1 := by rw [hn]; rfl
  rw [e1] at hap3 hO3
  have hll : (l ++ [(⟨#[109, 97, 114, 107]⟩ : ByteArray)]).length = n + 1 := by rw [List.length_append]; exact e1
  have hO3n : OwnS w3 w.heap.size (.slice (some ⟨g, 0, none⟩) (l ++ [(⟨#[109, 97, 114, 107]⟩ : ByteArray)]).length c3) (l ++ [⟨#[109, 97, 114, 107]⟩]) := by rw [hll]; exact hO3
  have hsm : ∀ x ∈ l ++ [(⟨#[109, 97, 114, 107]⟩ : ByteArray)], x.size ≤ maxLen := fun x hx => by
    rcases List.mem_append.1 hx with h | h
    · exact ht.small x h
    · rw [List.mem_singleton.1 h]; simp [maxLen, ByteArray.size]
  have htx := hO3n.tx (m := 0) hsm n
  have htx2 := hO3n.tx (m := 0) hsm (n + 1)
  rw [List.take_left' hn] at htx
  rw [List.take_of_length_le (by rw [hll]; exact Nat.le_refl _)] at htx2
  obtain ⟨_, c3', hfm, hcl, hcm⟩ := hO3n.form
  rw [hll] at hcl
  have ec : c3 = c3' := by simp at hfm; exact hfm.2
  rw [← ec] at hcl hcm
  have htw3 := ht.below hb3'
  have hf3 := hf.below hb3'
  have HC := hide (crc_any l (some ⟨g, 0, none⟩) c3 w3 hf3 htx (by unfold maxLen; omega) hcm)
  have HRC := hide (rcrc_any l a cap w3 htw3 (by unfold maxLen; omega) hcap)
  rw [hn] at HC HRC
  have HM := hide (more_any c hc s (by unfold maxLen; omega) w3 hf3)
  have HRM := hide (rmore_any c hc s (by unfold maxLen; omega) w3)
  generalize crcL l = cl at *
  generalize more c (LS s) = cm at *
  have hmark : w3.cell? ⟨g, n, none⟩ = some (.string ⟨#[109, 97, 114, 107]⟩) := by
    obtain ⟨b, off, e, hcc⟩ := htx2.at_ (by simp)
    simp only [Option.some.injEq, Addr.mk.injEq, and_true] at e
    obtain ⟨rfl, rfl⟩ := e
    have := hcc n (by rw [hll]; omega)
    rw [Nat.zero_add] at this
    rw [this, List.getElem_append_right (by omega)]
    simp [hn]
  have HMK := hide hmark
  have HTX := hide (And.intro htx htw3)
  have HB3 := hide hb3'
  have HF3 := hide hf3
  have HA := hide awake_any
  have HLN := hide hn
  unfold maxLen at hcap hcm
  clear hO0 hO1 hb1 hb2 hO1' htm hO3 hb3 hb3' hg3 e1 hll hO3n hsm htx htx2 hfm ec htw3 hf3 hmark hn ht hf
  go_enter Tryd.func3, Tryd.ntmps3
  go_wp2_with (first | (at_builtin; refine wpList_append_run _ rfl _ _ _ _ rfl _ _ rfl rfl v1 w1 hap1 ?_) | (at_builtin; refine wpList_append_run _ rfl _ _ _ _ rfl _ _ rfl rfl _ w3 hap3 ?_) | (go_at_call 16; with_reducible refine (unhide HC).mono ?_; rintro e w' ⟨rfl, hww⟩; obtain rfl : w3 = w' := hww.symm) | (go_at_call 17; with_reducible refine (unhide HRC).mono ?_; rintro e w' ⟨rfl, hww⟩; obtain rfl : w3 = w' := hww.symm) | (go_at_call 18; with_reducible refine (unhide HM).mono ?_; rintro e w' ⟨rfl, hww⟩; obtain rfl : w3 = w' := hww.symm) | (go_at_call 19; with_reducible refine (unhide HRM).mono ?_; rintro e w' ⟨rfl, hww⟩; obtain rfl : w3 = w' := hww.symm))
  clear hap1 hap3
  go_loopw [9] (fun v9 wr => ∃ k : Nat, k ≤ n ∧ v9 = .int .i64 (k : Int) ∧ Hid (∃ q, wr = w3.drewN q)) (fun v9 _ => n - (intOf v9).toNat)
  case atStart => exact ⟨0, Nat.zero_le _, rfl, ⟨0, rfl⟩⟩
  case round =>
    obtain ⟨k, hk, rfl, HQ⟩ := hrel
    obtain ⟨q, rfl⟩ := unhide HQ
    clear HQ
    by_cases hlt : k < n
    · have hkl : k < l.length := by rw [unhide HLN]; exact hlt
      obtain ⟨b1, o1, e1, hc1, _⟩ := slice_get (unhide HTX).1 hkl
      obtain ⟨b2, o2, rfl, hc2, _⟩ := slice_get (unhide HTX).2 hkl
      simp only [Option.some.injEq, Addr.mk.injEq, and_true] at e1
      obtain ⟨rfl, rfl⟩ := e1
      rw [Nat.zero_add] at hc1
      have hc1' : (w3.drewN q).cell? ⟨g, k, none⟩ = some (.string l[k]) := hc1
      have hc2' : (w3.drewN q).cell? ⟨b2, o2 + k, none⟩ = some (.string l[k]) := hc2
      generalize l[k] = x at *
      have hxx : (x.toList == x.toList) = true := by simp
      clear hc1 hc2
      generalize hW : w3.drewN q = W at *
      have HW := hide hW
      clear hW
      go_wp2
      go_quiet (fail)
      go_wp2
      go_roundw
      case rel => exact ⟨k + 1, by omega, by go_num, ⟨q + nq, by rw [← unhide HW, World.drewN_drewN]⟩⟩
      case measure => simp [intOf]; omega
    · have hmk : (w3.drewN q).cell? ⟨g, n, none⟩ = some (.string ⟨#[109, 97, 114, 107]⟩) := unhide HMK
      have hbq := below_drewN w.heap.size w3 q
      have HF4 := hide ((unhide HF3).below (below_drewN w3.heap.size w3 q))
      have HB4 := hide ((unhide HB3).trans hbq)
      generalize w3.drewN q = W at *
      clear hbq
      go_wp2_with (go_at_call 20; with_reducible refine (unhide HA W (unhide HF4)).mono ?_; rintro e w5 ⟨rfl, hb5⟩)
      go_ret
      exact ⟨rfl, (unhide HB4).trans (hb5.mono (unhide HB4).size)⟩
end Go.Proofs.YtdbfpmelhokeoaaDoor

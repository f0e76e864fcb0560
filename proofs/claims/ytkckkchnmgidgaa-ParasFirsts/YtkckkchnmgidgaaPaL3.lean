/-
  First, Level of the document.
-/
import Derived.Test.YtkckkchnmgidgaaPaL2
import Derived.Test.YtkckkchnmgidgaaPaMd
namespace Go.Proofs.Ytkckkchnmgidgaa
open Go.RowKit Go.PlainAid Go.Lib
set_option linter.unusedVariables false
set_option maxRecDepth 100000
set_option maxHeartbeats 2000000

def firstT : Option Nat → Value
  | some j => .tuple #[.int .i64 (j : Nat), .bool true, .int .i64 0]
  | none => .tuple #[.int .i64 0, .bool false, .int .i64 0]
theorem rFirst_no (a : Option Addr) (n c : Nat) (cs : List Int) (f t : Int) (w : World) (hl : cs.length = n) (hn : n ≤ 1099511627776) (hno : f < 0 ∨ t < f ∨ (n : Int) < t) :
    Calls Try.prog 32 #[.slice a n c, pieceV f t] w fun e w' => e = .returned (firstV cs f t) ∧ Below w.heap.size w w' := by
  have HV : Hid (firstV cs f t = .tuple #[.int .i64 0, .bool false, .int .i64 2]) := by
    show _ = _
    unfold firstV; rw [hl, if_pos hno]
  generalize firstV cs f t = V at *
  clear hl
  unfold pieceV
  by_cases h0 : f < 0
  · clear hno
    go_enter Try.func32, Try.ntmps32
    go_wp2
    go_ret3
    exact ⟨by rw [unhide HV]; rfl, by go_grown⟩
  · by_cases h1 : t < f
    · clear hno
      go_enter Try.func32, Try.ntmps32
      go_wp2
      go_ret3
      exact ⟨by rw [unhide HV]; rfl, by go_grown⟩
    · have h2 : (n : Int) < t := by omega
      clear hno
      go_enter Try.func32, Try.ntmps32
      go_wp2
      go_ret3
      exact ⟨by rw [unhide HV]; rfl, by go_grown⟩
theorem rFirst_in (a : Option Addr) (n c : Nat) (cs : List Int) (f t : Nat) (w : World) (hl : cs.length = n) (h : ReadsB w a cs) (hn : n ≤ 1099511627776) (hft : f ≤ t) (ht : t ≤ n) :
    Calls Try.prog 32 #[.slice a n c, pieceV f t] w fun e w' => e = .returned (firstV cs f t) ∧ Below w.heap.size w w' := by
  have hV : firstV cs f t = firstT (ansF cs t 0 f) := by
    unfold firstV
    rw [if_neg (by omega), Int.toNat_natCast, Int.toNat_natCast]
    cases ansF cs t 0 f <;> rfl
  have HMT := hide (fun (w' : World) (hb : Below w.heap.size w w') => rMatch_any a n c cs w' hl (h.below hb) hn)
  have HA := hide h
  have HLEN := hide hl
  have HST := hide (fun (i : Nat) (hi : i < t) => ansF_step cs t i hi (by omega))
  have HJU := hide (fun (i : Nat) (hi : i < t) => ansF_jump cs t i (by omega))
  have HEN := hide (fun (i : Nat) (hi : t ≤ i) => ansF_end cs t 0 i hi)
  have HGT := hide (fun (i : Nat) (hi : i < n) => endAt_gt cs 1 (i + 1) (by omega))
  have HMB := hide (fun (i : Nat) (hi : i < n) (hb : begC (cA cs i) = true) => match_beg cs i (by omega) hb)
  have HML := hide (matchL_len cs)
  rw [hV]
  obtain ⟨R, hR⟩ : ∃ R, firstT (ansF cs t 0 f) = R := ⟨_, rfl⟩
  rw [hR]
  have HR := hide hR
  rw [hl] at HGT HML
  clear hV h hl hR
  unfold pieceV
  go_enter Try.func32, Try.ntmps32
  go_wp2_with (go_at_call 30; refine (unhide HMT _ ((Below.refl _ _).alloc (Nat.le_refl _) _)).mono ?_; rintro e w1 ⟨rfl, hK, hb⟩; have hbx := ((Blk.new w [.int .i64 (f : Int), .int .i64 (t : Int)] 46).below hb); have cb0 := hbx.cell (j := 0) rfl; have cb1 := hbx.cell (j := 1) rfl; have hB := below_box hb; rw [World.size_alloc] at hK; have HK := hide hK; clear hK hb hbx)
  go_loopw [8] (fun v8 wr => ∃ i : Nat, i ≤ n + 1 ∧ v8 = .int .i64 i ∧ wr = w1 ∧ Hid (firstT (ansF cs t 0 i) = R)) (fun v8 _ => n + 1 - (intOf v8).toNat)
  case atStart => exact ⟨f, by omega, rfl, rfl, HR⟩
  case round =>
    obtain ⟨i, hi, rfl, rfl, HF⟩ := hrel
    by_cases hlt : i < t
    · obtain ⟨b, off, rfl, c1⟩ := (unhide HA).below hB i (by rw [unhide HLEN]; omega)
      have hst := unhide HST i hlt
      have HM := hide (unhide HMB i (by omega))
      obtain ⟨x, hx⟩ : ∃ x, cA cs i = x := ⟨_, rfl⟩
      rw [hx] at c1 hst HM
      by_cases hs : strongC x = true
      · rw [if_pos hs] at hst
        have HR2 : Hid (R = .tuple #[.int .i64 (i : Nat), .bool true, .int .i64 0]) := by
          show _ = _
          rw [← unhide HF, hst]; rfl
        have hs2 : (x = 1 ∨ x = 2) ∨ x = 3 := by unfold strongC at hs; simpa using hs
        clear hst HF HM hs
        rcases hs2 with (rfl | rfl) | rfl
        · go_wp2
          go_ret3
          exact ⟨by rw [unhide HR2]; rfl, hB⟩
        · go_wp2
          go_ret3
          exact ⟨by rw [unhide HR2]; rfl, hB⟩
        · go_wp2
          go_ret3
          exact ⟨by rw [unhide HR2]; rfl, hB⟩
      · rw [if_neg hs] at hst
        have hs2 : (x == 1) = false ∧ (x == 2) = false ∧ (x == 3) = false := by
          unfold strongC at hs
          simpa [and_assoc] using hs
        obtain ⟨n1, n2, n3⟩ := hs2
        by_cases hb : begC x = true
        · rw [if_pos hb] at hst
          have hj := unhide HJU i hlt
          obtain ⟨hg1, hg2⟩ := unhide HGT i (by omega)
          have c3 := (unhide HK).cell (j := i) (v := .int .i64 ((endAt cs 1 (i + 1) : Nat) : Int)) (by
            have := unhide HM hb
            rw [List.getElem?_map, this]; rfl)
          rw [hj] at hst
          have HF2 : Hid (firstT (ansF cs t 0 (endAt cs 1 (i + 1) + 1)) = R) := by show _ = _; rw [← hst]; exact unhide HF
          generalize endAt cs 1 (i + 1) = E at *
          clear hst hj HF HM hx hs
          go_wp2_with (go_at_call 35; refine (rBegins_any _ _).mono ?_; rintro e w' ⟨rfl, rfl⟩; rw [hb])
          go_roundw
          case rel => exact ⟨E + 1, by omega, by go_num, trivial, HF2⟩
          case measure => simp [intOf]; omega
        · rw [if_neg hb] at hst
          have hb' : begC x = false := by simpa using hb
          have HF2 : Hid (firstT (ansF cs t 0 (i + 1)) = R) := by show _ = _; rw [← hst]; exact unhide HF
          clear hst HF HM hx hs
          go_wp2_with (go_at_call 35; refine (rBegins_any _ _).mono ?_; rintro e w' ⟨rfl, rfl⟩; rw [hb'])
          go_roundw
          case rel => exact ⟨i + 1, by omega, by go_num, trivial, HF2⟩
          case measure => simp [intOf]; omega
    · have HR2 : Hid (R = .tuple #[.int .i64 0, .bool false, .int .i64 0]) := by
        show _ = _
        rw [← unhide HF, unhide HEN i (by omega)]; rfl
      go_wp2
      go_ret3
      exact ⟨by rw [unhide HR2]; rfl, hB⟩
theorem fsT (cs : List Int) : ansF cs cs.length 0 0 = frst 0 cs := fsA_zero cs
theorem rLevel_any (a : Option Addr) (n c : Nat) (cs : List Int) (b : Int) (w : World) (hl : cs.length = n) (h : ReadsB w a cs) (hn : n ≤ 1099511627776) :
    Calls Try.prog 34 #[.slice a n c, .int .i8 b] w fun e w' => e = .returned (levV cs b) ∧ Below w.heap.size w w' := by
  by_cases h0 : b = 0
  · subst h0
    go_enter Try.func34, Try.ntmps34
    go_wp2
    go_ret2
    exact ⟨rfl, Below.refl _ _⟩
  by_cases h1 : b = 1
  · subst h1
    go_enter Try.func34, Try.ntmps34
    go_wp2
    go_ret2
    exact ⟨rfl, Below.refl _ _⟩
  by_cases h2 : b = -1
  · subst h2
    have HF := rFirst_in a n c cs 0 n w hl h hn (Nat.zero_le _) (Nat.le_refl _)
    have hfv : firstV cs (0 : Nat) (n : Nat) = firstT (frst 0 cs) := by
      unfold firstV
      rw [if_neg (by omega), Int.toNat_natCast, ← hl, ← fsT]
      show (match ansF cs cs.length 0 0 with | some j => _ | none => _) = _
      cases ansF cs cs.length 0 0 <;> rfl
    rw [hfv] at HF
    have HF := hide HF
    have HA := hide h
    have HL := hide (lev_auto cs)
    have HV : Hid (levV cs (-1) = levV cs (-1)) := rfl
    have HJ := hide (fun j (hj : frst 0 cs = some j) => frst_lt cs 0 j hj)
    rw [hl] at HJ
    clear h hl h0 h1 hfv
    generalize hV : levV cs (-1) = V at *
    have HV2 := hide hV
    clear hV
    unfold pieceV at HF
    cases hf : frst 0 cs with
    | none =>
      have HV3 : Hid (V = .tuple #[.int .i8 0, .int .i64 0]) := by
        show _ = _
        rw [← unhide HV2, levV, unhide HL, hf]
      rw [hf] at HF
      clear hf
      go_enter Try.func34, Try.ntmps34
      go_wp2_with (go_at_call 32; refine (unhide HF).mono ?_; rintro e w' ⟨rfl, hb⟩; dsimp only [firstT])
      go_ret2
      exact ⟨by rw [unhide HV3]; rfl, hb⟩
    | some j =>
      obtain ⟨bk, off, rfl, c1⟩ := unhide HA j (by have := frst_lt cs 0 j hf; exact this)
      have HB := hide (fun (w' : World) (hb : Below w.heap.size w w') => (hb.cell (p := ⟨bk, off + j, none⟩) (World.block_lt_of_cell? w _ c1)).trans c1)
      have hjn := unhide HJ j hf
      rw [hf] at HF
      clear c1
      by_cases hc : cA cs j = 1
      · have HV3 : Hid (V = .tuple #[.int .i8 0, .int .i64 0]) := by
          show _ = _
          rw [← unhide HV2, levV, unhide HL, hf]; simp only [hc, if_true]
        rw [hc] at HB
        clear hf hc
        go_enter Try.func34, Try.ntmps34
        go_wp2_with (go_at_call 32; refine (unhide HF).mono ?_; rintro e w' ⟨rfl, hb⟩; dsimp only [firstT]; have c2 := unhide HB w' hb)
        go_ret2
        exact ⟨by rw [unhide HV3]; rfl, hb⟩
      · have HV3 : Hid (V = .tuple #[.int .i8 1, .int .i64 0]) := by
          show _ = _
          rw [← unhide HV2, levV, unhide HL, hf]; simp only [hc, if_false]
        generalize cA cs j = x at *
        clear hf
        go_enter Try.func34, Try.ntmps34
        go_wp2_with (go_at_call 32; refine (unhide HF).mono ?_; rintro e w' ⟨rfl, hb⟩; dsimp only [firstT]; have c2 := unhide HB w' hb)
        go_ret2
        exact ⟨by rw [unhide HV3]; rfl, hb⟩
  · have HV : Hid (levV cs b = .tuple #[.int .i8 0, .int .i64 2]) := by
      show _ = _
      unfold levV levelL
      rw [if_neg h0, if_neg h1, if_neg h2]
    go_enter Try.func34, Try.ntmps34
    go_wp2
    go_ret2
    exact ⟨by rw [unhide HV]; rfl, Below.refl _ _⟩
end Go.Proofs.Ytkckkchnmgidgaa

/-
  The law MirrorsTwice, walked.
-/
import Derived.Test.YtnabbahdmajfpaaGreatDoorMrOfW
namespace Go.Proofs.YtnabbahdmajfpaaGreatDoor
open Go.RowKit Go.PlainAid Go.Lib Go.PHexM Go.Shelf
set_option linter.unusedVariables false
set_option linter.unusedSimpArgs false

set_option maxRecDepth 100000 in
set_option maxHeartbeats 2000000 in
theorem twice_walk (l : List MirD) (a : Option Addr) (n c : Nat) (s : ByteArray) (r : Int) (w : World) (hg : errTypeAt w) (hn : l.length = n) (hnb : n ≤ 1048576) (hok : ∀ x ∈ l, MirOk x) (h : MrMem w a l) (hs : s.size ≤ 1048576) :
    Calls Tryz.prog 10 #[.slice a n c, .string s, .int .i32 r] w fun e w' => e = .returned (.bool true) ∧ Below w.heap.size w w' := by
  have HA := hide (awake9_any w hg)
  have HC := hide (fun wr hm => check9_any l a n c wr hn (by omega) hok hm)
  have HO := hide (fun r wr hm => of9_any l a n c r wr hn (by omega) hm)
  have HT := hide (fun t wr (ht : t.size ≤ 8388608) hm => text9_any l a n c t wr hn (by omega) hok hm (by omega))
  have HM : Hid (∀ V, Below w.heap.size w V → MrMem V a l) := fun V hb => h.below hb
  have HN := hide hn
  have hcr : Hid ((chkM l).2 = 0 → (∀ k, k < l.length → wrongM l k = 0) ∧ (∀ k, k < l.length → twistM l k = 0)) := fun h => ⟨(chk_inv h).1, (chk_inv h).2.1⟩
  obtain ⟨cp, hcp⟩ : ∃ cp, (chkM l).1 = cp := ⟨_, rfl⟩
  obtain ⟨cc, hcc⟩ : ∃ cc, (chkM l).2 = cc := ⟨_, rfl⟩
  rw [hcp, hcc] at HC
  rw [hcc] at hcr
  clear hcp hcc h hg hn hok
  go_enter Tryz.func10, Tryz.ntmps10
  go_wp2_with fail
  refine (unhide HA).mono ?_
  rintro e w1 ⟨rfl, hb1⟩
  have HC1 := hide (unhide HC w1 (unhide HM _ hb1))
  have HB1 := hide hb1
  clear hb1 HA HC
  by_cases hc0 : cc = 0
  · subst hc0
    obtain ⟨hw, ht⟩ := unhide hcr rfl
    have hbk : ∀ r t, ofM l r = some t → ofM l t = some r ∧ t ≠ r := fun r t h => ⟨(of_back hw ht h).1, (of_back hw ht h).2.1⟩
    have HTW : Hid ((∀ x ∈ l, ¬ (55296 ≤ x.frm ∧ x.frm ≤ 57343)) → outR l (outR l s 0).1 0 = (s, (outR l s 0).2)) := fun hsur => out_twice hw ht hsur s
    clear hcr hw ht
    go_wp2_with fail
    refine (unhide HC1).mono ?_
    rintro e w2 ⟨rfl, hb2⟩
    have hB2 := (unhide HB1).trans (hb2.mono (unhide HB1).size)
    have hO1 := unhide HO r w2 (unhide HM _ hB2)
    obtain ⟨x, hx⟩ : ∃ x, (ofM l r).getD r = x := ⟨_, rfl⟩
    obtain ⟨k, hk⟩ : ∃ k, (ofM l r).isSome = k := ⟨_, rfl⟩
    have hfact : (ofM l x).getD x = r ∧ (k == (x == r)) = false := by
      cases ho : ofM l r with
      | none =>
        rw [ho] at hx hk
        obtain rfl : r = x := hx
        obtain rfl : false = k := hk
        rw [ho]
        exact ⟨rfl, by simp⟩
      | some t =>
        rw [ho] at hx hk
        obtain rfl : t = x := hx
        obtain rfl : true = k := hk
        obtain ⟨e1, e2⟩ := hbk r t ho
        rw [e1]
        exact ⟨rfl, by simpa using e2⟩
    have hO2 := fun V hb => unhide HO x V (unhide HM V hb)
    rw [hfact.1] at hO2
    have hkf := hfact.2
    obtain ⟨k2, hk2⟩ : ∃ k2, (ofM l x).isSome = k2 := ⟨_, rfl⟩
    rw [hx, hk] at hO1
    rw [hk2] at hO2
    have HO1 := hide hO1
    have HO2 := hide hO2
    have HB2 := hide hB2
    have drr : (r != r) = false := by simp
    clear hO1 hO2 hfact hx hk hk2 hbk hb2 hB2 HC1 HO
    go_wp2_with fail
    refine (unhide HO1).mono ?_
    rintro e w3 ⟨rfl, hb3⟩
    have hB3 := (unhide HB2).trans (hb3.mono (unhide HB2).size)
    go_wp2_with fail
    refine (unhide HO2 _ hB3).mono ?_
    rintro e w4 ⟨rfl, hb4⟩
    have hB4 := hB3.trans (hb4.mono hB3.size)
    have HB4 := hide hB4
    clear hB3 hB4 hb3 hb4 HO1 HO2
    obtain ⟨xr, hxr⟩ : ∃ xr, (x == r) = xr := ⟨_, rfl⟩
    rw [hxr] at hkf
    go_wp2
    go_loopw [13] (fun v13 wr => ∃ i m : Nat, i ≤ n ∧ v13 = .int .i64 i ∧ wr = w4.drewN m ∧ Hid (∀ x ∈ l.take i, ¬ (55296 ≤ x.frm ∧ x.frm ≤ 57343))) (fun v13 _ => n - (RowKit.intOf v13).toNat)
    case atStart => exact ⟨0, 0, Nat.zero_le _, rfl, rfl, fun x hx => by simp at hx⟩
    case round =>
      obtain ⟨i, m, hi, rfl, rfl, HS⟩ := hrel
      obtain ⟨WX, hWX⟩ : ∃ WX, w4.drewN m = WX := ⟨_, rfl⟩
      have hBX : Below w.heap.size w WX := by rw [← hWX]; exact below_drewN (unhide HB4) m
      rw [hWX]
      have HWX := hide hWX
      clear hWX
      by_cases hlt : i < n
      · obtain ⟨y, hy⟩ : ∃ y, l[i]? = some y := ⟨_, List.getElem?_eq_getElem (by rw [unhide HN]; exact hlt)⟩
        obtain ⟨g, off, rfl, hcl⟩ := (unhide HM _ hBX) i y hy
        have cx1 := hcl 1 _ rfl
        have hlt' : (i : Int) < (n : Int) := by omega
        have hq1 : IntKind.i64.wrap ((i : Int) + 1) = (i : Int) + 1 := by rw [IntKind.wrap_i64]; omega
        by_cases h1 : 55296 ≤ y.frm
        · by_cases h2 : y.frm ≤ 57343
          · clear hcl hy HS
            go_wp2
            go_ret
            exact ⟨rfl, hBX⟩
          · have HS2 : Hid (∀ x ∈ l.take (i + 1), ¬ (55296 ≤ x.frm ∧ x.frm ≤ 57343)) := fun z hz => by
              rw [List.take_add_one, hy] at hz
              rcases List.mem_append.1 hz with hz | hz
              · exact unhide HS z hz
              · simp at hz; subst hz; exact fun e => h2 e.2
            clear hcl hy HS
            go_wp2
            go_roundw
            case rel => exact ⟨i + 1, m, by omega, by go_num, (unhide HWX).symm, HS2⟩
            case measure => simp [RowKit.intOf]; omega
        · have HS2 : Hid (∀ x ∈ l.take (i + 1), ¬ (55296 ≤ x.frm ∧ x.frm ≤ 57343)) := fun z hz => by
            rw [List.take_add_one, hy] at hz
            rcases List.mem_append.1 hz with hz | hz
            · exact unhide HS z hz
            · simp at hz; subst hz; exact fun e => h1 e.1
          clear hcl hy HS
          go_wp2
          go_roundw
          case rel => exact ⟨i + 1, m, by omega, by go_num, (unhide HWX).symm, HS2⟩
          case measure => simp [RowKit.intOf]; omega
      · obtain rfl : i = n := by omega
        have htw := unhide HTW (by
          intro z hz
          refine unhide HS z ?_
          rw [List.take_of_length_le (by rw [unhide HN]; exact Nat.le_refl _)]; exact hz)
        have hsz := (outR_size l s s.size 0 (by omega)).1
        obtain ⟨T, hT⟩ : ∃ T, (outR l s 0).1 = T := ⟨_, rfl⟩
        obtain ⟨N, hN⟩ : ∃ N, (outR l s 0).2 = N := ⟨_, rfl⟩
        have hT1 := fun V hb => unhide HT s V (by omega) (unhide HM V hb)
        have hT2 := fun V hb => unhide HT T V (by rw [← hT]; omega) (unhide HM V hb)
        rw [hT, hN] at htw hT1
        rw [htw] at hT2
        have HT1 := hide hT1
        have HT2 := hide hT2
        clear hT1 hT2 htw hsz hT hN HS HTW HT
        have dN : ((N : Int) == (N : Int)) = true := by simp
        go_wp2_with fail
        refine (unhide HT1 _ hBX).mono ?_
        rintro e w5 ⟨rfl, hb5⟩
        have hB5 := hBX.trans (hb5.mono hBX.size)
        go_wp2_with fail
        refine (unhide HT2 _ hB5).mono ?_
        rintro e w6 ⟨rfl, hb6⟩
        have hB6 := hB5.trans (hb6.mono hB5.size)
        clear hB5 hb5 hb6 hBX
        go_wp2
        go_ret
        exact ⟨rfl, hB6⟩
  · have dk : (cc != 0) = true := by simpa using hc0
    have dk' : (cc == 0) = false := by simpa using hc0
    clear hcr hc0
    go_wp2_with (go_at_call 18; with_reducible refine (unhide HC1).mono ?_; rintro e w2 ⟨rfl, hb2⟩)
    go_ret
    exact ⟨rfl, (unhide HB1).trans (hb2.mono (unhide HB1).size)⟩
end Go.Proofs.YtnabbahdmajfpaaGreatDoor

/-
  LinesReads: a text's lines, or the fault; in new memory.
-/
import Derived.Test.YtlaennakglhmjaaGreatDoorLHigh
import Derived.Test.YtlaennakglhmjaaGreatDoorLSameAll
import Derived.Test.YtlaennakglhmjaaGreatDoorLApM
import Derived.Test.YtlaennakglhmjaaGreatDoorRRead
import Derived.Test.YtlaennakglhmjaaGreatDoorLUpto
namespace Go.Proofs.YtlaennakglhmjaaGreatDoor
open Go.RowKit Go.PlainAid Go.Lib Go.Shelf
set_option linter.unusedVariables false

theorem blkR {w w' : World} {b : Nat} {o : Obj} (h : w.heap[b]? = some o) (hb : Below w.heap.size w w') : w'.heap[b]? = some o := (hb.block b (Array.getElem?_eq_some_iff.1 h).1).trans h
theorem read_short (s : ByteArray) (h : (readS s).2 = none) (ps : List (LineD × Value)) (hp : ps.map (·.1) = (readS s).1) : ps.length ≤ s.size ∧ ∀ p ∈ ps, p.1.fields.length ≤ s.size + 1 := by
  refine ⟨?_, fun p hq => ?_⟩
  · have h1 := congrArg List.length hp
    unfold readS at h h1
    rcases rd_cases s (linesL s) with hok | ⟨p, x, r, hp, h2, h3⟩
    · rw [rd_ok s _ hok] at h1
      simp only [List.length_map] at h1
      have := lines_len s
      omega
    · rw [hp, rd_bad s p r x h2 h3] at h; cases h
  · obtain ⟨_, _, _, h2⟩ := read_nos s h p.1 (by rw [← hp]; exact List.mem_map_of_mem hq)
    exact h2

set_option maxRecDepth 100000 in
set_option maxHeartbeats 4000000 in
theorem reads_any (file s : ByteArray) (w : World) (hg : errTypeAt w) (hs : s.size ≤ 1073741824) :
    Calls Tryz.prog 3 #[.string file, .string s] w fun e w' => e = .returned (.bool true) ∧ Below w.heap.size w w' := by
  have HR := hide (fun w => read_any file s w (by omega))
  have HD := hide (fun w => refRead_any s w (by omega))
  go_enter Tryz.func3, Tryz.ntmps3
  go_wp2_with fail
  refine (unhide HR _).mono ?_
  rintro e w1 ⟨hb1, hr1⟩
  rcases hr1 with ⟨hn1, va, rfl, psa, hpa, hra⟩ | ⟨no, code, fb, hf1, rfl, hfb1, hfc1⟩
  · obtain ⟨aa, ac, rfl⟩ := row_slice2 hra.1
    have hsh := read_short s hn1 psa hpa
    obtain ⟨N, hN⟩ : ∃ N, psa.length = N := ⟨_, rfl⟩
    rw [hN] at hra hsh ⊢
    have HN := hide hN
    have HRA := hide hra
    have HPA := hide hpa
    have HFL := hide hsh.2
    have hNs := hsh.1
    have HN1 := hide hn1
    clear hra hpa hsh hN hn1
    go_wp2_with fail
    refine (unhide HR _).mono ?_
    rintro e w2 ⟨hb2, hr2⟩
    rcases hr2 with ⟨_, vb, rfl, psb, hpb, hrb⟩ | ⟨no, code, fb, hf, _⟩
    rotate_left
    · rw [unhide HN1] at hf; cases hf
    obtain ⟨ba, bc, rfl⟩ := row_slice2 hrb.1
    obtain ⟨NB, hNB⟩ : ∃ NB, psb.length = NB := ⟨_, rfl⟩
    rw [hNB] at hrb ⊢
    have HNB := hide hNB
    have HRB := hide hrb
    have HPB := hide hpb
    clear hrb hpb hNB
    go_wp2_with fail
    refine (unhide HD _).mono ?_
    rintro e w3 ⟨hb3, hr3⟩
    rcases hr3 with ⟨_, vc, rfl, psc, hpc, hrc⟩ | ⟨no, code, hf, _⟩
    rotate_left
    · rw [unhide HN1] at hf; cases hf
    obtain ⟨ca, cc, rfl⟩ := row_slice2 hrc.1
    obtain ⟨NC, hNC⟩ : ∃ NC, psc.length = NC := ⟨_, rfl⟩
    rw [hNC] at hrc ⊢
    have s1 : w.heap.size ≤ w1.heap.size := hb1.size
    have s2 : w1.heap.size ≤ w2.heap.size := hb2.size
    have s3 : w2.heap.size ≤ w3.heap.size := hb3.size
    have hB3 : Below w.heap.size w w3 := (hb1.trans (hb2.mono s1)).trans (hb3.mono (Nat.le_trans s1 s2))
    have a3 := ((unhide HRA).below hb2).below hb3
    have b3 := (unhide HRB).below hb3
    have HFL2 : Hid (∀ p ∈ psa, p.1.fields.length ≤ 1099511627776) := fun p hp => by have := unhide HFL p hp; omega
    have HFL3 : Hid (∀ p ∈ psb, p.1.fields.length ≤ 1099511627776) := fun p hp => by
      have h1 := (read_short s (unhide HN1) psb (unhide HPB)).2 p hp
      omega
    have hNBs : psb.length ≤ 1099511627776 := by have := (read_short s (unhide HN1) psb (unhide HPB)).1; omega
    have HS1 := hide (refSameAll_yes w.heap.size w2.heap.size _ _ psa psc w3 (by rw [unhide HN]; omega) HFL2.out ((unhide HPA).trans hpc.symm) a3 hrc)
    have HEQ : Hid (psb.map (·.1) = psc.map (·.1)) := (unhide HPB).trans hpc.symm
    have HA3 := hide a3
    have HB3 := hide b3
    have HC3 := hide hrc
    have HBel3 := hide hB3
    clear a3 b3 hrc hB3 hpc hb1 hb2 hb3 HPA HPB HRB HN1 HR HD HNB
    go_wp2_with fail
    refine (unhide HS1).mono ?_
    rintro e w4 ⟨rfl, hb4⟩
    have hB4 : Below w.heap.size w w4 := (unhide HBel3).trans (hb4.mono (unhide HBel3).size)
    have HA4 := hide ((unhide HA3).below hb4)
    have HB4 := hide ((unhide HB3).below hb4)
    have HC4 := hide ((unhide HC3).below hb4)
    have HBel4 := hide hB4
    clear HA3 HB3 HC3 HBel3 HS1 hb4 hB4
    go_wp2
    go_loopw [13] (fun v13 wr => ∃ (i : Nat) (xs : List Value), i ≤ N ∧ v13 = .int .i64 (i : Nat) ∧ wr.ownsRow w.heap.size 41 5 (.slice aa N ac) N xs ∧ FldAt xs psa ∧ Shapes w4 wr ∧ KeepsHi w1.heap.size w4 wr ∧ Below w.heap.size w wr) (fun v13 _ => N - (RowKit.intOf v13).toNat)
    case atStart => exact ⟨0, lineCells psa, Nat.zero_le _, rfl, by have := (unhide HA4).1; rw [unhide HN] at this; exact this, fun j p hp => (li_at psa j p hp).2.2.2.1, Shapes.refl _, KeepsHi.refl _ _, unhide HBel4⟩
    case round =>
      obtain ⟨i, xs, hi, rfl, hown, hfld, hsh, hkh, hB⟩ := hrel
      by_cases hlt : i < N
      · obtain ⟨p, hp⟩ : ∃ p, psa[i]? = some p := ⟨_, List.getElem?_eq_getElem (by rw [unhide HN]; exact hlt)⟩
        have hpm := List.mem_of_getElem? hp
        have hfl := unhide HFL2 p hpm
        obtain ⟨g, c', he, hc1, hc2, hgb, hgl⟩ := row_form hown (by omega)
        obtain ⟨rfl, rfl⟩ : aa = some ⟨g, 0, none⟩ ∧ ac = c' := by simpa using he
        have y3 : wr.cell? ⟨g, i * 5 + 3, none⟩ = some p.2 := (hown.cellAt (i * 5 + 3) (by omega)).trans (hfld i p hp)
        have hg1 : g < w1.heap.size := (World.ownsRow.lt (unhide HRA).1 g rfl).2
        have hblk : ∀ j, p.2.ownBlock = some j → j < w1.heap.size := fun j e => (World.ownsRow.lt ((unhide HRA).2 p hpm) j e).2
        have tx := (unhide HA4).2 p hpm
        obtain ⟨ys, hty⟩ := Shapes.row hsh tx
        obtain ⟨fa, fc, hfe⟩ := row_slice2 hty
        obtain ⟨d, pv⟩ := p
        simp only [] at hfl y3 hblk hty hfe
        subst hfe
        have HSP := hide (spoil_sh w.heap.size _ d.fields.length ys wr hfl hB.size hty)
        have HAP := hide (rows_apart hown hty (by decide))
        have HOWN := hide hown
        have HTY := hide hty
        have HSH := hide hsh
        have HKH := hide hkh
        have HBW := hide hB
        have HFD := hide hfld
        have HBLK := hide hblk
        have hm1 : maxLen = 9223372036854775807 := rfl
        rw [hm1] at hc2
        clear hown hty hsh hkh hB hfld hblk tx he hp hpm
        go_wp2_with fail
        refine (unhide HSP).mono ?_
        rintro e w5 ⟨⟨u, rfl⟩, hgr, hsh5⟩
        have hown5 := (unhide HOWN).kept hgr (unhide HAP)
        have hB5 : Below w.heap.size w w5 := belowG (unhide HBW) (unhide HBW).size (unhide HTY) hgr
        have hsz5 : wr.heap.size ≤ w5.heap.size := hgr.size
        obtain ⟨y, hy⟩ : ∃ y, xs[i * 5 + 4]? = some y := ⟨_, List.getElem?_eq_getElem (by have := hown5.1; omega)⟩
        have y4 : w5.cell? ⟨g, i * 5 + 4, none⟩ = some y := (hown5.cellAt (i * 5 + 4) (by omega)).trans hy
        have f4 := hown5.frozenAt (i * 5 + 4)
        have HST := hide (hown5.stored (i * 5 + 4) (.string ⟨#[115, 112, 111, 105, 108, 116]⟩)).1
        have HF6 := hide ((unhide HFD).set i (.string ⟨#[115, 112, 111, 105, 108, 116]⟩))
        have HS6 := hide (((unhide HSH).trans hsh5).trans (Shapes.setCell w5 g (i * 5 + 4) (.string ⟨#[115, 112, 111, 105, 108, 116]⟩)))
        have HK6 := hide (((unhide HKH).trans (KeepsHi.grown hgr (unhide HBLK))).trans (KeepsHi.setCell w5 g (i * 5 + 4) (.string ⟨#[115, 112, 111, 105, 108, 116]⟩) hg1))
        have HB6 := hide (hB5.setCell (p := ⟨g, i * 5 + 4, none⟩) hgb (.string ⟨#[115, 112, 111, 105, 108, 116]⟩))
        clear hown5 hB5 hgr hsh5 hy HOWN HTY HSH HKH HBW HFD HBLK HSP HAP
        go_wp2
        go_roundw
        case rel => exact ⟨i + 1, _, by omega, by go_num, unhide HST, unhide HF6, unhide HS6, unhide HK6, unhide HB6⟩
        case measure => simp [RowKit.intOf]; omega
      · obtain rfl : i = N := by omega
        have b6 := hkh.rowL (unhide HB4) (Nat.le_refl _)
        have c6 := hkh.rowL (unhide HC4) s2
        have HS2 := hide (refSameAll_yes w1.heap.size w2.heap.size _ _ psb psc wr hNBs HFL3.out HEQ.out b6 c6)
        have HBW := hide hB
        clear b6 c6 hown hfld hsh hkh hB HA4 HB4 HC4
        go_wp2_with fail
        refine (unhide HS2).mono ?_
        rintro e w6 ⟨rfl, hb6⟩
        have hB6 : Below w.heap.size w w6 := (unhide HBW).trans (hb6.mono (unhide HBW).size)
        have HG6 := hide (errType_below hg hB6)
        go_wp2_with (go_at_call 9; refine (awake_any _ (unhide HG6)).mono ?_; rintro e w7 ⟨rfl, hb7⟩)
        go_ret
        exact ⟨rfl, hB6.trans (hb7.mono hB6.size)⟩
  · have HFC1 := hide hfc1
    have HF1 := hide hf1
    clear hfc1 hf1
    go_wp2_with fail
    refine (unhide HR _).mono ?_
    rintro e w2 ⟨hb2, hr2⟩
    rcases hr2 with ⟨h, _⟩ | ⟨no2, code2, fb2, _, rfl, _, _⟩
    · rw [unhide HF1] at h; cases h
    go_wp2_with fail
    refine (unhide HD _).mono ?_
    rintro e w3 ⟨hb3, hr3⟩
    rcases hr3 with ⟨h, _⟩ | ⟨no3, code3, hf, rfl⟩
    · rw [unhide HF1] at h; cases h
    rw [unhide HF1] at hf
    obtain ⟨rfl, rfl⟩ : no = no3 ∧ code = code3 := by
      have := Option.some.inj hf
      exact ⟨congrArg Prod.fst this, congrArg Prod.snd this⟩
    clear hf
    have hc0 := read_code s no code (unhide HF1)
    have dC : (code != 0) = true := by simpa using hc0
    have s1 : w.heap.size ≤ w1.heap.size := hb1.size
    have s2 : w1.heap.size ≤ w2.heap.size := hb2.size
    have hB3 : Below w.heap.size w w3 := (hb1.trans (hb2.mono s1)).trans (hb3.mono (Nat.le_trans s1 s2))
    have HFC3 := hide (blkR (blkR (unhide HFC1) hb2) hb3)
    have hg3 := errType_below hg hB3
    clear HR HD HFC1 HF1 hb1 hb2 hb3 hfb1
    go_wp2_with fail
    obtain ⟨W5, hW5⟩ : ∃ W5, w3.alloc (.cells #[.pointer none] 29) = W5 := ⟨_, rfl⟩
    have bel5 : Below w3.heap.size w3 W5 := by rw [← hW5]; go_grown
    have bx1 : Boxed W5 w3.heap.size 29 (.pointer none) := by rw [← hW5]; exact Boxed.new w3 _ _
    have BEL5 := hide bel5
    have HAS1 := hide (as_any ⟨fb, 0, none⟩ w3.heap.size W5 (errType_below hg3 bel5) bx1)
    rw [hW5]
    clear bel5 bx1 hW5
    refine (unhide HAS1).mono ?_
    rintro e w6 ⟨rfl, hbx6, hold6, hbel6⟩
    have bel6 : Below w3.heap.size w3 w6 := hbel6 w3.heap.size w3 (Nat.le_refl _) (unhide BEL5)
    have c1 := hbx6.cell
    have z1 := blkR (unhide HFC3) bel6
    have r0 : w6.cell? ⟨fb, 0, none⟩ = some (.string file) := by simp [World.cell?, z1]
    have r1 : w6.cell? ⟨fb, 1, none⟩ = some (.int .i64 ((no : Nat))) := by simp [World.cell?, z1]
    have r2 : w6.cell? ⟨fb, 2, none⟩ = some (.int .i64 code) := by simp [World.cell?, z1]
    have hB6 : Below w.heap.size w w6 := hB3.trans (bel6.mono hB3.size)
    have HG7 := hide (errType_below hg hB6)
    clear bel6 hbx6 hold6 hbel6 z1 HAS1 BEL5 hB3 HFC3
    go_wp2_with fail
    refine (awake_any _ (unhide HG7)).mono ?_
    rintro e w8 ⟨rfl, hb8⟩
    go_wp2
    go_ret
    exact ⟨rfl, hB6.trans (hb8.mono hB6.size)⟩
end Go.Proofs.YtlaennakglhmjaaGreatDoor

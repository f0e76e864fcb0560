/-
  LinesApart: two texts, one behind the other.
-/
import Derived.Test.YtlaennakglhmjaaDoorLApC
import Derived.Test.YtlaennakglhmjaaDoorMixW
import Derived.Test.YtlaennakglhmjaaDoorRPieces
import Derived.Test.YtlaennakglhmjaaDoorLUpto
namespace Go.Proofs.YtlaennakglhmjaaDoor
open Go.RowKit Go.PlainAid Go.Lib Go.Shelf
set_option linter.unusedVariables false

theorem blkA {w w' : World} {b : Nat} {o : Obj} (h : w.heap[b]? = some o) (hb : Below w.heap.size w w') : w'.heap[b]? = some o := (hb.block b (Array.getElem?_eq_some_iff.1 h).1).trans h

set_option maxRecDepth 100000 in
set_option maxHeartbeats 4000000 in
theorem apart_any (a b : ByteArray) (w : World) (hg : errTypeAt w) (hs : a.size + b.size ≤ 1073741824) :
    Calls Tryd.prog 11 #[.string a, .string b] w fun e w' => e = .returned (.bool true) ∧ Below w.heap.size w w' := by
  have HMK := hide (fun W => (refMarked_any b W (by unfold maxLen; omega)).mono fun e w' (h : _ ∧ w' = W) => (⟨h.1, h.2.symm⟩ : _ ∧ W = w'))
  go_enter Tryd.func11, Tryd.ntmps11
  go_wp2_with fail
  refine (awake_any _ hg).mono ?_
  rintro e w1 ⟨rfl, hb1⟩
  by_cases h0 : a.size = 0
  · have dX : a.toList.isEmpty = true := by rw [toList_empty]; exact decide_eq_true h0
    by_cases hmk : 0 < markN b
    · have dm : decide (0 < (markN b : Int)) = true := decide_eq_true (by omega)
      go_wp2_with (go_at_call 31; refine (unhide HMK _).mono ?_; rintro e W3 ⟨rfl, rfl⟩)
      go_ret
      exact ⟨rfl, hb1⟩
    · have dm : decide (0 < (markN b : Int)) = false := decide_eq_false (by omega)
      go_wp2_with (go_at_call 31; refine (unhide HMK _).mono ?_; rintro e W3 ⟨rfl, rfl⟩)
      go_ret
      exact ⟨rfl, hb1⟩
  · have dX : a.toList.isEmpty = false := by rw [toList_empty]; exact decide_eq_false h0
    have hlt : a.size - 1 < a.size := by omega
    have tn : ((a.size : Int) - 1).toNat = a.size - 1 := by omega
    have hv : (a[a.size - 1]'hlt).toNat = bN a (a.size - 1) := by rw [bN, get_in a _ hlt]
    by_cases hl : bN a (a.size - 1) = 10
    · have d10 : ((bN a (a.size - 1) : Int) != 10) = false := by simp; omega
      by_cases hmk : 0 < markN b
      · have dm : decide (0 < (markN b : Int)) = true := decide_eq_true (by omega)
        go_wp2_with (go_at_call 31; refine (unhide HMK _).mono ?_; rintro e W3 ⟨rfl, rfl⟩)
        go_ret
        exact ⟨rfl, hb1⟩
      · have dm : decide (0 < (markN b : Int)) = false := decide_eq_false (by omega)
        go_wp2_with (go_at_call 31; refine (unhide HMK _).mono ?_; rintro e W3 ⟨rfl, rfl⟩)
        have hap := read_app a b (by omega) hl (by omega)
        have HR1 := hide (fun w => read_any ⟨#[120]⟩ a w (by omega))
        have HR2 := hide (fun w => read_any ⟨#[120]⟩ b w (by omega))
        have HR3 := hide (fun w => read_any ⟨#[120]⟩ (a ++ b) w (by rw [ByteArray.size_append]; omega))
        have hpl : ∀ (ps : List (LineD × Value)) (d : List LineD), ps.map (·.1) = d → ps.length = d.length := fun ps d h => by rw [← h]; simp
        clear dm d10 hv tn hlt dX hmk hl HMK
        refine (unhide HR1 _).mono ?_
        rintro e w2 ⟨hb2, hr1⟩
        have hB2 : Below w.heap.size w w2 := hb1.trans (hb2.mono hb1.size)
        rcases hr1 with ⟨hn1, vx, rfl, psx, hpx, hrx⟩ | ⟨no, code, fb, hf1, rfl, hfb1, hfc1⟩
        · obtain ⟨xa, xc, rfl⟩ := row_slice2 hrx.1
          obtain ⟨hlen, hapf, hapk⟩ := hap.2 hn1
          have hlx := hpl _ _ hpx
          have hln := lines_len a
          rw [hlen] at hlx
          rw [hlx]
          obtain ⟨N, hN⟩ : ∃ N, (linesL a).length = N := ⟨_, rfl⟩
          rw [hN] at hapf hapk hln hlx ⊢
          have HAPF := hide hapf
          have HAPK := hide hapk
          have HRX := hide hrx
          have HPX := hide hpx
          have HLX := hide hlx
          clear hap hapf hapk hrx hpx hlx hlen hn1 hN
          go_wp2_with fail
          refine (unhide HR2 _).mono ?_
          rintro e w3 ⟨hb3, hr2⟩
          have hB3 : Below w.heap.size w w3 := hB2.trans (hb3.mono hB2.size)
          rcases hr2 with ⟨hn2, vy, rfl, psy, hpy, hry⟩ | ⟨no, code, fb, hf2, rfl, hfb2, hfc2⟩
          · have hz := unhide HAPK hn2
            obtain ⟨ya, yc, rfl⟩ := row_slice2 hry.1
            have hly := hpl _ _ hpy
            rw [read_len b hn2] at hly
            have hlm := lines_len b
            have hnos := read_nos b hn2
            obtain ⟨M, hM⟩ : ∃ M, psy.length = M := ⟨_, rfl⟩
            have hMs : M ≤ b.size := by omega
            rw [hM]
            have HZ := hide hz
            have HM := hide hM
            have HRY := hide hry
            have HPY := hide hpy
            have HNOS : Hid (∀ p ∈ psy, ∃ n : Nat, p.1.no = (n : Int) ∧ n ≤ b.size + 1) := fun p hp => by
              obtain ⟨n, h1, h2, _⟩ := hnos p.1 (by rw [← hpy]; exact List.mem_map_of_mem hp)
              exact ⟨n, h1, h2⟩
            clear hz HAPK HAPF hly hlm hnos hry hpy hn2 hM
            go_wp2_with fail
            refine (unhide HR3 _).mono ?_
            rintro e w4 ⟨hb4, hr3⟩
            rcases hr3 with ⟨_, vz, rfl, psz, hpz, hrz⟩ | ⟨no3, code3, fb3, hf, _⟩
            rotate_left
            · rw [unhide HZ] at hf; cases hf
            have hB4 : Below w.heap.size w w4 := hB3.trans (hb4.mono hB3.size)
            have s23 := hb3.size
            have rx := unhide HRX
            rw [unhide HLX] at rx
            have ry := unhide HRY
            rw [unhide HM] at ry
            have HX4 : Hid (RowL w4 w1.heap.size (.slice xa N xc) psx) := (rx.below hb3).below hb4
            have HY4 : Hid (RowL w4 w2.heap.size (.slice ya M yc) psy) := ry.below hb4
            have nXY : Hid ((Value.slice xa N xc).ownBlock = none ∨ (Value.slice xa N xc).ownBlock ≠ (Value.slice ya M yc).ownBlock) := rows_far rx.1 ry.1 (Nat.le_refl _)
            have nZX : Hid (vz.ownBlock = none ∨ vz.ownBlock ≠ (Value.slice xa N xc).ownBlock) := rows_far' rx.1 hrz.1 s23
            have nZY : Hid (vz.ownBlock = none ∨ vz.ownBlock ≠ (Value.slice ya M yc).ownBlock) := rows_far' ry.1 hrz.1 (Nat.le_refl _)
            have HZ4 := hide hrz
            have HSAME : Hid (psz.map (·.1) = (psx ++ psy.map (bump (N : Nat))).map (·.1)) := join_same psx psy psz _ _ _ N (unhide HPX) (unhide HPY) hpz (congrArg Prod.fst (unhide HZ))
            have hzl : psz.length ≤ 1099511627776 := by
              have := congrArg List.length HSAME.out
              simp only [List.length_map, List.length_append] at this
              have h1 := unhide HLX
              have h2 := unhide HM
              omega
            have HZF : Hid (∀ p ∈ psz, p.1.fields.length ≤ 1099511627776) := fun p hp => by
              obtain ⟨_, _, _, h⟩ := read_nos (a ++ b) (by rw [unhide HZ]) p.1 (by rw [← hpz]; exact List.mem_map_of_mem hp)
              rw [ByteArray.size_append] at h
              omega
            have HB4 := hide hB4
            have b1 : w.heap.size ≤ w1.heap.size := hb1.size
            have b2 : w1.heap.size ≤ w2.heap.size := hb2.size
            have b4 : w3.heap.size ≤ w4.heap.size := hb4.size
            have hzs := row_slice2 hrz.1
            obtain ⟨za, zc, rfl⟩ := hzs
            clear HR1 HR2 HR3 HZ HRX HRY HPX HPY hpz hrz hb1 hb2 hb3 hb4 hB2 hB3 hB4 hpl rx ry
            go_wp2
            go_loopw [14] (fun v14 wr => ∃ i : Nat, i ≤ M ∧ v14 = .int .i64 (i : Nat) ∧ wr.ownsRow w2.heap.size 47 5 (.slice ya M yc) M (lineCells (bumped (N : Nat) i psy)) ∧ w4.grownBy wr (Value.slice ya M yc).ownBlock) (fun v14 _ => M - (RowKit.intOf v14).toNat)
            case atStart => exact ⟨0, Nat.zero_le _, rfl, by rw [bumped_none, ← unhide HM]; have := (unhide HY4).1; rw [← unhide HM] at this; exact this, World.grownBy.refl _ _⟩
            case round =>
              obtain ⟨i, hi, rfl, hown, hgr⟩ := hrel
              by_cases hlt : i < M
              · obtain ⟨p, hp⟩ : ∃ p, psy[i]? = some p := ⟨_, List.getElem?_eq_getElem (by rw [unhide HM]; exact hlt)⟩
                obtain ⟨k, hk1, hk2⟩ := unhide HNOS p (List.mem_of_getElem? hp)
                obtain ⟨g, c', he, hc1, hc2, hgb, hgl⟩ := row_form hown (by omega)
                obtain ⟨rfl, rfl⟩ : ya = some ⟨g, 0, none⟩ ∧ yc = c' := by simpa using he
                have y0 : wr.cell? ⟨g, i * 5, none⟩ = some (.int .i64 (k : Nat)) := (hown.cellAt (i * 5) (by omega)).trans ((li_at _ i p (bumped_at _ i psy p hp)).1.trans (by rw [hk1]))
                have f0 := hown.frozenAt (i * 5)
                have hst := hown.stored (i * 5) (.int .i64 ((k : Int) + (N : Int)))
                have e := bumped_set (N : Nat) i psy p hp
                rw [hk1] at e
                rw [e] at hst
                have HST := hide hst.1
                have HG := hide (hgr.trans hst.2)
                clear hst he hp e hown hgr hk1
                have hm1 : maxLen = 9223372036854775807 := rfl
                rw [hm1] at hc2
                go_wp2
                go_roundw
                case rel => exact ⟨i + 1, by omega, by go_num, unhide HST, unhide HG⟩
                case measure => simp [RowKit.intOf]; omega
              · obtain rfl : i = M := by omega
                have Y5 : RowL wr w2.heap.size (.slice ya i yc) (psy.map (bump (N : Nat))) := by
                  refine ⟨?_, ?_⟩
                  · have h1 := bumped_all (N : Nat) psy
                    rw [unhide HM] at h1
                    rw [List.length_map, unhide HM, ← h1]; exact hown
                  · intro q hq
                    obtain ⟨q', hq', rfl⟩ := List.mem_map.1 hq
                    exact RowL.textsBy (unhide HY4).2 (unhide HY4).1 hgr q' hq'
                have X5 := (unhide HX4).keptBy (unhide HY4).1 hgr nXY.out
                have Z5 := (unhide HZ4).keptBy (unhide HY4).1 hgr nZY.out
                have hBr : Below w.heap.size w wr := belowG (unhide HB4) (by have := (unhide HB4).size; exact this) ((unhide HY4).1.mono (by omega)) hgr
                have hsr : w4.heap.size ≤ wr.heap.size := hgr.size
                have ONE : Hid (∀ u ∈ lineCells (psy.map (bump (N : Nat))), u.oneCell' = true) := lineCells_one _ Y5.2
                obtain ⟨i0, hi0, hz0, hz1, hz2⟩ := info_parts infoLine
                have X5r : wr.ownsRow w1.heap.size 47 5 (.slice xa N xc) N (lineCells psx) := by have := X5.1; rw [unhide HLX] at this; exact this
                have Y5r : wr.ownsRow w2.heap.size 47 5 (.slice ya i yc) i (lineCells (psy.map (bump (N : Nat)))) := by have := Y5.1; rw [List.length_map, unhide HM] at this; exact this
                have HX5 := hide X5
                have HY5 := hide Y5
                have HZ5 := hide Z5
                have HBr := hide hBr
                have HYR := hide Y5r
                have HXR := hide X5r
                clear X5 Y5 Z5 hBr hown hgr HX4 HY4 HZ4 HB4 nXY nZY HNOS X5r Y5r
                go_wp2_with (at_builtin; refine wpList_append_rows rfl _ _ 66 rfl w1.heap.size w2.heap.size 47 i0 _ 5 72 Tryd.underlying66 hi0 hz0 hz1 hz2 rfl (by decide) _ _ _ rfl (unhide HXR) _ _ _ rfl (unhide HYR) ONE.out (by unfold maxLen; omega) (by omega) (by omega) ?_; intro v' w5 hown' hgrow)
                have J := (unhide HX5).join (v' := v') (unhide HY5) b2 hgrow (by rw [List.length_map, unhide HM, unhide HLX]; exact hown')
                have Z6 := (unhide HZ5).keptBy (unhide HXR) hgrow nZX.out
                have HSA := hide (refSameAll_yes w3.heap.size w1.heap.size _ v' psz _ w5 hzl HZF.out HSAME.out Z6 J)
                have HB5 := hide (belowG (unhide HBr) (by have := (unhide HBr).size; exact this) ((unhide HXR).mono b1) hgrow)
                clear J Z6 hown' hgrow HX5 HY5 HZ5 HYR HXR
                go_wp2_with fail
                refine (unhide HSA).mono ?_
                rintro e w6 ⟨rfl, hb6⟩
                go_wp2
                go_ret
                exact ⟨rfl, (unhide HB5).trans (hb6.mono (unhide HB5).size)⟩
          · have hf3 := unhide HAPF no code hf2
            have HF3 := hide hf3
            have HFC1 := hide hfc2
            clear HAPF HAPK hf2 hf3 hfc2
            go_wp2_with fail
            refine (unhide HR3 _).mono ?_
            rintro e w4 ⟨hb4, hr3⟩
            rcases hr3 with ⟨h, _⟩ | ⟨no3, code3, fb3, hf, rfl, hfb3, hfc3⟩
            · rw [unhide HF3] at h; cases h
            rw [unhide HF3] at hf
            obtain ⟨rfl, rfl⟩ : no + N = no3 ∧ code = code3 := by
              have := Option.some.inj hf
              exact ⟨congrArg Prod.fst this, congrArg Prod.snd this⟩
            clear hf
            have hB4 : Below w.heap.size w w4 := hB3.trans (hb4.mono hB3.size)
            have hfc14 : w4.heap[fb]? = _ := blkA (unhide HFC1) hb4
            have HFC14 := hide hfc14
            have HFC3 := hide hfc3
            have hg4 := errType_below hg hB4
            have hno := read_num (a ++ b) (no + N) code (unhide HF3)
            rw [ByteArray.size_append] at hno
            clear HR1 HR2 HR3 HF3 hfc14 hfc3 HFC1 hb1 hb2 hb3 hb4 hB2 hB3 HRX HPX HLX
            go_wp2_with fail
            obtain ⟨W5, hW5⟩ : ∃ W5, (w4.alloc (.cells #[.pointer none] 71)).alloc (.cells #[.pointer none] 71) = W5 := ⟨_, rfl⟩
            have bel5 : Below w4.heap.size w4 W5 := by rw [← hW5]; go_grown
            have bx1 : Boxed W5 w4.heap.size 71 (.pointer none) := by rw [← hW5]; exact (Boxed.new w4 _ _).alloc _
            have bx2 : Boxed W5 (w4.heap.size + 1) 71 (.pointer none) := by rw [← hW5]; simpa [Boxed] using Boxed.new (w4.alloc (.cells #[.pointer none] 71)) 71 (.pointer none)
            have BX2 := hide bx2
            have BEL5 := hide bel5
            have HAS1 := hide (fun n => as_any ⟨fb, 0, none⟩ w4.heap.size (W5.drewN n) (errType_below hg4 (below_drewN bel5 n)) bx1)
            have hlt5 := bx2.lt
            rw [hW5]
            clear bel5 bx1 bx2 hW5
            refine MixW.start (by kernel_rfl) ?_
            refine MixW.seg (C := fun w' => ∃ n, w' = W5.drewN n) 0 2 39 (by kernel_rfl) ⟨1, rfl⟩ ?_
            simp only [Nat.reduceAdd, List.take_succ_cons, List.take_zero, List.drop_zero]
            repeat (go_big_quiet_step (fail))
            refine wpQuiet_nil ?_
            rintro _ ⟨n1, rfl⟩
            refine MixW.loud 2 2 37 _ _ (by decide) (by kernel_rfl) ?_
            simp only [Nat.reduceAdd, List.drop_succ_cons, List.drop_zero, List.take_succ_cons, List.take_zero]
            go_wp2_with fail
            refine (unhide HAS1 n1).mono ?_
            rintro e w6 ⟨rfl, hbx6, hold6, hbel6⟩
            have bel6 := hbel6 w4.heap.size w4 (Nat.le_refl _) (below_drewN (unhide BEL5) n1)
            have bx6 : Boxed w6 (w4.heap.size + 1) 71 (.pointer none) := (hold6 _ hlt5 (by omega)).trans (unhide BX2)
            have HAS2 := hide (fun n => as_any ⟨fb3, 0, none⟩ (w4.heap.size + 1) (w6.drewN n) (errType_below hg4 (below_drewN bel6 n)) bx6)
            have HBX6 := hide hbx6
            have BEL6 := hide bel6
            clear hbx6 hold6 hbel6 bel6 bx6 HAS1 BX2 BEL5
            go_wp2_with fail
            show wpAny _ _ _ _ 37 _ _ _
            refine MixW.seg (C := fun w' => ∃ n, w' = w6.drewN n) 4 2 35 (by kernel_rfl) ⟨0, rfl⟩ ?_
            simp only [Nat.reduceAdd, List.take_succ_cons, List.take_zero, List.drop_succ_cons, List.drop_zero]
            repeat (go_big_quiet_step (fail))
            refine wpQuiet_nil ?_
            rintro _ ⟨n2, rfl⟩
            refine MixW.loud 1 6 34 _ _ (by decide) (by kernel_rfl) ?_
            simp only [Nat.reduceAdd, List.drop_succ_cons, List.drop_zero, List.take_succ_cons, List.take_zero]
            go_wp2_with fail
            refine (unhide HAS2 n2).mono ?_
            rintro e w7 ⟨rfl, hbx7, hold7, hbel7⟩
            have bel7 : Below w4.heap.size w4 w7 := hbel7 w4.heap.size w4 (Nat.le_succ _) (below_drewN (unhide BEL6) n2)
            have bx7 : Boxed w7 w4.heap.size 71 (.pointer (some ⟨fb, 0, none⟩)) := (hold7 _ (unhide HBX6).lt (by omega)).trans (unhide HBX6)
            have c1 := bx7.cell
            have c2 := hbx7.cell
            have z1 := blkA (unhide HFC14) bel7
            have z3 := blkA (unhide HFC3) bel7
            have r1 : w7.cell? ⟨fb, 1, none⟩ = some (.int .i64 ((no : Nat))) := by simp [World.cell?, z1]
            have r2 : w7.cell? ⟨fb, 2, none⟩ = some (.int .i64 code) := by simp [World.cell?, z1]
            have r3 : w7.cell? ⟨fb3, 1, none⟩ = some (.int .i64 ((no : Int) + (N : Int))) := by simp [World.cell?, z3]
            have r4 : w7.cell? ⟨fb3, 2, none⟩ = some (.int .i64 code) := by simp [World.cell?, z3]
            have hB7 : Below w.heap.size w w7 := hB4.trans (bel7.mono hB4.size)
            clear bel7 bx7 hbx7 hold7 hbel7 z1 z3 HAS2 HBX6 BEL6 hB4 HFC14 HFC3
            go_wp2_with fail
            show wpAny _ _ _ _ 34 _ _ _
            refine MixW.last (C := fun w' => ∃ n, w' = w7.drewN n) 7 34 (by decide) (by kernel_rfl) (by kernel_rfl) ⟨0, rfl⟩ ?_
            simp only [List.drop_succ_cons, List.drop_zero]
            repeat (go_big_quiet_step (fail))
            refine wpQuiet_nil ?_
            rintro _ ⟨n3, rfl⟩
            go_wp2
            go_ret
            exact ⟨rfl, below_drewN hB7 n3⟩
        · have hf3 := hap.1 no code hf1
          have HF3 := hide hf3
          have HFC1 := hide hfc1
          clear hap hf1 hf3 hfc1
          go_wp2_with fail
          refine (unhide HR2 _).mono ?_
          rintro e w3 ⟨hb3, hr2⟩
          obtain ⟨vy, ey, rfl⟩ : ∃ vy ey, e = .returned (.tuple #[vy, ey]) := by
            rcases hr2 with ⟨_, v, rfl, _⟩ | ⟨_, _, _, _, rfl, _⟩
            · exact ⟨_, _, rfl⟩
            · exact ⟨_, _, rfl⟩
          clear hr2
          go_wp2_with fail
          refine (unhide HR3 _).mono ?_
          rintro e w4 ⟨hb4, hr3⟩
          rcases hr3 with ⟨h, _⟩ | ⟨no3, code3, fb3, hf, rfl, hfb3, hfc3⟩
          · rw [unhide HF3] at h; cases h
          rw [unhide HF3] at hf
          obtain ⟨rfl, rfl⟩ : no = no3 ∧ code = code3 := by
            have := Option.some.inj hf
            exact ⟨congrArg Prod.fst this, congrArg Prod.snd this⟩
          clear hf
          have hB3 : Below w.heap.size w w3 := hB2.trans (hb3.mono hB2.size)
          have hB4 : Below w.heap.size w w4 := hB3.trans (hb4.mono hB3.size)
          have hfl2 : fb < w2.heap.size := (Array.getElem?_eq_some_iff.1 (unhide HFC1)).1
          have hfc14 : w4.heap[fb]? = _ := blkA (blkA (unhide HFC1) hb3) hb4
          have HFC14 := hide hfc14
          have HFC3 := hide hfc3
          have hg4 := errType_below hg hB4
          have hno := read_num (a ++ b) no code (unhide HF3)
          rw [ByteArray.size_append] at hno
          clear HR1 HR2 HR3 HF3 hfc14 hfc3 HFC1 hb1 hb2 hb3 hb4 hB2 hB3
          go_wp2_with fail
          obtain ⟨W5, hW5⟩ : ∃ W5, (w4.alloc (.cells #[.pointer none] 71)).alloc (.cells #[.pointer none] 71) = W5 := ⟨_, rfl⟩
          have bel5 : Below w4.heap.size w4 W5 := by rw [← hW5]; go_grown
          have bx1 : Boxed W5 w4.heap.size 71 (.pointer none) := by rw [← hW5]; exact (Boxed.new w4 _ _).alloc _
          have bx2 : Boxed W5 (w4.heap.size + 1) 71 (.pointer none) := by rw [← hW5]; simpa [Boxed] using Boxed.new (w4.alloc (.cells #[.pointer none] 71)) 71 (.pointer none)
          have BX2 := hide bx2
          have BEL5 := hide bel5
          have HAS1 := hide (fun n => as_any ⟨fb, 0, none⟩ w4.heap.size (W5.drewN n) (errType_below hg4 (below_drewN bel5 n)) bx1)
          have hlt5 := bx2.lt
          rw [hW5]
          clear bel5 bx1 bx2 hW5
          refine MixW.start (by kernel_rfl) ?_
          refine MixW.seg (C := fun w' => ∃ n, w' = W5.drewN n) 0 2 39 (by kernel_rfl) ⟨1, rfl⟩ ?_
          simp only [Nat.reduceAdd, List.take_succ_cons, List.take_zero, List.drop_zero]
          repeat (go_big_quiet_step (fail))
          refine wpQuiet_nil ?_
          rintro _ ⟨n1, rfl⟩
          refine MixW.loud 2 2 37 _ _ (by decide) (by kernel_rfl) ?_
          simp only [Nat.reduceAdd, List.drop_succ_cons, List.drop_zero, List.take_succ_cons, List.take_zero]
          go_wp2_with fail
          refine (unhide HAS1 n1).mono ?_
          rintro e w6 ⟨rfl, hbx6, hold6, hbel6⟩
          have bel6 := hbel6 w4.heap.size w4 (Nat.le_refl _) (below_drewN (unhide BEL5) n1)
          have bx6 : Boxed w6 (w4.heap.size + 1) 71 (.pointer none) := (hold6 _ hlt5 (by omega)).trans (unhide BX2)
          have HAS2 := hide (fun n => as_any ⟨fb3, 0, none⟩ (w4.heap.size + 1) (w6.drewN n) (errType_below hg4 (below_drewN bel6 n)) bx6)
          have HBX6 := hide hbx6
          have BEL6 := hide bel6
          clear hbx6 hold6 hbel6 bel6 bx6 HAS1 BX2 BEL5
          go_wp2_with fail
          show wpAny _ _ _ _ 37 _ _ _
          refine MixW.seg (C := fun w' => ∃ n, w' = w6.drewN n) 4 2 35 (by kernel_rfl) ⟨0, rfl⟩ ?_
          simp only [Nat.reduceAdd, List.take_succ_cons, List.take_zero, List.drop_succ_cons, List.drop_zero]
          repeat (go_big_quiet_step (fail))
          refine wpQuiet_nil ?_
          rintro _ ⟨n2, rfl⟩
          refine MixW.loud 1 6 34 _ _ (by decide) (by kernel_rfl) ?_
          simp only [Nat.reduceAdd, List.drop_succ_cons, List.drop_zero, List.take_succ_cons, List.take_zero]
          go_wp2_with fail
          refine (unhide HAS2 n2).mono ?_
          rintro e w7 ⟨rfl, hbx7, hold7, hbel7⟩
          have bel7 : Below w4.heap.size w4 w7 := hbel7 w4.heap.size w4 (Nat.le_succ _) (below_drewN (unhide BEL6) n2)
          have bx7 : Boxed w7 w4.heap.size 71 (.pointer (some ⟨fb, 0, none⟩)) := (hold7 _ (unhide HBX6).lt (by omega)).trans (unhide HBX6)
          have c1 := bx7.cell
          have c2 := hbx7.cell
          have z1 := blkA (unhide HFC14) bel7
          have z3 := blkA (unhide HFC3) bel7
          have r1 : w7.cell? ⟨fb, 1, none⟩ = some (.int .i64 ((no : Nat))) := by simp [World.cell?, z1]
          have r2 : w7.cell? ⟨fb, 2, none⟩ = some (.int .i64 code) := by simp [World.cell?, z1]
          have r3 : w7.cell? ⟨fb3, 1, none⟩ = some (.int .i64 ((no : Nat))) := by simp [World.cell?, z3]
          have r4 : w7.cell? ⟨fb3, 2, none⟩ = some (.int .i64 code) := by simp [World.cell?, z3]
          have hB7 : Below w.heap.size w w7 := hB4.trans (bel7.mono hB4.size)
          clear bel7 bx7 hbx7 hold7 hbel7 z1 z3 HAS2 HBX6 BEL6 hB4 HFC14 HFC3
          go_wp2_with fail
          show wpAny _ _ _ _ 34 _ _ _
          refine MixW.last (C := fun w' => ∃ n, w' = w7.drewN n) 7 34 (by decide) (by kernel_rfl) (by kernel_rfl) ⟨0, rfl⟩ ?_
          simp only [List.drop_succ_cons, List.drop_zero]
          repeat (go_big_quiet_step (fail))
          refine wpQuiet_nil ?_
          rintro _ ⟨n3, rfl⟩
          go_wp2
          go_ret
          exact ⟨rfl, below_drewN hB7 n3⟩
    · have d10 : ((bN a (a.size - 1) : Int) != 10) = true := by simp; omega
      go_wp2_with fail
      go_ret
      exact ⟨rfl, hb1⟩
end Go.Proofs.YtlaennakglhmjaaDoor

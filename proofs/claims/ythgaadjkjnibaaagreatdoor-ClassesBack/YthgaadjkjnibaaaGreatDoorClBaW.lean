/-
  ClassesBack: the walk.
-/
import Derived.Test.YthgaadjkjnibaaaGreatDoorNb
import Derived.Test.YthgaadjkjnibaaaGreatDoorCt
import Derived.Test.YthgaadjkjnibaaaGreatDoorAl
import Derived.Test.YthgaadjkjnibaaaGreatDoorClRe
namespace Go.Proofs.YthgaadjkjnibaaaGreatDoor
open Go.RowKit Go.PlainAid Go.Lib Go.PHexM Go.Shelf Go.PRow
set_option linter.unusedVariables false
set_option linter.unusedSimpArgs false

theorem missing7_any {w : World} {B bt bN bC : Nat} {vN vC vM : Value} {t : TabD} (hT : TabP w B bt bN bC vN vC vM t) (hml : t.ms.length ≤ 1073741825) :
    Calls Tryz.prog 7 #[.pointer (some ⟨bt, 0, none⟩)] w fun e w' => ∃ u, e = .returned u ∧ VM.RowP w' w.heap.size u t.ms ∧ Below w.heap.size w w' := by
  have hrM := hT.rM
  have HH := hide (held7_tab hT)
  have HC := hide (fun V (hV : Below w.heap.size w V) => VM.clone_any B vM t.ms V (hrM.below hV) (by omega))
  obtain ⟨ma, mc, hvM⟩ : ∃ a c, vM = .slice a t.ms.length c := by
    obtain ⟨a, c, e, _⟩ := VM.RowP.form hrM
    exact ⟨a, c, e⟩
  have fd := field7_2
  subst hvM
  clear hT hrM
  generalize t.ms = ms at *
  go_enter Tryz.func7, Tryz.ntmps7
  go_wp2_with fail
  refine (unhide HH).mono ?_
  rintro e w1 ⟨rfl, hb1⟩
  go_wp2_with fail
  refine (unhide HC _ hb1).mono ?_
  rintro e w2 ⟨u, rfl, hu, hb2, _⟩
  have hf := VM.RowP.form hu
  obtain ⟨a, c, rfl, _⟩ := hf
  go_wp2
  go_ret
  exact ⟨_, rfl, RowV.mono hu hb1.size, hb1.trans (hb2.mono hb1.size)⟩

/-- the cells of a piece in a row of stretches -/
theorem stretch_at7 {W : World} {B : Nat} {v : Value} {ps : List (Pc Int)} (h : VT.RowP W B v ps) {i : Nat} {p : Pc Int} (hp : ps[i]? = some p) :
    ∃ g cap, v = .slice (some ⟨g, 0, none⟩) ps.length cap ∧ W.cell? ⟨g, i * 3, none⟩ = some (.int .i32 p.lo) ∧ W.cell? ⟨g, i * 3 + 1, none⟩ = some (.int .i32 p.hi) ∧ W.cell? ⟨g, i * 3 + 2, none⟩ = some (.int .u8 p.val) := by
  have hi := (List.getElem?_eq_some_iff.1 hp).1
  rcases h.2 with ⟨a, rfl, hn⟩ | ⟨g, cap, cur, rfl, hb, hh, hc, hm, hs, ht⟩
  · omega
  · have hm2 : ps.length * 3 ≤ cur.size := by rw [hs]; exact Nat.mul_le_mul_right _ hc
    obtain ⟨c1, c2, c3⟩ := VT.cellsP_at ps i p hp
    exact ⟨g, cap, rfl, row_cell hh ht hm2 _ _ c1, row_cell hh ht hm2 _ _ c2, row_cell hh ht hm2 _ _ c3⟩

set_option maxRecDepth 100000 in
set_option maxHeartbeats 4000000 in
theorem same7_yes (ps : List (Pc Int)) (u v : Value) (Bu Bv : Nat) (w : World) (hl : ps.length ≤ 1114112) (hu : VT.RowP w Bu u ps) (hv : VT.RowP w Bv v ps) :
    Calls Tryz.prog 8 #[u, v, .int .i64 (-1)] w fun e w' => e = .returned (.bool true) ∧ Below w.heap.size w w' := by
  obtain ⟨ua, uc, rfl⟩ : ∃ a c, u = .slice a ps.length c := by
    obtain ⟨a, c, e, _⟩ := VT.RowP.form hu
    exact ⟨a, c, e⟩
  obtain ⟨va, vc, rfl⟩ : ∃ a c, v = .slice a ps.length c := by
    obtain ⟨a, c, e, _⟩ := VT.RowP.form hv
    exact ⟨a, c, e⟩
  obtain ⟨n, hn⟩ : ∃ n, ps.length = n := ⟨_, rfl⟩
  have HU := hide (fun V (hV : Below w.heap.size w V) => VT.RowP.below hu hV)
  have HV := hide (fun V (hV : Below w.heap.size w V) => VT.RowP.below hv hV)
  have HN := hide hn
  have hnn : ((n : Int) != (n : Int)) = false := by simp
  rw [hn] at hl ⊢
  clear hu hv hn
  go_enter Tryz.func8, Tryz.ntmps8
  go_wp2
  go_loopw [8] (fun v8 wr => ∃ i m : Nat, i ≤ n ∧ v8 = .int .i64 i ∧ wr = w.drewN m) (fun v8 _ => n - (RowKit.intOf v8).toNat)
  case atStart => exact ⟨0, 0, Nat.zero_le _, rfl, rfl⟩
  case round =>
    obtain ⟨i, m, hi, rfl, rfl⟩ := hrel
    obtain ⟨WX, hWX⟩ : ∃ WX, w.drewN m = WX := ⟨_, rfl⟩
    by_cases hlt : i < n
    · obtain ⟨x, hx⟩ : ∃ x, ps[i]? = some x := ⟨_, List.getElem?_eq_getElem (by rw [unhide HN]; exact hlt)⟩
      have hbx : Below w.heap.size w WX := by rw [← hWX]; exact below_drewN (Below.refl _ _) m
      obtain ⟨g, cap, e, c1, c2, c3⟩ := stretch_at7 (unhide HU WX hbx) hx
      injection e with e1 e2 e3
      subst e1
      subst e3
      obtain ⟨g', cap', e', d1, d2, d3⟩ := stretch_at7 (unhide HV WX hbx) hx
      injection e' with e1' e2' e3'
      subst e1'
      subst e3'
      have hlt' : (i : Int) < (n : Int) := by omega
      have hq1 : IntKind.i64.wrap ((i : Int) + 1) = (i : Int) + 1 := by rw [IntKind.wrap_i64]; omega
      rw [hWX]
      have HWX := hide hWX
      clear hWX hx hbx e2 e2'
      go_wp2
      go_quiet (fail)
      go_wp2
      go_roundw
      case rel => exact ⟨i + 1, m + nq, by omega, by go_num, by rw [← unhide HWX]; exact World.drewN_drewN _ _ _⟩
      case measure => simp [RowKit.intOf]; omega
    · rw [hWX]
      have HWX := hide hWX
      clear hWX
      obtain rfl : i = n := by omega
      go_wp2
      go_ret
      exact ⟨rfl, by rw [← unhide HWX]; exact below_drewN (Below.refl _ _) m⟩

set_option maxRecDepth 100000 in
set_option maxHeartbeats 8000000 in
theorem back7_walk (s : ByteArray) (w : World) (hm : MaxAt w) (hg : tz16At w) :
    Calls Tryz.prog 3 #[.string s] w fun e w' => e = .returned (.bool true) ∧ Below w.heap.size w w' := by
  have HA := hide (awake7_any w hm)
  by_cases hbig : 40000 < s.size
  · have hb' : (40000 : Int) < (s.size : Int) := by omega
    go_enter Tryz.func3, Tryz.ntmps3
    go_wp2_with (go_at_call 4; refine (unhide HA).mono ?_; rintro e w1 ⟨rfl, hb1⟩)
    go_ret
    exact ⟨rfl, hb1⟩
  have hb' : ¬ (40000 : Int) < (s.size : Int) := by omega
  obtain ⟨hbn, hlike⟩ := back_tab s
  have hbl := back_len s (by omega)
  obtain ⟨t, ht⟩ : ∃ t, (tabS s).1 = t := ⟨_, rfl⟩
  have ot : OkT t := by rw [← ht]; exact tabS_ok s
  have hms : (∀ p ∈ t.ms, 0 ≤ p.lo ∧ p.lo ≤ p.hi ∧ p.hi ≤ 1114111) ∧ t.ms.length ≤ 1073741825 := by
    obtain ⟨_, h2, h3⟩ := tabS_more s
    rw [ht] at h2 h3
    exact ⟨h2, by omega⟩
  rw [ht] at hbn hlike hbl
  obtain ⟨b2, hb2⟩ : ∃ b, S (writeT t) = b := ⟨_, rfl⟩
  rw [hb2] at hbn hlike hbl
  obtain ⟨t2, ht2⟩ : ∃ t, (tabS b2).1 = t := ⟨_, rfl⟩
  have ot2 : OkT t2 := by rw [← ht2]; exact tabS_ok b2
  rw [ht2] at hlike
  have hw1 : (⟨(writeT t).toArray⟩ : ByteArray) = b2 := hb2
  have hw2 : (⟨(writeT t2).toArray⟩ : ByteArray) = b2 := by rw [like_write ot ot2 hlike]; exact hb2
  have hn2 := like_named ot ot2 hlike
  have hh2 := like_whole ot ot2 hlike
  have hm2 := hlike.ms
  have HR := hide (fun V (hV : Below w.heap.size w V) => read7_any ⟨#[120]⟩ s V (by omega) (hm.below hV))
  have HR2 := hide (fun V (hV : Below w.heap.size w V) => read7_any ⟨#[121]⟩ b2 V hbl (hm.below hV))
  have HT := hide ht
  have HT2 := hide ht2
  have HBN := hide hbn
  have HW1 := hide hw1
  have HW2 := hide hw2
  have HN2 := hide hn2
  have HH2 := hide hh2
  have HM2 := hide hm2
  have HMS := hide hms
  have HOK := hide ot
  have HG := hide (fun V (hV : Below w.heap.size w V) => tz16_below7 hg hV)
  clear ht ht2 hbn hlike hbl hb2 hw1 hw2 hn2 hh2 hm2 hms ot ot2 hm hg
  go_enter Tryz.func3, Tryz.ntmps3
  go_wp2_with fail
  refine (unhide HA).mono ?_
  rintro e w1 ⟨rfl, hb1⟩
  go_wp2_with fail
  refine (unhide HR _ hb1).mono ?_
  rintro e w2 ⟨hb2, (⟨hnone, bt, rfl, hT⟩ | ⟨no, code, fb, hsome, rfl, hfb, hfc⟩)⟩
  · rw [unhide HT] at hT
    obtain ⟨bN, bC, vN, vC, vM, hT⟩ := hT
    have hw2 := hb1.trans (hb2.mono hb1.size)
    have HT1 := hide (fun V (hV : Below w2.heap.size w2 V) => hT.below hV)
    clear hT hnone HR HA hb2 hb1
    have HWA := hide (write7_tab (unhide HT1 _ (Below.refl _ _)) (unhide HG _ hw2) (unhide HMS).1 (unhide HMS).2)
    rw [unhide HW1] at HWA
    go_wp2_with fail
    refine (unhide HWA).mono ?_
    rintro e w3 ⟨rfl, hb3⟩
    have hw3 := hw2.trans (hb3.mono hw2.size)
    clear HWA
    go_wp2_with fail
    refine (unhide HR2 _ hw3).mono ?_
    rintro e w4 ⟨hb4, (⟨hnone, bu, rfl, hU⟩ | ⟨no, code, fb, hsome, rfl, hfb, hfc⟩)⟩
    · rw [unhide HT2] at hU
      obtain ⟨cN, cC, uN, uC, uM, hU⟩ := hU
      have HU1 := hide (fun V (hV : Below w4.heap.size w4 V) => hU.below hV)
      have hw4 := hw3.trans (hb4.mono hw3.size)
      have hb24 := hb3.trans (hb4.mono hb3.size)
      clear hU hnone
      have HWB := hide (write7_tab (unhide HU1 _ (Below.refl _ _)) (unhide HG _ hw4) (by rw [unhide HM2]; exact (unhide HMS).1) (by rw [unhide HM2]; exact (unhide HMS).2))
      rw [unhide HW2] at HWB
      go_wp2_with fail
      refine (unhide HWB).mono ?_
      rintro e w5 ⟨rfl, hb5⟩
      have hw5 := hw4.trans (hb5.mono hw4.size)
      have hb25 := hb24.trans (hb5.mono hb24.size)
      clear HWB
      have HMA := hide (missing7_any (unhide HT1 _ hb25) (unhide HMS).2)
      go_wp2_with fail
      refine (unhide HMA).mono ?_
      rintro e w6 ⟨ua, rfl, hua, hb6⟩
      have hw6 := hw5.trans (hb6.mono hw5.size)
      have hb26 := hb25.trans (hb6.mono hb25.size)
      have hb46 := hb5.trans (hb6.mono hb5.size)
      clear HMA
      have HMB := hide (missing7_any (unhide HU1 _ hb46) (by rw [unhide HM2]; exact (unhide HMS).2))
      rw [unhide HM2] at HMB
      go_wp2_with fail
      refine (unhide HMB).mono ?_
      rintro e w7 ⟨ub, rfl, hub, hb7⟩
      have hw7 := hw6.trans (hb7.mono hw6.size)
      have hb27 := hb26.trans (hb7.mono hb26.size)
      have hb47 := hb46.trans (hb7.mono hb46.size)
      clear HMB
      have hua7 := VM.RowP.below hua hb7
      have hml := (unhide HMS).2
      obtain ⟨ms, hmse⟩ : ∃ ms, t.ms = ms := ⟨_, rfl⟩
      rw [hmse] at hua7 hub hml
      obtain ⟨a1, c1, rfl⟩ : ∃ a c, ua = .slice a ms.length c := by
        obtain ⟨a, c, e, _⟩ := VM.RowP.form hua7
        exact ⟨a, c, e⟩
      obtain ⟨a2, c2, rfl⟩ : ∃ a c, ub = .slice a ms.length c := by
        obtain ⟨a, c, e, _⟩ := VM.RowP.form hub
        exact ⟨a, c, e⟩
      obtain ⟨n, hn⟩ : ∃ n, ms.length = n := ⟨_, rfl⟩
      have HN := hide hn
      have HUA := hide (fun V (hV : Below w7.heap.size w7 V) => VM.RowP.below hua7 hV)
      have HUB := hide (fun V (hV : Below w7.heap.size w7 V) => VM.RowP.below hub hV)
      rw [hn] at hml ⊢
      have hnn : ((n : Int) != (n : Int)) = false := by simp
      have HB27 := hide hb27
      have HB47 := hide hb47
      have HW7 := hide hw7
      clear hua hua7 hub hn hmse hb6 hb7 hb27 hb47 hb26 hb46 hb25 hb24 hw2 hw3 hw4 hw5 hw6 hw7 hb3 hb4 hb5
      go_wp2
      go_loopw [9] (fun v9 wr => ∃ i m : Nat, i ≤ n ∧ v9 = .int .i64 i ∧ wr = w7.drewN m) (fun v9 _ => n - (RowKit.intOf v9).toNat)
      case atStart => exact ⟨0, 0, Nat.zero_le _, rfl, rfl⟩
      case round =>
        obtain ⟨i, m, hi, rfl, rfl⟩ := hrel
        obtain ⟨WX, hWX⟩ : ∃ WX, w7.drewN m = WX := ⟨_, rfl⟩
        have hbx : Below w7.heap.size w7 WX := by rw [← hWX]; exact below_drewN (Below.refl _ _) m
        by_cases hlt : i < n
        · obtain ⟨x, hx⟩ : ∃ x, ms[i]? = some x := ⟨_, List.getElem?_eq_getElem (by rw [unhide HN]; exact hlt)⟩
          obtain ⟨g, cap, e, d1, d2, d3⟩ := miss_at (unhide HUA WX hbx) hx
          injection e with e1 e2 e3
          subst e1
          subst e3
          obtain ⟨g', cap', e', d4, d5, d6⟩ := miss_at (unhide HUB WX hbx) hx
          injection e' with e1' e2' e3'
          subst e1'
          subst e3'
          have hlt' : (i : Int) < (n : Int) := by omega
          have hq1 : IntKind.i64.wrap ((i : Int) + 1) = (i : Int) + 1 := by rw [IntKind.wrap_i64]; omega
          rw [hWX]
          have HWX := hide hWX
          clear hWX hx hbx e2 e2'
          go_wp2
          go_quiet (fail)
          go_wp2
          go_roundw
          case rel => exact ⟨i + 1, m + nq, by omega, by go_num, by rw [← unhide HWX]; exact World.drewN_drewN _ _ _⟩
          case measure => simp [RowKit.intOf]; omega
        · rw [hWX]
          clear hWX
          obtain rfl : i = n := by omega
          have hwx := (unhide HW7).trans (hbx.mono (unhide HW7).size)
          have hb2x := (unhide HB27).trans (hbx.mono (unhide HB27).size)
          have hb4x := (unhide HB47).trans (hbx.mono (unhide HB47).size)
          have etk : ∀ l, tookP (-1) l = l := fun l => rfl
          have hl1 : (namedP t).length ≤ 1114112 := VC.okP_len (named_ok (unhide HOK))
          have hl2 : (wholeP t).length ≤ 1114112 := VC.okP_len (whole_ok (unhide HOK))
          have H1 := hide (told_named (unhide HT1 _ hb2x) (-1))
          go_wp2_with fail
          refine (unhide H1).mono ?_
          rintro e x1 ⟨u1, rfl, hu1, hx1⟩
          rw [etk] at hu1
          have hwx1 := hwx.trans (hx1.mono hwx.size)
          have hb2x1 := hb2x.trans (hx1.mono hb2x.size)
          have hb4x1 := hb4x.trans (hx1.mono hb4x.size)
          have H2 := hide (told_named (unhide HU1 _ hb4x1) (-1))
          go_wp2_with fail
          refine (unhide H2).mono ?_
          rintro e x2 ⟨u2, rfl, hu2, hx2⟩
          rw [etk, unhide HN2] at hu2
          have hwx2 := hwx1.trans (hx2.mono hwx1.size)
          have hb2x2 := hb2x1.trans (hx2.mono hb2x1.size)
          have hb4x2 := hb4x1.trans (hx2.mono hb4x1.size)
          have H3 := hide (same7_yes (namedP t) u1 u2 _ _ x2 hl1 (VT.RowP.below hu1 hx2) hu2)
          go_wp2_with fail
          refine (unhide H3).mono ?_
          rintro e x3 ⟨rfl, hx3⟩
          have hwx3 := hwx2.trans (hx3.mono hwx2.size)
          have hb2x3 := hb2x2.trans (hx3.mono hb2x2.size)
          have hb4x3 := hb4x2.trans (hx3.mono hb4x2.size)
          clear H1 H2 H3 hu1 hu2
          have H1 := hide (told_whole (unhide HT1 _ hb2x3) (-1))
          go_wp2_with fail
          refine (unhide H1).mono ?_
          rintro e x4 ⟨u3, rfl, hu3, hx4⟩
          rw [etk] at hu3
          have hwx4 := hwx3.trans (hx4.mono hwx3.size)
          have hb4x4 := hb4x3.trans (hx4.mono hb4x3.size)
          have H2 := hide (told_whole (unhide HU1 _ hb4x4) (-1))
          go_wp2_with fail
          refine (unhide H2).mono ?_
          rintro e x5 ⟨u4, rfl, hu4, hx5⟩
          rw [etk, unhide HH2] at hu4
          have hwx5 := hwx4.trans (hx5.mono hwx4.size)
          have H3 := hide (same7_yes (wholeP t) u3 u4 _ _ x5 hl2 (VT.RowP.below hu3 hx5) hu4)
          go_wp2_with fail
          refine (unhide H3).mono ?_
          rintro e x6 ⟨rfl, hx6⟩
          have hwx6 := hwx5.trans (hx6.mono hwx5.size)
          go_wp2
          go_ret
          exact ⟨rfl, hwx6⟩
    · exact absurd hsome (by rw [unhide HBN]; simp)
  · go_wp2
    go_ret
    exact ⟨rfl, hb1.trans (hb2.mono hb1.size)⟩
end Go.Proofs.YthgaadjkjnibaaaGreatDoor

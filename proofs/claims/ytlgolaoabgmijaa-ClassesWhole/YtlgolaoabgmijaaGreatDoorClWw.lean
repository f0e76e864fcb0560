/-
  ClassesWhole: the walk.
-/
import Derived.Test.YtlgolaoabgmijaaGreatDoorCt
import Derived.Test.YtlgolaoabgmijaaGreatDoorAl
import Derived.Lib.QuietBelow
namespace Go.Proofs.YtlgolaoabgmijaaGreatDoor
open Go.RowKit Go.PlainAid Go.Lib Go.PHexM Go.Shelf Go.PRow
set_option linter.unusedVariables false
set_option linter.unusedSimpArgs false

/-- the cells of a piece in a row of stretches -/
theorem stretch_at {W : World} {B : Nat} {v : Value} {ps : List (Pc Int)} (h : VT.RowP W B v ps) {i : Nat} {p : Pc Int} (hp : ps[i]? = some p) :
    ∃ g cap, v = .slice (some ⟨g, 0, none⟩) ps.length cap ∧ W.cell? ⟨g, i * 3, none⟩ = some (.int .i32 p.lo) ∧ W.cell? ⟨g, i * 3 + 1, none⟩ = some (.int .i32 p.hi) ∧ W.cell? ⟨g, i * 3 + 2, none⟩ = some (.int .u8 p.val) := by
  have hi := (List.getElem?_eq_some_iff.1 hp).1
  rcases h.2 with ⟨a, rfl, hn⟩ | ⟨g, cap, cur, rfl, hb, hh, hc, hm, hs, ht⟩
  · omega
  · have hm2 : ps.length * 3 ≤ cur.size := by rw [hs]; exact Nat.mul_le_mul_right _ hc
    obtain ⟨c1, c2, c3⟩ := VT.cellsP_at ps i p hp
    exact ⟨g, cap, rfl, row_cell hh ht hm2 _ _ c1, row_cell hh ht hm2 _ _ c2, row_cell hh ht hm2 _ _ c3⟩

set_option maxRecDepth 100000 in
set_option maxHeartbeats 4000000 in
theorem whole_walk (s : ByteArray) (w : World) (hm : MaxAt w) :
    Calls Tryz.prog 6 #[.string s] w fun e w' => e = .returned (.bool true) ∧ Below w.heap.size w w' := by
  have HA := hide (awake7_any w hm)
  by_cases hbig : 40000 < s.size
  · have hb' : (40000 : Int) < (s.size : Int) := by omega
    go_enter Tryz.func6, Tryz.ntmps6
    go_wp2_with (go_at_call 10; refine (unhide HA).mono ?_; rintro e w1 ⟨rfl, hb1⟩)
    go_ret
    exact ⟨rfl, hb1⟩
  have hb' : ¬ (40000 : Int) < (s.size : Int) := by omega
  have HR := hide (fun V (hV : Below w.heap.size w V) => read7_any ⟨#[120]⟩ s V (by omega) (hm.below hV))
  obtain ⟨t, ht⟩ : ∃ t, (tabS s).1 = t := ⟨_, rfl⟩
  have good : GoodT t := by rw [← ht]; exact tabS_good s
  have HT' := hide ht
  clear ht hm
  go_enter Tryz.func6, Tryz.ntmps6
  go_wp2_with fail
  refine (unhide HA).mono ?_
  rintro e w1 ⟨rfl, hb1⟩
  go_wp2_with fail
  refine (unhide HR _ hb1).mono ?_
  rintro e w2 ⟨hb2, (⟨hnone, bt, rfl, hT⟩ | ⟨no, code, fb, hsome, rfl, hfb, hfc⟩)⟩
  · rw [unhide HT'] at hT
    obtain ⟨bN, bC, vN, vC, vM, hT⟩ := hT
    have hok := hT.ok
    have hw2 := hb1.trans (hb2.mono hb1.size)
    have HTW := hide (fun V (hV : Below w2.heap.size w2 V) => told_whole (hT.below hV) (-1))
    have HTN := hide (fun V (hV : Below w2.heap.size w2 V) => told_named (hT.below hV) (-1))
    have HCL := hide (fun V (hV : Below w2.heap.size w2 V) (r : Int) => class7_any (TabAt.below ⟨bN, bC, vN, vC, vM, hT⟩ hV) r)
    have HGV := hide (fun V (hV : Below w2.heap.size w2 V) (r : Int) => given7_any (TabAt.below ⟨bN, bC, vN, vC, vM, hT⟩ hV) r)
    have HLN := hide (fun V (hV : Below w2.heap.size w2 V) (r : Int) => line7_any (TabAt.below ⟨bN, bC, vN, vC, vM, hT⟩ hV) r)
    clear hT hnone HR HA
    have HGOOD := hide good
    have HOK := hide hok
    have HW2 := hide hw2
    clear good hok hw2 hb2 hb1
    have etk : ∀ l, tookP (-1) l = l := fun l => rfl
    go_wp2_with fail
    refine (unhide HTW _ (Below.refl _ _)).mono ?_
    rintro e w3 ⟨u, rfl, hu, hb3⟩
    rw [etk] at hu
    obtain ⟨ss, hss⟩ : ∃ ss, wholeP t = ss := ⟨_, rfl⟩
    have hsl : ss.length ≤ 1114112 := by rw [← hss]; exact VC.okP_len (whole_ok (unhide HOK))
    have HSS := hide hss
    rw [hss] at hu
    clear hss
    have hul : ∃ a c, u = .slice a ss.length c := by
      obtain ⟨a, c, e, _⟩ := VT.RowP.form hu
      exact ⟨a, c, e⟩
    obtain ⟨ua, uc, rfl⟩ := hul
    have HU := hide hu
    clear hu
    go_wp2
    go_loopg [5, 6, 8] ss.length (fun kx s5 s6 s8 wr => ∃ i : Nat, s8 = .int .i64 i ∧ i ≤ ss.length ∧ kx = ss.length - i ∧ s5 = .int .i32 (endP 0 (ss.take i)) ∧ s6 = .int .u8 (lastV ss i) ∧ Below w3.heap.size w3 wr)
    case atStart => exact ⟨0, rfl, Nat.zero_le _, by simp, rfl, rfl, Below.refl _ _⟩
    case round =>
      obtain ⟨i, rfl, hi1, rfl, rfl, rfl, hbw⟩ := hrel
      by_cases hlt : i < ss.length
      · obtain ⟨p, hp⟩ : ∃ p, ss[i]? = some p := ⟨_, List.getElem?_eq_getElem hlt⟩
        have hp' : (wholeP t)[i]? = some p := by rw [unhide HSS]; exact hp
        obtain ⟨k1, k2, k3, k4, k5, k6, k7⟩ := whole_each (unhide HOK) (unhide HGOOD) hp'
        rw [unhide HSS] at k1 k3
        rw [← k1]
        obtain ⟨g, cap, e, c1, c2, c3⟩ := stretch_at (VT.RowP.below (unhide HU) hbw) hp
        injection e with e1 e2 e3
        subst e1
        subst e3
        have hb3w := hb3.trans (hbw.mono hb3.size)
        have HC1 := hide (fun dq os => unhide HCL (Sort.grow (redrawn wr dq) os) (hb3w.trans ((below_regrown wr dq os).mono hb3w.size)) p.lo)
        have HC2 := hide (fun dq os => unhide HCL (Sort.grow (redrawn wr dq) os) (hb3w.trans ((below_regrown wr dq os).mono hb3w.size)) p.hi)
        rw [k4] at HC1
        rw [k5] at HC2
        have X0 := fun dq os => cell_regrown c1 dq os
        have X1 := fun dq os => cell_regrown c2 dq os
        have X2 := fun dq os => cell_regrown c3 dq os
        have hlt' : (i : Int) < (ss.length : Int) := by omega
        have hq1 : IntKind.i64.wrap ((i : Int) + 1) = (i : Int) + 1 := by rw [IntKind.wrap_i64]; omega
        have hq2 : IntKind.i32.wrap (p.hi + 1) = p.hi + 1 := by rw [IntKind.wrap_i32]; omega
        have d2 : decide (p.hi < p.lo) = false := by simpa using k2
        have d3 : (p.val == lastV ss i) = false := by simpa using k3
        have en1 : endP 0 (ss.take (i + 1)) = p.hi + 1 := endP_take_succ ss 0 hp
        have en2 : lastV ss (i + 1) = p.val := by show ((ss[i]?).map (·.val)).getD 0 = p.val; rw [hp]; rfl
        have HEN := hide (And.intro en1 en2)
        have HK1 := hide k1
        have HBW := hide hbw
        generalize lastV ss i = lv at *
        clear en1 en2 k1 k2 k3 k4 k5 hp' hp hbw hb3w
        go_wp2_with fail
        refine wp_region_quiet_below (by kernel_rfl) (by kernel_rfl) ?_
        repeat (go_big_quiet_step (first | (go_at_call 17; first | (with_reducible exact Calls.regrown_of (unhide HC1 _ _)) | (with_reducible exact Calls.regrown_of (unhide HC2 _ _)))))
        refine wpQuiet_nil ?_
        intro _ hw'
        obtain ⟨⟨dq, osq⟩, hw''⟩ := hw'
        subst hw''
        have hb5 : Below wr.heap.size wr (Sort.grow (redrawn wr dq) osq) := below_regrown wr dq osq
        have c1' := X0 dq osq
        have c2' := X1 dq osq
        have c3' := X2 dq osq
        generalize Sort.grow (redrawn wr dq) osq = W5 at hb5 c1' c2' c3' ⊢
        simp only [Exit.then]
        clear X0 X1 X2 HC1 HC2 c1 c2 c3
        go_wp2
        go_roundg (ss.length - (i + 1))
        case measure => omega
        case rel => exact ⟨i + 1, by simp, by omega, rfl, by rw [(unhide HEN).1], by rw [(unhide HEN).2], (unhide HBW).trans (hb5.mono (unhide HBW).size)⟩
      · have hin : i = ss.length := by omega
        have hlt' : ¬ ((i : Int) < (ss.length : Int)) := by omega
        have hend : endP 0 (ss.take i) = 1114112 := by
          rw [hin, List.take_length, ← unhide HSS]
          exact whole_end (unhide HOK) (unhide HGOOD)
        rw [hend]
        have hb3w := hb3.trans (hbw.mono hb3.size)
        clear hend hin
        go_wp2_with fail
        refine (unhide HTN _ hb3w).mono ?_
        rintro e w4 ⟨u4, rfl, hu4, hb4⟩
        rw [etk] at hu4
        obtain ⟨ns, hns⟩ : ∃ ns, namedP t = ns := ⟨_, rfl⟩
        have hnl : ns.length ≤ 1114112 := by rw [← hns]; exact VC.okP_len (named_ok (unhide HOK))
        have HNS := hide hns
        rw [hns] at hu4
        clear hns
        obtain ⟨va, vc, rfl⟩ : ∃ a c, u4 = .slice a ns.length c := by
          obtain ⟨a, c, e, _⟩ := VT.RowP.form hu4
          exact ⟨a, c, e⟩
        have HU4 := hide hu4
        have hb4w := hb3w.trans (hb4.mono hb3w.size)
        clear hu4 hb3w hbw hb4 hlt hlt'
        go_wp2
        go_loopg [10] ns.length (fun kx s10 wr => ∃ j : Nat, s10 = .int .i64 j ∧ j ≤ ns.length ∧ kx = ns.length - j ∧ Below w4.heap.size w4 wr)
        case atStart => exact ⟨0, rfl, Nat.zero_le _, by simp, Below.refl _ _⟩
        case round =>
          obtain ⟨j, rfl, hj1, rfl, hbq⟩ := hrel
          by_cases hlt : j < ns.length
          · obtain ⟨p, hp⟩ : ∃ p, ns[j]? = some p := ⟨_, List.getElem?_eq_getElem hlt⟩
            have hp' : p ∈ namedP t := by rw [unhide HNS]; exact List.mem_of_getElem? hp
            obtain ⟨ga, gb, k1, k2, k3, k4, k5, k6⟩ := named_each (unhide HOK) (unhide HGOOD) hp'
            obtain ⟨g, cap, e, c1, c2, c3⟩ := stretch_at (VT.RowP.below (unhide HU4) hbq) hp
            injection e with e1 e2 e3
            subst e1
            subst e3
            have hbqw := hb4w.trans (hbq.mono hb4w.size)
            have HG1 := hide (unhide HGV wr hbqw p.lo)
            have HG2 := hide (fun V (hV : Below wr.heap.size wr V) => unhide HGV V (hbqw.trans (hV.mono hbqw.size)) p.hi)
            have HC1 := hide (fun V (hV : Below wr.heap.size wr V) => unhide HCL V (hbqw.trans (hV.mono hbqw.size)) p.lo)
            have HL1 := hide (fun V (hV : Below wr.heap.size wr V) => unhide HLN V (hbqw.trans (hV.mono hbqw.size)) p.hi)
            rw [k1] at HG1
            rw [k2] at HG2 HL1
            rw [k5] at HC1
            simp only [Option.getD_some, Option.isSome_some] at HG1 HG2 HL1
            rw [k3] at HG1
            rw [k4] at HG2
            have hlt' : (j : Int) < (ns.length : Int) := by omega
            have hq1 : IntKind.i64.wrap ((j : Int) + 1) = (j : Int) + 1 := by rw [IntKind.wrap_i64]; omega
            have d6 : decide (gb.2 < 1) = false := by simp; omega
            have HBQ := hide hbq
            clear k1 k2 k3 k4 k5 k6 hp hp' hbq hbqw
            go_wp2_with fail
            refine (unhide HG1).mono ?_
            rintro e w5 ⟨rfl, hb5⟩
            have c1a := (hb5.cell (World.block_lt_of_cell? _ _ c1)).trans c1
            have c2a := (hb5.cell (World.block_lt_of_cell? _ _ c2)).trans c2
            have c3a := (hb5.cell (World.block_lt_of_cell? _ _ c3)).trans c3
            clear c1 c2 c3
            go_wp2_with fail
            refine (unhide HG2 _ hb5).mono ?_
            rintro e w6 ⟨rfl, hb6⟩
            have c1 := (hb6.cell (World.block_lt_of_cell? _ _ c1a)).trans c1a
            have c2 := (hb6.cell (World.block_lt_of_cell? _ _ c2a)).trans c2a
            have c3 := (hb6.cell (World.block_lt_of_cell? _ _ c3a)).trans c3a
            have hb56 := hb5.trans (hb6.mono hb5.size)
            clear c1a c2a c3a HG1 HG2
            go_wp2_with fail
            refine (unhide HC1 _ hb56).mono ?_
            rintro e w7 ⟨rfl, hb7⟩
            have hb57 := hb56.trans (hb7.mono hb56.size)
            have c1a := (hb7.cell (World.block_lt_of_cell? _ _ c1)).trans c1
            have c2a := (hb7.cell (World.block_lt_of_cell? _ _ c2)).trans c2
            have c3a := (hb7.cell (World.block_lt_of_cell? _ _ c3)).trans c3
            clear c1 c2 c3
            go_wp2_with fail
            refine (unhide HL1 _ hb57).mono ?_
            rintro e w8 ⟨rfl, hb8⟩
            have hb58 := hb57.trans (hb8.mono hb57.size)
            clear c1a c2a c3a HC1 HL1
            go_wp2
            go_roundg (ns.length - (j + 1))
            case measure => omega
            case rel => exact ⟨j + 1, by simp, by omega, rfl, (unhide HBQ).trans (hb58.mono (unhide HBQ).size)⟩
          · have hin : j = ns.length := by omega
            have hlt' : ¬ ((j : Int) < (ns.length : Int)) := by omega
            have hbqw := hb4w.trans (hbq.mono hb4w.size)
            clear hin
            go_wp2
            go_ret
            exact ⟨rfl, (unhide HW2).trans (hbqw.mono (unhide HW2).size)⟩
  · go_wp2
    go_ret
    exact ⟨rfl, hb1.trans (hb2.mono hb1.size)⟩
end Go.Proofs.YtlgolaoabgmijaaGreatDoor

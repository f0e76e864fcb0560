/-
  PointsOver: the law's walk.
-/
import Derived.Test.YtompifmfgjenlaaGreatPOvB
import Derived.BigFrameIn
import Derived.BigGuardIn
import Derived.BigRegionIn
namespace Go.Proofs.YtompifmfgjenlaaGreat
open Go.RowKit Go.PlainAid Go.Lib Go.PRow Go.Shelf Go.Seq4
attribute [local go_sem] Oper.semAt_some
set_option linter.unusedVariables false
set_option linter.unusedSimpArgs false

theorem box_below {w V V' : World} {k : Nat} {o : Obj} (h : V.heap[k]? = some o) (hb : Below V.heap.size V V') : V'.heap[k]? = some o := (hb.block k (Array.getElem?_eq_some_iff.1 h).1).trans h

set_option maxRecDepth 100000 in
set_option maxHeartbeats 8000000 in
theorem over_walk (m : Int) (a b c d : Option Addr) (ca cb cc cd : Nat) (La Lb Lc : List (Int × Int)) (vl : List Int) (w : World) (hm : w.cell? ⟨0, 0, none⟩ = some (.int .i64 m))
    (ha : ReadsG4 w a La) (hb : ReadsG4 w b Lb) (hc : ReadsG4 w c Lc) (hd : ReadsI4 w d vl) :
    Calls Tryz.prog 3 #[.slice a La.length ca, .slice b Lb.length cb, .slice c Lc.length cc, .slice d vl.length cd] w fun e w' => e = .returned (.bool true) ∧ Below w.heap.size w w' := by
  have hmB : 0 < w.heap.size := World.block_lt_of_cell? _ _ hm
  obtain ⟨W1, hW1⟩ : ∃ W1, W1 = w.alloc (.cells #[.bool false] 4) := ⟨_, rfl⟩
  have hb1 : Below w.heap.size w W1 := by rw [hW1]; exact (Below.refl _ w).alloc (Nat.le_refl _) _
  have hx1 : W1.heap[w.heap.size]? = some (.cells #[.bool false] 4 (0, 0)) := by rw [hW1]; exact heap_alloc_new w _
  have HLV := hide (fun V (hV : Below w.heap.size w V) => lives_any m V ((hV.cell hmB).trans hm))
  have HA := hide (fun V (hV : Below w.heap.size w V) => of_map a d ca cd La vl V (ha.below hV) (hd.below hV))
  have HB := hide (fun V (hV : Below w.heap.size w V) => of_map b d cb cd Lb vl V (hb.below hV) (hd.below hV))
  have HC := hide (fun V (hV : Below w.heap.size w V) => of_map c d cc cd Lc vl V (hc.below hV) (hd.below hV))
  generalize La.length = na at *
  generalize Lb.length = nb at *
  generalize Lc.length = nc at *
  generalize vl.length = nv at *
  clear ha hb hc hd hm
  refine (callsIn_wide (n := 12)).1 ?_
  refine callsIn_of_wp_marks Tryz.func3 rfl trivial ?_ rfl
  simp only [Tryz.ntmps3, List.size_toArray, List.length_cons, List.length_nil, Nat.reduceAdd, Nat.reduceSub, Array.replicate_succ, Array.replicate_zero, List.push_toArray, List.append_toArray, List.nil_append, List.cons_append]
  have hF : ∀ f, Fence.wide.fn f := fun _ => trivial
  gi_wp2_with fail
  rw [← hW1]
  clear hW1
  refine (callsIn_wide.2 (unhide HA W1 hb1)).mono ?_
  rintro e w2 ⟨bx, xs, rfl, mx, h12⟩
  have hb2 := hb1.trans (h12.mono hb1.size)
  have hx2 := box_below (w := w) hx1 h12
  gi_wp2_with fail
  refine (callsIn_wide.2 (unhide HB w2 hb2)).mono ?_
  rintro e w3 ⟨by', ys, rfl, my, h23⟩
  have hb3 := hb2.trans (h23.mono hb2.size)
  have hx3 := box_below (w := w) hx2 h23
  have mx3 := mx.below h23
  gi_wp2_with fail
  refine (callsIn_wide.2 (unhide HC w3 hb3)).mono ?_
  rintro e w4 ⟨bz, zs, rfl, mz, h34⟩
  have hb4 := hb3.trans (h34.mono hb3.size)
  have hx4 := box_below (w := w) hx3 h34
  have mx4 := mx3.below h34
  have my4 := my.below h34
  have ox := mx4.1
  have oy := my4.1
  have oz := mz.1
  gi_wp2_with fail
  refine (callsIn_wide.2 (unhide HLV w4 hb4)).mono ?_
  rintro e w5 ⟨rfl, h45⟩
  have hb5 := hb4.trans (h45.mono hb4.size)
  have hx5 := box_below (w := w) hx4 h45
  have mx5 := mx4.below h45
  have my5 := my4.below h45
  have mz5 := mz.below h45
  clear HA HB HC HLV hx1 hx2 hx3 hx4 mx mx3 mx4 my my4 mz h12 h23 h34 h45 hb1 hb2 hb3 hb4
  have H := hide (over_maps mx5 my5)
  gi_wp2_with fail
  refine (callsIn_wide.2 (unhide H)).mono ?_
  rintro e w6 ⟨b6, rfl, m6, h56⟩
  have H' := hide (over_maps m6 (mz5.below h56))
  gi_wp2_with fail
  refine (callsIn_wide.2 (unhide H')).mono ?_
  rintro e w7 ⟨b7, rfl, m7, h67⟩
  have h57 := h56.trans (h67.mono h56.size)
  have hb7 := hb5.trans (h57.mono hb5.size)
  have hx7 := box_below (w := w) hx5 h57
  have mx7 := mx5.below h57
  have my7 := my5.below h57
  have mz7 := mz5.below h57
  clear H H' mx5 my5 mz5 m6 h56 h67 h57 hx5 hb5
  have H := hide (over_maps my7 mz7)
  gi_wp2_with fail
  refine (callsIn_wide.2 (unhide H)).mono ?_
  rintro e w8 ⟨b8, rfl, m8, h78⟩
  have H' := hide (over_maps (mx7.below h78) m8)
  gi_wp2_with fail
  refine (callsIn_wide.2 (unhide H')).mono ?_
  rintro e w9 ⟨b9, rfl, m9, h89⟩
  have h79 := h78.trans (h89.mono h78.size)
  have hb9 := hb7.trans (h79.mono hb7.size)
  have hx9 := box_below (w := w) hx7 h79
  have mx9 := mx7.below h79
  have m79 := m7.below h79
  clear H H' mx7 my7 mz7 m7 m8 h78 h89 h79 hx7 hb7
  have H := hide (turnIB mx9)
  gi_wp2_with fail
  refine (callsIn_wide.2 (unhide H)).mono ?_
  rintro e wa ⟨ba, rfl, ma, h9a⟩
  have H' := hide (turnBS ma)
  gi_wp2_with fail
  refine (callsIn_wide.2 (unhide H')).mono ?_
  rintro e wb ⟨bb, rfl, mb, hab⟩
  have h9b := h9a.trans (hab.mono h9a.size)
  have hbb := hb9.trans (h9b.mono hb9.size)
  have hxb := box_below (w := w) hx9 h9b
  have mxb := mx9.below h9b
  have m7b := m79.below h9b
  have m9b := m9.below h9b
  clear H H' mx9 m79 m9 ma h9a hab h9b hx9 hb9
  have H := hide (turnIS mxb)
  gi_wp2_with fail
  refine (callsIn_wide.2 (unhide H)).mono ?_
  rintro e wc ⟨bc, rfl, mc, hbc⟩
  have H' := hide (turnZ (mxb.below hbc))
  gi_wp2_with fail
  refine (callsIn_wide.2 (unhide H')).mono ?_
  rintro e wd ⟨bd, rfl, md, hcd⟩
  have hbd := hbc.trans (hcd.mono hbc.size)
  have hbwd := hbb.trans (hbd.mono hbb.size)
  have hxd := box_below (w := w) hxb hbd
  have mxd := mxb.below hbd
  have m7d := m7b.below hbd
  have m9d := m9b.below hbd
  have mbd := mb.below hbd
  have mcd := mc.below hcd
  clear H H' mxb m7b m9b mb mc hbc hcd hbd hxb hbb
  have H := hide (sizeS_map md)
  rw [turP_size, strs_size] at H
  gi_wp2_with fail
  refine (callsIn_wide.2 (unhide H)).mono ?_
  rintro e we ⟨rfl, hde⟩
  have H' := hide (sizeI_map (mxd.below hde))
  gi_wp2_with fail
  refine (callsIn_wide.2 (unhide H')).mono ?_
  rintro e wf ⟨rfl, hef⟩
  have hdf := hde.trans (hef.mono hde.size)
  have hbf := hbwd.trans (hdf.mono hbwd.size)
  have hxf := box_below (w := w) hxd hdf
  have mxf := mxd.below hdf
  have m7f := m7d.below hdf
  have m9f := m9d.below hdf
  have mbf := mbd.below hdf
  have mcf := mcd.below hdf
  have mdf := md.below hdf
  have qsz : (sizeP xs != sizeP xs) = false := by simp
  have fnil : ∀ (lb : Array Value) (W : World), (binOp .eql 38 (.func (.func 41) #[] lb) .nilFunc).run Tryz.prog W = .ok (.bool false) W := fun _ _ => by kernel_rfl
  clear H H' mxd m7d m9d mbd mcd md hde hef hdf hxd hbwd
  generalize sizeP xs = sz at qsz ⊢
  gi_wp2_with (gi_at_call 15; with_reducible refine CallsIn.mono (callsIn_wide.2 (VS.all_in bd _)) ?_; rintro e V7 ⟨rfl, rfl⟩)
  obtain ⟨W0, hW0⟩ : ∃ W0, (wf.alloc (.cells #[.pointer (some ⟨bd, 0, none⟩)] 28)).alloc (.cells #[.pointer (some ⟨bd, 0, none⟩)] 28) = W0 := ⟨_, rfl⟩
  have hs0 : W0.heap.size = wf.heap.size + 2 := by rw [← hW0]; simp
  have hf0 : Below wf.heap.size wf W0 := by rw [← hW0]; exact ((Below.refl _ wf).alloc (Nat.le_refl _) _).alloc (by simp) _
  have p0 : W0.heap[wf.heap.size + 1]? = some (.cells #[.pointer (some ⟨bd, 0, none⟩)] 28 (0, 0)) := by
    rw [← hW0]; simpa using heap_alloc_new (wf.alloc (.cells #[.pointer (some ⟨bd, 0, none⟩)] 28)) (.cells #[.pointer (some ⟨bd, 0, none⟩)] 28)
  rw [hW0]
  clear hW0 fnil
  have hb0 := hbf.trans (hf0.mono hbf.size)
  have hx0 := box_below (w := w) hxf hf0
  have mx0 := mxf.below hf0
  have m70 := m7f.below hf0
  have m90 := m9f.below hf0
  have mb0 := mbf.below hf0
  have mc0 := mcf.below hf0
  have md0 := mdf.below hf0
  have hle : w.heap.size < W0.heap.size := (Array.getElem?_eq_some_iff.1 hx0).1
  clear mxf m7f m9f mbf mcf mdf hxf hbf hf0
  obtain ⟨od, ud, mmd, rrd⟩ := md0
  refine range4G (by omega) (gf := 41) (lb := #[.pointer (some ⟨wf.heap.size + 1, 0, none⟩)]) rfl (enters_of Tryz.func41 (by kernel_rfl) rfl)
    (VS.all_gives _ od _ (wf.heap.size + 1) bd ud (by omega) W0 p0 mmd rrd) (Below.refl _ _) (fun _ => rfl)
    (fun pre V => Below W0.heap.size W0 V) (fun c pre V => False)
    (ownFrom_below (Nat.le_refl _) (Nat.le_refl _)) (fun c => own_pure _ _) (CalmR.none _ _ _) (Below.refl _ _) ?fr ?assign ?body ?done ?stop
  case assign =>
    intro l2 x V K hK
    gi_wp2
    exact hK
  case body =>
    rintro l2 pre x V hl hsz2 ⟨r, hr⟩ hI hSp
    have hv := zero_val (p := x) ox (hSp.subset (List.mem_append_right _ (List.mem_singleton.2 rfl)))
    obtain ⟨xl, xh, xv⟩ := x
    simp only at hv
    subst hv
    gi_wp2
    exact ⟨KeepsFrom.refl _ _, KpR.refl _, hI⟩
  case done =>
    rintro D ps V hD hS hI hK
    have hbV := hb0.trans (hI.mono hb0.size)
    have hxV := box_below (w := w) hx0 hI
    have mxV := mx0.below hI
    have m7V := m70.below hI
    have m9V := m90.below hI
    have mbV := mb0.below hI
    have mcV := mc0.below hI
    clear hS hI mx0 m70 m90 mb0 mc0 hx0 hb0 mmd rrd p0 qsz
    have H := hide (sameI_yes m7V m9V (over_assoc ox oy oz))
    gi_wp2_with fail
    refine (callsIn_wide.2 (unhide H)).mono ?_
    rintro e x1 ⟨rfl, k1⟩
    have H := hide (over_maps (mxV.below k1) (mxV.below k1))
    gi_wp2_with fail
    refine (callsIn_wide.2 (unhide H)).mono ?_
    rintro e x2 ⟨c2, rfl, n2, k2⟩
    have k12 := k1.trans (k2.mono k1.size)
    have H := hide (sameI_yes n2 (mxV.below k12) (over_self ox))
    gi_wp2_with fail
    refine (callsIn_wide.2 (unhide H)).mono ?_
    rintro e x3 ⟨rfl, k3⟩
    have k13 := k12.trans (k3.mono k12.size)
    have H := hide (sameS_yes (mbV.below k13) (mcV.below k13) (turn_twice ox))
    gi_wp2_with fail
    refine (callsIn_wide.2 (unhide H)).mono ?_
    rintro e x4 ⟨rfl, k4⟩
    have k14 := k13.trans (k4.mono k13.size)
    have H := hide (over_low (mxV.below k14))
    gi_wp2_with fail
    refine (callsIn_wide.2 (unhide H)).mono ?_
    rintro e x5 ⟨c5, rfl, n5, k5⟩
    have k15 := k14.trans (k5.mono k14.size)
    have H := hide (sameI_yes n5 (mxV.below k15) (over_lowE ox))
    gi_wp2_with fail
    refine (callsIn_wide.2 (unhide H)).mono ?_
    rintro e x6 ⟨rfl, k6⟩
    have k16 := k15.trans (k6.mono k15.size)
    have H := hide (over_high (mxV.below k16))
    gi_wp2_with fail
    refine (callsIn_wide.2 (unhide H)).mono ?_
    rintro e x7 ⟨c7, rfl, n7, k7⟩
    have k17 := k16.trans (k7.mono k16.size)
    have H := hide (sameI_yes n7 (mxV.below k17) (over_highE ox))
    gi_wp2_with fail
    refine (callsIn_wide.2 (unhide H)).mono ?_
    rintro e x8 ⟨rfl, k8⟩
    have k18 := k17.trans (k8.mono k17.size)
    have hb8 := hbV.trans (k18.mono hbV.size)
    have hx8 := box_below (w := w) hxV k18
    have hK8 := box_below (w := w) hK k18
    have q9 : x8.cell? ⟨w.heap.size, 0, none⟩ = some (.bool false) := by simp [World.cell?, hx8]
    have f9 : x8.frozen? ⟨w.heap.size, 0, none⟩ = false := by simp [World.frozen?, hx8]
    have HX := hide (⟨hx8, hK8, hb8⟩ : x8.heap[w.heap.size]? = some (.cells #[.bool false] 4 (0, 0)) ∧ x8.heap[D]? = some (.deferred (some [])) ∧ Below w.heap.size w x8)
    clear H hx8 hK8 hb8 k1 k2 k3 k4 k5 k6 k7 k8 k12 k13 k14 k15 k16 k17 k18 n2 n5 n7 mxV m7V m9V mbV mcV hxV hbV hK
    gi_wp2
    obtain ⟨hrX, hKX, hbX⟩ := unhide HX
    have j1 : (x8.setCell ⟨w.heap.size, 0, none⟩ (.bool true)).heap[D]? = some (.deferred (some [])) := (Below.heap_setCell _ _ _ _ (by show D ≠ w.heap.size; omega)).trans hKX
    have j9 : (x8.setCell ⟨w.heap.size, 0, none⟩ (.bool true)).heap[w.heap.size]? = some (.cells #[.bool true] 4 (0, 0)) := by
      rw [setCell_eq_setRow x8 w.heap.size 0 _ _ _ _ hrX]
      exact setRow_heap x8 w.heap.size _ _ _ _ hrX
    have j10 : ((x8.setCell ⟨w.heap.size, 0, none⟩ (.bool true)).putObj D (.deferred none)).heap[w.heap.size]? = some (.cells #[.bool true] 4 (0, 0)) := (World.putObj_heap_other (by omega)).trans j9
    refine ⟨by simp, .inl ⟨_, _, rfl, run_takeDeferred j1, ?_⟩⟩
    refine ⟨.bool true, ?_, rfl, below_put (hbX.setCell (by simp) _) (by omega) _⟩
    simp [results, Tryz.results3, go_sem, World.cell?, j10]
  case stop =>
    rintro D c pre V hD hSp hx hK
    exact hx.elim
end Go.Proofs.YtompifmfgjenlaaGreat

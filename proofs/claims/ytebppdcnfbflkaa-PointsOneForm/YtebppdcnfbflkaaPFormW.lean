/-
  PointsOneForm: the law's walk.
-/
import Derived.Test.YtebppdcnfbflkaaPFormR
namespace Go.Proofs.Ytebppdcnfbflkaa
open Go.RowKit Go.PlainAid Go.Lib Go.PRow Go.Shelf Go.Seq4 VB
attribute [local go_sem] Oper.semAt_some
set_option linter.unusedVariables false
set_option linter.unusedSimpArgs false

set_option maxRecDepth 100000 in
set_option maxHeartbeats 4000000 in
theorem form_walk (m : Int) (a b : Option Addr) (c d : Nat) (L : List (Int × Int)) (vl : List Bool) (w : World) (hm : w.cell? ⟨0, 0, none⟩ = some (.int .i64 m)) (hL : ReadsG w a L) (hT : ReadsT w b vl) :
    Calls Try.prog 4 #[.slice a L.length c, .slice b vl.length d] w fun e w' => e = .returned (.bool true) ∧ Below w.heap.size w w' := by
  have hmB : 0 < w.heap.size := World.block_lt_of_cell? _ _ hm
  obtain ⟨W1, hW1⟩ : ∃ W1, W1 = w.alloc (.cells #[.bool false] 4) := ⟨_, rfl⟩
  have hs1 : W1.heap.size = w.heap.size + 1 := by rw [hW1]; simp
  have hb1 : Below w.heap.size w W1 := by rw [hW1]; exact (Below.refl _ w).alloc (Nat.le_refl _) _
  have hx1 : W1.heap[w.heap.size]? = some (.cells #[.bool false] 4 (0, 0)) := by rw [hW1]; exact heap_alloc_new w _
  have HLV := hide (fun V (hV : Below w.heap.size w V) => lives_any m V ((hV.cell hmB).trans hm))
  refine (callsIn_wide (n := 10)).1 ?_
  refine callsIn_of_wp_marks Try.func4 rfl trivial ?_ rfl
  simp only [Try.ntmps4, List.size_toArray, List.length_cons, List.length_nil, Nat.reduceAdd, Nat.reduceSub, Array.replicate_succ, Array.replicate_zero, List.push_toArray, List.append_toArray, List.nil_append, List.cons_append]
  have hF : ∀ f, Fence.wide.fn f := fun _ => trivial
  obtain ⟨n, hn⟩ : ∃ n, n = L.length := ⟨_, rfl⟩
  obtain ⟨nv, hnv⟩ : ∃ nv, nv = vl.length := ⟨_, rfl⟩
  rw [← hn, ← hnv]
  have HN := hide hn
  have HNV := hide hnv
  clear hn hnv hm
  by_cases hbig : 60 < n
  · have hbi : (60 : Int) < (n : Int) := by omega
    gi_wp2_with fail
    rw [← hW1]
    clear hW1
    refine (callsIn_wide.2 (unhide HLV W1 hb1)).mono ?_
    rintro e V1 ⟨rfl, hv1⟩
    have hbV1 := hb1.trans (hv1.mono hb1.size)
    have hxV1 := (hv1.block _ (by omega)).trans hx1
    have q9 : V1.cell? ⟨w.heap.size, 0, none⟩ = some (.bool false) := by simp [World.cell?, hxV1]
    have f9 : V1.frozen? ⟨w.heap.size, 0, none⟩ = false := by simp [World.frozen?, hxV1]
    gi_wp2
    have k9 : (V1.setCell ⟨w.heap.size, 0, none⟩ (.bool true)).heap[w.heap.size]? = some (.cells #[.bool true] 4 (0, 0)) := by
      rw [setCell_eq_setRow V1 w.heap.size 0 _ _ _ _ hxV1]
      exact setRow_heap V1 w.heap.size _ _ _ _ hxV1
    refine ⟨.bool true, ?_, rfl, hbV1.setCell (by simp) _⟩
    simp [results, Try.results4, go_sem, World.cell?, k9]
  · have hbi : ¬ (60 : Int) < (n : Int) := by omega
    gi_wp2_with fail
    rw [← hW1]
    clear hW1
    refine (callsIn_wide.2 (unhide HLV W1 hb1)).mono ?_
    rintro e V1 ⟨rfl, hv1⟩
    have hbV1 := hb1.trans (hv1.mono hb1.size)
    have hxV1 := (hv1.block _ (by omega)).trans hx1
    gi_wp2_with (gi_at_call 14; refine (callsIn_wide.2 (new_any _)).mono ?_; rintro e w' ⟨rfl, rfl⟩)
    obtain ⟨W2, hW2⟩ : ∃ W2, ((V1.alloc (.cells #[.bool true, .slice none 0 0] 95)).alloc (.cells #[.bool true, .slice none 0 0] 95)).alloc (.cells #[.pointer (some ⟨V1.heap.size + 1, 0, none⟩)] 42) = W2 := ⟨_, rfl⟩
    have hs2 : W2.heap.size = V1.heap.size + 3 := by rw [← hW2]; simp
    have hbV2 : Below V1.heap.size V1 W2 := by rw [← hW2]; exact (((Below.refl _ V1).alloc (Nat.le_refl _) _).alloc (by simp) _).alloc (by simp; omega) _
    have ma : IsMap W2 V1.heap.size (.slice none 0 0) := by
      rw [← hW2]
      exact ((Below.heap_alloc _ _ _ (by simp; omega)).trans (Below.heap_alloc _ _ _ (by simp))).trans (heap_alloc_new V1 _)
    have mb : IsMap W2 (V1.heap.size + 1) (.slice none 0 0) := by
      rw [← hW2]
      exact (Below.heap_alloc _ _ _ (by simp)).trans (by simpa using heap_alloc_new (V1.alloc (.cells #[.bool true, .slice none 0 0] 95)) (.cells #[.bool true, .slice none 0 0] 95))
    have bx : W2.heap[V1.heap.size + 2]? = some (.cells #[.pointer (some ⟨V1.heap.size + 1, 0, none⟩)] 42 (0, 0)) := by
      rw [← hW2]; simpa using heap_alloc_new ((V1.alloc (.cells #[.bool true, .slice none 0 0] 95)).alloc (.cells #[.bool true, .slice none 0 0] 95)) (.cells #[.pointer (some ⟨V1.heap.size + 1, 0, none⟩)] 42)
    have hbW2 := hbV1.trans (hbV2.mono hbV1.size)
    have hrs2 := (hbV2.block _ (by have := hv1.size; omega)).trans hxV1
    have hwa : w.heap.size < V1.heap.size := by have := hv1.size; omega
    rw [hW2]
    have e2 : V1.heap.size + 1 + 1 = V1.heap.size + 2 := rfl
    clear hW2 hbV2 hxV1 hv1 hbV1 hx1 hb1 hs1 HLV
    generalize V1.heap.size = ba at *
    have HRS := hide hrs2
    have HBX := hide bx
    have HMB := hide mb
    have HL := hide hL
    have HT := hide hT
    obtain ⟨i0, hi0, hz0, hz1, hz2⟩ := info_parts (show (Try.prog.info? 3).map (fun i => (i.zero, i.size, i.bytes)) = some (some (.int .i64 0), 1, 8) by kernel_rfl)
    clear hrs2 bx mb hL hT V1
    gi_loopw [7, 8] (fun v7 v8 wr => ∃ (i : Nat) (ks : List Nat) (va : Value) (pa : List (Pc Bool)), v8 = .int .i64 i ∧ i ≤ n ∧ wr.ownsRow W2.heap.size 3 1 v7 ks.length (ks.map fun (k : Nat) => Value.int .i64 (k : Nat)) ∧ IsMap wr ba va ∧ RowP wr W2.heap.size va pa ∧ OkP pa ∧ Hid (∀ x, atP pa x = atP (ks.map (pcAt L vl)) x) ∧ Hid (∀ k ∈ ks, k < n ∧ mayB (pcAt L vl k).lo (pcAt L vl k).hi = true) ∧ ks.length ≤ i ∧ Chg (fun k => k = ba) W2 wr) (fun _ v8 _ => n - (RowKit.intOf v8).toNat)
    case atStart => exact ⟨0, [], _, [], rfl, Nat.zero_le _, ⟨rfl, .inl ⟨rfl, rfl⟩⟩, ma, RowV.nil _ _ _ _ _, OkP.nil, fun _ => rfl, fun _ h => by simp at h, Nat.le_refl _, Chg.refl _ _⟩
    case round =>
      obtain ⟨i, ks, va, pa, rfl, hi, htk, hma, hra, hok, HAT, HMY, hkl, hch⟩ := hrel
      have hbw : Below w.heap.size w wr := hch.below hbW2 (by have := hbW2.size; omega) (fun k e => by omega)
      by_cases hlt : i < n
      · obtain ⟨⟨lo, hi'⟩, hp⟩ : ∃ p, L[i]? = some p := ⟨_, List.getElem?_eq_getElem (by have := unhide HN; omega)⟩
        obtain ⟨g, off, rfl, d0, d1⟩ := (unhide HL).below hbw i lo hi' hp
        have hpc : pcAt L vl i = ⟨lo, hi', vl.getD i false⟩ := by simp [pcAt, List.getD_eq_getElem?_getD, hp]
        have HPC := hide hpc
        clear hp hpc
        have hlt' : (i : Int) < (n : Int) := by omega
        have hsz : W2.heap.size ≤ wr.heap.size := hch.size
        have q6 : IntKind.i64.wrap ((i : Int) + 1) = (i : Int) + 1 := by rw [IntKind.wrap_i64]; omega
        gi_wp2_with fail
        refine wpIn_wide.2 ?_
        refine MixW.start (by kernel_rfl) ?_
        refine MixW.segD (C := fun w' => ∃ n, w' = wr.drewN n) 0 15 2 formDs (by kernel_rfl) ⟨1, rfl⟩ ?_
        simp only [Nat.reduceAdd, List.take_succ_cons, List.take_zero, List.drop_zero]
        obtain ⟨bv, hbv⟩ : ∃ p, vl.getD i false = p := ⟨_, rfl⟩
        by_cases hv : i < nv
        · obtain ⟨g2, off2, rfl, d2⟩ := (unhide HT).below hbw i bv (by rw [← hbv, List.getD_eq_getElem?_getD, List.getElem?_eq_getElem (by have := unhide HNV; omega)]; rfl)
          have hv' : decide ((i : Int) < (nv : Int)) = true := decide_eq_true (by omega)
          have HBV := hide hbv
          clear hbv
          · repeat (go_big_quiet_step (fail))
            refine wpQuiet_nil ?_
            rintro _ ⟨q, rfl⟩
            refine MixW.loud 1 15 1 _ _ (by decide) (by kernel_rfl) ?_
            simp only [Nat.reduceAdd, List.drop_succ_cons, List.drop_zero, List.take_succ_cons, List.take_zero]
            go_wp2_with fail
            refine (put_any ba va W2.heap.size pa hok lo hi' bv (wr.drewN q) hma (by simpa using hsz) hra).mono ?_
            rintro e w5 ⟨z, rfl, hz⟩
            go_wp2_with fail
            show wpAny _ _ _ _ 1 _ _ _
            refine MixW.last (C := fun w' => w' = w5) 16 1 (by decide) (by kernel_rfl) (by kernel_rfl) rfl ?_
            simp only [List.drop_succ_cons, List.drop_zero]
            repeat (go_big_quiet_step (fail))
            refine wpQuiet_nil ?_
            intro w6 hw6
            obtain rfl : w5 = w6 := hw6.symm
            simp only [Exit.then]
            have htk5 : (wr.drewN q).ownsRow W2.heap.size 3 1 u7 ks.length (ks.map fun (k : Nat) => Value.int .i64 (k : Nat)) := htk
            have hch5 : Chg (fun k => k = ba) W2 (wr.drewN q) := ⟨hch.os, hch.tape, hch.output, hch.size, hch.block⟩
            have hma5 : IsMap (wr.drewN q) ba va := hma
            have hra5 : RowP (wr.drewN q) W2.heap.size va pa := hra
            clear d0 d1
            rcases hz with ⟨rfl, hmy, hfr, va', hra', hmv⟩ | ⟨hz, hb5⟩
            · have htk6 := int_moved htk5 hma hra hmv
              have hch6 : Chg (fun k => k = ba) W2 w5 := Chg.step hch5 hmv.2.1 (fun j hj => hj.imp id fun e => (RowV.lt hra j e).1)
              have hle := mayB_iff.1 hmy
              have hok6 := rep_ok hok hle.1 hle.2.1 hle.2.2 (.inr ⟨bv, rfl⟩)
              have hat6 := fun x => at_put hok hle.2.1 hfr bv (unhide HAT) x
              have hs6 := hch6.size
              gi_wp2_with (gi_at_builtin; refine wpListIn_append_own _ rfl _ _ 31 rfl W2.heap.size 3 i0 (.int .i64 0) 1 8 Try.underlying31 hi0 hz0 hz1 hz2 rfl (by decide) _ _ _ rfl (htk6.alloc _) ⟨w5.heap.size, 0, none⟩ 1 1 [.int .i64 i] rfl rfl (cell_one_new _ _ _) (by simp [Value.oneCell']) (by unfold maxLen; omega) (by omega) (by simp; omega) ?_; intro v' w7 hown' hgrow _)
              go_roundw
              case rel =>
                have ek : ks.map (pcAt L vl) ++ [⟨lo, hi', bv⟩] = (ks ++ [i]).map (pcAt L vl) := by
                  rw [List.map_append, List.map_singleton, unhide HPC, unhide HBV]
                refine ⟨i + 1, ks ++ [i], va', _, by go_num, by omega, by simpa using hown', map_kept (htk6.alloc _) hgrow (hmv.1.below ((Below.refl _ w5).alloc (Nat.le_refl _) _)), rowP_kept (htk6.alloc _) hgrow (hra'.below ((Below.refl _ w5).alloc (Nat.le_refl _) _)), hok6, fun x => (hat6 x).trans (by rw [ek]), ?_, by simp; omega, Chg.grown (Chg.step hch6 (Below.chg ((Below.refl _ w5).alloc (Nat.le_refl _) _) (fun _ => False)) (fun _ h => h.elim)) (htk6.alloc _) (Nat.le_refl _) hgrow⟩
                intro k hk
                rcases List.mem_append.1 hk with hk | hk
                · exact unhide HMY k hk
                · obtain rfl := List.mem_singleton.1 hk
                  exact ⟨hlt, by rw [unhide HPC]; exact hmy⟩
              case measure => simp [RowKit.intOf]; omega
            · have hbz : (z == 0) = false := by simp [hz]
              gi_wp2
              go_roundw
              case rel => exact ⟨i + 1, ks, va, pa, by go_num, by omega, int_below htk5 hb5, hma5.below hb5, hra5.below hb5, hok, HAT, HMY, by omega, Chg.step hch5 (Below.chg hb5 (fun _ => False)) (fun _ h => h.elim)⟩
              case measure => simp [RowKit.intOf]; omega
        · have hv' : decide ((i : Int) < (nv : Int)) = false := decide_eq_false (by omega)
          have hbf : bv = false := by rw [← hbv, List.getD_eq_getElem?_getD, List.getElem?_eq_none (by have := unhide HNV; omega)]; rfl
          have HBV := hide hbv
          clear hbv
          subst hbf
          · repeat (go_big_quiet_step (fail))
            refine wpQuiet_nil ?_
            rintro _ ⟨q, rfl⟩
            refine MixW.loud 1 15 1 _ _ (by decide) (by kernel_rfl) ?_
            simp only [Nat.reduceAdd, List.drop_succ_cons, List.drop_zero, List.take_succ_cons, List.take_zero]
            go_wp2_with fail
            refine (put_any ba va W2.heap.size pa hok lo hi' false (wr.drewN q) hma (by simpa using hsz) hra).mono ?_
            rintro e w5 ⟨z, rfl, hz⟩
            go_wp2_with fail
            show wpAny _ _ _ _ 1 _ _ _
            refine MixW.last (C := fun w' => w' = w5) 16 1 (by decide) (by kernel_rfl) (by kernel_rfl) rfl ?_
            simp only [List.drop_succ_cons, List.drop_zero]
            repeat (go_big_quiet_step (fail))
            refine wpQuiet_nil ?_
            intro w6 hw6
            obtain rfl : w5 = w6 := hw6.symm
            simp only [Exit.then]
            have htk5 : (wr.drewN q).ownsRow W2.heap.size 3 1 u7 ks.length (ks.map fun (k : Nat) => Value.int .i64 (k : Nat)) := htk
            have hch5 : Chg (fun k => k = ba) W2 (wr.drewN q) := ⟨hch.os, hch.tape, hch.output, hch.size, hch.block⟩
            have hma5 : IsMap (wr.drewN q) ba va := hma
            have hra5 : RowP (wr.drewN q) W2.heap.size va pa := hra
            clear d0 d1
            rcases hz with ⟨rfl, hmy, hfr, va', hra', hmv⟩ | ⟨hz, hb5⟩
            · have htk6 := int_moved htk5 hma hra hmv
              have hch6 : Chg (fun k => k = ba) W2 w5 := Chg.step hch5 hmv.2.1 (fun j hj => hj.imp id fun e => (RowV.lt hra j e).1)
              have hle := mayB_iff.1 hmy
              have hok6 := rep_ok hok hle.1 hle.2.1 hle.2.2 (.inr ⟨false, rfl⟩)
              have hat6 := fun x => at_put hok hle.2.1 hfr false (unhide HAT) x
              have hs6 := hch6.size
              gi_wp2_with (gi_at_builtin; refine wpListIn_append_own _ rfl _ _ 31 rfl W2.heap.size 3 i0 (.int .i64 0) 1 8 Try.underlying31 hi0 hz0 hz1 hz2 rfl (by decide) _ _ _ rfl (htk6.alloc _) ⟨w5.heap.size, 0, none⟩ 1 1 [.int .i64 i] rfl rfl (cell_one_new _ _ _) (by simp [Value.oneCell']) (by unfold maxLen; omega) (by omega) (by simp; omega) ?_; intro v' w7 hown' hgrow _)
              go_roundw
              case rel =>
                have ek : ks.map (pcAt L vl) ++ [⟨lo, hi', false⟩] = (ks ++ [i]).map (pcAt L vl) := by
                  rw [List.map_append, List.map_singleton, unhide HPC, unhide HBV]
                refine ⟨i + 1, ks ++ [i], va', _, by go_num, by omega, by simpa using hown', map_kept (htk6.alloc _) hgrow (hmv.1.below ((Below.refl _ w5).alloc (Nat.le_refl _) _)), rowP_kept (htk6.alloc _) hgrow (hra'.below ((Below.refl _ w5).alloc (Nat.le_refl _) _)), hok6, fun x => (hat6 x).trans (by rw [ek]), ?_, by simp; omega, Chg.grown (Chg.step hch6 (Below.chg ((Below.refl _ w5).alloc (Nat.le_refl _) _) (fun _ => False)) (fun _ h => h.elim)) (htk6.alloc _) (Nat.le_refl _) hgrow⟩
                intro k hk
                rcases List.mem_append.1 hk with hk | hk
                · exact unhide HMY k hk
                · obtain rfl := List.mem_singleton.1 hk
                  exact ⟨hlt, by rw [unhide HPC]; exact hmy⟩
              case measure => simp [RowKit.intOf]; omega
            · have hbz : (z == 0) = false := by simp [hz]
              gi_wp2
              go_roundw
              case rel => exact ⟨i + 1, ks, va, pa, by go_num, by omega, int_below htk5 hb5, hma5.below hb5, hra5.below hb5, hok, HAT, HMY, by omega, Chg.step hch5 (Below.chg hb5 (fun _ => False)) (fun _ h => h.elim)⟩
              case measure => simp [RowKit.intOf]; omega
      · have hin : i = n := by omega
        obtain ⟨ta, tc, rfl, htc⟩ : ∃ ta tc, u7 = .slice ta ks.length tc ∧ ∀ (j k : Nat), ks[j]? = some k → ∃ g cur, ta = some ⟨g, 0, none⟩ ∧ wr.heap[g]? = some (.cells cur 3 (0, 0)) ∧ wr.cell? ⟨g, j, none⟩ = some (.int .i64 (k : Nat)) := by
          rcases htk.2 with ⟨rfl, hk0⟩ | ⟨g, cap, cur, rfl, hb', hh, hc1, hc2, hc3, hc4⟩
          · exact ⟨none, 0, by rw [hk0], fun j k hj => by rw [List.length_eq_zero_iff.1 hk0] at hj; simp at hj⟩
          · refine ⟨_, cap, rfl, fun j k hj => ⟨g, cur, rfl, hh, ?_⟩⟩
            have h1 : (ks.map fun (k : Nat) => Value.int .i64 (k : Nat))[j]? = some (.int .i64 (k : Nat)) := by simp [hj]
            rw [← hc4, List.getElem?_take, if_pos (by have := (List.getElem?_eq_some_iff.1 hj).1; omega)] at h1
            simpa [World.cell?, hh] using h1
        have hkn : ks.length ≤ n := by omega
        have hbb : IsMap wr (ba + 1) (.slice none 0 0) := (hch.block _ (by omega) (by omega)).trans (unhide HMB)
        have hbx : wr.heap[ba + 2]? = some (.cells #[.pointer (some ⟨ba + 1, 0, none⟩)] 42 (0, 0)) := (hch.block _ (by omega) (by omega)).trans (unhide HBX)
        have hrs : wr.heap[w.heap.size]? = some (.cells #[.bool false] 4 (0, 0)) := (hch.block _ (by omega) (by omega)).trans (unhide HRS)
        have hsz3 : W2.heap.size ≤ wr.heap.size := hch.size
        have q7 : IntKind.i64.wrap ((ks.length : Int) - 1) = (ks.length : Int) - 1 := by rw [IntKind.wrap_i64]; omega
        have HTC := hide htc
        have HBB := hide hbb
        have HBX3 := hide hbx
        have HRS3 := hide hrs
        have HSZ := hide (⟨hs2, hsz3, hwa⟩ : W2.heap.size = ba + 3 ∧ W2.heap.size ≤ wr.heap.size ∧ w.heap.size < ba)
        clear htk htc hbb hbx hrs hch HMB HBX HRS hlt hi
        subst hin
        gi_wp2
        obtain ⟨W3, hW3⟩ : ∃ W3, W3 = wr := ⟨_, rfl⟩
        rw [← hW3] at hma hra hbw HTC HBB HBX3 HRS3 HSZ ⊢
        clear hW3
        gi_loopw [9, 10] (fun v9 v10 wq => ∃ (j : Nat) (vb : Value) (pb : List (Pc Bool)), v9 = .int .i64 ((j : Int) - 1) ∧ j ≤ ks.length ∧ IsMap wq (ba + 1) vb ∧ RowP wq W3.heap.size vb pb ∧ OkP pb ∧ Hid (∀ x, atP pb x = atP ((ks.drop j).map (pcAt L vl)) x) ∧ Chg (fun k => k = ba + 1) W3 wq) (fun v9 _ _ => (RowKit.intOf v9 + 1).toNat)
        case atStart => exact ⟨ks.length, _, [], rfl, Nat.le_refl _, unhide HBB, RowV.nil _ _ _ _ _, OkP.nil, fun _ => by simp, Chg.refl _ _⟩
        case round =>
          obtain ⟨j, vb, pb, rfl, hj, hmb, hrb, hokb, HBT, hcb⟩ := hrel
          obtain ⟨z1, z2, z3⟩ := unhide HSZ
          have hbq : Below w.heap.size w wr := hcb.below hbw (by omega) (fun k e => by omega)
          cases j with
          | zero =>
            rw [show (((0 : Nat) : Int) - 1) = -1 from rfl]
            have hbt0 : ∀ x, atP pb x = atP (ks.map (pcAt L vl)) x := fun x => by simpa using unhide HBT x
            have hE : strsP eqv pa = strsP eqv pb := strs_one eqv eqv_iff hok hokb (unhide HAT) hbt0
            have hSz := size_one eqv hE
            have hma3 : IsMap wr ba va := (hcb.block _ (by have := hma.lt; omega) (by omega)).trans hma
            have hra3 : RowP wr W2.heap.size va pa := hra.kept fun g hg => hcb.block g (RowV.lt hra g hg).2 (by
              rintro rfl
              obtain ⟨_, cur, hc⟩ := blk_some hra hg
              have h' : W3.heap[ba + 1]? = _ := unhide HBB
              rw [h'] at hc; cases hc)
            have hbx : wr.heap[ba + 2]? = some (.cells #[.pointer (some ⟨ba + 1, 0, none⟩)] 42 (0, 0)) := (hcb.block _ (by omega) (by omega)).trans (unhide HBX3)
            have hrs : wr.heap[w.heap.size]? = some (.cells #[.bool false] 4 (0, 0)) := (hcb.block _ (by omega) (by omega)).trans (unhide HRS3)
            have cb : wr.cell? ⟨ba + 1 + 1, 0, none⟩ = some (.pointer (some ⟨ba + 1, 0, none⟩)) := by simp [World.cell?, hbx]
            have hT1 : eqL (strsP eqv pa) (strsP eqv pb) = true := (eqL_iff eqv_iff _ _).2 hE
            have HSm : Hid (∀ dq os, Calls Try.prog 17 #[.pointer (some ⟨ba, 0, none⟩), .pointer (some ⟨ba + 1, 0, none⟩)] (Sort.grow (redrawn wr dq) os) fun e w' => e = .returned (.bool true) ∧ Below (Sort.grow (redrawn wr dq) os).heap.size (Sort.grow (redrawn wr dq) os) w') := fun dq os => by
              have := same_maps ba (ba + 1) va vb W2.heap.size W3.heap.size pa pb hok hokb _ (hma3.below (below_regrown wr dq os)) (hra3.below (below_regrown wr dq os)) (hmb.below (below_regrown wr dq os)) (hrb.below (below_regrown wr dq os))
              rwa [hT1] at this
            have HLa := hide (fun dq os => len_map ba va W2.heap.size pa hok (Sort.grow (redrawn wr dq) os) (hma3.below (below_regrown wr dq os)) (hra3.below (below_regrown wr dq os)))
            have HLb := hide (fun dq os => len_map (ba + 1) vb W3.heap.size pb hokb (Sort.grow (redrawn wr dq) os) (hmb.below (below_regrown wr dq os)) (hrb.below (below_regrown wr dq os)))
            have HZa := hide (fun dq os => size_map ba va W2.heap.size pa hok (Sort.grow (redrawn wr dq) os) (hma3.below (below_regrown wr dq os)) (hra3.below (below_regrown wr dq os)))
            have HZb := hide (fun dq os => size_map (ba + 1) vb W3.heap.size pb hokb (Sort.grow (redrawn wr dq) os) (hmb.below (below_regrown wr dq os)) (hrb.below (below_regrown wr dq os)))
            rw [hE] at HLa
            rw [hSz] at HZa
            have y0 := fun dq os => cell_regrown cb dq os
            have HE := hide hE
            clear hE hSz hT1 hbt0
            generalize sizeP pb = Z at HZa HZb
            generalize (strsP eqv pb).length = N at HLa HLb
            gi_wp2_with fail
            refine wpIn_wide.2 ?_
            refine wp_region_quiet_below (by kernel_rfl) (by kernel_rfl) ?_
            repeat (go_big_quiet_step (first | (go_at_call 17; with_reducible exact Calls.regrown_of (unhide HSm _ _)) | (go_at_call 18; with_reducible exact Calls.regrown_of (unhide HLa _ _)) | (go_at_call 18; with_reducible exact Calls.regrown_of (unhide HLb _ _)) | (go_at_call 19; with_reducible exact Calls.regrown_of (unhide HZa _ _)) | (go_at_call 19; with_reducible exact Calls.regrown_of (unhide HZb _ _))))
            refine wpQuiet_nil ?_
            intro _ hw'
            obtain ⟨⟨dq, osq⟩, hw''⟩ := hw'
            subst hw''
            have hb5 : Below wr.heap.size wr (Sort.grow (redrawn wr dq) osq) := below_regrown wr dq osq
            generalize Sort.grow (redrawn wr dq) osq = W5 at hb5 ⊢
            simp only [Exit.then]
            clear y0
            have hlen : (strsP eqv pa).length ≤ 1114112 := Nat.le_trans (strs_len eqv pa) (okP_len hok)
            obtain ⟨r0, hr0, hy0, hy1, hy2⟩ := info_parts (show (Try.prog.info? 28).map (fun i => (i.zero, i.size, i.bytes)) = some (some (.agg #[.int .i32 0, .int .i32 0]), 2, 8) by kernel_rfl)
            have hfn := fn_nil 56
            gi_wp2_with (gi_at_call 20; with_reducible refine CallsIn.mono (callsIn_wide.2 (all_in ba _)) ?_; rintro e V7 ⟨rfl, rfl⟩)
            obtain ⟨W6, hW6⟩ : ∃ W6, (((W5.alloc (.cells #[.slice none 0 0] 41)).alloc (.cells #[.slice none 0 0] 41)).alloc (.cells #[.pointer (some ⟨ba, 0, none⟩)] 42)).alloc (.cells #[.pointer (some ⟨ba, 0, none⟩)] 42) = W6 := ⟨_, rfl⟩
            have hb6 : Below W5.heap.size W5 W6 := by rw [← hW6]; exact ((((Below.refl _ W5).alloc (Nat.le_refl _) _).alloc (by simp) _).alloc (by simp; omega) _).alloc (by simp; omega) _
            have hs6 : W6.heap.size = W5.heap.size + 4 := by rw [← hW6]; simp
            have o1 : W6.heap[W5.heap.size]? = some (.cells #[.slice none 0 0] 41 (0, 0)) := by rw [← hW6]; exact (((Below.heap_alloc _ _ _ (by simp; omega)).trans (Below.heap_alloc _ _ _ (by simp; omega))).trans (Below.heap_alloc _ _ _ (by simp))).trans (heap_alloc_new W5 _)
            have o2 : W6.heap[W5.heap.size + 1]? = some (.cells #[.slice none 0 0] 41 (0, 0)) := by rw [← hW6]; exact ((Below.heap_alloc _ _ _ (by simp)).trans (Below.heap_alloc _ _ _ (by simp))).trans (by simpa using heap_alloc_new (W5.alloc (.cells #[.slice none 0 0] 41)) (.cells #[.slice none 0 0] 41))
            have o3 : W6.heap[W5.heap.size + 1 + 1 + 1]? = some (.cells #[.pointer (some ⟨ba, 0, none⟩)] 42 (0, 0)) := by rw [← hW6]; simpa using heap_alloc_new (((W5.alloc (.cells #[.slice none 0 0] 41)).alloc (.cells #[.slice none 0 0] 41)).alloc (.cells #[.pointer (some ⟨ba, 0, none⟩)] 42)) (.cells #[.pointer (some ⟨ba, 0, none⟩)] 42)
            rw [hW6]
            clear hW6
            have hb56 := hb5.trans (hb6.mono hb5.size)
            refine range4B (by omega) (gf := 56) (lb := #[.pointer (some ⟨W5.heap.size + 1 + 1 + 1, 0, none⟩)]) rfl (enters_of Try.func56 (by kernel_rfl) rfl)
              (all_gives pa hok _ (W5.heap.size + 1 + 1 + 1) ba va (by omega) W6 o3 (hma3.below hb56) ((hra3.below hb56).mono (Nat.zero_le _))) (Below.refl _ _) (fun _ => rfl)
              (fun pre V => BoxR V W5.heap.size (W6.heap.size + 2 + T4) pre ∧ V.heap[W5.heap.size + 1]? = some (.cells #[.slice none 0 0] 41 (0, 0)) ∧ Below W5.heap.size W5 V ∧ W6.heap.size ≤ V.heap.size)
              (fun c pre V => False)
              ((own_boxR _ _ _).and ((own_block _ _ _ rfl).and ((ownFrom_below (Nat.le_refl _) (by omega)).and (own_size _ _))))
              (fun c => own_pure _ _) (CalmR.none _ _ _) ⟨⟨_, o1, rfl, .inl ⟨rfl, rfl⟩⟩, o2, hb6, Nat.le_refl _⟩
              (fun x => .cells #[.int .i32 x.lo, .int .i32 x.hi] 28 (0, 0)) (fun _ => rfl) ?fr ?assign ?body ?done ?stop
            case assign =>
              intro l2 x V K hK
              gi_wp2
              generalize hBx : V.heap.size = Bx
              exact hK Bx hBx.symm
            case body =>
              rintro l2 pre x Bx V hl hsz2 ⟨r, hr⟩ ⟨⟨vs, h1, h2⟩, h5, h3, h4⟩ hx1 hx2 hSp
              have hpl : pre.length + 1 ≤ 1114112 := by have := hSp.length_le; simp at this; omega
              have hAt := at_both hokb (unhide HE) hSp
              obtain ⟨xl, xh, xv⟩ := x
              simp only at hx1 hAt
              have hb5V : Below wr.heap.size wr V := hb5.trans (h3.mono hb5.size)
              have hA := callsIn_wide (n := 10 - 1 - 1 - 1) |>.2 (at_any (ba + 1) vb W3.heap.size pb hokb xl V (hmb.below hb5V) (hrb.below hb5V))
              rw [hAt] at hA
              have HA : Hid (CallsIn Fence.wide (10 - 1 - 1 - 1) Try.prog 21 #[.pointer (some ⟨ba + 1, 0, none⟩), .int .i32 xl] V fun e w' => e = .returned (.tuple #[.bool xv, .bool true]) ∧ Below V.heap.size V w') := hA
              have cbV : V.cell? ⟨ba + 1 + 1, 0, none⟩ = some (.pointer (some ⟨ba + 1, 0, none⟩)) := (hb5V.cell (by show ba + 2 < wr.heap.size; exact (Array.getElem?_eq_some_iff.1 hbx).1)).trans cb
              have y0 : V.cell? ⟨Bx, 0, none⟩ = some (.int .i32 xl) := by simp [World.cell?, hx1]
              have y1 : V.cell? ⟨Bx, 1, none⟩ = some (.int .i32 xh) := by simp [World.cell?, hx1]
              have qv : (xv != xv) = false := by simp
              have lt1 := (Array.getElem?_eq_some_iff.1 h1).1
              have ltx := (Array.getElem?_eq_some_iff.1 hx1).1
              have lt5 := (Array.getElem?_eq_some_iff.1 h5).1
              clear hA hAt
              obtain ⟨sa, sn, sc, rfl⟩ : ∃ a n c, vs = .slice a n c := by
                rcases h2.2 with ⟨rfl, _⟩ | ⟨g, cap, cur, rfl, _⟩
                · exact ⟨_, _, _, rfl⟩
                · exact ⟨_, _, _, rfl⟩
              gi_wp2_with (first
                | (gi_at_call 21; refine (unhide HA).mono ?_; rintro e V2 ⟨rfl, hbv⟩; have j1 := (hbv.block _ lt1).trans h1; have j2 := (hbv.block _ ltx).trans hx1; have jc : V2.cell? ⟨W5.heap.size, 0, none⟩ = some (.slice sa sn sc) := (by simp [World.cell?, j1]); have jb0 : V2.cell? ⟨Bx, 0, none⟩ = some (.int .i32 xl) := (by simp [World.cell?, j2]); have jb1 : V2.cell? ⟨Bx, 1, none⟩ = some (.int .i32 xh) := (by simp [World.cell?, j2]); have h2V : V2.ownsRow (W6.heap.size + 2 + T4) 28 2 (.slice sa sn sc) pre.length (cellsR pre) := rowR_kept h2 (fun g cur hh _ _ => hbv.block g (Array.getElem?_eq_some_iff.1 hh).1); have hsv := hbv.size)
                | (gi_at_builtin; refine wpListIn_append_own _ rfl _ _ 41 rfl (W6.heap.size + 2 + T4) 28 r0 (.agg #[.int .i32 0, .int .i32 0]) 2 8 Try.underlying41 hr0 hy0 hy1 hy2 rfl (by decide) _ _ _ rfl (h2V.alloc _) ⟨V2.heap.size, 0, none⟩ 1 1 [.int .i32 xl, .int .i32 xh] rfl rfl (cell_two_newR _ _ _ _) (by simp [Value.oneCell']) (by unfold maxLen; omega) (by omega) (by simp; omega) ?_; intro v' w7 hown' hgrow _; obtain ⟨g', cap', rfl⟩ := ownsRow_succ hown'; obtain ⟨q5, hbx', ko, hs', hkeep, hos⟩ := boxR_put (C := 0) (ps := pre ++ [⟨xl, xh, xv⟩]) j1 h2V (by omega) (by rw [List.length_append, cellsR_append]; exact hown') hgrow; have c5 : w7.cell? ⟨W5.heap.size, 0, none⟩ = some (.slice sa sn sc) := (by simp [World.cell?, q5]); have f5 : w7.frozen? ⟨W5.heap.size, 0, none⟩ = false := (by simp [World.frozen?, q5])))
              have kv : KeepsOthers V V2 := ⟨hbv.size, fun k o hk _ => (hbv.block k (Array.getElem?_eq_some_iff.1 hk).1).trans hk⟩
              refine ⟨(kv.trans ko).from _, ⟨(kv.trans ko).walks, fun k ob hk hc hx => ?_⟩, hbx', ?_, ?_, by omega⟩
              · have hkV := (Array.getElem?_eq_some_iff.1 hx).1
                rcases hk with hk | hk
                · exact (hkeep k (by omega) (by omega) (by omega)).trans ((hbv.block k hkV).trans hx)
                · exact hk.elim
              · exact (hkeep _ (by omega) (by omega) (by omega)).trans ((hbv.block _ lt5).trans h5)
              · refine ⟨hos.1.trans (hbv.os.trans h3.os), hos.2.1.trans (hbv.tape.trans h3.tape), hos.2.2.trans (hbv.output.trans h3.output), Nat.le_trans h3.size (by omega), fun k hk => ?_⟩
                have := h3.size
                exact (hkeep k (by omega) (by omega) (by omega)).trans ((hbv.block k (by omega)).trans (h3.block k hk))
            case done =>
              rintro D xs V hD hS ⟨hbxR, h5, h3, h4⟩ hK
              have hb5V : Below wr.heap.size wr V := hb5.trans (h3.mono hb5.size)
              have hDV := (Array.getElem?_eq_some_iff.1 hK).1
              have cbV : V.cell? ⟨ba + 1 + 1, 0, none⟩ = some (.pointer (some ⟨ba + 1, 0, none⟩)) := (hb5V.cell (by show ba + 2 < wr.heap.size; exact (Array.getElem?_eq_some_iff.1 hbx).1)).trans cb
              have cbV2 : (V.alloc (.cells #[.pointer (some ⟨ba + 1, 0, none⟩)] 42)).cell? ⟨ba + 1 + 1, 0, none⟩ = some (.pointer (some ⟨ba + 1, 0, none⟩)) := cell_alloc_sl _ cbV
              simp only [Exit.inBlock]
              gi_wp2_with (gi_at_call 20; with_reducible refine CallsIn.mono (callsIn_wide.2 (all_in (ba + 1) _)) ?_; rintro e V7 ⟨rfl, rfl⟩)
              obtain ⟨W7, hW7⟩ : ∃ W7, (V.alloc (.cells #[.pointer (some ⟨ba + 1, 0, none⟩)] 42)).alloc (.cells #[.pointer (some ⟨ba + 1, 0, none⟩)] 42) = W7 := ⟨_, rfl⟩
              have hb7 : Below V.heap.size V W7 := by rw [← hW7]; exact ((Below.refl _ V).alloc (Nat.le_refl _) _).alloc (by simp) _
              have hs7 : W7.heap.size = V.heap.size + 2 := by rw [← hW7]; simp
              have p3 : W7.heap[V.heap.size + 1]? = some (.cells #[.pointer (some ⟨ba + 1, 0, none⟩)] 42 (0, 0)) := by rw [← hW7]; simpa using heap_alloc_new (V.alloc (.cells #[.pointer (some ⟨ba + 1, 0, none⟩)] 42)) (.cells #[.pointer (some ⟨ba + 1, 0, none⟩)] 42)
              rw [hW7]
              have le7 : V.heap.size + 2 ≤ W7.heap.size := by omega
              clear hW7 cbV cbV2 hs7
              have hb57 := hb5V.trans (hb7.mono hb5V.size)
              have p2 := (hb7.block _ (Array.getElem?_eq_some_iff.1 h5).1).trans h5
              have hlenb : (strsP eqv pb).length ≤ 1114112 := Nat.le_trans (strs_len eqv pb) (okP_len hokb)
              refine range4B (by omega) (gf := 56) (lb := #[.pointer (some ⟨V.heap.size + 1, 0, none⟩)]) rfl (enters_of Try.func56 (by kernel_rfl) rfl)
                (all_gives pb hokb _ (V.heap.size + 1) (ba + 1) vb (by omega) W7 p3 (hmb.below hb57) ((hrb.below hb57).mono (Nat.zero_le _))) (Below.refl _ _) (fun _ => rfl)
                (fun pre Y => BoxR Y (W5.heap.size + 1) (W7.heap.size + 2 + T4) pre ∧ (W7.heap.size ≤ Y.heap.size ∧ ∀ k, k < W7.heap.size → k ≠ W5.heap.size + 1 → Y.heap[k]? = W7.heap[k]?) ∧ Below W5.heap.size W5 Y)
                (fun c pre V => False)
                ((own_boxR _ _ _).and ((own_low W7 _).and (ownFrom_below (Nat.le_refl _) (by omega))))
                (fun c => own_pure _ _) (CalmR.none _ _ _) ⟨⟨_, p2, rfl, .inl ⟨rfl, rfl⟩⟩, ⟨Nat.le_refl _, fun _ _ _ => rfl⟩, h3.trans (hb7.mono h3.size)⟩
                (fun x => .cells #[.int .i32 x.lo, .int .i32 x.hi] 28 (0, 0)) (fun _ => rfl) ?fr2 ?assign2 ?body2 ?done2 ?stop2
              case assign2 =>
                intro l2 x V K hK
                gi_wp2
                generalize hBx : V.heap.size = Bx
                exact hK Bx hBx.symm
              case body2 =>
                have le6 : W5.heap.size + 4 ≤ W6.heap.size := by omega
                clear hs6
                rintro l2 pre x Bx Y hl hsz2 ⟨r, hr⟩ ⟨⟨vs, h1, h2⟩, ⟨h8, h9⟩, h6⟩ hx1 hx2 hSp
                have hpl : pre.length + 1 ≤ 1114112 := by have := hSp.length_le; simp at this; omega
                obtain ⟨xl, xh, xv⟩ := x
                simp only at hx1
                have y0 : Y.cell? ⟨Bx, 0, none⟩ = some (.int .i32 xl) := by simp [World.cell?, hx1]
                have y1 : Y.cell? ⟨Bx, 1, none⟩ = some (.int .i32 xh) := by simp [World.cell?, hx1]
                have jc : Y.cell? ⟨W5.heap.size + 1, 0, none⟩ = some vs := by simp [World.cell?, h1]
                have hs5V := h3.size
                obtain ⟨sa, sn, sc, rfl⟩ : ∃ a n c, vs = .slice a n c := by
                  rcases h2.2 with ⟨rfl, _⟩ | ⟨g, cap, cur, rfl, _⟩
                  · exact ⟨_, _, _, rfl⟩
                  · exact ⟨_, _, _, rfl⟩
                gi_wp2_with (gi_at_builtin; refine wpListIn_append_own _ rfl _ _ 41 rfl (W7.heap.size + 2 + T4) 28 r0 (.agg #[.int .i32 0, .int .i32 0]) 2 8 Try.underlying41 hr0 hy0 hy1 hy2 rfl (by decide) _ _ _ rfl (h2.alloc _) ⟨Y.heap.size, 0, none⟩ 1 1 [.int .i32 xl, .int .i32 xh] rfl rfl (cell_two_newR _ _ _ _) (by simp [Value.oneCell']) (by unfold maxLen; omega) (by omega) (by simp; omega) ?_; intro v' w7 hown' hgrow _; obtain ⟨g', cap', rfl⟩ := ownsRow_succ hown'; obtain ⟨q5, hbx', ko, hs', hkeep, hos⟩ := boxR_put (C := 0) (ps := pre ++ [⟨xl, xh, xv⟩]) h1 h2 (by omega) (by rw [List.length_append, cellsR_append]; exact hown') hgrow; have c5 : w7.cell? ⟨W5.heap.size + 1, 0, none⟩ = some (.slice sa sn sc) := (by simp [World.cell?, q5]); have f5 : w7.frozen? ⟨W5.heap.size + 1, 0, none⟩ = false := (by simp [World.frozen?, q5]))
                refine ⟨ko.from _, ⟨ko.walks, fun k ob hk hc hx => ?_⟩, hbx', ⟨by omega, fun k hk hkb => (hkeep k (by omega) hkb (by omega)).trans (h9 k hk hkb)⟩, ?_⟩
                · have hkV := (Array.getElem?_eq_some_iff.1 hx).1
                  rcases hk with hk | hk
                  · exact (hkeep k hkV (by omega) (by omega)).trans hx
                  · exact hk.elim
                · refine ⟨hos.1.trans h6.os, hos.2.1.trans h6.tape, hos.2.2.trans h6.output, Nat.le_trans h6.size (by omega), fun k hk => ?_⟩
                  exact (hkeep k (by omega) (by omega) (by omega)).trans (h6.block k hk)
              case done2 =>
                rintro D2 ys Y hD2 hS2 ⟨hbx2, ⟨h8, h9⟩, h6⟩ hK2
                subst hS
                subst hS2
                obtain ⟨v1, x1, r1⟩ := hbxR
                obtain ⟨v2, x2, r2⟩ := hbx2
                rw [unhide HE] at r1
                have hkp : ∀ k, k < V.heap.size → k ≠ W5.heap.size + 1 → Y.heap[k]? = V.heap[k]? := fun k hk hne => (h9 k (by omega) hne).trans (hb7.block k hk)
                have lt1 := (Array.getElem?_eq_some_iff.1 x1).1
                have x1' := (hkp _ lt1 (by omega)).trans x1
                have r1' := rowR_kept (W' := Y) r1 (fun g cur hh hge _ => hkp g (Array.getElem?_eq_some_iff.1 hh).1 (by omega))
                have hKY : Y.heap[D]? = some (.deferred (some [])) := (hkp _ hDV (by omega)).trans hK
                have hl5 := h3.size
                have hrsY : Y.heap[w.heap.size]? = some (.cells #[.bool false] 4 (0, 0)) := (h6.block _ (by have := hb5.size; have := (Array.getElem?_eq_some_iff.1 hrs).1; omega)).trans ((hb5.block _ (Array.getElem?_eq_some_iff.1 hrs).1).trans hrs)
                obtain ⟨a1, c1, rfl, hc1⟩ := rowR_cells r1'
                obtain ⟨a2, c2, rfl, hc2⟩ := rowR_cells r2
                have hok2 := strs_ok eqv hokb
                have hbY : Below w.heap.size w Y := (hbq.trans (hb5.mono hbq.size)).trans (h6.mono (by have := hbq.size; have := hb5.size; omega))
                have y1 : Y.cell? ⟨W5.heap.size, 0, none⟩ = some (.slice a1 (strsP eqv pb).length c1) := by simp [World.cell?, x1']
                have y2 : Y.cell? ⟨W5.heap.size + 1, 0, none⟩ = some (.slice a2 (strsP eqv pb).length c2) := by simp [World.cell?, x2]
                have HSZ2 := hide (⟨hbq.size, hD, hD2, hs6, le7, hl5, hb5.size, (Array.getElem?_eq_some_iff.1 hrs).1⟩ : w.heap.size ≤ wr.heap.size ∧ W6.heap.size ≤ D ∧ W7.heap.size ≤ D2 ∧ W6.heap.size = W5.heap.size + 4 ∧ V.heap.size + 2 ≤ W7.heap.size ∧ W5.heap.size ≤ V.heap.size ∧ wr.heap.size ≤ W5.heap.size ∧ w.heap.size < wr.heap.size)
                have HC1 := hide hc1
                have HC2 := hide hc2
                have HOK2 := hide hok2
                have HRSY := hide hrsY
                have HBY := hide hbY
                have HKY := hide hKY
                have HK2 := hide hK2
                have HDV := hide hDV
                generalize strsP eqv pb = ss at *
                clear hc1 hc2 hok2 hrsY hbY hKY hK2 hDV r1' r2 r1 x1 x1' x2 lt1 hkp hb7 h9 h6 hK hD hD2 hb5V h3 h4 h5 p2 p3 hb57 hl5 hs6 le7 h8 hb5 hb6 hb56 hrs hbx hmb hrb hma3 hra3 cb HSm HLa HLb HZa HZb
                obtain ⟨nn, hnn⟩ : ∃ nn, ss.length = nn := ⟨_, rfl⟩
                rw [hnn] at y1 y2
                rw [hnn] at hlenb
                have HNN := hide hnn
                clear hnn
                have qnn : ((nn : Int) != (nn : Int)) = false := by simp
                have Y1 := hide y1
                have Y2 := hide y2
                gi_wp2
                clear y1 y2
                gi_loopw [18] (fun v18 wz => ∃ (j q : Nat), v18 = .int .i64 j ∧ j ≤ nn ∧ wz = Y.drewN q) (fun v18 _ => nn - (RowKit.intOf v18).toNat)
                case atStart => exact ⟨0, 0, rfl, Nat.zero_le _, rfl⟩
                case round =>
                  obtain ⟨j, q, rfl, hjn, rfl⟩ := hrel
                  obtain ⟨WX, hWX⟩ : ∃ WX, Y.drewN q = WX := ⟨_, rfl⟩
                  have t1 : WX.cell? ⟨W5.heap.size, 0, none⟩ = some (.slice a1 nn c1) := by rw [← hWX]; exact unhide Y1
                  have t2 : WX.cell? ⟨W5.heap.size + 1, 0, none⟩ = some (.slice a2 nn c2) := by rw [← hWX]; exact unhide Y2
                  by_cases hlt : j < nn
                  · obtain ⟨⟨xl, xh, xv⟩, hp⟩ : ∃ p, ss[j]? = some p := ⟨_, List.getElem?_eq_getElem (by rw [unhide HNN]; exact hlt)⟩
                    obtain ⟨g1, rfl, p0, p1⟩ := unhide HC1 j _ hp
                    obtain ⟨g2, rfl, p2, p3⟩ := unhide HC2 j _ hp
                    have k0 : WX.cell? ⟨g1, j * 2, none⟩ = some (.int .i32 xl) := by rw [← hWX]; exact p0
                    have k1 : WX.cell? ⟨g1, j * 2 + 1, none⟩ = some (.int .i32 xh) := by rw [← hWX]; exact p1
                    have k2 : WX.cell? ⟨g2, j * 2, none⟩ = some (.int .i32 xl) := by rw [← hWX]; exact p2
                    have k3 : WX.cell? ⟨g2, j * 2 + 1, none⟩ = some (.int .i32 xh) := by rw [← hWX]; exact p3
                    have hlt' : (j : Int) < (nn : Int) := by omega
                    have ql : (xl != xl) = false := by simp
                    have qh : (xh != xh) = false := by simp
                    have q6 : IntKind.i64.wrap ((j : Int) + 1) = (j : Int) + 1 := by rw [IntKind.wrap_i64]; omega
                    have hprev : j = 0 ∨ ∃ (m : Nat) (yl yh : Int), j = m + 1 ∧ WX.cell? ⟨g1, m * 2 + 1, none⟩ = some (.int .i32 yh) ∧ WX.cell? ⟨g1, m * 2, none⟩ = some (.int .i32 yl) ∧ yh < xl := by
                      cases j with
                      | zero => exact .inl rfl
                      | succ m =>
                        obtain ⟨⟨yl, yh, yv⟩, hq⟩ : ∃ p, ss[m]? = some p := ⟨_, List.getElem?_eq_getElem (by rw [unhide HNN]; omega)⟩
                        obtain ⟨g1', e, c0, c1⟩ := unhide HC1 m _ hq
                        obtain rfl : g1 = g1' := by injection e with e; injection e
                        exact .inr ⟨m, yl, yh, rfl, by rw [← hWX]; exact c1, by rw [← hWX]; exact c0, rise_of (unhide HOK2) hq hp⟩
                    rw [hWX]
                    have HWX := hide hWX
                    clear hWX p0 p1 p2 p3 hp
                    rcases hprev with rfl | ⟨m, yl, yh, rfl, c0, c1, hrise⟩
                    · gi_wp2_with fail
                      refine wpIn_wide.2 ?_
                      go_quiet (fail)
                      gi_wp2
                      go_roundw
                      case rel => exact ⟨1, q + nq, by go_num, by omega, by rw [← unhide HWX]; exact World.drewN_drewN _ _ _⟩
                      case measure => simp [RowKit.intOf]; omega
                    · have q7' : IntKind.i64.wrap (((m + 1 : Nat) : Int) - 1) = (m : Int) := by rw [IntKind.wrap_i64]; omega
                      have q8' : IntKind.i64.wrap ((m : Int) + 1 - 1) = (m : Int) := by rw [IntKind.wrap_i64]; omega
                      have d1 : decide (xl ≤ yh) = false := decide_eq_false (by omega)
                      have d2 : decide ((0 : Int) < ((m + 1 : Nat) : Int)) = true := decide_eq_true (by omega)
                      have d3 : decide ((0 : Int) < (m : Int) + 1) = true := decide_eq_true (by omega)
                      have d4 : (m : Int) < (nn : Int) := by omega
                      gi_wp2_with fail
                      refine wpIn_wide.2 ?_
                      go_quiet (fail)
                      gi_wp2
                      go_roundw
                      case rel => exact ⟨m + 1 + 1, q + nq, by go_num, by omega, by rw [← unhide HWX]; exact World.drewN_drewN _ _ _⟩
                      case measure => simp [RowKit.intOf]; omega
                  · obtain rfl : j = nn := by omega
                    have hrX : WX.heap[w.heap.size]? = some (.cells #[.bool false] 4 (0, 0)) := by rw [← hWX]; exact unhide HRSY
                    have hK1X : WX.heap[D]? = some (.deferred (some [])) := by rw [← hWX]; exact unhide HKY
                    have hK2X : WX.heap[D2]? = some (.deferred (some [])) := by rw [← hWX]; exact unhide HK2
                    have hbX : Below w.heap.size w WX := by rw [← hWX]; exact below_drewN (unhide HBY) q
                    have q9 : WX.cell? ⟨w.heap.size, 0, none⟩ = some (.bool false) := by simp [World.cell?, hrX]
                    have f9 : WX.frozen? ⟨w.heap.size, 0, none⟩ = false := by simp [World.frozen?, hrX]
                    rw [hWX]
                    have HX := hide (⟨hrX, hK1X, hK2X, hbX⟩ : WX.heap[w.heap.size]? = some (.cells #[.bool false] 4 (0, 0)) ∧ WX.heap[D]? = some (.deferred (some [])) ∧ WX.heap[D2]? = some (.deferred (some [])) ∧ Below w.heap.size w WX)
                    clear hWX hrX hK1X hK2X hbX
                    gi_wp2
                    obtain ⟨hrX, hK1X, hK2X, hbX⟩ := unhide HX
                    obtain ⟨o1, o2, o3, o4, o5, o6, o7, o8⟩ := unhide HSZ2
                    have o9 := unhide HDV
                    have j2 : (WX.setCell ⟨w.heap.size, 0, none⟩ (.bool true)).heap[D2]? = some (.deferred (some [])) := (Below.heap_setCell _ _ _ _ (by show D2 ≠ w.heap.size; omega)).trans hK2X
                    have j1 : ((WX.setCell ⟨w.heap.size, 0, none⟩ (.bool true)).putObj D2 (.deferred none)).heap[D]? = some (.deferred (some [])) := (World.putObj_heap_other (by omega)).trans ((Below.heap_setCell _ _ _ _ (by show D ≠ w.heap.size; omega)).trans hK1X)
                    have j9 : (WX.setCell ⟨w.heap.size, 0, none⟩ (.bool true)).heap[w.heap.size]? = some (.cells #[.bool true] 4 (0, 0)) := by
                      rw [setCell_eq_setRow WX w.heap.size 0 _ _ _ _ hrX]
                      exact setRow_heap WX w.heap.size _ _ _ _ hrX
                    have j10 : (((WX.setCell ⟨w.heap.size, 0, none⟩ (.bool true)).putObj D2 (.deferred none)).putObj D (.deferred none)).heap[w.heap.size]? = some (.cells #[.bool true] 4 (0, 0)) := (World.putObj_heap_other (by omega)).trans ((World.putObj_heap_other (by omega)).trans j9)
                    refine ⟨by simp, .inl ⟨_, _, rfl, run_takeDeferred j2, by simp, .inl ⟨_, _, rfl, run_takeDeferred j1, ?_⟩⟩⟩
                    refine ⟨.bool true, ?_, rfl, below_put (below_put (hbX.setCell (by simp) _) (by omega) _) (by omega) _⟩
                    simp [results, Try.results4, go_sem, World.cell?, j10]
              case stop2 =>
                rintro D c pre V hD hSp hx hK
                exact hx.elim
            case stop =>
              rintro D c pre V hD hSp hx hK
              exact hx.elim
          | succ j =>
            rw [show (((j + 1 : Nat) : Int) - 1) = (j : Int) by omega]
            obtain ⟨k, hk⟩ : ∃ k, ks[j]? = some k := ⟨_, List.getElem?_eq_getElem (by omega)⟩
            obtain ⟨gt, cur, rfl, ht1, ht2⟩ := unhide HTC j k hk
            have ht3 : wr.heap[gt]? = W3.heap[gt]? := hcb.block _ (Array.getElem?_eq_some_iff.1 ht1).1 (by
              rintro rfl
              have h' : W3.heap[ba + 1]? = _ := unhide HBB
              rw [h'] at ht1; cases ht1)
            have c0 : wr.cell? ⟨gt, j, none⟩ = some (.int .i64 (k : Nat)) := by
              simp only [World.cell?, ht3] at ht2 ⊢; exact ht2
            obtain ⟨hkn', hmy⟩ := unhide HMY k (List.mem_of_getElem? hk)
            obtain ⟨⟨lo, hi'⟩, hp⟩ : ∃ p, L[k]? = some p := ⟨_, List.getElem?_eq_getElem (by have := unhide HN; omega)⟩
            obtain ⟨g, off, rfl, d0, d1⟩ := (unhide HL).below hbq k lo hi' hp
            have hpc : pcAt L vl k = ⟨lo, hi', vl.getD k false⟩ := by simp [pcAt, List.getD_eq_getElem?_getD, hp]
            rw [hpc] at hmy
            simp only at hmy
            have hbx : wr.heap[ba + 2]? = some (.cells #[.pointer (some ⟨ba + 1, 0, none⟩)] 42 (0, 0)) := (hcb.block _ (by omega) (by omega)).trans (unhide HBX3)
            have cb : wr.cell? ⟨ba + 1 + 1, 0, none⟩ = some (.pointer (some ⟨ba + 1, 0, none⟩)) := by simp [World.cell?, hbx]
            have HPC := hide hpc
            have HK := hide hk
            clear hp hpc hk ht1 ht2 ht3 hbx
            have hlt' : (k : Int) < (i : Int) := by omega
            have hjt' : (j : Int) < (ks.length : Int) := by omega
            have q6 : IntKind.i64.wrap ((j : Int) - 1) = (j : Int) - 1 := by rw [IntKind.wrap_i64]; omega
            -- R2
            gi_wp2_with fail
            refine wpIn_wide.2 ?_
            refine MixW.start (by kernel_rfl) ?_
            refine MixW.segD (C := fun w' => ∃ n, w' = wr.drewN n) 0 15 2 formDs (by kernel_rfl) ⟨1, rfl⟩ ?_
            simp only [Nat.reduceAdd, List.take_succ_cons, List.take_zero, List.drop_zero]
            obtain ⟨bv, hbv⟩ : ∃ p, vl.getD k false = p := ⟨_, rfl⟩
            by_cases hv : k < nv
            · obtain ⟨g2, off2, rfl, d2⟩ := (unhide HT).below hbq k bv (by rw [← hbv, List.getD_eq_getElem?_getD, List.getElem?_eq_getElem (by have := unhide HNV; omega)]; rfl)
              have hv' : decide ((k : Int) < (nv : Int)) = true := decide_eq_true (by omega)
              have HBV := hide hbv
              clear hbv
              repeat (go_big_quiet_step (fail))
              refine wpQuiet_nil ?_
              rintro _ ⟨q, rfl⟩
              refine MixW.loud 1 15 1 _ _ (by decide) (by kernel_rfl) ?_
              simp only [Nat.reduceAdd, List.drop_succ_cons, List.drop_zero, List.take_succ_cons, List.take_zero]
              go_wp2_with fail
              refine (lay_ok (ba + 1) vb W3.heap.size pb hokb lo hi' hmy bv (wr.drewN q) hmb (by simpa using hcb.size) hrb).mono ?_
              rintro e w5 ⟨rfl, vb', hrb', hmv⟩
              go_wp2_with fail
              show wpAny _ _ _ _ 1 _ _ _
              refine MixW.last (C := fun w' => w' = w5) 16 1 (by decide) (by kernel_rfl) (by kernel_rfl) rfl ?_
              simp only [List.drop_succ_cons, List.drop_zero]
              repeat (go_big_quiet_step (fail))
              refine wpQuiet_nil ?_
              intro w6 hw6
              obtain rfl : w5 = w6 := hw6.symm
              simp only [Exit.then]
              have hcb5 : Chg (fun k => k = ba + 1) W3 (wr.drewN q) := ⟨hcb.os, hcb.tape, hcb.output, hcb.size, hcb.block⟩
              have hcb6 : Chg (fun k => k = ba + 1) W3 w5 := Chg.step hcb5 hmv.2.1 (fun j hj => hj.imp id fun e => (RowV.lt hrb j e).1)
              have hle := mayB_iff.1 hmy
              have hokb6 := rep_ok hokb hle.1 hle.2.1 hle.2.2 (.inr ⟨bv, rfl⟩)
              have hat6 := fun x => at_lay (p := ⟨lo, hi', bv⟩) hokb hle.2.1 (unhide HBT) x
              have ek : (⟨lo, hi', bv⟩ : Pc Bool) :: (ks.drop (j + 1)).map (pcAt L vl) = (ks.drop j).map (pcAt L vl) := by
                have hjl := (List.getElem?_eq_some_iff.1 (unhide HK)).1
                have hje := (List.getElem?_eq_some_iff.1 (unhide HK)).2
                rw [List.drop_eq_getElem_cons hjl, hje, List.map_cons, unhide HPC, unhide HBV]
              have HEK := hide ek
              have HAT6 := hide hat6
              clear ek hat6 d0 d1 c0 cb
              gi_wp2
              go_roundw
              case rel => exact ⟨j, vb', _, by go_num, by omega, hmv.1, hrb', hokb6, fun x => (unhide HAT6 x).trans (by rw [unhide HEK]), hcb6⟩
              case measure => simp [RowKit.intOf]
            · have hv' : decide ((k : Int) < (nv : Int)) = false := decide_eq_false (by omega)
              have hbf : bv = false := by rw [← hbv, List.getD_eq_getElem?_getD, List.getElem?_eq_none (by have := unhide HNV; omega)]; rfl
              have HBV := hide hbv
              clear hbv
              subst hbf
              repeat (go_big_quiet_step (fail))
              refine wpQuiet_nil ?_
              rintro _ ⟨q, rfl⟩
              refine MixW.loud 1 15 1 _ _ (by decide) (by kernel_rfl) ?_
              simp only [Nat.reduceAdd, List.drop_succ_cons, List.drop_zero, List.take_succ_cons, List.take_zero]
              go_wp2_with fail
              refine (lay_ok (ba + 1) vb W3.heap.size pb hokb lo hi' hmy false (wr.drewN q) hmb (by simpa using hcb.size) hrb).mono ?_
              rintro e w5 ⟨rfl, vb', hrb', hmv⟩
              go_wp2_with fail
              show wpAny _ _ _ _ 1 _ _ _
              refine MixW.last (C := fun w' => w' = w5) 16 1 (by decide) (by kernel_rfl) (by kernel_rfl) rfl ?_
              simp only [List.drop_succ_cons, List.drop_zero]
              repeat (go_big_quiet_step (fail))
              refine wpQuiet_nil ?_
              intro w6 hw6
              obtain rfl : w5 = w6 := hw6.symm
              simp only [Exit.then]
              have hcb5 : Chg (fun k => k = ba + 1) W3 (wr.drewN q) := ⟨hcb.os, hcb.tape, hcb.output, hcb.size, hcb.block⟩
              have hcb6 : Chg (fun k => k = ba + 1) W3 w5 := Chg.step hcb5 hmv.2.1 (fun j hj => hj.imp id fun e => (RowV.lt hrb j e).1)
              have hle := mayB_iff.1 hmy
              have hokb6 := rep_ok hokb hle.1 hle.2.1 hle.2.2 (.inr ⟨false, rfl⟩)
              have hat6 := fun x => at_lay (p := ⟨lo, hi', false⟩) hokb hle.2.1 (unhide HBT) x
              have ek : (⟨lo, hi', false⟩ : Pc Bool) :: (ks.drop (j + 1)).map (pcAt L vl) = (ks.drop j).map (pcAt L vl) := by
                have hjl := (List.getElem?_eq_some_iff.1 (unhide HK)).1
                have hje := (List.getElem?_eq_some_iff.1 (unhide HK)).2
                rw [List.drop_eq_getElem_cons hjl, hje, List.map_cons, unhide HPC, unhide HBV]
              have HEK := hide ek
              have HAT6 := hide hat6
              clear ek hat6 d0 d1 c0 cb
              gi_wp2
              go_roundw
              case rel => exact ⟨j, vb', _, by go_num, by omega, hmv.1, hrb', hokb6, fun x => (unhide HAT6 x).trans (by rw [unhide HEK]), hcb6⟩
              case measure => simp [RowKit.intOf]
            -- E2
end Go.Proofs.Ytebppdcnfbflkaa

/-
  The document's Scan of a mirror's line, for every line.
-/
import Derived.Test.YtnabbahdmajfpaaGreatDoorMrS
import Derived.Test.YtnabbahdmajfpaaGreatDoorRwRHex
namespace Go.Proofs.YtnabbahdmajfpaaGreatDoor
open Go.RowKit Go.PlainAid Go.Lib Go.PHexM Go.Shelf
set_option linter.unusedVariables false
set_option linter.unusedSimpArgs false

set_option maxRecDepth 100000 in
theorem refScan9_results {tmps : Array Value} {w : World} {b : Nat} {x : MirD} {k : Int} (h2 : tmps.getD 2 undef = .pointer (some ⟨b, 0, none⟩)) (h3 : tmps.getD 3 undef = .int .i64 k) (h : MirAt w b x) : (results Tryz.f14 tmps).run Tryz.prog w = .ok (.tuple #[mirV x, .int .i64 k]) w := by
  have c0 := h.cell (j := 0) rfl
  have c1 := h.cell (j := 1) rfl
  have c2 := h.cell (j := 2) rfl
  have c3 := h.cell (j := 3) rfl
  have h2' : tmps[2]?.getD undef = .pointer (some ⟨b, 0, none⟩) := by simpa using h2
  have h3' : tmps[3]?.getD undef = .int .i64 k := by simpa using h3
  simp [results, Tryz.results14, go_sem, h2', h3', c0, c1, c2, c3]

theorem best_take (note : List UInt8) : hasPrefix note bestB = (((S note).extract 0 10).toList == [91, 66, 69, 83, 84, 32, 70, 73, 84, 93]) := by
  have e : ((S note).extract 0 10).toList = note.take 10 := by
    rw [toList_data]
    simp
  rw [e, Bool.eq_iff_iff, beq_iff_eq]
  unfold hasPrefix
  rw [List.isPrefixOf_iff_prefix, List.prefix_iff_eq_take]
  exact ⟨fun h => h.symm, fun h => h.symm⟩
theorem best_short {note : List UInt8} (h : ¬ 10 ≤ note.length) : hasPrefix note bestB = false := by
  cases hp : hasPrefix note bestB with
  | false => rfl
  | true =>
    unfold hasPrefix at hp
    have := (List.isPrefixOf_iff_prefix.1 hp).length_le
    simp at this
    omega

set_option maxRecDepth 100000 in
set_option maxHeartbeats 4000000 in
theorem refScan9_any (d : LineD) (fa : Option Addr) (fc : Nat) (w : World) (hT : TxM w fa d.fields) :
    Calls Tryz.prog 14 #[lineV d (.slice fa d.fields.length fc)] w fun e w' => e = .returned (.tuple #[mirV (scanM d).1, .int .i64 (scanM d).2]) ∧ Below w.heap.size w w' := by
  obtain ⟨no, kind, name, fields, note⟩ := d
  simp only at hT ⊢
  obtain ⟨R, hR⟩ : ∃ R, scanM ⟨no, kind, name, fields, note⟩ = R := ⟨_, rfl⟩
  rw [hR]
  have HR := hide hR
  clear hR
  obtain ⟨W0, hW0⟩ : ∃ W0, (w.alloc (.cells #[.int .i64 no, .int .u8 kind, .string (S name), .slice fa fields.length fc, .string (S note)] 25)).alloc (.cells (mirC zeroM).toArray 27) = W0 := ⟨_, rfl⟩
  have hs0 : W0.heap.size = w.heap.size + 2 := by rw [← hW0]; simp
  have hb0 : Below w.heap.size w W0 := by rw [← hW0]; exact ((Below.refl _ w).alloc (Nat.le_refl _) _).alloc (by simp) _
  have lb : W0.heap[w.heap.size]? = some (.cells #[.int .i64 no, .int .u8 kind, .string (S name), .slice fa fields.length fc, .string (S note)] 25 (0, 0)) := by
    rw [← hW0]; exact (Below.heap_alloc _ _ _ (by simp)).trans (heap_alloc_new w _)
  have mb : MirAt W0 (w.heap.size + 1) zeroM := by
    rw [← hW0]
    have h := heap_alloc_new (w.alloc (.cells #[.int .i64 no, .int .u8 kind, .string (S name), .slice fa fields.length fc, .string (S note)] 25)) (.cells (mirC zeroM).toArray 27)
    rw [World.size_alloc] at h; exact h
  have hW0' : (w.alloc (.cells #[.int .i64 no, .int .u8 kind, .string (S name), .slice fa fields.length fc, .string (S note)] 25)).alloc (.cells #[.int .i64 0, .int .i32 0, .int .i32 0, .bool false] 27) = W0 := hW0
  clear hW0
  obtain ⟨q0, q1, q2, q3, q4, -, -, -, -, -⟩ := box5 lb
  have m0 := mb.cell (j := 0) rfl
  have m1 := mb.cell (j := 1) rfl
  have m2 := mb.cell (j := 2) rfl
  have m3 := mb.cell (j := 3) rfl
  have f0 := mb.frozen 0
  have f1 := mb.frozen 1
  have f2 := mb.frozen 2
  have f3 := mb.frozen 3
  have s0 : W0.setCell ⟨w.heap.size + 1, 0, none⟩ (.int .i64 0) = W0 := mb.same (j := 0) rfl
  have s1 : W0.setCell ⟨w.heap.size + 1, 1, none⟩ (.int .i32 0) = W0 := mb.same (j := 1) rfl
  have s2 : W0.setCell ⟨w.heap.size + 1, 2, none⟩ (.int .i32 0) = W0 := mb.same (j := 2) rfl
  have s3 : W0.setCell ⟨w.heap.size + 1, 3, none⟩ (.bool false) = W0 := mb.same (j := 3) rfl
  have HT := hide (hT.below hb0)
  have HMB := hide mb
  have HB0 := hide hb0
  clear lb mb hb0 hT
  by_cases hk2 : kind = 2
  · subst hk2
    go_enter Tryz.func14, Tryz.ntmps14
    go_wp2
    refine bodyPost_ret (refScan9_results (x := zeroM) rfl rfl (unhide HMB)) rfl ?_
    rw [← unhide HR]
    exact ⟨rfl, unhide HB0⟩
  have hk2' : (kind == 2) = false := by simpa using hk2
  by_cases hk1 : kind = 1
  · subst hk1
    by_cases hl : fields.length = 2
    · obtain ⟨a, b, rfl⟩ : ∃ a b, fields = [a, b] := by
        match fields, hl with
        | [a, b], _ => exact ⟨a, b, rfl⟩
      obtain ⟨g, off, rfl, hca⟩ := unhide HT 0 a rfl
      obtain ⟨g', off', e', hcb⟩ := unhide HT 1 b rfl
      simp only [Option.some.injEq, Addr.mk.injEq, and_true] at e'
      obtain ⟨rfl, rfl⟩ := e'
      rw [Nat.add_zero] at hca
      simp only [List.length_cons, List.length_nil] at *
      have hRe : R = (match hexP a, hexP b with | some x, some y => (⟨no, (x : Nat), (y : Nat), hasPrefix note bestB⟩, 0) | _, _ => (zeroM, 40)) := by rw [← unhide HR]; rfl
      have HXA := hide (fun w => refRead_any4 (S a) w)
      have HXB := hide (fun w => refRead_any4 (S b) w)
      have ea : (S a).data.toList = a := by simp
      have eb : (S b).data.toList = b := by simp
      rw [ea] at HXA
      rw [eb] at HXB
      clear ea eb hk2 hl HT HR
      have tok : True := trivial
      cases ha : hexP a with
      | none =>
        rw [ha] at hRe
        rw [hexV_none ha] at HXA
        obtain ⟨yv, ye, hyv⟩ : ∃ yv ye : Int, hexV b = .tuple #[.int .i32 yv, .int .i64 ye] := by
          cases hb : hexP b with
          | none => exact ⟨_, _, hexV_none hb⟩
          | some y => exact ⟨_, _, hexV_some hb⟩
        rw [hyv] at HXB
        have HRE := hide hRe
        clear hRe ha hyv
        go_enter Tryz.func14, Tryz.ntmps14
        go_wp2_with (first | (go_at_call 34; have _t := tok; with_reducible refine (unhide HXA _).mono ?_; rintro e w' ⟨rfl, hw⟩; obtain rfl : W0 = w' := hw.symm; clear tok) | (go_at_call 34; with_reducible refine (unhide HXB _).mono ?_; rintro e w' ⟨rfl, hw⟩; obtain rfl : W0 = w' := hw.symm))
        refine bodyPost_ret (refScan9_results (x := zeroM) rfl rfl (unhide HMB)) rfl ?_
        rw [unhide HRE]
        exact ⟨rfl, unhide HB0⟩
      | some x =>
        rw [ha] at hRe
        rw [hexV_some ha] at HXA
        cases hb : hexP b with
        | none =>
          rw [hb] at hRe
          rw [hexV_none hb] at HXB
          have HRE := hide hRe
          clear hRe ha hb
          go_enter Tryz.func14, Tryz.ntmps14
          go_wp2_with (first | (go_at_call 34; have _t := tok; with_reducible refine (unhide HXA _).mono ?_; rintro e w' ⟨rfl, hw⟩; obtain rfl : W0 = w' := hw.symm; clear tok) | (go_at_call 34; with_reducible refine (unhide HXB _).mono ?_; rintro e w' ⟨rfl, hw⟩; obtain rfl : W0 = w' := hw.symm))
          refine bodyPost_ret (refScan9_results (x := zeroM) rfl rfl (unhide HMB)) rfl ?_
          rw [unhide HRE]
          exact ⟨rfl, unhide HB0⟩
        | some y =>
          rw [hb] at hRe
          rw [hexV_some hb] at HXB
          clear ha hb
          clear s0 s1 s2 s3
          by_cases hz : 10 ≤ note.length
          · obtain ⟨B, hB⟩ : ∃ B, (((S note).extract 0 10).toList == [91, 66, 69, 83, 84, 32, 70, 73, 84, 93]) = B := ⟨_, rfl⟩
            have hz1 : (10 : Int) ≤ (note.length : Int) := by omega
            have hz2 : decide ((10 : Int) ≤ (note.length : Int)) = true := decide_eq_true hz1
            rw [best_take, hB] at hRe
            have HRE := hide hRe
            clear hRe
            go_enter Tryz.func14, Tryz.ntmps14
            go_wp2_with (first | (go_at_call 34; have _t := tok; with_reducible refine (unhide HXA _).mono ?_; rintro e w' ⟨rfl, hw⟩; obtain rfl : W0 = w' := hw.symm; clear tok) | (go_at_call 34; with_reducible refine (unhide HXB _).mono ?_; rintro e w' ⟨rfl, hw⟩; obtain rfl : W0 = w' := hw.symm))
            go_region
            all_goals go_wp2
            all_goals refine bodyPost_ret (refScan9_results (x := ⟨no, (x : Nat), (y : Nat), B⟩) rfl rfl ((unhide HMB).copy ⟨no, (x : Nat), (y : Nat), B⟩)) rfl ?_
            all_goals rw [unhide HRE]
            all_goals exact ⟨rfl, Below.drew (below_copyM (unhide HB0) (Nat.le_succ _) ⟨no, (x : Nat), (y : Nat), B⟩)⟩
          · have hz1 : ¬ (10 : Int) ≤ (note.length : Int) := by omega
            have hz2 : decide ((10 : Int) ≤ (note.length : Int)) = false := decide_eq_false hz1
            have hz3 : decide (10 ≤ note.length) = false := decide_eq_false hz
            have hz4 : note.length < 10 := by omega
            rw [best_short hz] at hRe
            have HRE := hide hRe
            clear hRe
            go_enter Tryz.func14, Tryz.ntmps14
            go_wp2_with (first | (go_at_call 34; have _t := tok; with_reducible refine (unhide HXA _).mono ?_; rintro e w' ⟨rfl, hw⟩; obtain rfl : W0 = w' := hw.symm; clear tok) | (go_at_call 34; with_reducible refine (unhide HXB _).mono ?_; rintro e w' ⟨rfl, hw⟩; obtain rfl : W0 = w' := hw.symm))
            go_region
            all_goals go_wp2
            all_goals refine bodyPost_ret (refScan9_results (x := ⟨no, (x : Nat), (y : Nat), false⟩) rfl rfl ((unhide HMB).copy ⟨no, (x : Nat), (y : Nat), false⟩)) rfl ?_
            all_goals rw [unhide HRE]
            all_goals exact ⟨rfl, Below.drew (below_copyM (unhide HB0) (Nat.le_succ _) ⟨no, (x : Nat), (y : Nat), false⟩)⟩
    · have HRE : Hid (R = (zeroM, 60)) := by show _ = _; rw [← unhide HR]; simp [scanM, hl]
      generalize fields.length = n at *
      have hl' : ((n : Int) != 2) = true := by simpa using fun e => hl (by omega)
      have hl2 : ((n : Int) == 2) = false := by simpa using fun e => hl (by omega)
      clear HR hl
      go_enter Tryz.func14, Tryz.ntmps14
      go_wp2
      refine bodyPost_ret (refScan9_results (x := zeroM) rfl rfl (unhide HMB)) rfl ?_
      rw [unhide HRE]
      exact ⟨rfl, unhide HB0⟩
  · have hk1' : (kind == 1) = false := by simpa using hk1
    have hk1'' : (kind != 1) = true := by simpa using hk1
    have HRE : Hid (R = (zeroM, 60)) := by show _ = _; rw [← unhide HR]; simp [scanM, hk1, hk2]
    clear HR hk1 hk2
    go_enter Tryz.func14, Tryz.ntmps14
    go_wp2
    refine bodyPost_ret (refScan9_results (x := zeroM) rfl rfl (unhide HMB)) rfl ?_
    rw [unhide HRE]
    exact ⟨rfl, unhide HB0⟩
end Go.Proofs.YtnabbahdmajfpaaGreatDoor

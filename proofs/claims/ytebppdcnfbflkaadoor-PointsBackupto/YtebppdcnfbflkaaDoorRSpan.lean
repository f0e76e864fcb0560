/-
  The document's Span, of every text shorter than 2^62 bytes: what the program's Span says.
-/
import Derived.Test.YtebppdcnfbflkaaDoorPSpan
import Derived.Test.YtebppdcnfbflkaaDoorRHex
import Derived.Lib.IndexLaws
namespace Go.Proofs.YtebppdcnfbflkaaDoor
open Go.RowKit Go.PlainAid Go.Lib Go.Shelf Go.PHexM
set_option linter.unusedVariables false

theorem read_is {s : ByteArray} {n : Nat} (h : hexP s.data.toList = some n) (w : World) :
    Calls Tryd.prog 6 #[.string s] w fun e w' => e = .returned (.tuple #[.int .i32 n, .int .i64 0]) ∧ w' = w := by
  have := refRead_any4 s w
  rwa [hexV_some h] at this
theorem read_not {s : ByteArray} (h : hexP s.data.toList = none) (w : World) :
    Calls Tryd.prog 6 #[.string s] w fun e w' => e = .returned (.tuple #[.int .i32 0, .int .i64 40]) ∧ w' = w := by
  have := refRead_any4 s w
  rwa [hexV_none h] at this
theorem occ_two {l : List UInt8} {i : Nat} {a b : UInt8} (ha : l[i]? = some a) (hb : l[i + 1]? = some b) : occAt l [46, 46] i = (a == 46 && b == 46) := by
  unfold occAt
  obtain ⟨h1, e1⟩ := List.getElem?_eq_some_iff.1 ha
  obtain ⟨h2, e2⟩ := List.getElem?_eq_some_iff.1 hb
  rw [List.drop_eq_getElem_cons h1, List.drop_eq_getElem_cons h2, e1, e2]
  have c1 : ((46 : UInt8) == a) = (a == 46) := by
    by_cases h : a = 46
    · subst h; rfl
    · rw [beq_eq_false_iff_ne.2 h, beq_eq_false_iff_ne.2 (fun e => h e.symm)]
  have c2 : ((46 : UInt8) == b) = (b == 46) := by
    by_cases h : b = 46
    · subst h; rfl
    · rw [beq_eq_false_iff_ne.2 h, beq_eq_false_iff_ne.2 (fun e => h e.symm)]
  simp [List.isPrefixOf, c1, c2]
theorem ext_take (s : ByteArray) (j : Nat) : (s.extract 0 j).data.toList = s.data.toList.take j := by
  simp [ByteArray.data_extract]
theorem ext_drop (s : ByteArray) (j : Nat) : (s.extract j s.size).data.toList = s.data.toList.drop j := by
  have h : (s.data.toList.drop j).length ≤ s.size - j := by simp
  simpa [ByteArray.data_extract] using List.take_of_length_le h
theorem spanV_none {l : List UInt8} (h : index l [46, 46] = -1) : spanV l = spanV2 l l := by
  have e : Lib.cut l [46, 46] = (l, [], false) := by unfold Lib.cut; rw [h]; rfl
  rw [spanV, e]; rfl
theorem spanV_some {l : List UInt8} {j : Nat} (h : index l [46, 46] = j) : spanV l = spanV2 (l.take j) (l.drop (j + 2)) := by
  have e : Lib.cut l [46, 46] = (l.take j, l.drop (j + 2), true) := by
    unfold Lib.cut
    rw [h, if_pos (by omega)]
    simp
  rw [spanV, e]; rfl

set_option maxRecDepth 100000 in
set_option maxHeartbeats 2000000 in
theorem refSpan_any (s : ByteArray) (w : World) (hs : s.size < 4611686018427387904) :
    Calls Tryd.prog 12 #[.string s] w fun e w' => e = .returned (spanV s.data.toList) ∧ Below w.heap.size w w' := by
  obtain ⟨V, hV⟩ : ∃ V, V = spanV s.data.toList := ⟨_, rfl⟩
  rw [← hV]
  have HV := hide hV
  clear hV
  have HSZ := hide (show s.data.toList.length = s.size by simp)
  go_enter Tryd.func12, Tryd.ntmps12
  go_wp2
  have hb1 : Below w.heap.size w (w.alloc (.cells #[.int .i32 0, .int .i32 0] 23)) := (Below.refl w.heap.size w).alloc (Nat.le_refl _) _
  have hx : (w.alloc (.cells #[.int .i32 0, .int .i32 0] 23)).heap[w.heap.size]? = some (.cells #[.int .i32 0, .int .i32 0] 23 (0, 0)) := heap_alloc_new w _
  generalize w.alloc (.cells #[.int .i32 0, .int .i32 0] 23) = W at hb1 hx ⊢
  have HX := hide hx
  have HBE := hide (fun a b => (hb1.setCell (p := ⟨w.heap.size, 0, none⟩) (Nat.le_refl _) (.int .i32 a)).setCell (p := ⟨w.heap.size, 1, none⟩) (Nat.le_refl _) (.int .i32 b))
  have d0 : W.cell? ⟨w.heap.size, 0, none⟩ = some (.int .i32 0) := by simp [World.cell?, hx]
  have d1 : W.cell? ⟨w.heap.size, 1, none⟩ = some (.int .i32 0) := by simp [World.cell?, hx]
  have f0 : W.frozen? ⟨w.heap.size, 0, none⟩ = false := by simp [World.frozen?, hx]
  have f1 : W.frozen? ⟨w.heap.size, 1, none⟩ = false := by simp [World.frozen?, hx]
  clear hx hb1
  go_loopg [4, 5] (s.size + 1) (fun kx s4 s5 wr => ∃ (i : Nat), i ≤ s.size ∧ s5 = .int .i64 i ∧ kx = s.size + 1 - i ∧ wr = W ∧
    (s4 = .int .i64 (-1) ∧ NoOcc s.data.toList [46, 46] i ∨ ∃ j : Nat, s4 = .int .i64 j ∧ j + 1 < s.size ∧ index s.data.toList [46, 46] = j))
  case atStart => exact ⟨0, by omega, rfl, by omega, rfl, .inl ⟨rfl, NoOcc.zero _ _⟩⟩
  case round =>
    obtain ⟨i, hi, rfl, rfl, rfl, hc⟩ := hrel
    rcases hc with ⟨rfl, hno⟩ | ⟨j, rfl, hj, hix⟩
    · have HNO := hide hno
      clear hno
      by_cases hlt : i + 1 < s.size
      · have ha : s.data.toList[i]? = some s[i] := by
          rw [Array.getElem?_toList]
          exact Array.getElem?_eq_getElem (by have : i < s.size := by omega
                                              simpa using this)
        have hb : s.data.toList[i + 1]? = some s[i + 1] := by
          rw [Array.getElem?_toList]
          exact Array.getElem?_eq_getElem (by simpa using hlt)
        have HO := hide (occ_two ha hb)
        clear ha hb
        go_wp2
        · rename_i q1 _ q2
          have e1 : s[i] = 46 := UInt8.toNat_inj.1 (by show s[i].toNat = 46; omega)
          have e2 : s[i + 1] = 46 := UInt8.toNat_inj.1 (by have := eq_of_beq q2; show s[i + 1].toNat = 46; omega)
          have HF := hide (index_hit (unhide HNO) (by rw [unhide HSZ]; omega) ((unhide HO).trans (by rw [e1, e2]; rfl)))
          go_roundg (s.size + 1 - (i + 1))
          case measure => omega
          case rel => exact ⟨i + 1, by omega, rfl, rfl, rfl, .inr ⟨i, rfl, hlt, unhide HF⟩⟩
        · rename_i q1 _ q2
          have e2 : ¬ s[i + 1] = 46 := fun h => by rw [h] at q2; cases q2
          have HF := hide ((unhide HNO).succ ((unhide HO).trans (by rw [beq_eq_false_iff_ne.2 e2, Bool.and_false])))
          go_roundg (s.size + 1 - (i + 1))
          case measure => omega
          case rel => exact ⟨i + 1, by omega, rfl, rfl, rfl, .inl ⟨rfl, unhide HF⟩⟩
        · rename_i q1
          have e2 : ¬ s[i] = 46 := fun h => q1 (by rw [h]; rfl)
          have HF := hide ((unhide HNO).succ ((unhide HO).trans (by rw [beq_eq_false_iff_ne.2 e2, Bool.false_and])))
          go_roundg (s.size + 1 - (i + 1))
          case measure => omega
          case rel => exact ⟨i + 1, by omega, rfl, rfl, rfl, .inl ⟨rfl, unhide HF⟩⟩
      · have HI := hide (index_past (sub := [46, 46]) (by simp) (unhide HNO) (by rw [unhide HSZ]; simp; omega))
        cases hA : hexP s.data.toList with
        | none =>
          have eV : spanV s.data.toList = spanE 0 0 40 := (spanV_none (unhide HI)).trans (spanV2_a hA)
          have H1 := hide (read_not hA)
          clear hA
          go_wp2_with fail
          refine (unhide H1 _).mono ?_
          rintro e w' ⟨rfl, h⟩
          obtain rfl : wr = w' := h.symm
          go_wp2
          obtain ⟨k3, k4, k5⟩ := span_box (w := w) 0 0 (unhide HX)
          refine bodyPost_ret (v := spanE 0 0 40) ?_ rfl ⟨congrArg _ ((unhide HV).trans eV).symm, unhide HBE 0 0⟩
          simp [results, Tryd.results12, go_sem, k4, k5]
        | some x =>
          have eV : spanV s.data.toList = spanE x x 0 := (spanV_none (unhide HI)).trans (spanV2_ok hA hA (Nat.lt_irrefl _))
          have H1 := hide (read_is hA)
          clear hA
          go_wp2_with fail
          refine (unhide H1 _).mono ?_
          rintro e w' ⟨rfl, h⟩
          obtain rfl : wr = w' := h.symm
          go_wp2
          obtain ⟨k3, k4, k5⟩ := span_box (w := w) x x (unhide HX)
          refine bodyPost_ret (v := spanE x x 0) ?_ rfl ⟨congrArg _ ((unhide HV).trans eV).symm, unhide HBE x x⟩
          simp [results, Tryd.results12, go_sem, k4, k5]
    · have eS := spanV_some hix
      clear hix
      rw [← ext_take s j, ← ext_drop s (j + 2)] at eS
      cases hA : hexP (s.extract 0 j).data.toList with
      | none =>
        cases hB : hexP (s.extract (j + 2) s.size).data.toList with
        | none =>
          have eV := eS.trans (spanV2_a hA)
          have H1 := hide (read_not hA)
          have H2 := hide (read_not hB)
          clear eS hA hB
          by_cases hq : i + 1 < s.size
          · have hi2 : i + 1 ≤ 4611686018427387904 := by omega
            go_wp2_with fail
            refine (unhide H1 _).mono ?_
            rintro e w' ⟨rfl, h⟩
            obtain rfl : wr = w' := h.symm
            go_wp2_with fail
            refine (unhide H2 _).mono ?_
            rintro e w' ⟨rfl, h⟩
            obtain rfl : wr = w' := h.symm
            go_wp2
            obtain ⟨k3, k4, k5⟩ := span_box (w := w) 0 0 (unhide HX)
            refine bodyPost_ret (v := spanE 0 0 40) ?_ rfl ⟨congrArg _ ((unhide HV).trans eV).symm, unhide HBE 0 0⟩
            simp [results, Tryd.results12, go_sem, k4, k5]
          · have hi2 : i + 1 ≤ 4611686018427387904 := by omega
            go_wp2_with fail
            refine (unhide H1 _).mono ?_
            rintro e w' ⟨rfl, h⟩
            obtain rfl : wr = w' := h.symm
            go_wp2_with fail
            refine (unhide H2 _).mono ?_
            rintro e w' ⟨rfl, h⟩
            obtain rfl : wr = w' := h.symm
            go_wp2
            obtain ⟨k3, k4, k5⟩ := span_box (w := w) 0 0 (unhide HX)
            refine bodyPost_ret (v := spanE 0 0 40) ?_ rfl ⟨congrArg _ ((unhide HV).trans eV).symm, unhide HBE 0 0⟩
            simp [results, Tryd.results12, go_sem, k4, k5]
        | some y =>
          have eV := eS.trans (spanV2_a hA)
          have H1 := hide (read_not hA)
          have H2 := hide (read_is hB)
          clear eS hA hB
          by_cases hq : i + 1 < s.size
          · have hi2 : i + 1 ≤ 4611686018427387904 := by omega
            go_wp2_with fail
            refine (unhide H1 _).mono ?_
            rintro e w' ⟨rfl, h⟩
            obtain rfl : wr = w' := h.symm
            go_wp2_with fail
            refine (unhide H2 _).mono ?_
            rintro e w' ⟨rfl, h⟩
            obtain rfl : wr = w' := h.symm
            go_wp2
            obtain ⟨k3, k4, k5⟩ := span_box (w := w) 0 0 (unhide HX)
            refine bodyPost_ret (v := spanE 0 0 40) ?_ rfl ⟨congrArg _ ((unhide HV).trans eV).symm, unhide HBE 0 0⟩
            simp [results, Tryd.results12, go_sem, k4, k5]
          · have hi2 : i + 1 ≤ 4611686018427387904 := by omega
            go_wp2_with fail
            refine (unhide H1 _).mono ?_
            rintro e w' ⟨rfl, h⟩
            obtain rfl : wr = w' := h.symm
            go_wp2_with fail
            refine (unhide H2 _).mono ?_
            rintro e w' ⟨rfl, h⟩
            obtain rfl : wr = w' := h.symm
            go_wp2
            obtain ⟨k3, k4, k5⟩ := span_box (w := w) 0 0 (unhide HX)
            refine bodyPost_ret (v := spanE 0 0 40) ?_ rfl ⟨congrArg _ ((unhide HV).trans eV).symm, unhide HBE 0 0⟩
            simp [results, Tryd.results12, go_sem, k4, k5]
      | some x =>
        cases hB : hexP (s.extract (j + 2) s.size).data.toList with
        | none =>
          have eV := eS.trans (spanV2_b hA hB)
          have H1 := hide (read_is hA)
          have H2 := hide (read_not hB)
          clear eS hA hB
          by_cases hq : i + 1 < s.size
          · have hi2 : i + 1 ≤ 4611686018427387904 := by omega
            go_wp2_with fail
            refine (unhide H1 _).mono ?_
            rintro e w' ⟨rfl, h⟩
            obtain rfl : wr = w' := h.symm
            go_wp2_with fail
            refine (unhide H2 _).mono ?_
            rintro e w' ⟨rfl, h⟩
            obtain rfl : wr = w' := h.symm
            go_wp2
            obtain ⟨k3, k4, k5⟩ := span_box (w := w) 0 0 (unhide HX)
            refine bodyPost_ret (v := spanE 0 0 40) ?_ rfl ⟨congrArg _ ((unhide HV).trans eV).symm, unhide HBE 0 0⟩
            simp [results, Tryd.results12, go_sem, k4, k5]
          · have hi2 : i + 1 ≤ 4611686018427387904 := by omega
            go_wp2_with fail
            refine (unhide H1 _).mono ?_
            rintro e w' ⟨rfl, h⟩
            obtain rfl : wr = w' := h.symm
            go_wp2_with fail
            refine (unhide H2 _).mono ?_
            rintro e w' ⟨rfl, h⟩
            obtain rfl : wr = w' := h.symm
            go_wp2
            obtain ⟨k3, k4, k5⟩ := span_box (w := w) 0 0 (unhide HX)
            refine bodyPost_ret (v := spanE 0 0 40) ?_ rfl ⟨congrArg _ ((unhide HV).trans eV).symm, unhide HBE 0 0⟩
            simp [results, Tryd.results12, go_sem, k4, k5]
        | some y =>
          by_cases hlt : y < x
          · skip
            have eV := eS.trans (spanV2_lt hA hB hlt)
            have H1 := hide (read_is hA)
            have H2 := hide (read_is hB)
            clear eS hA hB
            by_cases hq : i + 1 < s.size
            · have hi2 : i + 1 ≤ 4611686018427387904 := by omega
              go_wp2_with fail
              refine (unhide H1 _).mono ?_
              rintro e w' ⟨rfl, h⟩
              obtain rfl : wr = w' := h.symm
              go_wp2_with fail
              refine (unhide H2 _).mono ?_
              rintro e w' ⟨rfl, h⟩
              obtain rfl : wr = w' := h.symm
              go_wp2
              obtain ⟨k3, k4, k5⟩ := span_box (w := w) 0 0 (unhide HX)
              refine bodyPost_ret (v := spanE 0 0 41) ?_ rfl ⟨congrArg _ ((unhide HV).trans eV).symm, unhide HBE 0 0⟩
              simp [results, Tryd.results12, go_sem, k4, k5]
            · have hi2 : i + 1 ≤ 4611686018427387904 := by omega
              go_wp2_with fail
              refine (unhide H1 _).mono ?_
              rintro e w' ⟨rfl, h⟩
              obtain rfl : wr = w' := h.symm
              go_wp2_with fail
              refine (unhide H2 _).mono ?_
              rintro e w' ⟨rfl, h⟩
              obtain rfl : wr = w' := h.symm
              go_wp2
              obtain ⟨k3, k4, k5⟩ := span_box (w := w) 0 0 (unhide HX)
              refine bodyPost_ret (v := spanE 0 0 41) ?_ rfl ⟨congrArg _ ((unhide HV).trans eV).symm, unhide HBE 0 0⟩
              simp [results, Tryd.results12, go_sem, k4, k5]
          · skip
            have eV := eS.trans (spanV2_ok hA hB hlt)
            have H1 := hide (read_is hA)
            have H2 := hide (read_is hB)
            clear eS hA hB
            by_cases hq : i + 1 < s.size
            · have hi2 : i + 1 ≤ 4611686018427387904 := by omega
              go_wp2_with fail
              refine (unhide H1 _).mono ?_
              rintro e w' ⟨rfl, h⟩
              obtain rfl : wr = w' := h.symm
              go_wp2_with fail
              refine (unhide H2 _).mono ?_
              rintro e w' ⟨rfl, h⟩
              obtain rfl : wr = w' := h.symm
              go_wp2
              obtain ⟨k3, k4, k5⟩ := span_box (w := w) x y (unhide HX)
              refine bodyPost_ret (v := spanE x y 0) ?_ rfl ⟨congrArg _ ((unhide HV).trans eV).symm, unhide HBE x y⟩
              simp [results, Tryd.results12, go_sem, k4, k5]
            · have hi2 : i + 1 ≤ 4611686018427387904 := by omega
              go_wp2_with fail
              refine (unhide H1 _).mono ?_
              rintro e w' ⟨rfl, h⟩
              obtain rfl : wr = w' := h.symm
              go_wp2_with fail
              refine (unhide H2 _).mono ?_
              rintro e w' ⟨rfl, h⟩
              obtain rfl : wr = w' := h.symm
              go_wp2
              obtain ⟨k3, k4, k5⟩ := span_box (w := w) x y (unhide HX)
              refine bodyPost_ret (v := spanE x y 0) ?_ rfl ⟨congrArg _ ((unhide HV).trans eV).symm, unhide HBE x y⟩
              simp [results, Tryd.results12, go_sem, k4, k5]
end Go.Proofs.YtebppdcnfbflkaaDoor

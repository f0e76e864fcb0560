/-
  slices.Repeat of one value, 64 times.
-/
import Derived.Test.YtokillomaemocaaTrRowU
import Derived.Shelf.Spec.SlicesInsert
namespace Go.Proofs.Ytokillomaemocaa.VU
open Go.RowKit Go.PlainAid Go.Lib Go.PRow Go.Maps Go.TrM Go.Shelf
set_option linter.unusedVariables false
set_option linter.unusedSimpArgs false
theorem hideR {p : Prop} (h : p) : Hid p := h
theorem unhideR {p : Prop} (h : Hid p) : p := h
theorem sizeE1 : (Try.prog.info? 5).map (·.size) = some 1 := by kernel_rfl
theorem make_row (l c : Nat) (h : l ≤ c) (hc : c ≤ 1048576) : ∃ MC : Array Value, MC.size = c ∧ ∀ W : World, (Instr.makeSlice 25 (.int .i64 (l : Int)) (.int .i64 (c : Int))).run Try.prog W = .ok (.slice (some ⟨W.heap.size, 0, none⟩) l c) (W.alloc (.cells MC 5)) := by
  obtain ⟨i0, hi0, hz0, hzs, hzb⟩ := info_parts infoE
  refine ⟨madeCells zeroE.cells (c * i0.size), by rw [size_madeCells, hzs, Nat.mul_one], fun W => ?_⟩
  have := run_makeSlice (P := Try.prog) W 25 5 i0 zeroE Try.underlying25 hi0 hz0 .i64 .i64 (l : Int) (c : Int) (by omega) (by omega) (by rw [hzs, Int.toNat_natCast]; omega) (by rw [hzb]; omega) (by omega)
  simpa only [Int.toNat_natCast] using this
set_option maxRecDepth 100000 in
set_option maxHeartbeats 2000000 in
theorem mul64_one (w : World) : Calls Try.prog 143 #[.int .u64 1, .int .u64 64] w fun e w' => e = .returned (.tuple #[.int .u64 0, .int .u64 64]) ∧ w' = w := by
  go_enter Try.func143, Try.ntmps143
  go_wp2
  all_goals refine bodyPost_ret (results_tmp2 rfl _ _ _) rfl ?_
  all_goals exact ⟨rfl, rfl⟩
set_option maxRecDepth 100000 in
set_option maxHeartbeats 2000000 in
theorem mul_one (w : World) : Calls Try.prog 120 #[.int .u64 1, .int .u64 64] w fun e w' => e = .returned (.tuple #[.int .u64 0, .int .u64 64]) ∧ w' = w := by
  go_enter Try.func120, Try.ntmps120
  go_wp2_with fail
  refine (mul64_one w).mono ?_
  rintro e w' ⟨rfl, rfl⟩
  go_wp2
  all_goals refine bodyPost_ret (results_tmp2 rfl _ _ _) rfl ?_
  all_goals exact ⟨rfl, rfl⟩
set_option maxRecDepth 100000 in
set_option maxHeartbeats 2000000 in
theorem repeat_any (w : World) (g : Nat) (x : El) (hc : w.cell? ⟨g, 0, none⟩ = some (enc x)) :
    Calls Try.prog 92 #[.slice (some ⟨g, 0, none⟩) 1 1, .int .i64 64] w fun e w' => ∃ cur : Array Value, e = .returned (.slice (some ⟨w.heap.size, 0, none⟩) 64 64) ∧ w'.heap[w.heap.size]? = some (.cells cur 5 (0, 0)) ∧ cur.size = 64 ∧ cur.toList.take 64 = (List.replicate 64 x).map enc ∧ Below w.heap.size w w' := by
  have hlt := World.block_lt_of_cell? _ _ hc
  obtain ⟨MC, hMC, hmk⟩ := make_row 64 64 (Nat.le_refl _) (by omega)
  have hmk' : ∀ W : World, (Instr.makeSlice 25 (.int .i64 64) (.int .i64 64)).run Try.prog W = .ok (.slice (some ⟨W.heap.size, 0, none⟩) 64 64) (W.alloc (.cells MC 5)) := hmk
  go_enter Try.func92, Try.ntmps92
  go_wp2_with fail
  refine (mul_one w).mono ?_
  rintro e w' ⟨rfl, rfl⟩
  clear hmk
  obtain ⟨W1, hW1⟩ : ∃ W1, w'.alloc (.cells MC 5) = W1 := ⟨_, rfl⟩
  have hG : W1.heap[w'.heap.size]? = some (.cells MC 5 (0, 0)) := by rw [← hW1]; exact heap_alloc_new w' _
  have hB1 : Below w'.heap.size w' W1 := by rw [← hW1]; exact (Below.refl _ w').alloc (Nat.le_refl _) _
  have hc1 : W1.cell? ⟨g, 0, none⟩ = some (enc x) := (hB1.cell hlt).trans hc
  have hm0 : (Instr.makeSlice 25 (.int .i64 64) (.int .i64 64)).run Try.prog w' = .ok (.slice (some ⟨w'.heap.size, 0, none⟩) 64 64) W1 := by rw [← hW1]; exact hmk' w'
  have hcp1 : ∀ ty, (Builtin.copy_ #[25, 25] ty #[.slice (some ⟨w'.heap.size, 0, none⟩) 64 64, .slice (some ⟨g, 0, none⟩) 1 1]).run Try.prog W1 = .ok (.int .i64 1) (W1.setRow w'.heap.size (spl MC 0 [enc x])) := fun ty =>
    run_copyK W1 _ _ ty 5 1 w'.heap.size 0 64 64 ⟨g, 0, none⟩ 1 1 MC _ [enc x] Try.underlying25 sizeE1 hG rfl (fun j v hj => by
      cases j with
      | zero => simp at hj; subst hj; exact hc1
      | succ j => simp at hj) (by rw [hMC]; simp) (cellsE_one [x])
  have hB2 : Below w'.heap.size w' (W1.setRow w'.heap.size (spl MC 0 [enc x])) := hB1.grown (setRow_grown W1 _ _) hB1.size (fun k hk => by cases hk; exact Nat.le_refl _)
  have hG2 : (W1.setRow w'.heap.size (spl MC 0 [enc x])).heap[w'.heap.size]? = some (.cells (spl MC 0 [enc x]) 5 (0, 0)) := by
    simp only [World.setRow, Array.getElem?_modify, if_true, hG, Option.map_some]
  have hs2 : (spl MC 0 [enc x]).size = 64 := by rw [spl_size _ _ _ (by rw [hMC]; simp), hMC]
  have ht2 : (spl MC 0 [enc x]).toList.take 1 = List.replicate 1 (enc x) := spl_end (n := 0) (m := 1) (xs := []) (ys := [enc x]) (by simp) rfl rfl
  generalize W1.setRow w'.heap.size (spl MC 0 [enc x]) = W2 at *
  generalize spl MC 0 [enc x] = C2 at *
  have H2 := hideR (And.intro hB2 (And.intro hG2 (And.intro hs2 ht2)))
  clear hB2 hG2 hs2 ht2 hW1 hG hc1 hMC hB1 hc hmk'
  go_wp2_with (at_builtin; refine wpList_copy_runI _ rfl _ _ 25 25 rfl _ _ rfl rfl (hcp1 _) ?_)
  go_loopw [8] (fun v8 wr => ∃ (n : Nat) (cur : Array Value), 1 ≤ n ∧ n ≤ 64 ∧ v8 = .int .i64 n ∧ wr.heap[w'.heap.size]? = some (.cells cur 5 (0, 0)) ∧ cur.size = 64 ∧ cur.toList.take n = List.replicate n (enc x) ∧ Below w'.heap.size w' wr) (fun v8 _ => 64 - (RowKit.intOf v8).toNat)
  case atStart => exact ⟨1, C2, Nat.le_refl _, by omega, rfl, (unhideR H2).2.1, (unhideR H2).2.2.1, (unhideR H2).2.2.2, (unhideR H2).1⟩
  case round =>
    obtain ⟨n, cur, hn1, hn2, rfl, hh, hs, ht, hB⟩ := hrel
    clear H2
    by_cases hlt : n < 64
    · have hcl : (List.replicate (Nat.min n (64 - n)) (enc x)).length = Nat.min n (64 - n) := by simp
      have hmin : Nat.min n (64 - n) ≤ 64 - n ∧ Nat.min n (64 - n) ≤ n ∧ 1 ≤ Nat.min n (64 - n) := by simp only [Nat.min_def]; split <;> omega
      have hcp : ∀ ty dc sc, (Builtin.copy_ #[25, 25] ty #[.slice (some ⟨w'.heap.size, n, none⟩) (64 - n) dc, .slice (some ⟨w'.heap.size, 0, none⟩) n sc]).run Try.prog wr.drew = .ok (goInt (Nat.min n (64 - n))) (wr.drew.setRow w'.heap.size (spl cur n (List.replicate (Nat.min n (64 - n)) (enc x)))) := fun ty dc sc =>
        run_copyK wr.drew _ _ ty 5 1 w'.heap.size n (64 - n) dc ⟨w'.heap.size, 0, none⟩ n sc cur _ _ Try.underlying25 sizeE1 hh (by rw [hcl, Nat.mul_one]) (fun j v hj => by
          rw [List.getElem?_replicate] at hj
          split at hj
          · cases hj
            rw [Addr.add_lit]
            exact row_cell hh ht (by omega) _ _ (by rw [List.getElem?_replicate, if_pos (by omega)])
          · cases hj) (by rw [hcl, hs]; omega) (fun v hv => by rw [(List.mem_replicate.1 hv).2]; rfl)
      have hB2 : Below w'.heap.size w' (wr.drew.setRow w'.heap.size (spl cur n (List.replicate (Nat.min n (64 - n)) (enc x)))) := hB.drew.grown (setRow_grown wr.drew _ _) hB.drew.size (fun k hk => by cases hk; exact Nat.le_refl _)
      have hG2 : (wr.drew.setRow w'.heap.size (spl cur n (List.replicate (Nat.min n (64 - n)) (enc x)))).heap[w'.heap.size]? = some (.cells (spl cur n (List.replicate (Nat.min n (64 - n)) (enc x))) 5 (0, 0)) := by
        have hh' : wr.drew.heap[w'.heap.size]? = some (.cells cur 5 (0, 0)) := hh
        simp only [World.setRow, Array.getElem?_modify, if_true, hh', Option.map_some]
      have hs2 : (spl cur n (List.replicate (Nat.min n (64 - n)) (enc x))).size = 64 := by rw [spl_size _ _ _ (by rw [hcl, hs]; omega), hs]
      have ht2 : (spl cur n (List.replicate (Nat.min n (64 - n)) (enc x))).toList.take (n + Nat.min n (64 - n)) = List.replicate (n + Nat.min n (64 - n)) (enc x) := by rw [spl_end ht (by simp) hcl, List.replicate_append_replicate]
      generalize wr.drew.setRow w'.heap.size (spl cur n (List.replicate (Nat.min n (64 - n)) (enc x))) = W3 at *
      generalize spl cur n (List.replicate (Nat.min n (64 - n)) (enc x)) = C3 at *
      have hgi : goInt (Nat.min n (64 - n)) = .int .i64 (Nat.min n (64 - n) : Nat) := rfl
      rw [hgi] at hcp
      have hw : IntKind.i64.wrap ((n : Int) + (Nat.min n (64 - n) : Nat)) = (n : Int) + (Nat.min n (64 - n) : Nat) := by rw [IntKind.wrap_i64]; omega
      have H3 := hideR (And.intro hB2 (And.intro hG2 (And.intro hs2 (And.intro ht2 hmin))))
      generalize Nat.min n (64 - n) = d at *
      have hnn : (n : Int) < 64 := by omega
      have hnb : (n : Int) ≤ 64 := by omega
      have hne : ¬ (64 = n) := by omega
      clear hB2 hG2 hs2 ht2 hmin hcl hgi hh hs ht hB
      go_wp2_with fail
      go_region_law (refine step_copy_runI rfl _ _ 25 25 rfl _ _ (by simp [Act.eval, Act.put]) (by simp [Act.eval, Act.put]) (hcp _ _ _) ?_)
      simp [Act.put]
      go_roundw
      case rel =>
       exact ⟨_, _, _, _, _, _, _, _, _, _, _, _, _, _, ⟨n + d, C3, by omega, by have := (unhideR H3).2.2.2.2; omega, by go_num, (unhideR H3).2.1, (unhideR H3).2.2.1, (unhideR H3).2.2.2.1, (unhideR H3).1⟩, rfl⟩
      case measure => have := (unhideR H3).2.2.2.2; simp [RowKit.intOf]; omega
    · have e : n = 64 := by omega
      subst e
      have H3 := hideR (And.intro hh (And.intro hs (And.intro ht hB)))
      clear hh hs ht hB
      go_wp2
      go_ret
      exact ⟨cur, rfl, (unhideR H3).1, (unhideR H3).2.1, by rw [List.map_replicate]; exact (unhideR H3).2.2.1, (unhideR H3).2.2.2⟩
end Go.Proofs.Ytokillomaemocaa.VU

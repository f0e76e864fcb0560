/-
  These texts, one behind the other: TrRepW, TrRepU, TrLayU, TrNewU.
-/
import Derived.Test.YtokillomaemocaaTrQd
import Derived.Shelf.Spec.SlicesInsert
import Derived.Test.YtokillomaemocaaTrQc
import Derived.Test.YtokillomaemocaaTrQf
import Derived.Deep.RegionWith
/-
  slices.Repeat of one value, 64 times.
-/
namespace Go.Proofs.Ytokillomaemocaa.VW
open Go.RowKit Go.PlainAid Go.Lib Go.PRow Go.Maps Go.TrM Go.Shelf
set_option linter.unusedVariables false
set_option linter.unusedSimpArgs false
theorem hideR {p : Prop} (h : p) : Hid p := h
theorem unhideR {p : Prop} (h : Hid p) : p := h
theorem sizeE1 : (Try.prog.info? 34).map (·.size) = some 1 := by kernel_rfl
theorem make_row (l c : Nat) (h : l ≤ c) (hc : c ≤ 1048576) : ∃ MC : Array Value, MC.size = c ∧ ∀ W : World, (Instr.makeSlice 24 (.int .i64 (l : Int)) (.int .i64 (c : Int))).run Try.prog W = .ok (.slice (some ⟨W.heap.size, 0, none⟩) l c) (W.alloc (.cells MC 34)) := by
  obtain ⟨i0, hi0, hz0, hzs, hzb⟩ := info_parts infoE
  refine ⟨madeCells zeroE.cells (c * i0.size), by rw [size_madeCells, hzs, Nat.mul_one], fun W => ?_⟩
  have := run_makeSlice (P := Try.prog) W 24 34 i0 zeroE Try.underlying24 hi0 hz0 .i64 .i64 (l : Int) (c : Int) (by omega) (by omega) (by rw [hzs, Int.toNat_natCast]; omega) (by rw [hzb]; omega) (by omega)
  simpa only [Int.toNat_natCast] using this
set_option maxRecDepth 100000 in
set_option maxHeartbeats 2000000 in
theorem mul64_one (w : World) : Calls Try.prog 143 #[.int .u64 1, .int .u64 64] w fun e w' => e = .returned (.tuple #[.int .u64 0, .int .u64 64]) ∧ w' = w := by
  go_enter Try.func143, Try.ntmps143
  go_wp2
  all_goals refine bodyPost_ret (results_tmp2 rfl _ _ _) rfl ?_
  all_goals exact ⟨rfl, rfl⟩
set_option maxRecDepth 100000 in
set_option maxHeartbeats 2000000 in
theorem mul_one (w : World) : Calls Try.prog 120 #[.int .u64 1, .int .u64 64] w fun e w' => e = .returned (.tuple #[.int .u64 0, .int .u64 64]) ∧ w' = w := by
  go_enter Try.func120, Try.ntmps120
  go_wp2_with fail
  refine (mul64_one w).mono ?_
  rintro e w' ⟨rfl, rfl⟩
  go_wp2
  all_goals refine bodyPost_ret (results_tmp2 rfl _ _ _) rfl ?_
  all_goals exact ⟨rfl, rfl⟩
end Go.Proofs.Ytokillomaemocaa.VW
/-
  slices.Repeat of one value, 64 times.
-/
namespace Go.Proofs.Ytokillomaemocaa.VU
open Go.RowKit Go.PlainAid Go.Lib Go.PRow Go.Maps Go.TrM Go.Shelf
set_option linter.unusedVariables false
set_option linter.unusedSimpArgs false
theorem hideR {p : Prop} (h : p) : Hid p := h
theorem unhideR {p : Prop} (h : Hid p) : p := h
theorem sizeE1 : (Try.prog.info? 5).map (·.size) = some 1 := by kernel_rfl
theorem make_row (l c : Nat) (h : l ≤ c) (hc : c ≤ 1048576) : ∃ MC : Array Value, MC.size = c ∧ ∀ W : World, (Instr.makeSlice 25 (.int .i64 (l : Int)) (.int .i64 (c : Int))).run Try.prog W = .ok (.slice (some ⟨W.heap.size, 0, none⟩) l c) (W.alloc (.cells MC 5)) := by
  obtain ⟨i0, hi0, hz0, hzs, hzb⟩ := info_parts infoE
  refine ⟨madeCells zeroE.cells (c * i0.size), by rw [size_madeCells, hzs, Nat.mul_one], fun W => ?_⟩
  have := run_makeSlice (P := Try.prog) W 25 5 i0 zeroE Try.underlying25 hi0 hz0 .i64 .i64 (l : Int) (c : Int) (by omega) (by omega) (by rw [hzs, Int.toNat_natCast]; omega) (by rw [hzb]; omega) (by omega)
  simpa only [Int.toNat_natCast] using this
set_option maxRecDepth 100000 in
set_option maxHeartbeats 2000000 in
theorem mul64_one (w : World) : Calls Try.prog 143 #[.int .u64 1, .int .u64 64] w fun e w' => e = .returned (.tuple #[.int .u64 0, .int .u64 64]) ∧ w' = w := by
  go_enter Try.func143, Try.ntmps143
  go_wp2
  all_goals refine bodyPost_ret (results_tmp2 rfl _ _ _) rfl ?_
  all_goals exact ⟨rfl, rfl⟩
set_option maxRecDepth 100000 in
set_option maxHeartbeats 2000000 in
theorem mul_one (w : World) : Calls Try.prog 120 #[.int .u64 1, .int .u64 64] w fun e w' => e = .returned (.tuple #[.int .u64 0, .int .u64 64]) ∧ w' = w := by
  go_enter Try.func120, Try.ntmps120
  go_wp2_with fail
  refine (mul64_one w).mono ?_
  rintro e w' ⟨rfl, rfl⟩
  go_wp2
  all_goals refine bodyPost_ret (results_tmp2 rfl _ _ _) rfl ?_
  all_goals exact ⟨rfl, rfl⟩
set_option maxRecDepth 100000 in
set_option maxHeartbeats 2000000 in
theorem repeat_any (w : World) (g : Nat) (x : El) (hc : w.cell? ⟨g, 0, none⟩ = some (enc x)) :
    Calls Try.prog 92 #[.slice (some ⟨g, 0, none⟩) 1 1, .int .i64 64] w fun e w' => ∃ cur : Array Value, e = .returned (.slice (some ⟨w.heap.size, 0, none⟩) 64 64) ∧ w'.heap[w.heap.size]? = some (.cells cur 5 (0, 0)) ∧ cur.size = 64 ∧ cur.toList.take 64 = (List.replicate 64 x).map enc ∧ Below w.heap.size w w' := by
  have hlt := World.block_lt_of_cell? _ _ hc
  obtain ⟨MC, hMC, hmk⟩ := make_row 64 64 (Nat.le_refl _) (by omega)
  have hmk' : ∀ W : World, (Instr.makeSlice 25 (.int .i64 64) (.int .i64 64)).run Try.prog W = .ok (.slice (some ⟨W.heap.size, 0, none⟩) 64 64) (W.alloc (.cells MC 5)) := hmk
  go_enter Try.func92, Try.ntmps92
  go_wp2_with fail
  refine (mul_one w).mono ?_
  rintro e w' ⟨rfl, rfl⟩
  clear hmk
  obtain ⟨W1, hW1⟩ : ∃ W1, w'.alloc (.cells MC 5) = W1 := ⟨_, rfl⟩
  have hG : W1.heap[w'.heap.size]? = some (.cells MC 5 (0, 0)) := by rw [← hW1]; exact heap_alloc_new w' _
  have hB1 : Below w'.heap.size w' W1 := by rw [← hW1]; exact (Below.refl _ w').alloc (Nat.le_refl _) _
  have hc1 : W1.cell? ⟨g, 0, none⟩ = some (enc x) := (hB1.cell hlt).trans hc
  have hm0 : (Instr.makeSlice 25 (.int .i64 64) (.int .i64 64)).run Try.prog w' = .ok (.slice (some ⟨w'.heap.size, 0, none⟩) 64 64) W1 := by rw [← hW1]; exact hmk' w'
  have hcp1 : ∀ ty, (Builtin.copy_ #[25, 25] ty #[.slice (some ⟨w'.heap.size, 0, none⟩) 64 64, .slice (some ⟨g, 0, none⟩) 1 1]).run Try.prog W1 = .ok (.int .i64 1) (W1.setRow w'.heap.size (spl MC 0 [enc x])) := fun ty =>
    run_copyK W1 _ _ ty 5 1 w'.heap.size 0 64 64 ⟨g, 0, none⟩ 1 1 MC _ [enc x] Try.underlying25 sizeE1 hG rfl (fun j v hj => by
      cases j with
      | zero => simp at hj; subst hj; exact hc1
      | succ j => simp at hj) (by rw [hMC]; simp) (cellsE_one [x])
  have hB2 : Below w'.heap.size w' (W1.setRow w'.heap.size (spl MC 0 [enc x])) := hB1.grown (setRow_grown W1 _ _) hB1.size (fun k hk => by cases hk; exact Nat.le_refl _)
  have hG2 : (W1.setRow w'.heap.size (spl MC 0 [enc x])).heap[w'.heap.size]? = some (.cells (spl MC 0 [enc x]) 5 (0, 0)) := by
    simp only [World.setRow, Array.getElem?_modify, if_true, hG, Option.map_some]
  have hs2 : (spl MC 0 [enc x]).size = 64 := by rw [spl_size _ _ _ (by rw [hMC]; simp), hMC]
  have ht2 : (spl MC 0 [enc x]).toList.take 1 = List.replicate 1 (enc x) := spl_end (n := 0) (m := 1) (xs := []) (ys := [enc x]) (by simp) rfl rfl
  generalize W1.setRow w'.heap.size (spl MC 0 [enc x]) = W2 at *
  generalize spl MC 0 [enc x] = C2 at *
  have H2 := hideR (And.intro hB2 (And.intro hG2 (And.intro hs2 ht2)))
  clear hB2 hG2 hs2 ht2 hW1 hG hc1 hMC hB1 hc hmk'
  go_wp2_with (at_builtin; refine wpList_copy_runI _ rfl _ _ 25 25 rfl _ _ rfl rfl (hcp1 _) ?_)
  go_loopw [8] (fun v8 wr => ∃ (n : Nat) (cur : Array Value), 1 ≤ n ∧ n ≤ 64 ∧ v8 = .int .i64 n ∧ wr.heap[w'.heap.size]? = some (.cells cur 5 (0, 0)) ∧ cur.size = 64 ∧ cur.toList.take n = List.replicate n (enc x) ∧ Below w'.heap.size w' wr) (fun v8 _ => 64 - (RowKit.intOf v8).toNat)
  case atStart => exact ⟨1, C2, Nat.le_refl _, by omega, rfl, (unhideR H2).2.1, (unhideR H2).2.2.1, (unhideR H2).2.2.2, (unhideR H2).1⟩
  case round =>
    obtain ⟨n, cur, hn1, hn2, rfl, hh, hs, ht, hB⟩ := hrel
    clear H2
    by_cases hlt : n < 64
    · have hcl : (List.replicate (Nat.min n (64 - n)) (enc x)).length = Nat.min n (64 - n) := by simp
      have hmin : Nat.min n (64 - n) ≤ 64 - n ∧ Nat.min n (64 - n) ≤ n ∧ 1 ≤ Nat.min n (64 - n) := by simp only [Nat.min_def]; split <;> omega
      have hcp : ∀ ty dc sc, (Builtin.copy_ #[25, 25] ty #[.slice (some ⟨w'.heap.size, n, none⟩) (64 - n) dc, .slice (some ⟨w'.heap.size, 0, none⟩) n sc]).run Try.prog wr.drew = .ok (goInt (Nat.min n (64 - n))) (wr.drew.setRow w'.heap.size (spl cur n (List.replicate (Nat.min n (64 - n)) (enc x)))) := fun ty dc sc =>
        run_copyK wr.drew _ _ ty 5 1 w'.heap.size n (64 - n) dc ⟨w'.heap.size, 0, none⟩ n sc cur _ _ Try.underlying25 sizeE1 hh (by rw [hcl, Nat.mul_one]) (fun j v hj => by
          rw [List.getElem?_replicate] at hj
          split at hj
          · cases hj
            rw [Addr.add_lit]
            exact row_cell hh ht (by omega) _ _ (by rw [List.getElem?_replicate, if_pos (by omega)])
          · cases hj) (by rw [hcl, hs]; omega) (fun v hv => by rw [(List.mem_replicate.1 hv).2]; rfl)
      have hB2 : Below w'.heap.size w' (wr.drew.setRow w'.heap.size (spl cur n (List.replicate (Nat.min n (64 - n)) (enc x)))) := hB.drew.grown (setRow_grown wr.drew _ _) hB.drew.size (fun k hk => by cases hk; exact Nat.le_refl _)
      have hG2 : (wr.drew.setRow w'.heap.size (spl cur n (List.replicate (Nat.min n (64 - n)) (enc x)))).heap[w'.heap.size]? = some (.cells (spl cur n (List.replicate (Nat.min n (64 - n)) (enc x))) 5 (0, 0)) := by
        have hh' : wr.drew.heap[w'.heap.size]? = some (.cells cur 5 (0, 0)) := hh
        simp only [World.setRow, Array.getElem?_modify, if_true, hh', Option.map_some]
      have hs2 : (spl cur n (List.replicate (Nat.min n (64 - n)) (enc x))).size = 64 := by rw [spl_size _ _ _ (by rw [hcl, hs]; omega), hs]
      have ht2 : (spl cur n (List.replicate (Nat.min n (64 - n)) (enc x))).toList.take (n + Nat.min n (64 - n)) = List.replicate (n + Nat.min n (64 - n)) (enc x) := by rw [spl_end ht (by simp) hcl, List.replicate_append_replicate]
      generalize wr.drew.setRow w'.heap.size (spl cur n (List.replicate (Nat.min n (64 - n)) (enc x))) = W3 at *
      generalize spl cur n (List.replicate (Nat.min n (64 - n)) (enc x)) = C3 at *
      have hgi : goInt (Nat.min n (64 - n)) = .int .i64 (Nat.min n (64 - n) : Nat) := rfl
      rw [hgi] at hcp
      have hw : IntKind.i64.wrap ((n : Int) + (Nat.min n (64 - n) : Nat)) = (n : Int) + (Nat.min n (64 - n) : Nat) := by rw [IntKind.wrap_i64]; omega
      have H3 := hideR (And.intro hB2 (And.intro hG2 (And.intro hs2 (And.intro ht2 hmin))))
      generalize Nat.min n (64 - n) = d at *
      have hnn : (n : Int) < 64 := by omega
      have hnb : (n : Int) ≤ 64 := by omega
      have hne : ¬ (64 = n) := by omega
      clear hB2 hG2 hs2 ht2 hmin hcl hgi hh hs ht hB
      go_wp2_with fail
      go_region_law (refine step_copy_runI rfl _ _ 25 25 rfl _ _ (by simp [Act.eval, Act.put]) (by simp [Act.eval, Act.put]) (hcp _ _ _) ?_)
      simp [Act.put]
      go_roundw
      case rel =>
       exact ⟨_, _, _, _, _, _, _, _, _, _, _, _, _, _, ⟨n + d, C3, by omega, by have := (unhideR H3).2.2.2.2; omega, by go_num, (unhideR H3).2.1, (unhideR H3).2.2.1, (unhideR H3).2.2.2.1, (unhideR H3).1⟩, rfl⟩
      case measure => have := (unhideR H3).2.2.2.2; simp [RowKit.intOf]; omega
    · have e : n = 64 := by omega
      subst e
      have H3 := hideR (And.intro hh (And.intro hs (And.intro ht hB)))
      clear hh hs ht hB
      go_wp2
      go_ret
      exact ⟨cur, rfl, (unhideR H3).1, (unhideR H3).2.1, by rw [List.map_replicate]; exact (unhideR H3).2.2.1, (unhideR H3).2.2.2⟩
end Go.Proofs.Ytokillomaemocaa.VU
/-
  Values laid: so many of one; a new maker.
-/
namespace Go.Proofs.Ytokillomaemocaa.VU
open Go.RowKit Go.PlainAid Go.Lib Go.PRow Go.Maps Go.TrM
set_option linter.unusedVariables false
set_option linter.unusedSimpArgs false
set_option maxRecDepth 100000 in
set_option maxHeartbeats 4000000 in
theorem lay_any (Q : Ending → World → Prop) (w : World) (B mk : Nat) (o : Nat → Prop) (vs : List El) (x : El) (c : Nat) (h : MakV w B mk o vs) (hx : okE x) (hl : vs.length + c ≤ 1114112)
    (hQ : Hid (∀ w' o', MakV w' B mk o' (vs ++ List.replicate c x) → MakK w w' o o' → Below B w w' → Q (.returned (.tuple #[])) w')) : Calls Try.prog 48 #[.pointer (some ⟨mk, 0, none⟩), enc x, .int .i64 c] w Q := by
  have HX := hide hx
  have HV := hide h
  clear hx h
  go_enter Try.func48, Try.ntmps48
  go_wp2_with fail
  go_loopw [2] (fun v2 wr => ∃ (k : Nat) (o2 : Nat → Prop), k ≤ c ∧ v2 = .int .i64 ((c - k : Nat) : Int) ∧ MakV wr B mk o2 (vs ++ List.replicate k x) ∧ MakK w wr o o2 ∧ Below B w wr) (fun v2 _ => (RowKit.intOf v2).toNat)
  case atStart => exact ⟨0, o, Nat.zero_le _, rfl, by simpa using unhide HV, MakK.refl _ _, Below.refl _ _⟩
  case round =>
    obtain ⟨k, o2, hk, rfl, hV, hO, hB⟩ := hrel
    clear HV
    by_cases hlt : k < c
    · have hpos : (0 : Int) < ((c - k : Nat) : Int) := by omega
      obtain ⟨bn, m, v, vl, vb, rfl, hM, hok⟩ := hV
      obtain ⟨c0, c1, c2⟩ := cell3 hM.hk
      have hbl := restB_len (vs ++ List.replicate k x)
      obtain ⟨a, cap, e, hcap1, hcap2, _⟩ := hM.hb.form
      have hlen : (vs ++ List.replicate k x).length = vs.length + k := by simp
      rw [hlen] at hbl
      rw [hbl] at e
      have HM := hide (And.intro hM (And.intro hok (And.intro hO hB)))
      clear hM hok hO hB hcap1 hcap2 hlen hbl
      by_cases hb0 : (vs.length + k) % 64 = 0
      · rw [hb0] at e
        subst e
        by_cases hb1 : 64 ≤ c - k
        · have hb2 : (64 : Int) ≤ ((c - k : Nat) : Int) := by omega
          have hal : Below wr.heap.size wr (wr.alloc (.cells #[enc x] 5)) := (Below.refl _ wr).alloc (Nat.le_refl _) _
          have HRE := hide (repeat_any (wr.alloc (.cells #[enc x] 5)) wr.heap.size x (by simp only [World.cell?, heap_alloc_last]; rfl))
          have HAL := hide hal
          clear hal
          go_wp2_with fail
          refine (unhide HRE).mono ?_
          rintro e w2 ⟨cur, rfl, hh, hs, ht, hB2⟩
          have HR := hide (And.intro hh (And.intro hs (And.intro ht hB2)))
          clear hh hs ht hB2
          go_wp2_with fail
          have hdiv : ((c - k : Nat) : Int) / 64 = (((c - k) / 64 : Nat) : Int) := by omega
          rw [hdiv]
          clear hdiv
          obtain ⟨hM, hok, hO, hB⟩ := unhide HM
          obtain ⟨hh, hs, ht, hB2⟩ := unhide HR
          rw [World.size_alloc] at hh hB2
          have hbw : Below wr.heap.size wr w2 := (unhide HAL).trans (hB2.mono (by omega))
          have hM2 := hM.below hbw
          have hlen : (vs ++ List.replicate k x).length = vs.length + k := by simp
          have hr0 : restB (vs ++ List.replicate k x) = [] := by
            have := restB_len (vs ++ List.replicate k x)
            rw [hlen, hb0] at this
            exact List.length_eq_zero_iff.1 this
          have hwl := whole_le (vs ++ List.replicate k x)
          have hw2 := whole_len (vs ++ List.replicate k x)
          rw [hlen] at hwl hw2
          have hob : OkB (List.replicate 64 x) := ⟨List.length_replicate, fun y hy => by rw [(List.mem_replicate.1 hy).2]; exact unhide HX⟩
          have hcl : ∀ j y, (List.replicate 64 x)[j]? = some y → w2.cell? ⟨wr.heap.size + 1, 0 + j, none⟩ = some (enc y) := fun j y hy => by
            rw [Nat.zero_add]
            exact row_cell hh ht (by omega) j _ (by rw [List.getElem?_map, hy]; rfl)
          have hput := put_any w2 B mk bn m v vl _ _ _ _ hM2 (wr.heap.size + 1) 0 64 (List.replicate 64 x) hob hcl (fun q => by have := (hM.hn.hv.lt _ q).2; omega) ((c - k) / 64) (by omega) (by rw [List.length_map]; omega)
          refine hput.mono ?_
          rintro e w3 ⟨rfl, v3, vl3, hM3, hO3, hB3⟩
          obtain ⟨q1, q2⟩ := put_many (vs := vs ++ List.replicate k x) (x := x) (n := (c - k) / 64) (by rw [hlen]; exact hb0) (by omega)
          rw [List.append_assoc, List.replicate_append_replicate] at q1 q2
          have hV3 : MakV w3 B mk (Own mk bn m v3 vl3 (.slice a 0 cap)) (vs ++ List.replicate (k + 64 * ((c - k) / 64)) x) := by
            refine ⟨bn, m, v3, vl3, _, rfl, ?_, fun y hy => ?_⟩
            · rw [q1, q2, List.map_append, List.map_replicate]
              rw [hr0] at hM3
              exact hM3
            · rcases List.mem_append.1 hy with q | q
              · exact hok y (List.mem_append_left _ q)
              · rw [(List.mem_replicate.1 q).2]; exact unhide HX
          have HF := hide (And.intro hV3 (And.intro (hO.trans (hO3.after hbw)) (hB.trans ((hbw.mono (Nat.le_trans hM.bB (Nat.le_of_lt hM.lt))).trans hB3))))
          clear hput hV3 hM3 hO3 hB3 hM2 hM hok hO hB hh hs ht hB2 hbw hob hcl q1 q2 hwl hw2 hr0 hlen c0 c1 c2
          go_wp2
          go_roundw
          case rel => exact ⟨k + 64 * ((c - k) / 64), _, by omega, by (congr 1; omega), (unhide HF).1, (unhide HF).2.1, (unhide HF).2.2⟩
          case measure => simp [RowKit.intOf]; omega
        · have hb2 : ¬ ((64 : Int) ≤ ((c - k : Nat) : Int)) := by omega
          go_wp2_with fail
          refine add_any _ wr B mk _ (vs ++ List.replicate k x) x ⟨bn, m, v, vl, _, rfl, (unhide HM).1, (unhide HM).2.1⟩ (unhide HX) (by simp; omega) (hide fun w' o' hV' hK' hB' => ?_)
          have hwm : IntKind.i64.wrap (((c - k : Nat) : Int) - 1) = ((c - (k + 1) : Nat) : Int) := by rw [IntKind.wrap_i64]; omega
          have HF := hide (And.intro hV' (And.intro ((unhide HM).2.2.1.trans hK') ((unhide HM).2.2.2.trans hB')))
          clear hV' hK' hB' c0 c1 c2
          go_wp2
          go_roundw
          case rel =>
            have e1 : vs ++ List.replicate k x ++ [x] = vs ++ List.replicate (k + 1) x := by rw [List.append_assoc, ← List.replicate_succ']
            exact ⟨k + 1, o', by omega, rfl, e1 ▸ (unhide HF).1, (unhide HF).2.1, (unhide HF).2.2⟩
          case measure => simp [RowKit.intOf]; omega
      · subst e
        go_wp2_with fail
        refine add_any _ wr B mk _ (vs ++ List.replicate k x) x ⟨bn, m, v, vl, _, rfl, (unhide HM).1, (unhide HM).2.1⟩ (unhide HX) (by simp; omega) (hide fun w' o' hV' hK' hB' => ?_)
        have hwm : IntKind.i64.wrap (((c - k : Nat) : Int) - 1) = ((c - (k + 1) : Nat) : Int) := by rw [IntKind.wrap_i64]; omega
        have HF := hide (And.intro hV' (And.intro ((unhide HM).2.2.1.trans hK') ((unhide HM).2.2.2.trans hB')))
        clear hV' hK' hB' c0 c1 c2
        go_wp2
        go_roundw
        case rel =>
          have e1 : vs ++ List.replicate k x ++ [x] = vs ++ List.replicate (k + 1) x := by rw [List.append_assoc, ← List.replicate_succ']
          exact ⟨k + 1, o', by omega, rfl, e1 ▸ (unhide HF).1, (unhide HF).2.1, (unhide HF).2.2⟩
        case measure => simp [RowKit.intOf]; omega
    · have e : k = c := by omega
      subst e
      have hpos : ¬ ((0 : Int) < ((k - k : Nat) : Int)) := by omega
      have HQ := hide (And.intro hV (And.intro hO hB))
      clear hV hO hB
      go_wp2
      refine bodyPost_end (results_none rfl _ _ _) rfl ?_
      exact unhide hQ wr o2 (unhide HQ).1 (unhide HQ).2.1 (unhide HQ).2.2
end Go.Proofs.Ytokillomaemocaa.VU
/-
  A new maker.
-/
namespace Go.Proofs.Ytokillomaemocaa.VU
open Go.RowKit Go.PlainAid Go.Lib Go.PRow Go.Maps Go.TrM
set_option linter.unusedVariables false
set_option linter.unusedSimpArgs false
theorem NumAt.al {w : World} {B bn m : Nat} {v : Value} {bs : List (List El)} (h : NumAt w B bn m v bs) (o : Obj) : NumAt (w.alloc o) B bn m v bs := h.below ((Below.refl _ w).alloc (Nat.le_refl _) _)
theorem heap_al {w : World} {g : Nat} {x : Obj} (h : w.heap[g]? = some x) (o : Obj) : (w.alloc o).heap[g]? = some x := (Below.heap_alloc w o g (Array.getElem?_eq_some_iff.1 h).1).trans h
theorem heap_at {w : World} {g : Nat} (o : Array Value) (t : TypeId) (e : g = w.heap.size) : (w.alloc (.cells o t)).heap[g]? = some (.cells o t (0, 0)) := by subst e; exact heap_alloc_new w _
theorem heap_be {w w' : World} {g n : Nat} {x : Obj} (b : Below n w w') (hn : g < n) (h : w.heap[g]? = some x) : w'.heap[g]? = some x := (b.block g hn).trans h
theorem drewH (W : World) : W.drew.heap = W.heap := rfl
/-- a maker that was given nothing -/
theorem mak_new {V : World} {B bn m gl gb mk : Nat} (e : V.heap.size = mk) {M1 M2 : Array Value} (hN : NumAt V B bn m (.slice none 0 0) []) (h1 : V.heap[gl]? = some (.cells M1 34 (0, 0))) (h2 : V.heap[gb]? = some (.cells M2 5 (0, 0))) (s1 : M1.size = 17408) (s2 : M2.size = 64) (b1 : B ≤ gl) (b2 : B ≤ gb) :
    MakV (V.alloc (.cells #[.pointer (some ⟨bn, 0, none⟩), .slice (some ⟨gl, 0, none⟩) 0 17408, .slice (some ⟨gb, 0, none⟩) 0 64] 156)) B mk (Own mk bn m (.slice none 0 0) (.slice (some ⟨gl, 0, none⟩) 0 17408) (.slice (some ⟨gb, 0, none⟩) 0 64)) [] := by
  subst e
  refine ⟨bn, m, _, _, _, rfl, ⟨heap_alloc_new V _, hN.al _, VW.RowE.of b1 (heap_al h1 _) rfl (Nat.zero_le _) (by unfold maxLen; omega) s1 rfl, RowE.of b2 (heap_al h2 _) rfl (Nat.zero_le _) (by unfold maxLen; omega) s2 rfl, Nat.le_trans hN.bB (Nat.le_of_lt hN.lt.1), fun g e => by rw [blk_zero] at e; cases e⟩, fun x hx => by cases hx⟩
set_option maxRecDepth 100000 in
set_option maxHeartbeats 4000000 in
theorem newMaker_any (Q : Ending → World → Prop) (w : World) (hQ : Hid (∀ w' mk o, MakV w' w.heap.size mk o [] → Below w.heap.size w w' → Q (.returned (.pointer (some ⟨mk, 0, none⟩))) w')) : Calls Try.prog 46 #[] w Q := by
  obtain ⟨M1, hM1, hmk1⟩ := VW.make_row 0 17408 (by omega) (by omega)
  obtain ⟨M2, hM2, hmk2⟩ := make_row 0 64 (by omega) (by omega)
  have hk1 : ∀ W : World, (Instr.makeSlice 24 (.int .i64 0) (.int .i64 17408)).run Try.prog W = .ok (.slice (some ⟨W.heap.size, 0, none⟩) 0 17408) (W.alloc (.cells M1 34)) := hmk1
  have hk2 : ∀ W : World, (Instr.makeSlice 25 (.int .i64 0) (.int .i64 64)).run Try.prog W = .ok (.slice (some ⟨W.heap.size, 0, none⟩) 0 64) (W.alloc (.cells M2 5)) := hmk2
  clear hmk1 hmk2
  have HNN := hide (fun W (hW : w.heap.size ≤ W.heap.size) => newNum_any W w.heap.size hW)
  go_enter Try.func46, Try.ntmps46
  go_wp2_with fail
  go_region_with (go_at_call 86; refine (unhide HNN _ (by simp <;> omega)).mono ?_; rintro e w4 ⟨rfl, hN4, hs4, hB4⟩; have HN4 := hide (And.intro hN4 (And.intro hs4 hB4)); clear hN4 hs4 hB4)
  all_goals clear hk1 hk2 HNN
  all_goals go_wp2
  all_goals go_ret
  all_goals obtain ⟨hN4, hs4, hB4⟩ := unhide HN4
  all_goals simp only [World.size_alloc, drewH] at hN4 hs4 hB4
  all_goals (
    refine unhide hQ _ _ _ (mak_new (M1 := M1) (M2 := M2) (by (first | omega | (simp only [World.size_alloc, drewH]; done) | (simp only [World.size_alloc, drewH]; omega))) (by first | exact hN4 | exact hN4.al _ | exact (hN4.al _).al _) ?_ ?_ hM1 hM2 ?_ ?_) ?_
    · first
        | exact heap_at _ _ (by (first | omega | (simp only [World.size_alloc, drewH]; done) | (simp only [World.size_alloc, drewH]; omega)))
        | exact heap_al (heap_at _ _ (by (first | omega | (simp only [World.size_alloc, drewH]; done) | (simp only [World.size_alloc, drewH]; omega)))) _
        | exact heap_be hB4 (by (first | omega | (simp only [World.size_alloc, drewH]; done) | (simp only [World.size_alloc, drewH]; omega))) (heap_at (w := w.drew) _ _ (by rfl))
        | exact heap_be hB4 (by (first | omega | (simp only [World.size_alloc, drewH]; done) | (simp only [World.size_alloc, drewH]; omega))) (heap_al (heap_at (w := w.drew) _ _ (by rfl)) _)
        | exact heap_be hB4 (by (first | omega | (simp only [World.size_alloc, drewH]; done) | (simp only [World.size_alloc, drewH]; omega))) (heap_at (w := w.drew.alloc _) _ _ (by (first | omega | (simp only [World.size_alloc, drewH]; done) | (simp only [World.size_alloc, drewH]; omega))))
        | exact heap_al (heap_be hB4 (by (first | omega | (simp only [World.size_alloc, drewH]; done) | (simp only [World.size_alloc, drewH]; omega))) (heap_at (w := w.drew) _ _ (by rfl))) _
    · first
        | exact heap_at _ _ (by (first | omega | (simp only [World.size_alloc, drewH]; done) | (simp only [World.size_alloc, drewH]; omega)))
        | exact heap_al (heap_at _ _ (by (first | omega | (simp only [World.size_alloc, drewH]; done) | (simp only [World.size_alloc, drewH]; omega)))) _
        | exact heap_be hB4 (by (first | omega | (simp only [World.size_alloc, drewH]; done) | (simp only [World.size_alloc, drewH]; omega))) (heap_at (w := w.drew) _ _ (by rfl))
        | exact heap_be hB4 (by (first | omega | (simp only [World.size_alloc, drewH]; done) | (simp only [World.size_alloc, drewH]; omega))) (heap_al (heap_at (w := w.drew) _ _ (by rfl)) _)
        | exact heap_be hB4 (by (first | omega | (simp only [World.size_alloc, drewH]; done) | (simp only [World.size_alloc, drewH]; omega))) (heap_at (w := w.drew.alloc _) _ _ (by (first | omega | (simp only [World.size_alloc, drewH]; done) | (simp only [World.size_alloc, drewH]; omega))))
        | exact heap_al (heap_be hB4 (by (first | omega | (simp only [World.size_alloc, drewH]; done) | (simp only [World.size_alloc, drewH]; omega))) (heap_at (w := w.drew) _ _ (by rfl))) _
    · (first | omega | (simp only [World.size_alloc, drewH]; done) | (simp only [World.size_alloc, drewH]; omega))
    · (first | omega | (simp only [World.size_alloc, drewH]; done) | (simp only [World.size_alloc, drewH]; omega))
    · first
        | exact ((((Below.refl w.heap.size w).drew.trans (hB4.mono (by (first | omega | (simp only [World.size_alloc, drewH]; done) | (simp only [World.size_alloc, drewH]; omega))))).alloc (by (first | omega | (simp only [World.size_alloc, drewH]; done) | (simp only [World.size_alloc, drewH]; omega))) _).alloc (by (first | omega | (simp only [World.size_alloc, drewH]; done) | (simp only [World.size_alloc, drewH]; omega))) _).alloc (by (first | omega | (simp only [World.size_alloc, drewH]; done) | (simp only [World.size_alloc, drewH]; omega))) _
        | exact ((((Below.refl w.heap.size w).drew.alloc (by (first | omega | (simp only [World.size_alloc, drewH]; done) | (simp only [World.size_alloc, drewH]; omega))) _).trans (hB4.mono (by (first | omega | (simp only [World.size_alloc, drewH]; done) | (simp only [World.size_alloc, drewH]; omega))))).alloc (by (first | omega | (simp only [World.size_alloc, drewH]; done) | (simp only [World.size_alloc, drewH]; omega))) _).alloc (by (first | omega | (simp only [World.size_alloc, drewH]; done) | (simp only [World.size_alloc, drewH]; omega))) _
        | exact ((((Below.refl w.heap.size w).drew.alloc (by (first | omega | (simp only [World.size_alloc, drewH]; done) | (simp only [World.size_alloc, drewH]; omega))) _).alloc (by (first | omega | (simp only [World.size_alloc, drewH]; done) | (simp only [World.size_alloc, drewH]; omega))) _).trans (hB4.mono (by (first | omega | (simp only [World.size_alloc, drewH]; done) | (simp only [World.size_alloc, drewH]; omega))))).alloc (by (first | omega | (simp only [World.size_alloc, drewH]; done) | (simp only [World.size_alloc, drewH]; omega))) _)
end Go.Proofs.Ytokillomaemocaa.VU

/-
  These texts, one behind the other: TrBlU, TrPaU.
-/
import Derived.Test.YtokillomaemocaaTrAt2U
import Derived.Test.YtokillomaemocaaTrAtU
import Derived.Test.YtokillomaemocaaTrQp
/-
  How many blocks there are; no trie.
-/
namespace Go.Proofs.Ytokillomaemocaa.VU
open Go.RowKit Go.PlainAid Go.Lib Go.PRow Go.Maps Go.TrM
set_option linter.unusedVariables false
set_option linter.unusedSimpArgs false
set_option maxRecDepth 100000 in
set_option maxHeartbeats 4000000 in
theorem blocks_any (w : World) (B bt : Nat) (vt vm vl : Value) (vs : List El) (h : TrAt w B bt vt vm vl vs) :
    Calls Try.prog 21 #[.pointer (some ⟨bt, 0, none⟩)] w fun e w' => e = .returned (.tuple #[.int .i64 ((midsV vs).1.length : Int), .int .i64 ((lowsV vs).1.length : Int)]) ∧ Below w.heap.size w w' := by
  obtain ⟨c0, c1, c2⟩ := cellT h.ht
  have HAB := hideA (absent_any w B bt vt vm vl vs h)
  obtain ⟨a1, k1, rfl, _⟩ := h.rm.form
  obtain ⟨a2, k2, rfl, _⟩ := h.rl.form
  have e1 : (((partsV vs).mid.map Int.ofNat).length : Int) / 64 = ((midsV vs).1.length : Int) := by rw [List.length_map, mid_len]; omega
  have e2 : ((partsV vs).low.length : Int) / 64 = ((lowsV vs).1.length : Int) := by rw [low_len]; omega
  have b1 : ((partsV vs).mid.map Int.ofNat).length ≤ 17408 := by
    have := mids_le vs
    rw [h.len] at this
    rw [List.length_map, mid_len]; omega
  have b2 : (partsV vs).low.length ≤ 1114112 := by
    have := lows_le vs
    rw [h.len] at this
    rw [low_len]; omega
  generalize ((partsV vs).mid.map Int.ofNat).length = M at *
  generalize (partsV vs).low.length = L at *
  have z1 : wrap64 ((M : Int) / 64) = (M : Int) / 64 := by simp only [wrap64]; omega
  have z2 : wrap64 ((L : Int) / 64) = (L : Int) / 64 := by simp only [wrap64]; omega
  have HE := hideA (And.intro e1 e2)
  have HZ := hideA (And.intro z1 z2)
  have X1 := fun dq os => cell_regrown c1 dq os
  have X2 := fun dq os => cell_regrown c2 dq os
  clear h e1 e2 b1 b2 z1 z2
  go_enter Try.func21, Try.ntmps21
  go_wp2_with fail
  refine (unhideA HAB).mono ?_
  rintro e w1 ⟨rfl, rfl⟩
  go_wp2_with fail
  refine wp_region_quiet_below (by kernel_rfl) (by kernel_rfl) ?_
  clear HAB c0 c1 c2
  iterate 16 (go_big_quiet_step (fail))
  refine wpQuiet_nil ?_
  intro _ hw'
  obtain ⟨⟨dq, osq⟩, hw''⟩ := hw'
  subst hw''
  have HB5 := hideA (below_regrown w1 dq osq)
  clear X1 X2
  go_wp2
  refine bodyPost_ret (results_tmp2 rfl _ _ _) rfl ?_
  rw [← (unhideA HE).1, ← (unhideA HE).2]
  refine ⟨?_, unhideA HB5⟩
  show Ending.returned (.tuple #[.int .i64 (wrap64 ((M : Int) / 64)), .int .i64 (wrap64 ((L : Int) / 64))]) = _
  rw [(unhideA HZ).1, (unhideA HZ).2]
set_option maxRecDepth 100000 in
set_option maxHeartbeats 4000000 in
theorem blocks_nil (w : World) : Calls Try.prog 21 #[.pointer none] w fun e w' => e = .returned (.tuple #[.int .i64 0, .int .i64 0]) ∧ w' = w := by
  go_enter Try.func21, Try.ntmps21
  go_wp2_with fail
  refine (absent_nil w).mono ?_
  rintro e w1 ⟨rfl, rfl⟩
  go_wp2
  refine bodyPost_ret (results_tmp2 rfl _ _ _) rfl ?_
  exact ⟨rfl, rfl⟩
set_option maxRecDepth 100000 in
set_option maxHeartbeats 4000000 in
theorem at_nil (w : World) (r : Int) : Calls Try.prog 29 #[.pointer none, .int .i32 r] w fun e w' => e = .returned zeroE ∧ w' = w := by
  go_enter Try.func29, Try.ntmps29
  go_wp2_with fail
  refine (absent_nil w).mono ?_
  rintro e w1 ⟨rfl, rfl⟩
  go_wp2
  go_ret
  exact ⟨rfl, rfl⟩
end Go.Proofs.Ytokillomaemocaa.VU
/-
  Parts of a trie: three clones in a region that draws its order.
-/
namespace Go.Proofs.Ytokillomaemocaa.VU
open Go.RowKit Go.PlainAid Go.Lib Go.PRow Go.TrM
set_option linter.unusedVariables false
set_option linter.unusedSimpArgs false
theorem run_load_op {P : Program} {o : Oper} {a : Act} {T : TypeId} {x : Operand} {X : World} {p v : Value} (ho : o.op = .load T x) (hx : a.eval x = p) (h : (Instr.loadAt T p).run P X = .ok v X) : (execOp a.eval o).run P X = .ok (.value v) X := by
  unfold execOp
  simp only [ho, hx, Sem.run_bind, h, Result.andThen, Sem.run_pure]
theorem run_store_op {P : Program} {o : Oper} {a : Act} {T : TypeId} {x y : Operand} {X X' : World} {p q : Value} (ho : o.op = .store T x y) (hx : a.eval x = p) (hy : a.eval y = q) (h : (Instr.storeAt T p q).run P X = .ok () X') : (execOp a.eval o).run P X = .ok .skip X' := by
  unfold execOp
  simp only [ho, hx, hy, Sem.run_bind, h, Result.andThen, Sem.run_pure]
theorem load16 (X : World) (g o : Nat) (a : Option Addr) (n c : Nat) (h : X.cell? ⟨g, o, none⟩ = some (.slice a n c)) : (Instr.loadAt 24 (.pointer (some ⟨g, o, none⟩))).run Try.prog X = .ok (.slice a n c) X := by
  simp [go_sem, Instr.loadAt, h]
theorem loadE (X : World) (g o : Nat) (a : Option Addr) (n c : Nat) (h : X.cell? ⟨g, o, none⟩ = some (.slice a n c)) : (Instr.loadAt 25 (.pointer (some ⟨g, o, none⟩))).run Try.prog X = .ok (.slice a n c) X := by
  simp [go_sem, Instr.loadAt, h]
theorem store3 (W : World) (b : Nat) (x y z : Value) (a1 a2 a3 : Option Addr) (n1 n2 n3 c1 c2 c3 : Nat) (h : W.heap[b]? = some (.cells #[x, y, z] 27 (0, 0))) :
    ∃ w', (Instr.storeAt 27 (.pointer (some ⟨b, 0, none⟩)) (.agg #[.slice a1 n1 c1, .slice a2 n2 c2, .slice a3 n3 c3])).run Try.prog W = .ok () w' ∧ w'.heap[b]? = some (.cells #[.slice a1 n1 c1, .slice a2 n2 c2, .slice a3 n3 c3] 27 (0, 0)) ∧ W.grownBy w' (some b) := by
  have hv := run_storeVar_row (P := Try.prog) W b 27 27 #[x, y, z] #[.slice a1 n1 c1, .slice a2 n2 c2, .slice a3 n3 c3] h (by kernel_rfl) rfl (by simp [Value.oneCell'])
  refine ⟨W.setRow b #[.slice a1 n1 c1, .slice a2 n2 c2, .slice a3 n3 c3], ?_, setRow_heap W b _ _ _ _ h, setRow_grown W b _⟩
  simp only [Instr.storeAt, Instr.sureAddr, Sem.run_bind, Sem.run_pure, Result.andThen]
  exact hv
/-- what the three clones leave -/
def Clones (w W : World) (top mid : List Int) (low : List El) (v1 v2 v3 : Value) : Prop := VW.RowE W (w.heap.size + 1) v1 top ∧ VW.RowE W (w.heap.size + 1) v2 mid ∧ RowE W (w.heap.size + 1) v3 low
set_option maxRecDepth 100000 in
set_option maxHeartbeats 4000000 in
theorem parts_any (w : World) (B bt : Nat) (vt vm vl : Value) (vs : List El) (h : TrAt w B bt vt vm vl vs) (hlow : (partsV vs).low.length * 1 ≤ 140737488355328) :
    Calls Try.prog 13 #[.pointer (some ⟨bt, 0, none⟩)] w fun e w' => ∃ a1 n1 c1 a2 n2 c2 a3 n3 c3, e = .returned (.agg #[.slice a1 n1 c1, .slice a2 n2 c2, .slice a3 n3 c3]) ∧ Clones w w' ((partsV vs).top.map Int.ofNat) ((partsV vs).mid.map Int.ofNat) (partsV vs).low (.slice a1 n1 c1) (.slice a2 n2 c2) (.slice a3 n3 c3) ∧ Below w.heap.size w w' := by
  obtain ⟨c0, c1, c2⟩ := cellT h.ht
  obtain ⟨ta, tn, tc, rfl⟩ : ∃ a n c, vt = .slice a n c := by
    obtain ⟨a, c, e, _⟩ := h.rt.form
    exact ⟨a, _, c, e⟩
  obtain ⟨ma, mn, mc, rfl⟩ : ∃ a n c, vm = .slice a n c := by
    obtain ⟨a, c, e, _⟩ := h.rm.form
    exact ⟨a, _, c, e⟩
  obtain ⟨la, ln, lc, rfl⟩ : ∃ a n c, vl = .slice a n c := by
    obtain ⟨a, c, e, _⟩ := h.rl.form
    exact ⟨a, _, c, e⟩
  have htl : (partsV vs).top.length = 272 := top272 h.len
  have hml : (partsV vs).mid.length ≤ 17408 := by
    rw [mid_len]
    have := mids_le vs
    rw [h.len] at this
    omega
  have HAB := hideR (absent_any (w.alloc (.cells #[.slice none 0 0, .slice none 0 0, .slice none 0 0] 27)) B bt _ _ _ vs (h.below ((Below.refl _ w).alloc (Nat.le_refl _) _)))
  have hbt := h.lt
  have HH := hideR h
  have C1 := hideR (fun (W : World) (hW : Below w.heap.size w W) => VW.clone_any W B _ _ (h.rt.below hW) (by rw [List.length_map, htl]; omega))
  have C2 := hideR (fun (W : World) (hW : Below w.heap.size w W) => VW.clone_any W B _ _ (h.rm.below hW) (by rw [List.length_map]; omega))
  have C3 := hideR (fun (W : World) (hW : Below w.heap.size w W) => clone_any W B _ _ (h.rl.below hW) hlow)
  have L0 : Hid (∀ W : World, Below w.heap.size w W → W.cell? ⟨bt, 0, none⟩ = some (.slice ta tn tc)) := fun W hW => (hW.cell (p := ⟨bt, 0, none⟩) hbt).trans c0
  have L1 : Hid (∀ W : World, Below w.heap.size w W → W.cell? ⟨bt, 1, none⟩ = some (.slice ma mn mc)) := fun W hW => (hW.cell (p := ⟨bt, 1, none⟩) hbt).trans c1
  have L2 : Hid (∀ W : World, Below w.heap.size w W → W.cell? ⟨bt, 2, none⟩ = some (.slice la ln lc)) := fun W hW => (hW.cell (p := ⟨bt, 2, none⟩) hbt).trans c2
  clear h c0 c1 c2 htl hml
  go_enter Try.func13, Try.ntmps13
  go_wp2_with fail
  refine (unhideR HAB).mono ?_
  rintro e w1 ⟨rfl, hw1⟩
  have HW1 := hideR hw1
  clear hw1
  go_wp2_with fail
  have hS0 : Below w.heap.size w w1 := by rw [unhideR HW1]; exact (Below.refl _ w).alloc (Nat.le_refl _) _
  have hbox : w1.heap[w.heap.size]? = some (.cells #[.slice none 0 0, .slice none 0 0, .slice none 0 0] 27 (0, 0)) := by rw [unhideR HW1]; exact heap_alloc_new w _
  have hw1s : w1.heap.size = w.heap.size + 1 := by rw [unhideR HW1]; simp
  have HBOX := hideR (And.intro hbox hw1s)
  have hS1 : Below w.heap.size w w1.drew := hS0.drew
  clear hbox hw1s
  refine PStep.wp_only ?_
  refine wp_region_held (S := fun W => Below w.heap.size w W) (by kernel_rfl) ?_
  refine PStep.take (i := 0) (v := .pointer (some ⟨bt, 0, none⟩)) (some 6) rfl rfl (by kernel_rfl) (by kernel_rfl) (by kernel_rfl) (fun _ _ _ h => h) (.inl ⟨rfl, fun X hX => by kernel_rfl⟩) hS1 ?_
  simp only [Act.put, List.setIfInBounds_toArray, List.set_cons_succ, List.set_cons_zero]
  refine PStep.take (i := 1) (v := .pointer (some ⟨bt, 0, none⟩)) (some 7) rfl rfl (by kernel_rfl) (by kernel_rfl) (by kernel_rfl) (fun _ _ _ h => h) (.inl ⟨rfl, fun X hX => by kernel_rfl⟩) hS1 ?_
  simp only [Act.put, List.setIfInBounds_toArray, List.set_cons_succ, List.set_cons_zero]
  refine PStep.take (i := 2) (v := .pointer (some ⟨bt, 0, none⟩)) (some 8) rfl rfl (by kernel_rfl) (by kernel_rfl) (by kernel_rfl) (fun _ _ _ h => h) (.inl ⟨rfl, fun X hX => by kernel_rfl⟩) hS1 ?_
  simp only [Act.put, List.setIfInBounds_toArray, List.set_cons_succ, List.set_cons_zero]
  refine PStep.take (i := 3) (v := .pointer (some ⟨bt, 0, none⟩)) (some 9) rfl rfl (by kernel_rfl) (by kernel_rfl) (by kernel_rfl) (fun _ _ _ h => h) (.inl ⟨rfl, fun X hX => by kernel_rfl⟩) hS1 ?_
  simp only [Act.put, List.setIfInBounds_toArray, List.set_cons_succ, List.set_cons_zero]
  refine PStep.take (i := 4) (v := .slice ta tn tc) (some 10) rfl rfl (by kernel_rfl) (by kernel_rfl) (by kernel_rfl) (fun _ _ _ h => h) (.inl ⟨rfl, fun X hX => run_load_op rfl rfl (load16 X bt 0 _ _ _ (unhideR L0 X hX))⟩) hS1 ?_
  simp only [Act.put, List.setIfInBounds_toArray, List.set_cons_succ, List.set_cons_zero]
  refine PStep.take (i := 6) (v := .pointer (some ⟨bt, 0, none⟩)) (some 12) rfl rfl (by kernel_rfl) (by kernel_rfl) (by kernel_rfl) (fun _ _ _ h => h) (.inl ⟨rfl, fun X hX => by kernel_rfl⟩) hS1 ?_
  simp only [Act.put, List.setIfInBounds_toArray, List.set_cons_succ, List.set_cons_zero]
  refine PStep.take (i := 7) (v := .pointer (some ⟨bt, 0, none⟩)) (some 13) rfl rfl (by kernel_rfl) (by kernel_rfl) (by kernel_rfl) (fun _ _ _ h => h) (.inl ⟨rfl, fun X hX => by kernel_rfl⟩) hS1 ?_
  simp only [Act.put, List.setIfInBounds_toArray, List.set_cons_succ, List.set_cons_zero]
  refine PStep.take (i := 8) (v := .pointer (some ⟨bt, 0, none⟩)) (some 14) rfl rfl (by kernel_rfl) (by kernel_rfl) (by kernel_rfl) (fun _ _ _ h => h) (.inl ⟨rfl, fun X hX => by kernel_rfl⟩) hS1 ?_
  simp only [Act.put, List.setIfInBounds_toArray, List.set_cons_succ, List.set_cons_zero]
  refine PStep.take (i := 9) (v := .pointer (some ⟨bt, 1, none⟩)) (some 15) rfl rfl (by kernel_rfl) (by kernel_rfl) (by kernel_rfl) (fun _ _ _ h => h) (.inl ⟨rfl, fun X hX => by kernel_rfl⟩) hS1 ?_
  simp only [Act.put, List.setIfInBounds_toArray, List.set_cons_succ, List.set_cons_zero]
  refine PStep.take (i := 10) (v := .slice ma mn mc) (some 16) rfl rfl (by kernel_rfl) (by kernel_rfl) (by kernel_rfl) (fun _ _ _ h => h) (.inl ⟨rfl, fun X hX => run_load_op rfl rfl (load16 X bt 1 _ _ _ (unhideR L1 X hX))⟩) hS1 ?_
  simp only [Act.put, List.setIfInBounds_toArray, List.set_cons_succ, List.set_cons_zero]
  refine PStep.take (i := 12) (v := .pointer (some ⟨bt, 0, none⟩)) (some 18) rfl rfl (by kernel_rfl) (by kernel_rfl) (by kernel_rfl) (fun _ _ _ h => h) (.inl ⟨rfl, fun X hX => by kernel_rfl⟩) hS1 ?_
  simp only [Act.put, List.setIfInBounds_toArray, List.set_cons_succ, List.set_cons_zero]
  refine PStep.take (i := 13) (v := .pointer (some ⟨bt, 0, none⟩)) (some 19) rfl rfl (by kernel_rfl) (by kernel_rfl) (by kernel_rfl) (fun _ _ _ h => h) (.inl ⟨rfl, fun X hX => by kernel_rfl⟩) hS1 ?_
  simp only [Act.put, List.setIfInBounds_toArray, List.set_cons_succ, List.set_cons_zero]
  refine PStep.take (i := 14) (v := .pointer (some ⟨bt, 0, none⟩)) (some 20) rfl rfl (by kernel_rfl) (by kernel_rfl) (by kernel_rfl) (fun _ _ _ h => h) (.inl ⟨rfl, fun X hX => by kernel_rfl⟩) hS1 ?_
  simp only [Act.put, List.setIfInBounds_toArray, List.set_cons_succ, List.set_cons_zero]
  refine PStep.take (i := 15) (v := .pointer (some ⟨bt, 2, none⟩)) (some 21) rfl rfl (by kernel_rfl) (by kernel_rfl) (by kernel_rfl) (fun _ _ _ h => h) (.inl ⟨rfl, fun X hX => by kernel_rfl⟩) hS1 ?_
  simp only [Act.put, List.setIfInBounds_toArray, List.set_cons_succ, List.set_cons_zero]
  refine PStep.take (i := 16) (v := .slice la ln lc) (some 22) rfl rfl (by kernel_rfl) (by kernel_rfl) (by kernel_rfl) (fun _ _ _ h => h) (.inl ⟨rfl, fun X hX => run_load_op rfl rfl (loadE X bt 2 _ _ _ (unhideR L2 X hX))⟩) hS1 ?_
  simp only [Act.put, List.setIfInBounds_toArray, List.set_cons_succ, List.set_cons_zero]
  refine PStep.one 5 (by kernel_rfl) ?_
  refine PStep.wpOp_callG (f := 51) (args := #[.slice ta tn tc]) (w' := w1.drew) rfl (by kernel_rfl) (some 11) rfl (by kernel_rfl) (unhideR C1 w1.drew hS1) ?_
  rintro e V1 ⟨s1, rfl, q1, b1⟩
  obtain ⟨x1, n1, y1, rfl⟩ : ∃ a n c, s1 = .slice a n c := by
    obtain ⟨a, c, e, _⟩ := q1.form
    exact ⟨a, _, c, e⟩
  have SV1 : Below w.heap.size w V1 := (hS1).trans (b1.mono (hS1).size)
  refine ⟨_, rfl, SV1, ?_⟩
  simp only [Act.put, List.setIfInBounds_toArray, List.set_cons_succ, List.set_cons_zero]
  refine PStep.one 11 (by kernel_rfl) ?_
  refine PStep.wpOp_callG (f := 51) (args := #[.slice ma mn mc]) (w' := V1) rfl (by kernel_rfl) (some 17) rfl (by kernel_rfl) (unhideR C2 V1 SV1) ?_
  rintro e V2 ⟨s2, rfl, q2, b2⟩
  obtain ⟨x2, n2, y2, rfl⟩ : ∃ a n c, s2 = .slice a n c := by
    obtain ⟨a, c, e, _⟩ := q2.form
    exact ⟨a, _, c, e⟩
  have SV2 : Below w.heap.size w V2 := (SV1).trans (b2.mono (SV1).size)
  refine ⟨_, rfl, SV2, ?_⟩
  simp only [Act.put, List.setIfInBounds_toArray, List.set_cons_succ, List.set_cons_zero]
  refine PStep.one 17 (by kernel_rfl) ?_
  refine PStep.wpOp_callG (f := 52) (args := #[.slice la ln lc]) (w' := V2) rfl (by kernel_rfl) (some 23) rfl (by kernel_rfl) (unhideR C3 V2 SV2) ?_
  rintro e V3 ⟨s3, rfl, q3, b3⟩
  obtain ⟨x3, n3, y3, rfl⟩ : ∃ a n c, s3 = .slice a n c := by
    obtain ⟨a, c, e, _⟩ := q3.form
    exact ⟨a, _, c, e⟩
  have SV3 : Below w.heap.size w V3 := (SV2).trans (b3.mono (SV2).size)
  refine ⟨_, rfl, SV3, ?_⟩
  simp only [Act.put, List.setIfInBounds_toArray, List.set_cons_succ, List.set_cons_zero]
  have lt0 : w.heap.size < w1.drew.heap.size := by
    have := (unhideR HBOX).2
    show w.heap.size < w1.heap.size
    omega
  have lt1 : w.heap.size < V1.heap.size := Nat.lt_of_lt_of_le lt0 b1.size
  have lt2 : w.heap.size < V2.heap.size := Nat.lt_of_lt_of_le lt1 b2.size
  have hcl : Clones w V3 ((partsV vs).top.map Int.ofNat) ((partsV vs).mid.map Int.ofNat) (partsV vs).low (.slice x1 n1 y1) (.slice x2 n2 y2) (.slice x3 n3 y3) := by
    have t1 := Nat.le_refl w.heap.size
    refine ⟨?_, ?_, ?_⟩
    · exact (((q1.mono lt0).below b2).below b3)
    · exact ((q2.mono lt1).below b3)
    · exact (q3.mono lt2)
  have hbx : V3.heap[w.heap.size]? = some (.cells #[.slice none 0 0, .slice none 0 0, .slice none 0 0] 27 (0, 0)) := (b3.block _ lt2).trans ((b2.block _ lt1).trans ((b1.block _ lt0).trans (unhideR HBOX).1))
  obtain ⟨V4, hst, hb4, hg4⟩ := store3 V3 w.heap.size _ _ _ x1 x2 x3 n1 n2 n3 y1 y2 y3 hbx
  refine PStep.one 18 (by kernel_rfl) ?_
  refine PStep.wpOp_valueG (v := .agg #[.slice x1 n1 y1, .slice x2 n2 y2, .slice x3 n3 y3]) (w' := V3) rfl (by kernel_rfl) (some 24) rfl (by kernel_rfl) ?_
  refine ⟨SV3, ?_⟩
  simp only [Act.put, List.setIfInBounds_toArray, List.set_cons_succ, List.set_cons_zero]
  refine PStep.one 19 (by kernel_rfl) ?_
  refine PStep.wpOp_skip rfl rfl none rfl (run_store_op rfl rfl rfl hst) ?_
  refine ⟨SV3.grown hg4 SV3.size (fun k hk => Nat.le_of_eq (Option.some.inj hk)), ?_⟩
  simp only [Act.put, List.setIfInBounds_toArray, List.set_cons_succ, List.set_cons_zero]
  refine wpAnyH_done (by kernel_rfl) ?_ _
  have HFIN := hideR (And.intro hcl (And.intro hb4 (And.intro hg4 SV3)))
  clear hcl hb4 hg4 hst hbx SV1 SV2 SV3 lt0 lt1 lt2 q1 q2 q3 b1 b2 b3 hS0 hS1
  simp only [PStep.only]
  go_wp2
  obtain ⟨f1, f2, f3, f4⟩ := unhideR HFIN
  have g0 : V4.cell? ⟨w.heap.size, 0, none⟩ = some (.slice x1 n1 y1) := by simp [World.cell?, f2]
  have g1 : V4.cell? ⟨w.heap.size, 1, none⟩ = some (.slice x2 n2 y2) := by simp [World.cell?, f2]
  have g2 : V4.cell? ⟨w.heap.size, 2, none⟩ = some (.slice x3 n3 y3) := by simp [World.cell?, f2]
  refine bodyPost_ret (v := .agg #[.slice x1 n1 y1, .slice x2 n2 y2, .slice x3 n3 y3]) (by simp [results, g0, g1, g2, go_sem]) rfl ?_
  refine ⟨x1, n1, y1, x2, n2, y2, x3, n3, y3, rfl, ⟨f1.1.kept fun g e => ?_, f1.2.1.kept fun g e => ?_, f1.2.2.kept fun g e => ?_⟩, ?_⟩
  · have := f1.1.lt g e
    exact f3.block g this.2 (fun q => by have := Option.some.inj q; omega)
  · have := f1.2.1.lt g e
    exact f3.block g this.2 (fun q => by have := Option.some.inj q; omega)
  · have := f1.2.2.lt g e
    exact f3.block g this.2 (fun q => by have := Option.some.inj q; omega)
  · exact f4.grown f3 f4.size (fun k hk => Nat.le_of_eq (Option.some.inj hk))
end Go.Proofs.Ytokillomaemocaa.VU

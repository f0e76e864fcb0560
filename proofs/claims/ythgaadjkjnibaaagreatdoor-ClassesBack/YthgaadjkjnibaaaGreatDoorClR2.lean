/-
  What a missing line does to a table.
-/
import Derived.Test.YthgaadjkjnibaaaGreatDoorClR
import Derived.Test.YthgaadjkjnibaaaGreatDoorPr
namespace Go.Proofs.YthgaadjkjnibaaaGreatDoor
open Go.RowKit Go.PlainAid Go.Lib Go.PHexM Go.Shelf Go.PRow
set_option linter.unusedVariables false
set_option linter.unusedSimpArgs false

/-- a row of one missing line, just made -/
theorem mis_row (W : World) (a b c : Int) : VM.RowP (W.alloc (.cells #[.int .i32 a, .int .i32 b, .int .u8 c] 35)) 0 (.slice (some ⟨W.heap.size, 0, none⟩) 1 1) [⟨a, b, c⟩] :=
  VM.RowP.of (Nat.zero_le _) (heap_alloc_new W _) rfl (Nat.le_refl _) (by unfold maxLen; omega) rfl rfl

theorem exec_append {P : Program} {w w' : World} {o : Oper} {a : Act} (s x : Operand) (t tn : TypeId) (ho : o.op = .call { callee := .builtin .append, args := #[s, x], argTypes := #[t, tn] }) (vs vx v : Value) (hs : a.eval s = vs) (hx : a.eval x = vx)
    (hr : (Builtin.append_ #[t, tn] o.type #[vs, vx]).run P w = .ok v w') : (execOp a.eval o).run P w = .ok (.value v) w' := by
  unfold execOp
  simp only [ho, resolve, invoke, builtin, Sem.run_bind, Sem.run_pure, Result.andThen_ok, List.map_toArray, List.map_cons, List.map_nil, hs, hx, hr]

set_option maxRecDepth 100000 in
set_option maxHeartbeats 2000000 in
theorem takeMissing_any (d : LineD) (fa : Option Addr) (fc : Nat) (B bt bN bC : Nat) (vN vC vM : Value) (t : TabD) (w : World) (h : TabP w B bt bN bC vN vC vM t) (hB : B ≤ w.heap.size) (hml : t.ms.length ≤ 1073741825) (hm : MaxAt w) (hT : TxT w fa d.fields) (hs : ∀ x ∈ d.fields, x.length ≤ 1073741824) :
    Calls Tryz.prog 36 #[.pointer (some ⟨bt, 0, none⟩), lineV d (.slice fa d.fields.length fc)] w (StepEnd B bt bN bC w (missT t (scanT d 71))) := by
  obtain ⟨W0, hW0⟩ : ∃ W0, w.alloc (.cells #[.int .i64 d.no, .int .u8 d.kind, .string (S d.name), .slice fa d.fields.length fc, .string (S d.note)] 53) = W0 := ⟨_, rfl⟩
  have hB0 : Below w.heap.size w W0 := by rw [← hW0]; go_grown
  have bL : W0.heap[w.heap.size]? = some (.cells #[.int .i64 d.no, .int .u8 d.kind, .string (S d.name), .slice fa d.fields.length fc, .string (S d.note)] 53 (0, 0)) := by rw [← hW0]; exact heap_alloc_new w _
  have HSC := hide (scan7_any d 71 fa fc W0 (hm.below hB0) (hT.below hB0) hs)
  have hmay : (scanT d 71).2.2.2 = 0 → mayB (scanT d 71).1 (scanT d 71).2.1 = true := scanT_may d 71 (by decide)
  generalize scanT d 71 = sc at *
  obtain ⟨lo, hi, c, er⟩ := sc
  simp only at hmay
  obtain ⟨Q, hQ⟩ : ∃ Q, StepEnd B bt bN bC w (missT t (lo, hi, c, er)) = Q := ⟨_, rfl⟩
  rw [hQ]
  have HQ := hide hQ
  clear hQ
  have c0 : W0.cell? ⟨w.heap.size, 0, none⟩ = some (.int .i64 d.no) := cellH bL rfl
  have c1 : W0.cell? ⟨w.heap.size, 1, none⟩ = some (.int .u8 d.kind) := cellH bL rfl
  have c2 : W0.cell? ⟨w.heap.size, 2, none⟩ = some (.string (S d.name)) := cellH bL rfl
  have c3 : W0.cell? ⟨w.heap.size, 3, none⟩ = some (.slice fa d.fields.length fc) := cellH bL rfl
  have c4 : W0.cell? ⟨w.heap.size, 4, none⟩ = some (.string (S d.note)) := cellH bL rfl
  have HB0 := hide hB0
  have HBL := hide bL
  have HT := hide h
  clear hT hs hm bL hB0 h
  by_cases h0 : er = 0
  · subst h0
    have hm1 := hmay rfl
    clear hmay
    go_enter Tryz.func36, Tryz.ntmps36
    go_wp2_with fail
    refine (unhide HSC).mono ?_
    rintro e w1 ⟨rfl, hb1⟩
    clear c0 c1 c2 c3 c4 hW0
    obtain ⟨W2, hW2⟩ : ∃ W2, w1.alloc (.cells #[.int .i32 lo, .int .i32 hi] 32) = W2 := ⟨_, rfl⟩
    have hb2 : Below W0.heap.size W0 W2 := by rw [← hW2]; exact hb1.alloc hb1.size _
    have hx2 : W2.heap[w1.heap.size]? = some (.cells #[.int .i32 lo, .int .i32 hi] 32 (0, 0)) := by rw [← hW2]; exact heap_alloc_new w1 _
    have hL2 := (hb2.block _ (Array.getElem?_eq_some_iff.1 (unhide HBL)).1).trans (unhide HBL)
    have hbw2 : Below w.heap.size w W2 := (unhide HB0).trans (hb2.mono (unhide HB0).size)
    have hT2 := (unhide HT).below hbw2
    have y0 : W2.cell? ⟨w1.heap.size, 0, none⟩ = some (.int .i32 lo) := cellH hx2 rfl
    have y1 : W2.cell? ⟨w1.heap.size, 1, none⟩ = some (.int .i32 hi) := cellH hx2 rfl
    have z0 : W2.cell? ⟨w.heap.size, 0, none⟩ = some (.int .i64 d.no) := cellH hL2 rfl
    obtain ⟨sa, sn, sc, hsl⟩ : ∃ a n k, vM = .slice a n k := by obtain ⟨a, k, e, _⟩ := hT2.rM.form; exact ⟨a, _, k, e⟩
    have hbd : Below W2.heap.size W2 W2.drew := ⟨rfl, rfl, rfl, Nat.le_refl _, fun _ _ => rfl⟩
    obtain ⟨W3, hW3⟩ : ∃ W3, W2.drew.alloc (.cells #[.int .i32 lo, .int .i32 hi, .int .u8 c] 35) = W3 := ⟨_, rfl⟩
    have hb3 : Below W2.heap.size W2 W3 := by rw [← hW3]; exact hbd.alloc (Nat.le_refl _) _
    have hT3 := hT2.below hb3
    have hsz2 := hbw2.size
    have hsz3 := hb3.size
    have hmr : VM.RowP W3 0 (.slice (some ⟨W2.heap.size, 0, none⟩) 1 1) [⟨lo, hi, c⟩] := by rw [← hW3]; exact mis_row W2.drew lo hi c
    obtain ⟨s4, w4, hap, ht4, -⟩ := VM.append_ps B 0 vM (.slice (some ⟨W2.heap.size, 0, none⟩) 1 1) t.ms [⟨lo, hi, c⟩] W3 (by omega) hT3.rM hmr (by simp; omega)
    obtain ⟨hT5, hb5, hk5⟩ := hT3.miss ht4 (by omega)
    have hS2 : ∀ X : World, X.heap[w1.heap.size]? = some (.cells #[.int .i32 lo, .int .i32 hi] 32 (0, 0)) → X.cell? ⟨w1.heap.size, 0, none⟩ = some (.int .i32 lo) ∧ X.cell? ⟨w1.heap.size, 1, none⟩ = some (.int .i32 hi) := fun X hX => ⟨cellH hX rfl, cellH hX rfl⟩
    have hX3 := (hb3.block _ (Array.getElem?_eq_some_iff.1 hx2).1).trans hx2
    have hX4 : w4.heap[w1.heap.size]? = some (.cells #[.int .i32 lo, .int .i32 hi] 32 (0, 0)) := by
      refine (ht4.2.1.block _ (Array.getElem?_eq_some_iff.1 hX3).1 ?_).trans hX3
      intro e
      obtain ⟨cur, hc⟩ := rowV_blk hT3.rM e.symm
      rw [hc] at hX3; cases hX3
    have hX5 := hk5.block _ _ _ hX3 (by decide)
    have hT4 : w4.heap[bt]? = some (.cells #[.pointer (some ⟨bN, 0, none⟩), .pointer (some ⟨bC, 0, none⟩), vM] 66 (0, 0)) := by
      refine (ht4.2.1.block _ (Array.getElem?_eq_some_iff.1 hT3.tab).1 ?_).trans hT3.tab
      intro e
      obtain ⟨cur, hc⟩ := rowV_blk hT3.rM e.symm
      have h3 := hT3.tab
      rw [hc] at h3; cases h3
    have u2 : W2.drew.cell? ⟨bt, 2, none⟩ = some vM := cellH (W := W2) hT2.tab rfl
    have u3 : W3.cell? ⟨bt, 2, none⟩ = some vM := cellH hT3.tab rfl
    have u4 : w4.cell? ⟨bt, 2, none⟩ = some vM := cellH hT4 rfl
    have f4 : w4.frozen? ⟨bt, 2, none⟩ = false := frozH hT4
    have S0 := hS2 W2.drew hx2
    have S3 := hS2 W3 hX3
    have S4 := hS2 w4 hX4
    have S5 := hS2 _ hX5
    obtain ⟨a4, n4, k4, hs4⟩ : ∃ a n k, s4 = .slice a n k := by obtain ⟨a, k, e, _⟩ := ht4.1.form; exact ⟨a, _, k, e⟩
    subst hs4
    subst hsl
    obtain ⟨W5, hW5⟩ : ∃ W5, w4.setCell ⟨bt, 2, none⟩ (.slice a4 n4 k4) = W5 := ⟨_, rfl⟩
    rw [hW5] at hT5 hb5 hk5 S5
    have t1 : W5.cell? ⟨bt, 1, none⟩ = some (.pointer (some ⟨bC, 0, none⟩)) := cellH hT5.tab rfl
    have HR : Hid (Below B w W5 ∧ Keep7 w W5 ∧ TabP W5 B bt bN bC vN vC (.slice a4 n4 k4) { t with ms := t.ms ++ [⟨lo, hi, c⟩] }) :=
      ⟨((hbw2.trans (hb3.mono hsz2)).mono hB).trans hb5, (keep_below (hbw2.trans (hb3.mono hsz2))).trans hk5, hT5⟩
    have hB5 : B ≤ W5.heap.size := by have := hk5.size; omega
    have HLAY := hide (fun n => VC.lay_ok bC vC B t.us (unhide HT).ok.2 lo hi hm1 c (W5.drewN n) (hT5.mC.below (below_drewN (Below.refl _ W5) n)) hB5 (hT5.rC.below (below_drewN (Below.refl _ W5) n)))
    clear hb2 hx2 hL2 hbw2 hT2 hb1 hb3 hT3 hT4 hT5 hb5 hk5 hX3 hX4 hX5 ht4 hmr hbd z0
    go_wp2
    refine wp_region_held (S := fun X => X.cell? ⟨w1.heap.size, 0, none⟩ = some (.int .i32 lo) ∧ X.cell? ⟨w1.heap.size, 1, none⟩ = some (.int .i32 hi)) rfl ?_
    show wpAnyH _ _ _ _ _ _ _ _ W2.drew
    refine PStep.take (i := 0) (v := (.pointer (some ⟨bt, 0, none⟩))) (some 17) rfl rfl (by kernel_rfl) (by kernel_rfl) (by kernel_rfl) (fun _ _ _ h => h) (.inl ⟨rfl, fun X hX => by simp [go_sem, execOp, Act.eval, Act.put]⟩) S0 ?_
    refine PStep.take (i := 1) (v := (.pointer (some ⟨bt, 0, none⟩))) (some 18) rfl rfl (by kernel_rfl) (by kernel_rfl) (by kernel_rfl) (fun _ _ _ h => h) (.inl ⟨rfl, fun X hX => by simp [go_sem, execOp, Act.eval, Act.put]⟩) S0 ?_
    refine PStep.take (i := 2) (v := (.pointer (some ⟨bt, 0, none⟩))) (some 19) rfl rfl (by kernel_rfl) (by kernel_rfl) (by kernel_rfl) (fun _ _ _ h => h) (.inl ⟨rfl, fun X hX => by simp [go_sem, execOp, Act.eval, Act.put]⟩) S0 ?_
    refine PStep.take (i := 3) (v := (.pointer (some ⟨bt, 2, none⟩))) (some 20) rfl rfl (by kernel_rfl) (by kernel_rfl) (by kernel_rfl) (fun _ _ _ h => h) (.inl ⟨rfl, fun X hX => by simp [go_sem, execOp, Act.eval, Act.put]⟩) S0 ?_
    refine PStep.take (i := 5) (v := (.agg #[.int .i32 lo, .int .i32 hi])) (some 22) rfl rfl (by kernel_rfl) (by kernel_rfl) (by kernel_rfl) (fun _ _ _ h => h) (.inl ⟨rfl, fun X hX => by obtain ⟨hX1, hX2⟩ := hX; simp [go_sem, execOp, Act.eval, Act.put, hX1, hX2]⟩) S0 ?_
    refine PStep.take (i := 6) (v := (.int .u8 c)) (some 23) rfl rfl (by kernel_rfl) (by kernel_rfl) (by kernel_rfl) (fun _ _ _ h => h) (.inl ⟨rfl, fun X hX => by simp [go_sem, execOp, Act.eval, Act.put]⟩) S0 ?_
    refine PStep.take (i := 7) (v := (.agg #[.int .i32 lo, .int .i32 hi, .int .u8 c])) (some 24) rfl rfl (by kernel_rfl) (by kernel_rfl) (by kernel_rfl) (fun _ _ _ h => h) (.inl ⟨rfl, fun X hX => by simp [go_sem, execOp, Act.eval, Act.put]⟩) S0 ?_
    refine wpAnyH_all (rs := [4, 8]) (by kernel_rfl) (by simp) ?_
    intro i hi4
    simp only [List.mem_cons, List.not_mem_nil, or_false] at hi4
    rcases hi4 with rfl | rfl
    · refine PStep.wpOp_value (w' := W2.drew) (v := .slice sa sn sc) rfl rfl (some 21) rfl (by simp [go_sem, execOp, Act.eval, Act.put, u2]) ⟨S0, ?_⟩
      refine wpAnyH_all (rs := [8]) (by kernel_rfl) (by simp) ?_
      intro i hi4
      obtain rfl : i = 8 := by simpa using hi4
      refine PStep.wpOp_value (w' := W3) (v := .slice (some ⟨W2.heap.size, 0, none⟩) 1 1) rfl rfl (some 25) rfl (by rw [← hW3]; simp [go_sem, execOp, Act.eval, Act.put]) ⟨S3, ?_⟩
      refine wpAnyH_all (rs := [9]) (by kernel_rfl) (by simp) ?_
      intro i hi4
      obtain rfl : i = 9 := by simpa using hi4
      refine PStep.wpOp_value (w' := w4) (v := .slice a4 n4 k4) rfl rfl (some 26) rfl (exec_append _ _ 29 29 rfl (.slice sa sn sc) (.slice (some ⟨W2.heap.size, 0, none⟩) 1 1) _ (by simp [Act.eval, Act.put]) (by simp [Act.eval, Act.put]) (hap _)) ⟨S4, ?_⟩
      refine wpAnyH_all (rs := [10]) (by kernel_rfl) (by simp) ?_
      intro i hi4
      obtain rfl : i = 10 := by simpa using hi4
      refine PStep.wpOp_value (w' := w4) (v := .pointer (some ⟨bt, 0, none⟩)) rfl rfl (some 27) rfl (by simp [go_sem, execOp, Act.eval, Act.put]) ⟨S4, ?_⟩
      refine wpAnyH_all (rs := [11]) (by kernel_rfl) (by simp) ?_
      intro i hi4
      obtain rfl : i = 11 := by simpa using hi4
      refine PStep.wpOp_value (w' := w4) (v := .pointer (some ⟨bt, 2, none⟩)) rfl rfl (some 28) rfl (by simp [go_sem, execOp, Act.eval, Act.put]) ⟨S4, ?_⟩
      refine wpAnyH_all (rs := [12]) (by kernel_rfl) (by simp) ?_
      intro i hi4
      obtain rfl : i = 12 := by simpa using hi4
      refine PStep.wpOp_skip (w' := W5) rfl rfl none rfl (by rw [← hW5]; simp [go_sem, execOp, Act.eval, Act.put, u4, f4]) ⟨S5, ?_⟩
      refine wpAnyH_done (by kernel_rfl) ?_ _
      simp only [Act.put]
      simp only [List.setIfInBounds_toArray, List.set_cons_succ, List.set_cons_zero, Exit.then]
      obtain ⟨y0', y1'⟩ := S5
      clear S0 S3 S4 u2 u3 u4 f4 y0 y1 hap hW5 hW3 hW2
      go_wp2
      refine MixW.start (by kernel_rfl) ?_
      refine MixW.seg (C := fun w' => ∃ n, w' = W5.drewN n) 0 6 2 (by kernel_rfl) ⟨1, rfl⟩ ?_
      simp only [Nat.reduceAdd, List.take_succ_cons, List.take_zero, List.drop_zero]
      repeat (go_big_quiet_step (fail))
      refine wpQuiet_nil ?_
      rintro _ ⟨q, rfl⟩
      refine MixW.loud 1 6 1 _ _ (by decide) (by kernel_rfl) ?_
      simp only [Nat.reduceAdd, List.drop_succ_cons, List.drop_zero, List.take_succ_cons, List.take_zero]
      go_wp2_with fail
      refine (unhide HLAY q).mono ?_
      rintro e w6 ⟨rfl, v', hr', hm'⟩
      have hk : Q (.returned (.int .i64 0)) w6 := by
        rw [← unhide HQ]
        have e1 : missT t (lo, hi, c, 0) = ({ t with us := repP t.us lo hi [⟨lo, hi, c⟩], ms := t.ms ++ [⟨lo, hi, c⟩] }, 0) := by
          unfold missT
          rw [if_neg (by simp)]
        rw [e1]
        obtain ⟨g1, g2, g3⟩ := unhide HR
        have hBd : Below W5.heap.size W5 (W5.drewN q) := below_drewN (Below.refl _ W5) q
        have hmm := mayB_iff.1 hm1
        obtain ⟨h1, h2, h3⟩ := ((g3.below hBd).lay hr' hm' (rep_ok (unhide HT).ok.2 hmm.1 hmm.2.1 hmm.2.2 (.inr ⟨_, rfl⟩)) hB5)
        exact ⟨rfl, ⟨_, _, _, h1⟩, (g1.trans (hBd.mono hB5)).trans h2, (g2.trans (keep_below hBd)).trans h3⟩
      clear hr' hm'
      go_wp2_with fail
      show wpAny _ _ _ _ 1 _ _ _
      refine MixW.last (C := fun w' => w' = w6) 7 1 (by decide) (by kernel_rfl) (by kernel_rfl) rfl ?_
      simp only [List.drop_succ_cons, List.drop_zero]
      repeat (go_big_quiet_step (fail))
      refine wpQuiet_nil ?_
      intro w7 hw7
      obtain rfl : w6 = w7 := hw7.symm
      simp only [Exit.then]
      go_wp2
      exact hk
    · refine PStep.wpOp_value (w' := W3) (v := .slice (some ⟨W2.heap.size, 0, none⟩) 1 1) rfl rfl (some 25) rfl (by rw [← hW3]; simp [go_sem, execOp, Act.eval, Act.put]) ⟨S3, ?_⟩
      refine wpAnyH_all (rs := [4]) (by kernel_rfl) (by simp) ?_
      intro i hi4
      obtain rfl : i = 4 := by simpa using hi4
      refine PStep.wpOp_value (w' := W3) (v := .slice sa sn sc) rfl rfl (some 21) rfl (by simp [go_sem, execOp, Act.eval, Act.put, u3]) ⟨S3, ?_⟩
      refine wpAnyH_all (rs := [9]) (by kernel_rfl) (by simp) ?_
      intro i hi4
      obtain rfl : i = 9 := by simpa using hi4
      refine PStep.wpOp_value (w' := w4) (v := .slice a4 n4 k4) rfl rfl (some 26) rfl (exec_append _ _ 29 29 rfl (.slice sa sn sc) (.slice (some ⟨W2.heap.size, 0, none⟩) 1 1) _ (by simp [Act.eval, Act.put]) (by simp [Act.eval, Act.put]) (hap _)) ⟨S4, ?_⟩
      refine wpAnyH_all (rs := [10]) (by kernel_rfl) (by simp) ?_
      intro i hi4
      obtain rfl : i = 10 := by simpa using hi4
      refine PStep.wpOp_value (w' := w4) (v := .pointer (some ⟨bt, 0, none⟩)) rfl rfl (some 27) rfl (by simp [go_sem, execOp, Act.eval, Act.put]) ⟨S4, ?_⟩
      refine wpAnyH_all (rs := [11]) (by kernel_rfl) (by simp) ?_
      intro i hi4
      obtain rfl : i = 11 := by simpa using hi4
      refine PStep.wpOp_value (w' := w4) (v := .pointer (some ⟨bt, 2, none⟩)) rfl rfl (some 28) rfl (by simp [go_sem, execOp, Act.eval, Act.put]) ⟨S4, ?_⟩
      refine wpAnyH_all (rs := [12]) (by kernel_rfl) (by simp) ?_
      intro i hi4
      obtain rfl : i = 12 := by simpa using hi4
      refine PStep.wpOp_skip (w' := W5) rfl rfl none rfl (by rw [← hW5]; simp [go_sem, execOp, Act.eval, Act.put, u4, f4]) ⟨S5, ?_⟩
      refine wpAnyH_done (by kernel_rfl) ?_ _
      simp only [Act.put]
      simp only [List.setIfInBounds_toArray, List.set_cons_succ, List.set_cons_zero, Exit.then]
      obtain ⟨y0', y1'⟩ := S5
      clear S0 S3 S4 u2 u3 u4 f4 y0 y1 hap hW5 hW3 hW2
      go_wp2
      refine MixW.start (by kernel_rfl) ?_
      refine MixW.seg (C := fun w' => ∃ n, w' = W5.drewN n) 0 6 2 (by kernel_rfl) ⟨1, rfl⟩ ?_
      simp only [Nat.reduceAdd, List.take_succ_cons, List.take_zero, List.drop_zero]
      repeat (go_big_quiet_step (fail))
      refine wpQuiet_nil ?_
      rintro _ ⟨q, rfl⟩
      refine MixW.loud 1 6 1 _ _ (by decide) (by kernel_rfl) ?_
      simp only [Nat.reduceAdd, List.drop_succ_cons, List.drop_zero, List.take_succ_cons, List.take_zero]
      go_wp2_with fail
      refine (unhide HLAY q).mono ?_
      rintro e w6 ⟨rfl, v', hr', hm'⟩
      have hk : Q (.returned (.int .i64 0)) w6 := by
        rw [← unhide HQ]
        have e1 : missT t (lo, hi, c, 0) = ({ t with us := repP t.us lo hi [⟨lo, hi, c⟩], ms := t.ms ++ [⟨lo, hi, c⟩] }, 0) := by
          unfold missT
          rw [if_neg (by simp)]
        rw [e1]
        obtain ⟨g1, g2, g3⟩ := unhide HR
        have hBd : Below W5.heap.size W5 (W5.drewN q) := below_drewN (Below.refl _ W5) q
        have hmm := mayB_iff.1 hm1
        obtain ⟨h1, h2, h3⟩ := ((g3.below hBd).lay hr' hm' (rep_ok (unhide HT).ok.2 hmm.1 hmm.2.1 hmm.2.2 (.inr ⟨_, rfl⟩)) hB5)
        exact ⟨rfl, ⟨_, _, _, h1⟩, (g1.trans (hBd.mono hB5)).trans h2, (g2.trans (keep_below hBd)).trans h3⟩
      clear hr' hm'
      go_wp2_with fail
      show wpAny _ _ _ _ 1 _ _ _
      refine MixW.last (C := fun w' => w' = w6) 7 1 (by decide) (by kernel_rfl) (by kernel_rfl) rfl ?_
      simp only [List.drop_succ_cons, List.drop_zero]
      repeat (go_big_quiet_step (fail))
      refine wpQuiet_nil ?_
      intro w7 hw7
      obtain rfl : w6 = w7 := hw7.symm
      simp only [Exit.then]
      go_wp2
      exact hk
  · have dn : (er == 0) = false := by simpa using h0
    have dn' : (er != 0) = true := by simpa using h0
    have e1 : missT t (lo, hi, c, er) = (t, er) := by
      unfold missT
      rw [if_pos (by simpa using h0)]
    have HE1 := hide e1
    clear hmay h0 e1
    go_enter Tryz.func36, Tryz.ntmps36
    go_wp2_with fail
    refine (unhide HSC).mono ?_
    rintro e w1 ⟨rfl, hb1⟩
    go_wp2
    rw [← unhide HQ, unhide HE1]
    exact StepEnd.no (unhide HT) er hB ((unhide HB0).trans ((hb1.alloc hb1.size _).mono (unhide HB0).size))
end Go.Proofs.YthgaadjkjnibaaaGreatDoor

/-
  These texts, one behind the other: TrFm, TrLp.
-/
import Derived.Test.YtokillomaemocaaTrTuU
import Derived.Test.YtokillomaemocaaTrSaU
import Derived.Deep.LoopGhost
/-
  From of a trie's own parts.
-/
namespace Go.Proofs.Ytokillomaemocaa.VU
open Go.RowKit Go.PlainAid Go.Lib Go.PRow Go.Maps Go.TrM
set_option linter.unusedVariables false
set_option linter.unusedSimpArgs false
theorem cutN_sub {α : Type} : ∀ (k : Nat) (l : List α) (b : List α), b ∈ cutN k l → ∀ x ∈ b, x ∈ l := by
  intro k
  induction k with
  | zero => intro l b hb; simp [cutN] at hb
  | succ k ih =>
    intro l b hb x hx
    rcases List.mem_cons.1 hb with rfl | hb
    · exact List.mem_of_mem_take hx
    · exact List.mem_of_mem_drop (ih _ _ hb x hx)
theorem top_below (vs : List Int) : ∀ x ∈ (partsV vs).top, x < (midsV vs).1.length := fun x hx => numL_mem_lt _ _ hx
theorem mid_below (vs : List Int) : ∀ x ∈ (partsV vs).mid, x < (lowsV vs).1.length := fun x hx => by
  obtain ⟨b, hb, hx⟩ := List.mem_flatten.1 (show x ∈ (midsV vs).1.flatten from hx)
  rcases (numL_mem _ _ b).1 hb with h | h
  · cases h
  · exact numL_mem_lt _ _ (cutN_sub _ _ b h x hx)
set_option maxRecDepth 100000 in
set_option maxHeartbeats 4000000 in
theorem below_yes (w : World) (B : Nat) (u : Value) (xs : List Int) (bound : Int) (h : VW.RowE w B u xs) (hb : ∀ x ∈ xs, 0 ≤ x ∧ x < bound) (hm : ∀ x ∈ xs, x < 70000) (hl : xs.length ≤ 2000000) :
    Calls Try.prog 97 #[u, .int .i64 bound] w fun e w' => e = .returned (.bool true) ∧ w' = w := by
  obtain ⟨a, cap, rfl, hc1, -⟩ := h.form
  obtain ⟨n, hn⟩ : ∃ n, n = xs.length := ⟨_, rfl⟩
  have HX := hideA (fun j x (hx : xs[j]? = some x) => (show ∃ g, a = some ⟨g, 0, none⟩ ∧ w.cell? ⟨g, j, none⟩ = some (.int .u16 x) ∧ 0 ≤ x ∧ x < bound ∧ x < 70000 by
    obtain ⟨g, cap', e, _, _, hc⟩ := h.cell hx
    injection e with e1 _ _
    have hm1 := List.mem_of_getElem? hx
    exact ⟨g, e1, hc, (hb x hm1).1, (hb x hm1).2, hm x hm1⟩))
  have HN := hideA hn
  rw [← hn] at hc1 hl ⊢
  clear h hb hm hn
  go_enter Try.func97, Try.ntmps97
  go_wp2
  go_loopg [9] n (fun kx v9 wr => ∃ i : Nat, v9 = .int .i64 (i : Int) ∧ i ≤ n ∧ kx = n - i ∧ Hid (wr = w))
  case atStart => exact ⟨0, rfl, Nat.zero_le _, rfl, hideA rfl⟩
  case round =>
    obtain ⟨i, rfl, hi, rfl, HW⟩ := hrel
    obtain rfl := unhideA HW
    by_cases hlt : i < n
    · obtain ⟨x, hx⟩ : ∃ x, xs[i]? = some x := ⟨_, List.getElem?_eq_getElem (by rw [← unhideA HN]; exact hlt)⟩
      obtain ⟨g, rfl, hc, x0, x1, x2⟩ := unhideA HX i x hx
      have q1 : (i : Int) < (n : Int) := by omega
      have q2 : IntKind.i64.wrap ((i : Int) + 1) = (i : Int) + 1 := by rw [IntKind.wrap_i64]; omega
      have q3 : IntKind.i64.wrap x = x := by rw [IntKind.wrap_i64]; omega
      have q4 : decide (bound ≤ x) = false := decide_eq_false (by omega)
      clear hx
      go_wp2
      go_roundg (n - (i + 1))
      case measure => omega
      case rel => exact ⟨i + 1, by simp, by omega, rfl, hideA rfl⟩
    · obtain rfl : i = n := by omega
      go_wp2
      go_ret
      exact ⟨rfl, rfl⟩
set_option maxRecDepth 100000 in
set_option maxHeartbeats 4000000 in
theorem leads_yes (w : World) (B : Nat) (vt vm vl : Value) (vs : List Int) (h : PaAt w B vt vm vl vs) : Calls Try.prog 55 #[.agg #[vt, vm, vl]] w fun e w' => e = .returned (.bool true) ∧ Below w.heap.size w w' := by
  obtain ⟨W, hW⟩ : ∃ W, W = w.alloc (.cells #[vt, vm, vl] 27) := ⟨_, rfl⟩
  have hB : Below w.heap.size w W := by rw [hW]; exact (Below.refl _ w).alloc (Nat.le_refl _) _
  have hbx : W.heap[w.heap.size]? = some (.cells #[vt, vm, vl] 27 (0, 0)) := by rw [hW]; exact heap_alloc_new w _
  have h2 := h.below hB
  have hml := mids_le vs
  have hll := lows_le vs
  have hmid := mid_len vs
  have hlow := low_len vs
  have htop := top272 h.len
  rw [h.len] at hml hll
  obtain ⟨ta, tc, rfl, _⟩ := h.rt.form
  obtain ⟨ma, mc, rfl, _⟩ := h.rm.form
  obtain ⟨la, lc, rfl, _⟩ := h.rl.form
  simp only [List.length_map] at hW hbx h2 ⊢
  rw [htop] at hW hbx h2 ⊢
  have htb := top_below vs
  have hmb := mid_below vs
  have z1 : wrap64 (((partsV vs).mid.length : Int) / 64) = ((partsV vs).mid.length : Int) / 64 := by simp only [wrap64]; omega
  have z2 : wrap64 (((partsV vs).low.length : Int) / 64) = ((partsV vs).low.length : Int) / 64 := by simp only [wrap64]; omega
  have H1 := hideA (below_yes W B _ _ (wrap64 (((partsV vs).mid.length : Int) / 64)) h2.rt (fun x hx => by
    obtain ⟨y, hy, rfl⟩ := List.mem_map.1 hx
    have := htb y hy
    rw [z1]
    exact ⟨Int.natCast_nonneg _, by show (y : Int) < _; omega⟩) (fun x hx => by
    obtain ⟨y, hy, rfl⟩ := List.mem_map.1 hx
    have := htb y hy
    show (y : Int) < _; omega) (by rw [List.length_map]; omega))
  have H2 := hideA (below_yes W B _ _ (wrap64 (((partsV vs).low.length : Int) / 64)) h2.rm (fun x hx => by
    obtain ⟨y, hy, rfl⟩ := List.mem_map.1 hx
    have := hmb y hy
    rw [z2]
    exact ⟨Int.natCast_nonneg _, by show (y : Int) < _; omega⟩) (fun x hx => by
    obtain ⟨y, hy, rfl⟩ := List.mem_map.1 hx
    have := hmb y hy
    show (y : Int) < _; omega) (by rw [List.length_map]; omega))
  obtain ⟨c0, c1, c2⟩ := cellT hbx
  clear h h2 hml hll hmid hlow htop htb hmb hbx z1 z2
  generalize (partsV vs).mid.length = M at *
  generalize (partsV vs).low.length = L at *
  have HB := hideA hB
  subst hW
  clear hB
  go_enter Try.func55, Try.ntmps55
  go_wp2_with fail
  refine (unhideA H1).mono ?_
  rintro e w1 ⟨rfl, rfl⟩
  go_wp2_with fail
  refine (unhideA H2).mono ?_
  rintro e w2 ⟨rfl, rfl⟩
  go_wp2
  go_ret
  exact ⟨rfl, unhideA HB⟩
theorem idn_ok (w : World) (vs : List Int) (hv : ∀ x ∈ vs, okE x) : FnOk w 57 #[] (fun x => x) vs := by
  refine ⟨enters_of Try.func57 (by kernel_rfl) rfl, fun x hx => ⟨hv x hx, fun W hW => ?_⟩⟩
  show Calls Try.prog 57 #[.int .u8 x] W _
  go_enter Try.func57, Try.ntmps57
  go_wp2
  go_ret
  exact ⟨rfl, Below.refl _ _⟩
set_option maxRecDepth 100000 in
set_option maxHeartbeats 4000000 in
theorem from_yes (w : World) (B : Nat) (vt vm vl : Value) (vs : List Int) (h : PaAt w B vt vm vl vs) (hv : ∀ x ∈ vs, okE x) : Calls Try.prog 17 #[.agg #[vt, vm, vl]] w fun e w' => ∃ bt ut um ul, e = .returned (.tuple #[.pointer (some ⟨bt, 0, none⟩), .int .i64 0]) ∧ TrAt w' w.heap.size bt ut um ul vs ∧ Below w.heap.size w w' := by
  obtain ⟨W, hW⟩ : ∃ W, W = w.alloc (.cells #[vt, vm, vl] 27) := ⟨_, rfl⟩
  have hB : Below w.heap.size w W := by rw [hW]; exact (Below.refl _ w).alloc (Nat.le_refl _) _
  have hbx : W.heap[w.heap.size]? = some (.cells #[vt, vm, vl] 27 (0, 0)) := by rw [hW]; exact heap_alloc_new w _
  have HP := hideA (h.below hB)
  have HLD := hideA (leads_yes W B vt vm vl vs (h.below hB))
  obtain ⟨c0, c1, c2⟩ := cellT hbx
  have HB := hideA hB
  have HBX := hideA hbx
  have HW := hideA hW
  have HV := hideA hv
  have c0' := c0
  have c1' := c1
  have c2' := c2
  rw [hW] at c0' c1' c2'
  clear h hB hbx hW hv c0 c1 c2
  go_enter Try.func17, Try.ntmps17
  go_wp2_with fail
  rw [← unhideA HW]
  refine (unhideA HLD).mono ?_
  rintro e w1 ⟨rfl, hb1⟩
  have hbx1 := (hb1.block _ (Array.getElem?_eq_some_iff.1 (unhideA HBX)).1).trans (unhideA HBX)
  obtain ⟨c0, c1, c2⟩ := cellT hbx1
  have HP1 := hideA ((unhideA HP).below hb1)
  have HB1 := hideA ((unhideA HB).trans (hb1.mono (unhideA HB).size))
  have HBX1 := hideA hbx1
  clear hb1 hbx1 c0' c1' c2' HBX HP HB HW
  go_wp2_with fail
  refine turned_any _ w1 B vt vm vl vs (unhideA HP1) 57 #[] (fun x => x) (idn_ok w1 vs (unhideA HV)) (hideA fun w2 bt ut um ul hT hb2 hbt => ?_)
  rw [List.map_id'] at hT
  have hP2 := (unhideA HP1).below hb2
  have hbx2 := (hb2.block _ (Array.getElem?_eq_some_iff.1 (unhideA HBX1)).1).trans (unhideA HBX1)
  have hlt := top_len vs
  have hlm := mid_len vs
  have hll := low_len vs
  have hm := mids_le vs
  have hl := lows_le vs
  rw [hT.len] at hlt hm hl
  have HE1 := hideA (fun W (hW : Below w2.heap.size w2 W) => VW.equal_any W _ _ ut vt _ _ (hT.rt.below hW) (hP2.rt.below hW) (by rw [List.length_map]; omega) (by rw [List.length_map]; omega))
  have HE2 := hideA (fun W (hW : Below w2.heap.size w2 W) => VW.equal_any W _ _ um vm _ _ (hT.rm.below hW) (hP2.rm.below hW) (by rw [List.length_map]; omega) (by rw [List.length_map]; omega))
  simp only [decide_true] at HE1 HE2
  obtain ⟨a1, k1, rfl, _⟩ := hT.rl.form
  obtain ⟨a2, k2, rfl, _⟩ := hP2.rl.form
  obtain ⟨d0, d1, d2⟩ := cellT hT.ht
  obtain ⟨f0, f1, f2⟩ := cellT hbx2
  have X0 := fun dq os => cell_regrown d0 dq os
  have X1 := fun dq os => cell_regrown d1 dq os
  have X2 := fun dq os => cell_regrown d2 dq os
  have Y0 := fun dq os => cell_regrown f0 dq os
  have Y1 := fun dq os => cell_regrown f1 dq os
  have Y2 := fun dq os => cell_regrown f2 dq os
  have HT := hideA (And.intro hT ((unhideA HB1).trans (hb2.mono (unhideA HB1).size)))
  have HB1S := hideA (unhideA HB1).size
  clear hT hb2 hbt hP2 hbx2 hlt hlm hll hm hl c0 c1 c2 HP1 HBX1 HB1
  go_wp2_with fail
  refine wp_region_quiet_below (by kernel_rfl) (by kernel_rfl) ?_
  clear d0 d1 d2 f0 f1 f2
  iterate 7 (go_big_quiet_step (fail))
  go_big_quiet_step (first | (go_at_call 58; exact Calls.regrown_of (unhideA HE1 _ (below_regrown _ _ _))))
  iterate 9 (go_big_quiet_step (fail))
  go_big_quiet_step (first | (go_at_call 58; exact Calls.regrown_of (unhideA HE2 _ (below_regrown _ _ _))))
  iterate 14 (go_big_quiet_step (fail))
  refine wpQuiet_nil ?_
  intro _ hw'
  obtain ⟨⟨dq, osq⟩, hw''⟩ := hw'
  subst hw''
  have hb5 := below_regrown w2 dq osq
  have HF := hideA (And.intro ((unhideA HT).1.below hb5) ((unhideA HT).2.trans (hb5.mono (unhideA HT).2.size)))
  clear X0 X1 X2 Y0 Y1 Y2 hb5
  go_wp2
  refine bodyPost_ret (results_tmp2 rfl _ _ _) rfl ?_
  exact ⟨bt, _, _, _, rfl, (unhideA HF).1.lower (unhideA HB1S), (unhideA HF).2⟩
end Go.Proofs.Ytokillomaemocaa.VU
/-
  The law's parts: two parts that have the same lists.
-/
namespace Go.Proofs.Ytokillomaemocaa.VU
open Go.RowKit Go.PlainAid Go.Lib Go.PRow Go.Maps Go.TrM
set_option linter.unusedVariables false
set_option linter.unusedSimpArgs false
set_option maxRecDepth 100000 in
set_option maxHeartbeats 4000000 in
theorem parts_same (w : World) (B C : Nat) (x1 x2 x3 y1 y2 y3 : Value) (top mid : List Int) (low : List Int) (hx1 : VW.RowE w B x1 top) (hx2 : VW.RowE w B x2 mid) (hx3 : RowE w B x3 low) (hy1 : VW.RowE w C y1 top) (hy2 : VW.RowE w C y2 mid) (hy3 : RowE w C y3 low) (l1 : top.length ≤ 2000000) (l2 : mid.length ≤ 2000000) (l3 : low.length ≤ 2000000) :
    Calls Try.prog 31 #[.agg #[x1, x2, x3], .agg #[y1, y2, y3]] w fun e w' => e = .returned (.bool true) ∧ Below w.heap.size w w' := by
  obtain ⟨p1, k1, rfl, hc1, -⟩ := hx1.form
  obtain ⟨p2, k2, rfl, hc2, -⟩ := hx2.form
  obtain ⟨p3, k3, rfl, hc3, -⟩ := hx3.form
  obtain ⟨r1, j1, rfl, hd1, -⟩ := hy1.form
  obtain ⟨r2, j2, rfl, hd2, -⟩ := hy2.form
  obtain ⟨r3, j3, rfl, hd3, -⟩ := hy3.form
  obtain ⟨n1, hn1⟩ : ∃ n, n = top.length := ⟨_, rfl⟩
  obtain ⟨n2, hn2⟩ : ∃ n, n = mid.length := ⟨_, rfl⟩
  obtain ⟨n3, hn3⟩ : ∃ n, n = low.length := ⟨_, rfl⟩
  obtain ⟨W, hW⟩ : ∃ W, W = (w.alloc (.cells #[.slice p1 top.length k1, .slice p2 mid.length k2, .slice p3 low.length k3] 27)).alloc (.cells #[.slice r1 top.length j1, .slice r2 mid.length j2, .slice r3 low.length j3] 27) := ⟨_, rfl⟩
  have hB : Below w.heap.size w W := by rw [hW]; exact ((Below.refl _ w).alloc (Nat.le_refl _) _).alloc (by simp) _
  have hbx : W.heap[w.heap.size]? = some (.cells #[.slice p1 top.length k1, .slice p2 mid.length k2, .slice p3 low.length k3] 27 (0, 0)) := by rw [hW]; exact heap_al (heap_at (w := w) _ _ rfl) _
  have hby : W.heap[w.heap.size + 1]? = some (.cells #[.slice r1 top.length j1, .slice r2 mid.length j2, .slice r3 low.length j3] 27 (0, 0)) := by rw [hW]; exact heap_at (w := w.alloc _) _ _ (by simp)
  have HX1 := hideA (fun (X : World) (hX : Below W.heap.size W X) (i : Nat) (hi : i < n1) => (show ∃ z g g', p1 = some ⟨g, 0, none⟩ ∧ r1 = some ⟨g', 0, none⟩ ∧ X.cell? ⟨g, i, none⟩ = some (VW.enc z) ∧ X.cell? ⟨g', i, none⟩ = some (VW.enc z) by
    have hz := List.getElem?_eq_getElem (l := top) (i := i) (by omega)
    obtain ⟨g, _, e, _, _, hc⟩ := hx1.cell hz
    obtain ⟨g', _, e', _, _, hc'⟩ := hy1.cell hz
    injection e with e _ _
    injection e' with e' _ _
    have hb := hB.trans (hX.mono hB.size)
    exact ⟨_, g, g', e, e', (hb.cell (World.block_lt_of_cell? _ _ hc)).trans hc, (hb.cell (World.block_lt_of_cell? _ _ hc')).trans hc'⟩))
  have HX2 := hideA (fun (X : World) (hX : Below W.heap.size W X) (i : Nat) (hi : i < n2) => (show ∃ z g g', p2 = some ⟨g, 0, none⟩ ∧ r2 = some ⟨g', 0, none⟩ ∧ X.cell? ⟨g, i, none⟩ = some (VW.enc z) ∧ X.cell? ⟨g', i, none⟩ = some (VW.enc z) by
    have hz := List.getElem?_eq_getElem (l := mid) (i := i) (by omega)
    obtain ⟨g, _, e, _, _, hc⟩ := hx2.cell hz
    obtain ⟨g', _, e', _, _, hc'⟩ := hy2.cell hz
    injection e with e _ _
    injection e' with e' _ _
    have hb := hB.trans (hX.mono hB.size)
    exact ⟨_, g, g', e, e', (hb.cell (World.block_lt_of_cell? _ _ hc)).trans hc, (hb.cell (World.block_lt_of_cell? _ _ hc')).trans hc'⟩))
  have HX3 := hideA (fun (X : World) (hX : Below W.heap.size W X) (i : Nat) (hi : i < n3) => (show ∃ z g g', p3 = some ⟨g, 0, none⟩ ∧ r3 = some ⟨g', 0, none⟩ ∧ X.cell? ⟨g, i, none⟩ = some (VU.enc z) ∧ X.cell? ⟨g', i, none⟩ = some (VU.enc z) by
    have hz := List.getElem?_eq_getElem (l := low) (i := i) (by omega)
    obtain ⟨g, _, e, _, _, hc⟩ := hx3.cell hz
    obtain ⟨g', _, e', _, _, hc'⟩ := hy3.cell hz
    injection e with e _ _
    injection e' with e' _ _
    have hb := hB.trans (hX.mono hB.size)
    exact ⟨_, g, g', e, e', (hb.cell (World.block_lt_of_cell? _ _ hc)).trans hc, (hb.cell (World.block_lt_of_cell? _ _ hc')).trans hc'⟩))
  rw [← hn1, ← hn2, ← hn3] at hW hbx hby ⊢
  rw [← hn1] at l1 hc1 hd1
  rw [← hn2] at l2 hc2 hd2
  rw [← hn3] at l3 hc3 hd3
  have HBX := hideA (fun (X : World) (hX : Below W.heap.size W X) => (show X.cell? ⟨w.heap.size, 0, none⟩ = some (.slice p1 n1 k1) ∧ X.cell? ⟨w.heap.size, 1, none⟩ = some (.slice p2 n2 k2) ∧ X.cell? ⟨w.heap.size, 2, none⟩ = some (.slice p3 n3 k3) ∧ X.cell? ⟨w.heap.size + 1, 0, none⟩ = some (.slice r1 n1 j1) ∧ X.cell? ⟨w.heap.size + 1, 1, none⟩ = some (.slice r2 n2 j2) ∧ X.cell? ⟨w.heap.size + 1, 2, none⟩ = some (.slice r3 n3 j3) by
    have h1 := (hX.block _ (Array.getElem?_eq_some_iff.1 hbx).1).trans hbx
    have h2 := (hX.block _ (Array.getElem?_eq_some_iff.1 hby).1).trans hby
    obtain ⟨c0, c1, c2⟩ := cellT h1
    obtain ⟨d0, d1, d2⟩ := cellT h2
    exact ⟨c0, c1, c2, d0, d1, d2⟩))
  have HB := hideA hB
  have HW := hideA hW
  have HB1 := hideA (Below.refl W.heap.size W)
  obtain ⟨a0, a1, a2, b0, b1, b2⟩ := unhideA HBX _ (unhideA HB1)
  rw [hW] at a0 a1 a2 b0 b1 b2
  clear hx1 hx2 hx3 hy1 hy2 hy3 hn1 hn2 hn3 hbx hby hB hW
  go_enter Try.func31, Try.ntmps31
  go_wp2_with fail
  rw [← unhideA HW]
  clear a0 a1 a2 b0 b1 b2
  go_loopg [5] n1 (fun kx v5 wr => ∃ i : Nat, v5 = .int .i64 (i : Int) ∧ i ≤ n1 ∧ kx = n1 - i ∧ Hid (Below W.heap.size W wr))
  case atStart => exact ⟨0, rfl, Nat.zero_le _, rfl, HB1⟩
  case round =>
    obtain ⟨i, rfl, hi, rfl, HR⟩ := hrel
    obtain ⟨a0, a1, a2, b0, b1, b2⟩ := unhideA HBX _ (unhideA HR)
    by_cases hlt : i < n1
    · obtain ⟨a0', a1', a2', b0', b1', b2'⟩ := unhideA HBX _ (unhideA HR).drew
      obtain ⟨z, g, g', rfl, rfl, d1, d2⟩ := unhideA HX1 _ (unhideA HR).drew i hlt
      have d3 : wr.cell? ⟨g, i, none⟩ = some (VW.enc z) := d1
      have d4 : wr.cell? ⟨g', i, none⟩ = some (VW.enc z) := d2
      have q1 : (i : Int) < (n1 : Int) := by omega
      have q6 : IntKind.i64.wrap ((i : Int) + 1) = (i : Int) + 1 := by rw [IntKind.wrap_i64]; omega
      go_wp2_with fail
      go_region
      go_wp2
      go_roundg (n1 - (i + 1))
      case measure => omega
      case rel => exact ⟨i + 1, by simp, by omega, rfl, hideA (unhideA HR).drew⟩
    · obtain rfl : i = n1 := by omega
      have HB2 := HR
      clear HR
      clear a0 a1 a2 b0 b1 b2
      obtain ⟨a0, a1, a2, b0, b1, b2⟩ := unhideA HBX _ (unhideA HB2)
      go_wp2_with fail
      clear a0 a1 a2 b0 b1 b2
      go_loopg [6] n2 (fun kx v6 wr => ∃ i : Nat, v6 = .int .i64 (i : Int) ∧ i ≤ n2 ∧ kx = n2 - i ∧ Hid (Below W.heap.size W wr))
      case atStart => exact ⟨0, rfl, Nat.zero_le _, rfl, HB2⟩
      case round =>
        obtain ⟨i, rfl, hi, rfl, HR⟩ := hrel
        obtain ⟨a0, a1, a2, b0, b1, b2⟩ := unhideA HBX _ (unhideA HR)
        by_cases hlt : i < n2
        · obtain ⟨a0', a1', a2', b0', b1', b2'⟩ := unhideA HBX _ (unhideA HR).drew
          obtain ⟨z, g, g', rfl, rfl, d1, d2⟩ := unhideA HX2 _ (unhideA HR).drew i hlt
          have d3 : wr.cell? ⟨g, i, none⟩ = some (VW.enc z) := d1
          have d4 : wr.cell? ⟨g', i, none⟩ = some (VW.enc z) := d2
          have q1 : (i : Int) < (n2 : Int) := by omega
          have q6 : IntKind.i64.wrap ((i : Int) + 1) = (i : Int) + 1 := by rw [IntKind.wrap_i64]; omega
          go_wp2_with fail
          go_region
          go_wp2
          go_roundg (n2 - (i + 1))
          case measure => omega
          case rel => exact ⟨i + 1, by simp, by omega, rfl, hideA (unhideA HR).drew⟩
        · obtain rfl : i = n2 := by omega
          have HB3 := HR
          clear HR
          clear a0 a1 a2 b0 b1 b2
          obtain ⟨a0, a1, a2, b0, b1, b2⟩ := unhideA HBX _ (unhideA HB3)
          go_wp2_with fail
          clear a0 a1 a2 b0 b1 b2
          go_loopg [7] n3 (fun kx v7 wr => ∃ i : Nat, v7 = .int .i64 (i : Int) ∧ i ≤ n3 ∧ kx = n3 - i ∧ Hid (Below W.heap.size W wr))
          case atStart => exact ⟨0, rfl, Nat.zero_le _, rfl, HB3⟩
          case round =>
            obtain ⟨i, rfl, hi, rfl, HR⟩ := hrel
            obtain ⟨a0, a1, a2, b0, b1, b2⟩ := unhideA HBX _ (unhideA HR)
            by_cases hlt : i < n3
            · obtain ⟨a0', a1', a2', b0', b1', b2'⟩ := unhideA HBX _ (unhideA HR).drew
              obtain ⟨z, g, g', rfl, rfl, d1, d2⟩ := unhideA HX3 _ (unhideA HR).drew i hlt
              have d3 : wr.cell? ⟨g, i, none⟩ = some (VU.enc z) := d1
              have d4 : wr.cell? ⟨g', i, none⟩ = some (VU.enc z) := d2
              have q1 : (i : Int) < (n3 : Int) := by omega
              have q6 : IntKind.i64.wrap ((i : Int) + 1) = (i : Int) + 1 := by rw [IntKind.wrap_i64]; omega
              go_wp2_with fail
              go_region
              go_wp2
              go_roundg (n3 - (i + 1))
              case measure => omega
              case rel => exact ⟨i + 1, by simp, by omega, rfl, hideA (unhideA HR).drew⟩
            · obtain rfl : i = n3 := by omega
              have HB4 := HR
              clear HR
              have HF := hideA ((unhideA HB).trans ((unhideA HB4).mono (unhideA HB).size))
              go_wp2_with fail
              go_ret
              exact ⟨rfl, unhideA HF⟩
end Go.Proofs.Ytokillomaemocaa.VU

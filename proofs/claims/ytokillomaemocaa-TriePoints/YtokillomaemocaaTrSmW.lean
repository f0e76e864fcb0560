/-
  TrieSmall walked.
-/
import Derived.Test.YtokillomaemocaaTrAw
import Derived.Test.YtokillomaemocaaTrSmM
import Derived.Test.YtokillomaemocaaTrSmA
import Derived.Test.YtokillomaemocaaTrQp
import Derived.Deep.CutRange
import Derived.ProofKit
namespace Go.Proofs.Ytokillomaemocaa.trieSmall
open Go.ChangeShapes Go.WideShapes Go.ChangeAt Go.RowKit Go.PlainAid Go.Lib Go.ChangeMaps Go.PRow Go.TrM
open Go.Proofs.Ytokillomaemocaa.VK (SpAt)
set_option linter.unusedVariables false
set_option linter.unusedSimpArgs false
/-- what Build answers -/
def Blt (W0 W : World) (rest : Int) (ps : List (Pc Int)) (v7 v9 : Value) : Prop :=
  v9 = .int .i64 ((refP ps).2 : Int) ∧ ((refP ps).2 = 0 → ∃ bt vt vm vl, v7 = .pointer (some ⟨bt, 0, none⟩) ∧ VU.TrAt W W0.heap.size bt vt vm vl (valsF rest ps)) ∧ ((refP ps).2 ≠ 0 → v7 = .pointer none)
theorem Blt.below {W0 W W' : World} {rest : Int} {ps : List (Pc Int)} {v7 v9 : Value} (h : Blt W0 W rest ps v7 v9) (hb : Below W.heap.size W W') : Blt W0 W' rest ps v7 v9 := by
  obtain ⟨h1, h2, h3⟩ := h
  refine ⟨h1, fun h => ?_, h3⟩
  obtain ⟨bt, vt, vm, vl, e, h4⟩ := h2 h
  exact ⟨bt, vt, vm, vl, e, h4.below hb⟩
theorem build_blt (rest : Int) (hr0 : 0 ≤ rest) (hr1 : rest ≤ 255) (a : Option Addr) (cap : Nat) (ps : List (Pc Int)) (n : Nat) (hn : ps.length = n) (hn2 : n ≤ 1099511627776) (hc : n ≤ cap) (hv : ∀ p ∈ ps, 0 ≤ p.val ∧ p.val < 256) (w : World) (h : SpAt w a ps) :
    Calls Try.prog 12 #[.int .u8 rest, .slice a n cap] w fun e w' => ∃ v7 v8 v9, e = .returned (.tuple #[v7, v8, v9]) ∧ Blt w w' rest ps v7 v9 ∧ Below w.heap.size w w' :=
  VK.build_any _ rest hr0 (by omega) a cap ps n hn hn2 hc hv w h
    (VK.hide fun h0 w' bt vt vm vl hT hb _ => ⟨_, _, _, rfl, ⟨by rw [h0]; rfl, fun _ => ⟨bt, vt, vm, vl, rfl, hT⟩, fun h => absurd h0 h⟩, hb⟩)
    (VK.hide fun h0 w' hb => ⟨_, _, _, rfl, ⟨rfl, fun h => absurd h h0, fun _ => rfl⟩, hb⟩)
theorem row_sp {W : World} {B : Nat} {a : Option Addr} {m c : Nat} {ps : List (Pc Int)} (h : VK.RowP W B (.slice a m c) ps) : m = ps.length ∧ m ≤ c ∧ SpAt W a ps := by
  rcases h.rw with ⟨a', e, rfl⟩ | ⟨g, cap', cur, e, hg, R⟩
  · injection e with e1 e2 e3
    subst e2; subst e3
    exact ⟨rfl, Nat.le_refl _, fun h => absurd rfl h⟩
  · injection e with e1 e2 e3
    subst e1; subst e2; subst e3
    refine ⟨rfl, R.hn, fun _ => ⟨g, 0, rfl, (Array.getElem?_eq_some_iff.1 R.hh).1, fun j u hj => ?_⟩⟩
    have := R.cell (V := W) rfl 0 j u (by rwa [List.drop_zero])
    rwa [Addr.add_lit] at this
theorem blk_any (w : World) (B bt : Nat) (vt vm vl : Value) (rest : Int) (ps : List (Pc Int)) (h : VU.TrAt w B bt vt vm vl (valsF rest ps)) :
    Calls Try.prog 21 #[.pointer (some ⟨bt, 0, none⟩)] w fun e w' => e = .returned (.tuple #[.int .i64 (nMid rest ps : Int), .int .i64 (nLow rest ps : Int)]) ∧ Below w.heap.size w w' := VU.blocks_any w B bt vt vm vl _ h
theorem small_false (M N n : Nat) (f1 : 0 < N) (f2 : 0 < M) (f3 : N ≤ 17408) (f4 : M ≤ 272) (f5 : N ≤ 64 * M) (f6 : N ≤ 1 + 3 * n) (f7 : M ≤ 1 + 3 * n) :
    (decide ((M : Int) < 1) || decide ((272 : Int) < (M : Int)) || decide ((N : Int) < 1) || decide ((17408 : Int) < (N : Int)) || decide (64 * (M : Int) < (N : Int)) || decide (1 + 3 * (n : Int) < (M : Int)) || decide (1 + 3 * (n : Int) < (N : Int))) = false := by
  rw [decide_eq_false (by omega), decide_eq_false (by omega), decide_eq_false (by omega), decide_eq_false (by omega), decide_eq_false (by omega), decide_eq_false (by omega), decide_eq_false (by omega)]
  rfl
theorem small_dec (M N n : Nat) (f1 : 0 < N) (f2 : 0 < M) (f3 : N ≤ 17408) (f4 : M ≤ 272) (f5 : N ≤ 64 * M) (f6 : N ≤ 1 + 3 * n) (f7 : M ≤ 1 + 3 * n) :
    decide ((M : Int) < 1) = false ∧ decide ((272 : Int) < (M : Int)) = false ∧ decide ((N : Int) < 1) = false ∧ decide ((17408 : Int) < (N : Int)) = false ∧ decide (64 * (M : Int) < (N : Int)) = false ∧ decide (1 + 3 * (n : Int) < (M : Int)) = false ∧ decide (1 + 3 * (n : Int) < (N : Int)) = false := by
  refine ⟨decide_eq_false ?_, decide_eq_false ?_, decide_eq_false ?_, decide_eq_false ?_, decide_eq_false ?_, decide_eq_false ?_, decide_eq_false ?_⟩ <;> omega
theorem few_dec (M N M2 N2 : Nat) (h : N2 ≤ N + 3 ∧ M2 ≤ M + 3) : decide ((M2 : Int) ≤ (M : Int) + 3) = true ∧ decide ((N2 : Int) ≤ (N : Int) + 3) = true :=
  ⟨decide_eq_true (by omega), decide_eq_true (by omega)⟩
theorem sp_nil (w : World) : SpAt w none [] := fun h => absurd rfl h
set_option maxRecDepth 100000 in
set_option maxHeartbeats 4000000 in
theorem walk (rest : Int) (a : Option Addr) (n cap : Nat) (ps : List (Pc Int)) (x : Pc Int) (w : World) (hr0 : 0 ≤ rest) (hr1 : rest ≤ 255) (hn : ps.length = n) (hc : n ≤ cap) (hS : SpAt w a ps) (hv : ∀ p ∈ ps, 0 ≤ p.val ∧ p.val < 256) (hx : 0 ≤ x.val ∧ x.val < 256) :
    Calls Try.prog 7 #[.int .u8 rest, .slice a n cap, .agg #[.int .i32 x.lo, .int .i32 x.hi, .int .u8 x.val]] w fun e w' => e = .returned (.bool true) ∧ Below w.heap.size w w' := by
  have hb0 : Below w.heap.size w (w.alloc (.cells #[.int .i32 x.lo, .int .i32 x.hi, .int .u8 x.val] 72)) := (Below.refl _ w).alloc (Nat.le_refl _) _
  have HB0 := VU.hide hb0
  have HAW := VU.hide (VK.awake_any (w.alloc (.cells #[.int .i32 x.lo, .int .i32 x.hi, .int .u8 x.val] 72)))
  have HS := VU.hide hS
  have HV := VU.hide hv
  have HN := VU.hide hn
  clear hb0 hS hv hn
  by_cases h60 : 60 < n
  · go_enter Try.func7, Try.ntmps7
    go_wp2_with fail
    refine (VU.unhide HAW).mono ?_
    rintro e w1 ⟨rfl, hb1⟩
    go_wp2
    go_ret
    exact ⟨rfl, (VU.unhide HB0).trans (hb1.mono (VU.unhide HB0).size)⟩
  go_enter Try.func7, Try.ntmps7
  go_upto_region 3 with fail
  obtain ⟨w1, hw1⟩ : ∃ w1, w1 = w.alloc (.cells #[.int .i32 x.lo, .int .i32 x.hi, .int .u8 x.val] 72) := ⟨_, rfl⟩
  have hx1 : w1.heap[w.heap.size]? = some (.cells #[.int .i32 x.lo, .int .i32 x.hi, .int .u8 x.val] 72 (0, 0)) := by rw [hw1]; exact World.alloc_heap_new w _
  rw [← hw1] at HB0 HAW ⊢
  clear hw1
  have HS1 := VU.hide ((VU.unhide HS).below (VU.unhide HB0))
  have HX1 := VU.hide hx1
  clear hx1 HS HAW
  go_cut [7, 8, 9] from 26 to 32 (fun v7 v8 v9 wx => Hid (Blt w1 wx rest ps v7 v9 ∧ Below w1.heap.size w1 wx))
  case first =>
    go_wp2_with fail
    refine VK.build_any _ rest hr0 (by omega) a cap ps n (VU.unhide HN) (by omega) hc (VU.unhide HV) w1 (VU.unhide HS1) (VK.hide fun h0 w' bt vt vm vl hT hb _ => ?_) (VK.hide fun h0 w' hb => ?_)
    · have HF := VU.hide (And.intro (show Blt w1 w' rest ps (.pointer (some ⟨bt, 0, none⟩)) (.int .i64 0) from ⟨by rw [h0]; rfl, fun _ => ⟨bt, vt, vm, vl, rfl, hT⟩, fun h => absurd h0 h⟩) hb)
      clear hT hb
      go_wp2_with fail
      go_meet
      exact HF
    · have HF := VU.hide (And.intro (show Blt w1 w' rest ps (.pointer none) (.int .i64 ((refP ps).2 : Int)) from ⟨rfl, fun h => absurd h h0, fun _ => rfl⟩) hb)
      clear hb
      go_wp2_with fail
      go_meet
      exact HF
  case rest =>
    go_upto_region 4 with fail
    have hB1 := (VU.unhide hcut).2
    have HSC := VU.hide ((VU.unhide HS1).below hB1)
    have hxc := (hB1.block _ (Array.getElem?_eq_some_iff.1 (VU.unhide HX1)).1).trans (VU.unhide HX1)
    have HXC := VU.hide hxc
    have HBC := VU.hide ((VU.unhide HB0).trans (hB1.mono (VU.unhide HB0).size))
    have HBL := VU.hide (VU.unhide hcut).1
    clear hxc hB1 HS1 HX1 HB0 hcut
    go_cut [10, 11, 12] from 33 to 43 (fun v10 v11 v12 wx => Hid ((∃ wb, Blt wb wx rest (ps ++ [x]) v10 v12) ∧ Below wc.heap.size wc wx))
    case first =>
      have hS1 : Below wc.heap.size wc wc.drew := (Below.refl _ wc).drew
      have L0 : ∀ X : World, Below wc.heap.size wc X → X.cell? ⟨w.heap.size, 0, none⟩ = some (.int .i32 x.lo) ∧ X.cell? ⟨w.heap.size, 1, none⟩ = some (.int .i32 x.hi) ∧ X.cell? ⟨w.heap.size, 2, none⟩ = some (.int .u8 x.val) := fun X hX => by
        have h := (hX.block _ (Array.getElem?_eq_some_iff.1 (VU.unhide HXC)).1).trans (VU.unhide HXC)
        exact ⟨by simp [World.cell?, h], by simp [World.cell?, h], by simp [World.cell?, h]⟩
      refine PStep.wp_only ?_
      refine wp_region_held (S := fun W => Below wc.heap.size wc W) (by kernel_rfl) ?_
      show wpAnyH _ _ _ _ _ _ _ _ wc.drew
      refine PStep.take (i := 0) (v := .int .u8 rest) (some 34) rfl rfl (by kernel_rfl) (by kernel_rfl) (by kernel_rfl) (fun _ _ _ h => h) (.inl ⟨rfl, fun X hX => by simp [go_sem, execOp, Act.eval, Act.put]⟩) hS1 ?_
      refine PStep.take (i := 1) (v := .slice a n cap) (some 35) rfl rfl (by kernel_rfl) (by kernel_rfl) (by kernel_rfl) (fun _ _ _ h => h) (.inl ⟨rfl, fun X hX => by simp [go_sem, execOp, Act.eval, Act.put]⟩) hS1 ?_
      refine PStep.take (i := 3) (v := .agg #[.int .i32 x.lo, .int .i32 x.hi, .int .u8 x.val]) (some 37) rfl rfl (by kernel_rfl) (by kernel_rfl) (by kernel_rfl) (fun _ _ _ h => h) (.inl ⟨rfl, fun X hX => by obtain ⟨hX1, hX2, hX3⟩ := L0 X hX; simp [go_sem, execOp, Act.eval, Act.put, hX1, hX2, hX3]⟩) hS1 ?_
      refine wpAnyH_all (rs := [2, 4]) (by kernel_rfl) (by simp) ?_
      intro i hi4
      simp only [List.mem_cons, List.not_mem_nil, or_false] at hi4
      rcases hi4 with rfl | rfl
      · obtain ⟨s36, V1, hap0, h36, hB01⟩ := VK.append_nil a cap ps wc.drew (((VU.unhide HSC).below hS1).src cap) (by rw [VU.unhide HN]; omega)
        rw [VU.unhide HN] at hap0
        have hB1 : Below wc.heap.size wc V1 := hS1.trans hB01
        refine PStep.wpOp_value (w' := V1) (v := s36) rfl rfl (some 36) rfl (VK.exec_append _ _ 22 22 rfl (.slice none 0 0) (.slice a n cap) _ (by simp [Act.eval, Act.put]) (by simp [Act.eval, Act.put]) (hap0 _)) ⟨hB1, ?_⟩
        obtain ⟨b38, hb38⟩ : ∃ b38, b38 = V1.heap.size := ⟨_, rfl⟩
        obtain ⟨V2, hV2⟩ : ∃ V2, V2 = V1.alloc (.cells #[.int .i32 x.lo, .int .i32 x.hi, .int .u8 x.val] 72) := ⟨_, rfl⟩
        have hb12 : Below V1.heap.size V1 V2 := by rw [hV2]; exact (Below.refl _ V1).alloc (Nat.le_refl _) _
        have hB2 : Below wc.heap.size wc V2 := hB1.trans (hb12.mono hB1.size)
        have hx2 : V2.heap[b38]? = some (.cells #[.int .i32 x.lo, .int .i32 x.hi, .int .u8 x.val] 72 (0, 0)) := by rw [hV2, hb38]; exact World.alloc_heap_new V1 _
        have h36 : VK.RowP V2 wc.heap.size s36 ps := VK.RowP.below h36 hb12
        refine wpAnyH_all (rs := [4]) (by kernel_rfl) (by simp) ?_
        intro i hi4
        obtain rfl : i = 4 := by simpa using hi4
        refine PStep.wpOp_value (w' := V2) (v := .slice (some ⟨b38, 0, none⟩) 1 1) rfl rfl (some 38) rfl (by rw [hV2, hb38]; simp [go_sem, execOp, Act.eval, Act.put]) ⟨hB2, ?_⟩
        clear hV2 hb38 hb12 hB01 hap0 hB1

        obtain ⟨sa, sn, sc, rfl⟩ : ∃ a n k, s36 = .slice a n k := by obtain ⟨a, k, e, _⟩ := h36.form; exact ⟨a, _, k, e⟩
        obtain ⟨s39, V3, hap, h39, hg3⟩ := VK.append_x wc.heap.size b38 (.slice sa sn sc) ps x V2 hB2.size h36 hx2 (by rw [VU.unhide HN]; omega)
        have hB3 : Below wc.heap.size wc V3 := hB2.grown hg3 hB2.size (fun k hk => (RowV.lt h36 k hk).1)
        refine wpAnyH_all (rs := [5]) (by kernel_rfl) (by simp) ?_
        intro i hi4
        obtain rfl : i = 5 := by simpa using hi4
        refine PStep.wpOp_value (w' := V3) (v := s39) rfl rfl (some 39) rfl (VK.exec_append _ _ 22 22 rfl (.slice sa sn sc) (.slice (some ⟨b38, 0, none⟩) 1 1) _ (by simp [Act.eval, Act.put]) (by simp [Act.eval, Act.put]) (hap _)) ⟨hB3, ?_⟩
        obtain ⟨qa, qn, qc, rfl⟩ : ∃ a n k, s39 = .slice a n k := by obtain ⟨a, k, e, _⟩ := h39.form; exact ⟨a, _, k, e⟩
        obtain ⟨hq1, hq2, hq3⟩ := row_sp h39
        rw [List.length_append, List.length_singleton, VU.unhide HN] at hq1
        refine wpAnyH_all (rs := [6]) (by kernel_rfl) (by simp) ?_
        intro i hi4
        obtain rfl : i = 6 := by simpa using hi4
        refine PStep.wpOp_call (f := 12) (args := #[.int .u8 rest, .slice qa qn qc]) (w' := V3) rfl rfl (some 40) rfl (by simp [go_sem, execOp, Act.eval, Act.put]) (build_blt rest hr0 hr1 qa qc (ps ++ [x]) qn (by rw [List.length_append, List.length_singleton, VU.unhide HN]; exact hq1.symm) (by omega) hq2 (fun p hp => by
          rcases List.mem_append.1 hp with hp | hp
          · exact VU.unhide HV p hp
          · rw [List.mem_singleton.1 hp]; exact hx) V3 hq3) ?_
        rintro e V4 ⟨v7, v8, v9, rfl, hbl, hb4⟩
        have hB4 : Below wc.heap.size wc V4 := hB3.trans (hb4.mono hB3.size)
        refine ⟨_, rfl, hB4, ?_⟩
        refine PStep.take (i := 7) (v := .tuple #[v7, v8, v9]) (some 33) rfl rfl (by kernel_rfl) (by kernel_rfl) (by kernel_rfl) (fun _ _ _ h => h) (.inl ⟨rfl, fun X hX => by simp [go_sem, execOp, Act.eval, Act.put]⟩) hB4 ?_
        refine PStep.take (i := 8) (v := v7) (some 41) rfl rfl (by kernel_rfl) (by kernel_rfl) (by kernel_rfl) (fun _ _ _ h => h) (.inl ⟨rfl, fun X hX => by simp [go_sem, execOp, Act.eval, Act.put]⟩) hB4 ?_
        refine PStep.take (i := 9) (v := v8) (some 42) rfl rfl (by kernel_rfl) (by kernel_rfl) (by kernel_rfl) (fun _ _ _ h => h) (.inl ⟨rfl, fun X hX => by simp [go_sem, execOp, Act.eval, Act.put]⟩) hB4 ?_
        refine PStep.take (i := 10) (v := v9) (some 43) rfl rfl (by kernel_rfl) (by kernel_rfl) (by kernel_rfl) (fun _ _ _ h => h) (.inl ⟨rfl, fun X hX => by simp [go_sem, execOp, Act.eval, Act.put]⟩) hB4 ?_
        refine PStep.take (i := 11) (v := v7) (some 10) rfl rfl (by kernel_rfl) (by kernel_rfl) (by kernel_rfl) (fun _ _ _ h => h) (.inl ⟨rfl, fun X hX => by simp [go_sem, execOp, Act.eval, Act.put]⟩) hB4 ?_
        refine PStep.take (i := 12) (v := v8) (some 11) rfl rfl (by kernel_rfl) (by kernel_rfl) (by kernel_rfl) (fun _ _ _ h => h) (.inl ⟨rfl, fun X hX => by simp [go_sem, execOp, Act.eval, Act.put]⟩) hB4 ?_
        refine PStep.take (i := 13) (v := v9) (some 12) rfl rfl (by kernel_rfl) (by kernel_rfl) (by kernel_rfl) (fun _ _ _ h => h) (.inl ⟨rfl, fun X hX => by simp [go_sem, execOp, Act.eval, Act.put]⟩) hB4 ?_
        refine wpAnyH_done (by kernel_rfl) ?_ _
        have HF := VU.hide (And.intro (show ∃ wb, Blt wb V4 rest (ps ++ [x]) v7 v9 from ⟨_, hbl⟩) hB4)
        clear hbl hB4 hb4
        simp only [Act.put, PStep.only, List.setIfInBounds_toArray, List.set_cons_succ, List.set_cons_zero]
        go_wp2_with fail
        go_meet
        exact HF
      · obtain ⟨b38, hb38⟩ : ∃ b38, b38 = wc.drew.heap.size := ⟨_, rfl⟩
        obtain ⟨V1, hV1⟩ : ∃ V1, V1 = wc.drew.alloc (.cells #[.int .i32 x.lo, .int .i32 x.hi, .int .u8 x.val] 72) := ⟨_, rfl⟩
        have hb01 : Below wc.heap.size wc.drew V1 := by rw [hV1]; exact (Below.refl _ wc.drew).alloc (Nat.le_refl _) _
        have hB1 : Below wc.heap.size wc V1 := hS1.trans hb01
        have hx1 : V1.heap[b38]? = some (.cells #[.int .i32 x.lo, .int .i32 x.hi, .int .u8 x.val] 72 (0, 0)) := by rw [hV1, hb38]; exact World.alloc_heap_new wc.drew _
        refine PStep.wpOp_value (w' := V1) (v := .slice (some ⟨b38, 0, none⟩) 1 1) rfl rfl (some 38) rfl (by rw [hV1, hb38]; simp [go_sem, execOp, Act.eval, Act.put]) ⟨hB1, ?_⟩
        obtain ⟨s36, V2, hap0, h36, hb12⟩ := VK.append_nil a cap ps V1 (((VU.unhide HSC).below hB1).src cap) (by rw [VU.unhide HN]; omega)
        rw [VU.unhide HN] at hap0
        have hB2 : Below wc.heap.size wc V2 := hB1.trans (hb12.mono hB1.size)
        have hx2 := (hb12.block _ (Array.getElem?_eq_some_iff.1 hx1).1).trans hx1
        have h36 : VK.RowP V2 wc.heap.size s36 ps := RowV.mono h36 hB1.size
        refine wpAnyH_all (rs := [2]) (by kernel_rfl) (by simp) ?_
        intro i hi4
        obtain rfl : i = 2 := by simpa using hi4
        refine PStep.wpOp_value (w' := V2) (v := s36) rfl rfl (some 36) rfl (VK.exec_append _ _ 22 22 rfl (.slice none 0 0) (.slice a n cap) _ (by simp [Act.eval, Act.put]) (by simp [Act.eval, Act.put]) (hap0 _)) ⟨hB2, ?_⟩
        clear hV1 hb38 hb12 hb01 hap0 hB1 hx1
        obtain ⟨sa, sn, sc, rfl⟩ : ∃ a n k, s36 = .slice a n k := by obtain ⟨a, k, e, _⟩ := h36.form; exact ⟨a, _, k, e⟩
        obtain ⟨s39, V3, hap, h39, hg3⟩ := VK.append_x wc.heap.size b38 (.slice sa sn sc) ps x V2 hB2.size h36 hx2 (by rw [VU.unhide HN]; omega)
        have hB3 : Below wc.heap.size wc V3 := hB2.grown hg3 hB2.size (fun k hk => (RowV.lt h36 k hk).1)
        refine wpAnyH_all (rs := [5]) (by kernel_rfl) (by simp) ?_
        intro i hi4
        obtain rfl : i = 5 := by simpa using hi4
        refine PStep.wpOp_value (w' := V3) (v := s39) rfl rfl (some 39) rfl (VK.exec_append _ _ 22 22 rfl (.slice sa sn sc) (.slice (some ⟨b38, 0, none⟩) 1 1) _ (by simp [Act.eval, Act.put]) (by simp [Act.eval, Act.put]) (hap _)) ⟨hB3, ?_⟩
        obtain ⟨qa, qn, qc, rfl⟩ : ∃ a n k, s39 = .slice a n k := by obtain ⟨a, k, e, _⟩ := h39.form; exact ⟨a, _, k, e⟩
        obtain ⟨hq1, hq2, hq3⟩ := row_sp h39
        rw [List.length_append, List.length_singleton, VU.unhide HN] at hq1
        refine wpAnyH_all (rs := [6]) (by kernel_rfl) (by simp) ?_
        intro i hi4
        obtain rfl : i = 6 := by simpa using hi4
        refine PStep.wpOp_call (f := 12) (args := #[.int .u8 rest, .slice qa qn qc]) (w' := V3) rfl rfl (some 40) rfl (by simp [go_sem, execOp, Act.eval, Act.put]) (build_blt rest hr0 hr1 qa qc (ps ++ [x]) qn (by rw [List.length_append, List.length_singleton, VU.unhide HN]; exact hq1.symm) (by omega) hq2 (fun p hp => by
          rcases List.mem_append.1 hp with hp | hp
          · exact VU.unhide HV p hp
          · rw [List.mem_singleton.1 hp]; exact hx) V3 hq3) ?_
        rintro e V4 ⟨v7, v8, v9, rfl, hbl, hb4⟩
        have hB4 : Below wc.heap.size wc V4 := hB3.trans (hb4.mono hB3.size)
        refine ⟨_, rfl, hB4, ?_⟩
        refine PStep.take (i := 7) (v := .tuple #[v7, v8, v9]) (some 33) rfl rfl (by kernel_rfl) (by kernel_rfl) (by kernel_rfl) (fun _ _ _ h => h) (.inl ⟨rfl, fun X hX => by simp [go_sem, execOp, Act.eval, Act.put]⟩) hB4 ?_
        refine PStep.take (i := 8) (v := v7) (some 41) rfl rfl (by kernel_rfl) (by kernel_rfl) (by kernel_rfl) (fun _ _ _ h => h) (.inl ⟨rfl, fun X hX => by simp [go_sem, execOp, Act.eval, Act.put]⟩) hB4 ?_
        refine PStep.take (i := 9) (v := v8) (some 42) rfl rfl (by kernel_rfl) (by kernel_rfl) (by kernel_rfl) (fun _ _ _ h => h) (.inl ⟨rfl, fun X hX => by simp [go_sem, execOp, Act.eval, Act.put]⟩) hB4 ?_
        refine PStep.take (i := 10) (v := v9) (some 43) rfl rfl (by kernel_rfl) (by kernel_rfl) (by kernel_rfl) (fun _ _ _ h => h) (.inl ⟨rfl, fun X hX => by simp [go_sem, execOp, Act.eval, Act.put]⟩) hB4 ?_
        refine PStep.take (i := 11) (v := v7) (some 10) rfl rfl (by kernel_rfl) (by kernel_rfl) (by kernel_rfl) (fun _ _ _ h => h) (.inl ⟨rfl, fun X hX => by simp [go_sem, execOp, Act.eval, Act.put]⟩) hB4 ?_
        refine PStep.take (i := 12) (v := v8) (some 11) rfl rfl (by kernel_rfl) (by kernel_rfl) (by kernel_rfl) (fun _ _ _ h => h) (.inl ⟨rfl, fun X hX => by simp [go_sem, execOp, Act.eval, Act.put]⟩) hB4 ?_
        refine PStep.take (i := 13) (v := v9) (some 12) rfl rfl (by kernel_rfl) (by kernel_rfl) (by kernel_rfl) (fun _ _ _ h => h) (.inl ⟨rfl, fun X hX => by simp [go_sem, execOp, Act.eval, Act.put]⟩) hB4 ?_
        refine wpAnyH_done (by kernel_rfl) ?_ _
        have HF := VU.hide (And.intro (show ∃ wb, Blt wb V4 rest (ps ++ [x]) v7 v9 from ⟨_, hbl⟩) hB4)
        clear hbl hB4 hb4
        simp only [Act.put, PStep.only, List.setIfInBounds_toArray, List.set_cons_succ, List.set_cons_zero]
        go_wp2_with fail
        go_meet
        exact HF
    case rest =>
      obtain ⟨⟨wb, hbl1⟩, hbc⟩ := VU.unhide hcut
      have hbl0 := (VU.unhide HBL).below hbc
      have hbw := (VU.unhide HBC).trans (hbc.mono (VU.unhide HBC).size)
      have HL0 := VU.hide hbl0
      have HL1 := VU.hide hbl1
      have HBW := VU.hide hbw
      clear hbl0 hbl1 hbw hbc hcut HSC HXC HBL HBC
      go_wp2_with fail
      refine (build_blt rest hr0 hr1 none 0 [] 0 rfl (by omega) (Nat.le_refl _) (fun p hp => by cases hp) wc (sp_nil wc)).mono ?_
      rintro e w5 ⟨v13, v14, v15, rfl, ⟨rfl, h13, _⟩, hb5⟩
      obtain ⟨bo, o1, o2, o3, rfl, hTo⟩ := h13 rfl
      clear h13
      have HL0 := VU.hide ((VU.unhide HL0).below hb5)
      have HL1 := VU.hide ((VU.unhide HL1).below hb5)
      have HBW := VU.hide ((VU.unhide HBW).trans (hb5.mono (VU.unhide HBW).size))
      have HTO := VU.hide hTo
      have hz : ((refP []).2 : Int) = 0 := rfl
      rw [hz]
      clear hz hTo hb5
      by_cases h0 : (refP ps).2 = 0
      · obtain ⟨rfl, h7, _⟩ := VU.unhide HL0
        obtain ⟨bt, vt, vm, vl, rfl, hT⟩ := h7 h0
        have HT := VU.hide hT
        have hz : ((refP ps).2 : Int) = 0 := by rw [h0]; rfl
        rw [hz]
        clear hz h7 hT HL0
        go_wp2_with fail
        refine (blk_any w5 _ bt vt vm vl rest ps (VU.unhide HT)).mono ?_
        rintro e w6 ⟨rfl, hb6⟩
        have HTO := VU.hide ((VU.unhide HTO).below hb6)
        have HL1 := VU.hide ((VU.unhide HL1).below hb6)
        have HBW := VU.hide ((VU.unhide HBW).trans (hb6.mono (VU.unhide HBW).size))
        clear hb6
        go_wp2_with fail
        refine (blk_any w6 _ bo o1 o2 o3 rest [] (VU.unhide HTO)).mono ?_
        rintro e w7 ⟨rfl, hb7⟩
        have HL1 := VU.hide ((VU.unhide HL1).below hb7)
        have HBW := VU.hide ((VU.unhide HBW).trans (hb7.mono (VU.unhide HBW).size))
        clear hb7 HTO HT
        rw [(none_one rest).1, (none_one rest).2]
        obtain ⟨f1, f2⟩ := some_pos rest ps
        obtain ⟨f3, f4⟩ := all_most rest ps
        have f5 := low_mid rest ps
        obtain ⟨f6, f7⟩ := all_few rest n ps (VU.unhide HN) h0
        have HMO := VU.hide (fun h => span_more rest ps x h)
        generalize nMid rest ps = M at *
        generalize nLow rest ps = N at *
        have HG := VU.hide (And.intro f1 (And.intro f2 (And.intro f3 (And.intro f4 (And.intro f5 (And.intro f6 f7))))))
        clear f1 f2 f3 f4 f5 f6 f7
        go_upto_region 10 with fail
        go_cut [122] from 79 to 122 (fun v122 wx => v122 = .bool false ∧ wx = w7)
        case first =>
          obtain ⟨f1, f2, f3, f4, f5, f6, f7⟩ := VU.unhide HG
          obtain ⟨d1, d2, d3, d4, d5, d6, d7⟩ := small_dec M N n (by omega) (by omega) (by omega) (by omega) (by omega) (by omega) (by omega)
          clear f1 f2 f5 f6 f7
          clear HG
          go_wp2_with fail
          go_meet
          exact ⟨rfl, rfl⟩
        case rest =>
          obtain ⟨rfl, rfl⟩ := hcut
          have HB : N ≤ 17408 ∧ M ≤ 272 := ⟨(VU.unhide HG).2.2.1, (VU.unhide HG).2.2.2.1⟩
          clear HG
          have HAW := VU.hide (fun (V : World) => VK.awake_any V)
          by_cases h1 : (refP (ps ++ [x])).2 = 0
          · obtain ⟨rfl, h7, _⟩ := VU.unhide HL1
            obtain ⟨bt2, vt2, vm2, vl2, rfl, hT2⟩ := h7 h1
            have HT2 := VU.hide hT2
            have hz : ((refP (ps ++ [x])).2 : Int) = 0 := by rw [h1]; rfl
            rw [hz]
            obtain ⟨d8, d9⟩ := few_dec _ _ _ _ (VU.unhide HMO h1)
            obtain ⟨f3, f4⟩ := HB
            have HD := VU.hide (And.intro d8 d9)
            clear hz h7 hT2 HL1 HMO d8 d9
            go_wp2_with fail
            refine (blk_any wc _ bt2 vt2 vm2 vl2 rest (ps ++ [x]) (VU.unhide HT2)).mono ?_
            rintro e w8 ⟨rfl, hb8⟩
            have HBW := VU.hide ((VU.unhide HBW).trans (hb8.mono (VU.unhide HBW).size))
            clear hb8 HT2
            obtain ⟨d8, d9⟩ := VU.unhide HD
            clear HD
            generalize nMid rest (ps ++ [x]) = M2 at *
            generalize nLow rest (ps ++ [x]) = N2 at *
            go_wp2_with fail
            refine (VU.unhide HAW _).mono ?_
            rintro e w9 ⟨rfl, hb9⟩
            have HF := VU.hide ((VU.unhide HBW).trans (hb9.mono (VU.unhide HBW).size))
            clear hb9
            go_wp2
            go_ret
            exact ⟨rfl, VU.unhide HF⟩
          · obtain ⟨rfl, _, _⟩ := VU.unhide HL1
            clear HL1 HMO
            generalize (refP (ps ++ [x])).2 = k1 at *
            have z1 : ¬ (k1 : Int) = 0 := by omega
            have y1 : ((k1 : Int) == 0) = false := by simp; omega
            go_wp2_with fail
            refine (VU.unhide HAW _).mono ?_
            rintro e w8 ⟨rfl, hb8⟩
            have HF := VU.hide ((VU.unhide HBW).trans (hb8.mono (VU.unhide HBW).size))
            clear hb8
            go_wp2
            go_ret
            exact ⟨rfl, VU.unhide HF⟩
      · obtain ⟨rfl, _, h7⟩ := VU.unhide HL0
        obtain rfl := h7 h0
        obtain ⟨rfl, _, _⟩ := VU.unhide HL1
        have h1 : (refP (ps ++ [x])).2 ≠ 0 := fun h => h0 (ref_front h)
        have HBW := HBW
        clear h7 HL0 HL1 HTO
        generalize (refP ps).2 = k0 at *
        generalize (refP (ps ++ [x])).2 = k1 at *
        have z0 : ¬ (k0 : Int) = 0 := by omega
        have z1 : ¬ (k1 : Int) = 0 := by omega
        have y0 : ((k0 : Int) == 0) = false := by simp; omega
        have y1 : ((k1 : Int) == 0) = false := by simp; omega
        have HR := VU.hide (show ((k0 : Int) != 0 && (k1 : Int) != 0) = true by rw [bne, bne, y0, y1]; rfl)
        have HAW := VU.hide (fun (V : World) => VK.awake_any V)
        go_wp2_with fail
        refine (VU.unhide HAW _).mono ?_
        rintro e w8 ⟨rfl, hb8⟩
        have HF := VU.hide ((VU.unhide HBW).trans (hb8.mono (VU.unhide HBW).size))
        clear hb8
        go_wp2
        go_ret
        exact ⟨congrArg (fun b => Ending.returned (Value.bool b)) (VU.unhide HR), VU.unhide HF⟩
end Go.Proofs.Ytokillomaemocaa.trieSmall

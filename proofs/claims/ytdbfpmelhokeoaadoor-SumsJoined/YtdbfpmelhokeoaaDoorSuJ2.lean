/-
  The document's Joined.
-/
import Derived.Test.YtdbfpmelhokeoaaDoorSuJ
import Derived.Test.YtdbfpmelhokeoaaDoorTrSt
import Derived.Test.YtdbfpmelhokeoaaDoorMixW
import Derived.Lib.QuietBelow
import Derived.BigQuiet
import Derived.Laws.CopyRow
import Derived.Deep.RegionWith
import Derived.Deep.Cut
namespace Go.Proofs.YtdbfpmelhokeoaaDoor
open Go.RowKit Go.PlainAid Go.Lib Go.SuM
set_option linter.unusedVariables false
set_option linter.unusedSimpArgs false
theorem info32 : (Tryd.prog.info? 73).map (·.size) = some 32 := by kernel_rfl
theorem Arr.store {w : World} {g : Nat} {cur cur' : Array Value} (h : Arr w g cur) (hs : cur'.size = 32) (h1 : cur'.all (·.oneCell') = true) : (Instr.storeAt 73 (.pointer (some ⟨g, 0, none⟩)) (.agg cur')).run Tryd.prog w = .ok () (w.setRow g cur') := by
  have hst := run_storeCells_at (P := Tryd.prog) g 0 73 cur'.toList 0 cur w h.1 (by rw [Array.length_toList, hs, h.2.1]; decide) (fun v hv => (Array.all_eq_true_iff_forall_mem.1 h1) v (by simpa using hv))
  have e : (cur.toList.take (0 + 0) ++ cur'.toList ++ cur.toList.drop (0 + 0 + cur'.toList.length)).toArray = cur' := by
    rw [Array.length_toList, hs, List.drop_of_length_le (by rw [Array.length_toList, h.2.1]; decide)]
    simp
  rw [e] at hst
  simp only [Instr.storeAt, Instr.sureAddr, Sem.run_bind, Sem.run_pure, Result.andThen_ok]
  cases hq : Tryd.prog.info? 73 with
  | none => have := info32; simp [hq] at this
  | some i =>
    have hi : i.size = 32 := by have := info32; rw [hq] at this; simpa using this
    simp [storeVar, sizeOf, typeInfo, hq, Value.cells, hs, hi, hst]
theorem Arr.stored {w : World} {g : Nat} {cur cur' : Array Value} (h : Arr w g cur) {w0 : World} {g0 : Nat} (h' : Arr w0 g0 cur') : Arr (w.setRow g cur') g cur' := by
  refine ⟨?_, h'.2⟩
  simp only [World.setRow, Array.getElem?_modify, if_true, h.1, Option.map_some]
/-- an array whose first i entries are the map of M steps -/
def ArrP (w : World) (g M i : Nat) : Prop := ∃ cur, Arr w g cur ∧ ∀ j, j < i → cur[j]? = some (.int .u32 ((stn M (2 ^ j) : Nat) : Int))
theorem ArrP.full {w : World} {g M : Nat} (h : ArrP w g M 32) : Arr w g (linA M) := by
  obtain ⟨cur, h1, h2⟩ := h
  have e : cur = linA M := by
    apply Array.ext (by rw [h1.2.1, linA_size])
    intro j k1 k2
    have := h2 j (by rw [h1.2.1] at k1; exact k1)
    rw [Array.getElem?_eq_getElem k1] at this
    have h3 := linA_get M j (by rw [linA_size] at k2; exact k2)
    rw [Array.getElem?_eq_getElem k2] at h3
    exact (Option.some.inj this).trans (Option.some.inj h3).symm
  rw [← e]
  exact h1
theorem ArrP.next {w : World} {g M i : Nat} (h : ArrP w g M i) (hi : i < 32) : ArrP (w.setCell ⟨g, i, none⟩ (.int .u32 ((stn M (2 ^ i) : Nat) : Int))) g M (i + 1) := by
  obtain ⟨cur, h1, h2⟩ := h
  refine ⟨_, h1.set i _, fun j hj => ?_⟩
  rw [Array.getElem?_setIfInBounds]
  split
  · rename_i e
    subst e
    rw [if_pos (by rw [h1.2.1]; exact hi)]
  · exact h2 j (by omega)
theorem ArrP.there {w : World} {g M i : Nat} (h : ArrP w g M i) (hi : i < 32) : (∃ x : Nat, w.cell? ⟨g, i, none⟩ = some (.int .u32 (x : Int))) ∧ w.frozen? ⟨g, i, none⟩ = false := by
  obtain ⟨cur, h1, h2⟩ := h
  obtain ⟨x, hx⟩ := h1.2.2 i hi
  exact ⟨⟨x, h1.cell i hx⟩, h1.frozen i⟩
theorem ArrP.keep {w w' : World} {g M i : Nat} (h : ArrP w g M i) (hb : w'.heap[g]? = w.heap[g]?) : ArrP w' g M i := by
  obtain ⟨cur, h1, h2⟩ := h
  exact ⟨cur, h1.keep hb, h2⟩
theorem arr_new (w : World) (M : Nat) : ArrP (w.alloc (.cells #[.int .u32 0, .int .u32 0, .int .u32 0, .int .u32 0, .int .u32 0, .int .u32 0, .int .u32 0, .int .u32 0, .int .u32 0, .int .u32 0, .int .u32 0, .int .u32 0, .int .u32 0, .int .u32 0, .int .u32 0, .int .u32 0, .int .u32 0, .int .u32 0, .int .u32 0, .int .u32 0, .int .u32 0, .int .u32 0, .int .u32 0, .int .u32 0, .int .u32 0, .int .u32 0, .int .u32 0, .int .u32 0, .int .u32 0, .int .u32 0, .int .u32 0, .int .u32 0] 73)) w.heap.size M 0 := by
  refine ⟨_, ⟨heap_alloc_new w _, rfl, fun j hj => ?_⟩, fun j hj => by omega⟩
  match j, hj with
  | 0, _ => exact ⟨0, rfl⟩
  | 1, _ => exact ⟨0, rfl⟩
  | 2, _ => exact ⟨0, rfl⟩
  | 3, _ => exact ⟨0, rfl⟩
  | 4, _ => exact ⟨0, rfl⟩
  | 5, _ => exact ⟨0, rfl⟩
  | 6, _ => exact ⟨0, rfl⟩
  | 7, _ => exact ⟨0, rfl⟩
  | 8, _ => exact ⟨0, rfl⟩
  | 9, _ => exact ⟨0, rfl⟩
  | 10, _ => exact ⟨0, rfl⟩
  | 11, _ => exact ⟨0, rfl⟩
  | 12, _ => exact ⟨0, rfl⟩
  | 13, _ => exact ⟨0, rfl⟩
  | 14, _ => exact ⟨0, rfl⟩
  | 15, _ => exact ⟨0, rfl⟩
  | 16, _ => exact ⟨0, rfl⟩
  | 17, _ => exact ⟨0, rfl⟩
  | 18, _ => exact ⟨0, rfl⟩
  | 19, _ => exact ⟨0, rfl⟩
  | 20, _ => exact ⟨0, rfl⟩
  | 21, _ => exact ⟨0, rfl⟩
  | 22, _ => exact ⟨0, rfl⟩
  | 23, _ => exact ⟨0, rfl⟩
  | 24, _ => exact ⟨0, rfl⟩
  | 25, _ => exact ⟨0, rfl⟩
  | 26, _ => exact ⟨0, rfl⟩
  | 27, _ => exact ⟨0, rfl⟩
  | 28, _ => exact ⟨0, rfl⟩
  | 29, _ => exact ⟨0, rfl⟩
  | 30, _ => exact ⟨0, rfl⟩
  | 31, _ => exact ⟨0, rfl⟩
  | k + 32, h => exact absurd h (by omega)
theorem below_setRow {B : Nat} {a w : World} (h : Below B a w) {g : Nat} (hg : B ≤ g) (cs : Array Value) : Below B a (w.setRow g cs) :=
  h.trans ⟨rfl, rfl, rfl, by simp [World.setRow], fun k hk => by
    simp only [World.setRow, Array.getElem?_modify]
    rw [if_neg (by omega)]⟩
theorem wpQuiet_ld {P : Program} {ops : Array Oper} {C : World → Prop} {Q : Act → Prop} {a : Act} {o : Oper} {rest : List Oper} (hg : o.guard = none) (T : TypeId) (x : Operand) (ho : o.op = .load T x) (p : Value) (hx : a.eval x = p) {u : Value} (hr : ∀ w, C w → (Instr.loadAt T p).run P w = .ok u w) (h : wpQuiet P ops C Q rest (a.put o.dst u)) : wpQuiet P ops C Q (o :: rest) a := by
  refine wpQuiet_step fun K hK => ?_
  have hw : Region.wanted o (yielded ops a.tmps) = true := by simp [Region.wanted, hg]
  rw [if_pos hw]
  refine ⟨u, fun w hC => ?_, hK _ h⟩
  unfold Oper.quietAt execOp
  simp only [ho, hx, Sem.run_bind, hr w hC, Result.andThen, Sem.run_pure]
  exact ⟨rfl, rfl⟩
theorem rstep0 (r : Nat) (hr : r < 4294967296) (w : World) : Calls Tryd.prog 49 #[.int .u32 (r : Int), .int .u32 0] w fun e w' => e = .returned (.int .u32 ((st r : Nat) : Int)) ∧ w' = w := by
  have := rstep_any r 0 hr (by decide) w
  rwa [show sb r 0 = st r by unfold sb; rw [Nat.xor_zero]] at this
set_option maxRecDepth 20000 in
set_option maxHeartbeats 4000000 in
theorem rjoined_any (a b n : Nat) (ha : a < 4294967296) (hb : b < 4294967296) (hn : n < 9223372036854775808) (w : World) : Calls Tryd.prog 22 #[.int .u32 (a : Int), .int .u32 (b : Int), .int .i64 (n : Int)] w fun e w' => e = .returned (.int .u32 ((zer n a ^^^ b : Nat) : Int)) ∧ Below w.heap.size w w' := by
  have hA0 := arr_new w 8
  have hB0 : Below w.heap.size w (w.alloc (.cells #[.int .u32 0, .int .u32 0, .int .u32 0, .int .u32 0, .int .u32 0, .int .u32 0, .int .u32 0, .int .u32 0, .int .u32 0, .int .u32 0, .int .u32 0, .int .u32 0, .int .u32 0, .int .u32 0, .int .u32 0, .int .u32 0, .int .u32 0, .int .u32 0, .int .u32 0, .int .u32 0, .int .u32 0, .int .u32 0, .int .u32 0, .int .u32 0, .int .u32 0, .int .u32 0, .int .u32 0, .int .u32 0, .int .u32 0, .int .u32 0, .int .u32 0, .int .u32 0] 73)) := (Below.refl _ _).alloc (Nat.le_refl _) _
  have HA0 := hide (And.intro hA0 hB0)
  have HST := hide rstep0
  clear hA0 hB0
  go_enter Tryd.func22, Tryd.ntmps22
  go_wp2
  generalize w.alloc (.cells #[.int .u32 0, .int .u32 0, .int .u32 0, .int .u32 0, .int .u32 0, .int .u32 0, .int .u32 0, .int .u32 0, .int .u32 0, .int .u32 0, .int .u32 0, .int .u32 0, .int .u32 0, .int .u32 0, .int .u32 0, .int .u32 0, .int .u32 0, .int .u32 0, .int .u32 0, .int .u32 0, .int .u32 0, .int .u32 0, .int .u32 0, .int .u32 0, .int .u32 0, .int .u32 0, .int .u32 0, .int .u32 0, .int .u32 0, .int .u32 0, .int .u32 0, .int .u32 0] 73) = W0 at *
  go_loopw [8, 9, 10] (fun v8 v9 v10 wr => ∃ i : Nat, i ≤ 32 ∧ v8 = .int .i64 (i : Int) ∧ Hid (ArrP wr w.heap.size 8 i) ∧ Hid (Below w.heap.size w wr)) (fun v8 _ _ _ => 32 - (intOf v8).toNat)
  case atStart => exact ⟨0, by decide, rfl, (unhide HA0).1, (unhide HA0).2⟩
  case round =>
    obtain ⟨i, hi, rfl, HA, HB⟩ := hrel
    by_cases hlt : i < 32
    · have hpl := pow_lt32 hlt
      obtain ⟨p, hp⟩ : ∃ p, p = 2 ^ i := ⟨_, rfl⟩
      have hp1 : (2 : Int) ^ i = (p : Int) := by rw [hp, Int.natCast_pow]; rfl
      rw [← hp] at hpl
      have hp2 : (p : Int) % 4294967296 = (p : Int) := by omega
      have HP := hide hp
      have hlt' : (i : Int) < 32 := by omega
      clear hp
      go_wp2
      go_loop [9, 10] (fun v9 v10 => ∃ k : Nat, k ≤ 8 ∧ v10 = .int .i64 (k : Int) ∧ v9 = .int .u32 ((stn k p : Nat) : Int)) (fun _ v10 => 8 - (intOf v10).toNat)
      case atStart => exact ⟨0, by decide, rfl, rfl⟩
      case round =>
        obtain ⟨k, hk, rfl, rfl⟩ := hrel
        have hrl := stn_lt k hpl
        by_cases hk8 : k < 8
        · have HN : Hid (stn (k + 1) p = st (stn k p)) := stn_succ k p
          generalize stn k p = r at *
          have HR := hide (unhide HST r hrl)
          go_wp2_with (go_at_call 49; with_reducible refine (unhide HR _).mono ?_; rintro e w' ⟨rfl, hww⟩; obtain rfl : wr = w' := hww.symm)
          go_round
          case rel => exact ⟨k + 1, by omega, by go_num, int_eq (by rw [unhide HN])⟩
          case measure => simp [intOf]; omega
        · obtain rfl : k = 8 := by omega
          obtain ⟨⟨x, hc⟩, hfz⟩ := (unhide HA).there hlt
          have hnx := (unhide HA).next hlt
          rw [← unhide HP] at hnx
          have HNX := hide hnx
          generalize stn 8 p = r at *
          clear hnx
          go_wp2
          go_roundw
          case rel => exact ⟨i + 1, by omega, by go_num, HNX, (unhide HB).setCell (p := ⟨w.heap.size, i, none⟩) (Nat.le_refl _) _⟩
          case measure => simp [intOf]; omega
    · have hi32 : i = 32 := by omega
      have HL : Hid (Arr wr w.heap.size (linA 8)) := by
        have := unhide HA
        rw [hi32] at this
        exact this.full
      have hin : ¬ ((i : Int) < 32) := by omega
      clear HA hi32 hlt hi
      go_wp2
      go_loopw [0, 2, 11, 12] (fun v0 v2 v11 v12 wq => ∃ M n' a' : Nat, n' ≤ n ∧ a' < 4294967296 ∧ v0 = .int .u32 (a' : Int) ∧ v2 = .int .i64 (n' : Int) ∧ Hid (stn (M * n') a' = stn (8 * n) a) ∧ Hid (Arr wq w.heap.size (linA M)) ∧ Hid (Below w.heap.size w wq)) (fun _ v2 _ _ _ => (intOf v2).toNat)
      case atStart => exact ⟨8, n, a, Nat.le_refl _, ha, rfl, rfl, rfl, HL, HB⟩
      case round =>
        obtain ⟨M, n', a', hnn, hal, rfl, rfl, HZ, HL, HB⟩ := hrel
        by_cases h0 : n' = 0
        · subst h0
          have HE : Hid (a' = zer n a) := by have := unhide HZ; rw [Nat.mul_zero] at this; exact this
          have hx := u32x a' b hal hb
          go_wp2
          go_ret
          exact ⟨ret_int (by rw [← unhide HE]), unhide HB⟩
        · have h0' : 0 < n' := by omega
          have hld := (unhide HL).load
          by_cases h1 : n' % 2 = 1
          · have h1' : ((n' : Int) % 2 == 1) = true := by rw [beq_iff_eq]; omega
            have HBY := hide (by_any M a' hal wr)
            have HLD := hide hld
            clear hld
            go_wp2_with (first | (refine TrSt.wpList_ld rfl (some 33) rfl 73 _ rfl _ rfl (unhide HLD) ?_) | (go_at_call 51; with_reducible refine (unhide HBY).mono ?_; rintro e w5 ⟨rfl, hb5⟩))
            have HZ2 : Hid (stn ((M + M) * (n' / 2)) (stn M a') = stn (8 * n) a) := by
              show _ = _
              rw [← unhide HZ, ← stn_add]
              congr 1
              obtain ⟨q, hq⟩ : ∃ q, n' = 2 * q + 1 := ⟨n' / 2, by omega⟩
              rw [show n' / 2 = q by omega, hq, Nat.mul_add, Nat.mul_one, Nat.add_mul, ← Nat.mul_assoc, Nat.mul_comm M 2, Nat.mul_assoc]
              omega
            have hal2 := stn_lt M hal
            clear h1
            have hG : w.heap.size < w5.heap.size := Nat.lt_of_lt_of_le (unhide HL).lt (hb5.size)
            have hA6 := arr_new w5 (M + M)
            have hL6 : Arr (w5.alloc (.cells #[.int .u32 0, .int .u32 0, .int .u32 0, .int .u32 0, .int .u32 0, .int .u32 0, .int .u32 0, .int .u32 0, .int .u32 0, .int .u32 0, .int .u32 0, .int .u32 0, .int .u32 0, .int .u32 0, .int .u32 0, .int .u32 0, .int .u32 0, .int .u32 0, .int .u32 0, .int .u32 0, .int .u32 0, .int .u32 0, .int .u32 0, .int .u32 0, .int .u32 0, .int .u32 0, .int .u32 0, .int .u32 0, .int .u32 0, .int .u32 0, .int .u32 0, .int .u32 0] 73)) w.heap.size (linA M) := ((unhide HL).keep (hb5.block _ (unhide HL).lt)).keep (Below.heap_alloc _ _ _ hG)
            have hB6 : Below w.heap.size w (w5.alloc (.cells #[.int .u32 0, .int .u32 0, .int .u32 0, .int .u32 0, .int .u32 0, .int .u32 0, .int .u32 0, .int .u32 0, .int .u32 0, .int .u32 0, .int .u32 0, .int .u32 0, .int .u32 0, .int .u32 0, .int .u32 0, .int .u32 0, .int .u32 0, .int .u32 0, .int .u32 0, .int .u32 0, .int .u32 0, .int .u32 0, .int .u32 0, .int .u32 0, .int .u32 0, .int .u32 0, .int .u32 0, .int .u32 0, .int .u32 0, .int .u32 0, .int .u32 0, .int .u32 0] 73)) := ((unhide HB).trans (hb5.mono (unhide HB).size)).alloc ((unhide HB).trans (hb5.mono (unhide HB).size)).size _
            have H6 := hide (And.intro hA6 (And.intro hL6 hB6))
            obtain ⟨g1, hg1⟩ : ∃ g1, g1 = w5.heap.size := ⟨_, rfl⟩
            rw [← hg1] at H6 ⊢
            have hgg : w.heap.size < g1 := by rw [hg1]; exact hG
            clear hA6 hL6 hB6 hG
            generalize w5.alloc (.cells #[.int .u32 0, .int .u32 0, .int .u32 0, .int .u32 0, .int .u32 0, .int .u32 0, .int .u32 0, .int .u32 0, .int .u32 0, .int .u32 0, .int .u32 0, .int .u32 0, .int .u32 0, .int .u32 0, .int .u32 0, .int .u32 0, .int .u32 0, .int .u32 0, .int .u32 0, .int .u32 0, .int .u32 0, .int .u32 0, .int .u32 0, .int .u32 0, .int .u32 0, .int .u32 0, .int .u32 0, .int .u32 0, .int .u32 0, .int .u32 0, .int .u32 0, .int .u32 0] 73) = W6 at *
            clear hg1
            go_loopw [12] (fun v12 wx => ∃ i : Nat, i ≤ 32 ∧ v12 = .int .i64 (i : Int) ∧ Hid (ArrP wx g1 (M + M) i) ∧ Hid (Arr wx w.heap.size (linA M)) ∧ Hid (Below w.heap.size w wx)) (fun v12 _ => 32 - (intOf v12).toNat)
            case atStart => exact ⟨0, by decide, rfl, (unhide H6).1, (unhide H6).2.1, (unhide H6).2.2⟩
            case round =>
              obtain ⟨i, hi, rfl, HP, HLx, HBx⟩ := hrel
              by_cases hi3 : i < 32
              · have hi3' : (i : Int) < 32 := by omega
                obtain ⟨⟨x, hcx⟩, hfx⟩ := (unhide HP).there hi3
                have hcm := (unhide HLx).cell i (linA_get M i hi3)
                have HLDx := hide (unhide HLx).load
                have hpl := stn_lt M (pow_lt32 hi3)
                have HBYx := hide (by_any M (stn M (2 ^ i)) hpl)
                have HSS : Hid (stn M (stn M (2 ^ i)) = stn (M + M) (2 ^ i)) := (stn_add M M _).symm
                generalize stn M (2 ^ i) = p at *
                go_wp2
                have hcg : ∀ d os, (Sort.grow (redrawn wr d) os).cell? ⟨w.heap.size, i, none⟩ = some (.int .u32 (p : Int)) := fun d os => cell_regrown hcm d os
                refine MixW.start (by kernel_rfl) ?_
                refine MixW.seg (C := fun w' => ∃ q : Regrown, w' = Sort.grow (redrawn wr q.d) q.os) 0 7 1 (by kernel_rfl) ⟨⟨wr.drawn + 1, #[]⟩, by rw [Sort.grow_empty]; rfl⟩ ?_
                simp only [Nat.reduceAdd, List.take_succ_cons, List.take_zero, List.drop_zero]
                go_big_quiet_step (fail)
                refine wpQuiet_ld (u := .agg (linA M)) rfl 73 _ rfl _ rfl (fun W hW => ?ldx) ?_
                case ldx =>
                  obtain ⟨q, rfl⟩ := hW
                  exact ((unhide HLx).keep ((below_regrown wr q.d q.os).block _ (unhide HLx).lt)).load
                simp only [Act.put, Array.set!_eq_setIfInBounds, List.setIfInBounds_toArray, List.set_cons_succ, List.set_cons_zero]
                go_big_quiet_step (fail)
                go_big_quiet_step (fail)
                go_big_quiet_step (fail)
                go_big_quiet_step ((go_at_call 51; exact Calls.regrown_of (unhide HBYx _)))
                go_big_quiet_step (fail)
                refine wpQuiet_nil ?_
                rintro _ ⟨q, rfl⟩
                have hbX := below_regrown wr q.d q.os
                have hPX := (unhide HP).keep (hbX.block g1 (by obtain ⟨cur, h, _⟩ := unhide HP; exact h.lt))
                have hLX := (unhide HLx).keep (hbX.block _ (unhide HLx).lt)
                have hBX := (unhide HBx).trans (hbX.mono (unhide HBx).size)
                obtain ⟨⟨x2, hcX⟩, hfX⟩ := hPX.there hi3
                have hnx := hPX.next hi3
                rw [← unhide HSS] at hnx
                have hL2 : Arr ((Sort.grow (redrawn wr q.d) q.os).setCell ⟨g1, i, none⟩ (.int .u32 ((stn M p : Nat) : Int))) w.heap.size (linA M) := hLX.keep (Below.heap_setCell _ _ _ _ (by show w.heap.size ≠ g1; omega))
                have hB2 := hBX.setCell (p := ⟨g1, i, none⟩) (by show w.heap.size ≤ g1; omega) (.int .u32 ((stn M p : Nat) : Int))
                have HX := hide (And.intro hnx (And.intro hL2 hB2))
                clear hbX hPX hLX hBX hnx hL2 hB2 hcg hcx hfx hcm
                generalize Sort.grow (redrawn wr q.d) q.os = X at *
                generalize stn M p = z at *
                refine MixW.loud 1 7 0 _ _ (by decide) (by kernel_rfl) ?_
                simp only [Nat.reduceAdd, List.drop_succ_cons, List.drop_zero, List.take_succ_cons, List.take_zero]
                go_wp2_with fail
                refine ⟨by kernel_rfl, ?_⟩
                go_wp2
                go_roundw
                case rel => exact ⟨i + 1, by omega, by go_num, (unhide HX).1, (unhide HX).2.1, (unhide HX).2.2⟩
                case measure => simp [intOf]; omega
              · have hi32 : i = 32 := by omega
                have hF : Arr wr g1 (linA (M + M)) := by
                  have := unhide HP
                  rw [hi32] at this
                  exact this.full
                have hin3 : ¬ ((i : Int) < 32) := by omega
                clear hi32
                have HLD2 := hide hF.load
                have HSTO := hide ((unhide HLx).store (linA_size (M + M)) hF.one)
                have HAX := hide ((unhide HLx).stored hF)
                have HBX := hide (below_setRow (unhide HBx) (Nat.le_refl w.heap.size) (linA (M + M)))
                clear hF HP
                go_wp2_with (first | (refine TrSt.wpList_ld rfl (some 47) rfl 73 _ rfl _ rfl (unhide HLD2) ?_) | (refine TrSt.wpList_st rfl rfl 73 _ _ rfl _ _ rfl rfl (unhide HSTO) ?_))
                go_roundw
                case rel => exact ⟨M + M, n' / 2, stn M a', by omega, hal2, rfl, int_eq (by omega), HZ2, HAX, HBX⟩
                case measure => simp [intOf]; omega
          · have h1' : ((n' : Int) % 2 == 1) = false := by rw [beq_eq_false_iff_ne]; omega
            have HZ2 : Hid (stn ((M + M) * (n' / 2)) a' = stn (8 * n) a) := by
              show _ = _
              rw [← unhide HZ]
              congr 1
              obtain ⟨q, hq⟩ : ∃ q, n' = 2 * q := ⟨n' / 2, by omega⟩
              rw [show n' / 2 = q by omega, hq, Nat.add_mul, ← Nat.mul_assoc, Nat.mul_comm M 2, Nat.mul_assoc]
              omega
            clear h1 hld
            go_wp2
            have hG : w.heap.size < wr.heap.size := Nat.lt_of_lt_of_le (unhide HL).lt (Nat.le_refl _)
            have hA6 := arr_new wr (M + M)
            have hL6 : Arr (wr.alloc (.cells #[.int .u32 0, .int .u32 0, .int .u32 0, .int .u32 0, .int .u32 0, .int .u32 0, .int .u32 0, .int .u32 0, .int .u32 0, .int .u32 0, .int .u32 0, .int .u32 0, .int .u32 0, .int .u32 0, .int .u32 0, .int .u32 0, .int .u32 0, .int .u32 0, .int .u32 0, .int .u32 0, .int .u32 0, .int .u32 0, .int .u32 0, .int .u32 0, .int .u32 0, .int .u32 0, .int .u32 0, .int .u32 0, .int .u32 0, .int .u32 0, .int .u32 0, .int .u32 0] 73)) w.heap.size (linA M) := ((unhide HL).keep (rfl)).keep (Below.heap_alloc _ _ _ hG)
            have hB6 : Below w.heap.size w (wr.alloc (.cells #[.int .u32 0, .int .u32 0, .int .u32 0, .int .u32 0, .int .u32 0, .int .u32 0, .int .u32 0, .int .u32 0, .int .u32 0, .int .u32 0, .int .u32 0, .int .u32 0, .int .u32 0, .int .u32 0, .int .u32 0, .int .u32 0, .int .u32 0, .int .u32 0, .int .u32 0, .int .u32 0, .int .u32 0, .int .u32 0, .int .u32 0, .int .u32 0, .int .u32 0, .int .u32 0, .int .u32 0, .int .u32 0, .int .u32 0, .int .u32 0, .int .u32 0, .int .u32 0] 73)) := ((unhide HB)).alloc ((unhide HB)).size _
            have H6 := hide (And.intro hA6 (And.intro hL6 hB6))
            obtain ⟨g1, hg1⟩ : ∃ g1, g1 = wr.heap.size := ⟨_, rfl⟩
            rw [← hg1] at H6 ⊢
            have hgg : w.heap.size < g1 := by rw [hg1]; exact hG
            clear hA6 hL6 hB6 hG
            generalize wr.alloc (.cells #[.int .u32 0, .int .u32 0, .int .u32 0, .int .u32 0, .int .u32 0, .int .u32 0, .int .u32 0, .int .u32 0, .int .u32 0, .int .u32 0, .int .u32 0, .int .u32 0, .int .u32 0, .int .u32 0, .int .u32 0, .int .u32 0, .int .u32 0, .int .u32 0, .int .u32 0, .int .u32 0, .int .u32 0, .int .u32 0, .int .u32 0, .int .u32 0, .int .u32 0, .int .u32 0, .int .u32 0, .int .u32 0, .int .u32 0, .int .u32 0, .int .u32 0, .int .u32 0] 73) = W6 at *
            clear hg1
            go_loopw [12] (fun v12 wx => ∃ i : Nat, i ≤ 32 ∧ v12 = .int .i64 (i : Int) ∧ Hid (ArrP wx g1 (M + M) i) ∧ Hid (Arr wx w.heap.size (linA M)) ∧ Hid (Below w.heap.size w wx)) (fun v12 _ => 32 - (intOf v12).toNat)
            case atStart => exact ⟨0, by decide, rfl, (unhide H6).1, (unhide H6).2.1, (unhide H6).2.2⟩
            case round =>
              obtain ⟨i, hi, rfl, HP, HLx, HBx⟩ := hrel
              by_cases hi3 : i < 32
              · have hi3' : (i : Int) < 32 := by omega
                obtain ⟨⟨x, hcx⟩, hfx⟩ := (unhide HP).there hi3
                have hcm := (unhide HLx).cell i (linA_get M i hi3)
                have HLDx := hide (unhide HLx).load
                have hpl := stn_lt M (pow_lt32 hi3)
                have HBYx := hide (by_any M (stn M (2 ^ i)) hpl)
                have HSS : Hid (stn M (stn M (2 ^ i)) = stn (M + M) (2 ^ i)) := (stn_add M M _).symm
                generalize stn M (2 ^ i) = p at *
                go_wp2
                have hcg : ∀ d os, (Sort.grow (redrawn wr d) os).cell? ⟨w.heap.size, i, none⟩ = some (.int .u32 (p : Int)) := fun d os => cell_regrown hcm d os
                refine MixW.start (by kernel_rfl) ?_
                refine MixW.seg (C := fun w' => ∃ q : Regrown, w' = Sort.grow (redrawn wr q.d) q.os) 0 7 1 (by kernel_rfl) ⟨⟨wr.drawn + 1, #[]⟩, by rw [Sort.grow_empty]; rfl⟩ ?_
                simp only [Nat.reduceAdd, List.take_succ_cons, List.take_zero, List.drop_zero]
                go_big_quiet_step (fail)
                refine wpQuiet_ld (u := .agg (linA M)) rfl 73 _ rfl _ rfl (fun W hW => ?ldx) ?_
                case ldx =>
                  obtain ⟨q, rfl⟩ := hW
                  exact ((unhide HLx).keep ((below_regrown wr q.d q.os).block _ (unhide HLx).lt)).load
                simp only [Act.put, Array.set!_eq_setIfInBounds, List.setIfInBounds_toArray, List.set_cons_succ, List.set_cons_zero]
                go_big_quiet_step (fail)
                go_big_quiet_step (fail)
                go_big_quiet_step (fail)
                go_big_quiet_step ((go_at_call 51; exact Calls.regrown_of (unhide HBYx _)))
                go_big_quiet_step (fail)
                refine wpQuiet_nil ?_
                rintro _ ⟨q, rfl⟩
                have hbX := below_regrown wr q.d q.os
                have hPX := (unhide HP).keep (hbX.block g1 (by obtain ⟨cur, h, _⟩ := unhide HP; exact h.lt))
                have hLX := (unhide HLx).keep (hbX.block _ (unhide HLx).lt)
                have hBX := (unhide HBx).trans (hbX.mono (unhide HBx).size)
                obtain ⟨⟨x2, hcX⟩, hfX⟩ := hPX.there hi3
                have hnx := hPX.next hi3
                rw [← unhide HSS] at hnx
                have hL2 : Arr ((Sort.grow (redrawn wr q.d) q.os).setCell ⟨g1, i, none⟩ (.int .u32 ((stn M p : Nat) : Int))) w.heap.size (linA M) := hLX.keep (Below.heap_setCell _ _ _ _ (by show w.heap.size ≠ g1; omega))
                have hB2 := hBX.setCell (p := ⟨g1, i, none⟩) (by show w.heap.size ≤ g1; omega) (.int .u32 ((stn M p : Nat) : Int))
                have HX := hide (And.intro hnx (And.intro hL2 hB2))
                clear hbX hPX hLX hBX hnx hL2 hB2 hcg hcx hfx hcm
                generalize Sort.grow (redrawn wr q.d) q.os = X at *
                generalize stn M p = z at *
                refine MixW.loud 1 7 0 _ _ (by decide) (by kernel_rfl) ?_
                simp only [Nat.reduceAdd, List.drop_succ_cons, List.drop_zero, List.take_succ_cons, List.take_zero]
                go_wp2_with fail
                refine ⟨by kernel_rfl, ?_⟩
                go_wp2
                go_roundw
                case rel => exact ⟨i + 1, by omega, by go_num, (unhide HX).1, (unhide HX).2.1, (unhide HX).2.2⟩
                case measure => simp [intOf]; omega
              · have hi32 : i = 32 := by omega
                have hF : Arr wr g1 (linA (M + M)) := by
                  have := unhide HP
                  rw [hi32] at this
                  exact this.full
                have hin3 : ¬ ((i : Int) < 32) := by omega
                clear hi32
                have HLD2 := hide hF.load
                have HSTO := hide ((unhide HLx).store (linA_size (M + M)) hF.one)
                have HAX := hide ((unhide HLx).stored hF)
                have HBX := hide (below_setRow (unhide HBx) (Nat.le_refl w.heap.size) (linA (M + M)))
                clear hF HP
                go_wp2_with (first | (refine TrSt.wpList_ld rfl (some 47) rfl 73 _ rfl _ rfl (unhide HLD2) ?_) | (refine TrSt.wpList_st rfl rfl 73 _ _ rfl _ _ rfl rfl (unhide HSTO) ?_))
                go_roundw
                case rel => exact ⟨M + M, n' / 2, a', by omega, hal, rfl, int_eq (by omega), HZ2, HAX, HBX⟩
                case measure => simp [intOf]; omega
end Go.Proofs.YtdbfpmelhokeoaaDoor

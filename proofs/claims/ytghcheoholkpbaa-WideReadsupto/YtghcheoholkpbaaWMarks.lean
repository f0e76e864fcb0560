/-
  The document's marks of a list of units (Marks of furrowref02), for every list of units.
-/
import Derived.Test.YtghcheoholkpbaaWCheck
import Derived.Test.YtghcheoholkpbaaWRefA
import Derived.Test.YtghcheoholkpbaaRefSpots
namespace Go.Proofs.Ytghcheoholkpbaa
open Go.RowKit Go.PlainAid Go.Lib
set_option linter.unusedVariables false

theorem infoMark : (Try.prog.info? 78).map (fun i => (i.zero, i.size, i.bytes)) = some (some (.agg #[.int .i64 0, .int .i32 0, .int .i64 0]), 3, 24) := by kernel_rfl
/-- a mark's code -/
def cA (us : List Int) (i : Nat) : Int := if lone us i then (if highB (uA us i) then 20 else 21) else 0
/-- the cells of the marks at the places l -/
def markCs (us : List Int) (l : List Nat) : List Value := l.flatMap fun i => [.int .i64 (i : Nat), .int .i32 (rA us i), .int .i64 (cA us i)]
theorem markCs_snoc (us : List Int) (l : List Nat) (i : Nat) : markCs us (l ++ [i]) = markCs us l ++ [.int .i64 (i : Nat), .int .i32 (rA us i), .int .i64 (cA us i)] := by simp [markCs]
theorem cell_three_new (w : World) (a b c : Value) (t : TypeId) : ∀ j u, [a, b, c][j]? = some u → (w.alloc (.cells #[a, b, c] t)).cell? ((⟨w.heap.size, 0, none⟩ : Addr).add j) = some u := by
  intro j u hj
  match j, hj with
  | 0, hj => simp at hj; subst hj; simp [Addr.add]
  | 1, hj => simp at hj; subst hj; simp [Addr.add]
  | 2, hj => simp at hj; subst hj; simp [Addr.add]
  | j + 3, hj => simp at hj

set_option maxRecDepth 100000 in
set_option maxHeartbeats 4000000 in
theorem rMarks_any (us : List Int) (a : Option Addr) (c : Nat) (w : World) (hf : Fits us) (hl : us.length ≤ 1099511627776) (hrd : ReadsU w a us) :
    Calls Try.prog 28 #[.slice a us.length c] w fun e w' => ∃ v, e = .returned v ∧ w'.ownsRow w.heap.size 78 3 v (wplaces us 0).length (markCs us (wplaces us 0)) ∧ Below w.heap.size w w' := by
  obtain ⟨i0, hi, hz0, hz1, hz2⟩ := info_parts infoMark
  have HF := hide hf
  have HRD := hide hrd
  have HWL := hide (wplaces_length us 0)
  clear hf hrd
  generalize hlen : us.length = n at *
  have HLEN := hide hlen
  clear hlen
  go_enter Try.func28, Try.ntmps28
  go_wp2
  go_loopw [3, 4] (fun v3 v4 wr => ∃ (pos : Nat) (pre : List Nat), Hid (pre ++ wplaces us pos = wplaces us 0) ∧ pos ≤ n ∧ v4 = .int .i64 pos ∧ wr.ownsRow w.heap.size 78 3 v3 pre.length (markCs us pre) ∧ Below w.heap.size w wr) (fun _ v4 _ => n - (intOf v4).toNat)
  case atStart => exact ⟨0, [], rfl, Nat.zero_le _, rfl, by simpa [markCs] using World.ownsRow_nil w _ _ _, Below.refl _ _⟩
  case round =>
    obtain ⟨pos, pre, HP, hps, rfl, hrow, hB⟩ := hrel
    by_cases hlt : pos < n
    · have hlt' : pos < us.length := by rw [unhide HLEN]; exact hlt
      have HP2 : Hid (pre ++ [pos] ++ wplaces us (pos + nA us pos) = wplaces us 0) := by
        show _ = _
        rw [← HP.out, wplaces_step us pos hlt']; simp
      have hpl : pre.length + 1 ≤ n := by
        have := congrArg List.length HP2.out
        have h2 := unhide HWL
        simp at this; omega
      obtain ⟨b, off, rfl, c0⟩ := (unhide HRD).below hB pos hlt'
      have hBs := hB.size
      have f0 := (unhide HF).at pos
      obtain ⟨f0, f0'⟩ := f0
      have hsn := markCs_snoc us pre pos
      clear HP
      obtain ⟨a3, c3, rfl⟩ := row_is hrow
      cases hpa : pairAt us pos
      · have hn1 : nA us pos = 1 := by unfold nA; rw [hpa]; rfl
        have hr : rA us pos = aloneN (uA us pos) := by unfold rA; rw [hpa]; rfl
        have hcd : cA us pos = if surr (uA us pos) then (if highB (uA us pos) then 20 else 21) else 0 := by unfold cA lone; rw [hpa]; simp
        rw [hn1] at HP2
        rw [hr, hcd] at hsn
        clear hn1 hr hcd
        by_cases h1 : pos + 1 < n
        · obtain ⟨b', off', hbo, c1⟩ := (unhide HRD).below hB (pos + 1) (by rw [unhide HLEN]; exact h1)
          obtain ⟨rfl, rfl⟩ : b = b' ∧ off = off' := by simpa using hbo
          have hnp : (highB (uA us pos) && lowB (uA us (pos + 1))) = false := by
            unfold pairAt at hpa
            rw [decide_eq_true (show pos + 1 < us.length by rw [unhide HLEN]; exact h1)] at hpa
            simpa using hpa
          have HJ := hide (fun w => rJoin_no _ _ w hnp)
          generalize uA us (pos + 1) = y at *
          generalize uA us pos = x at *
          clear hpa hnp hbo
          have HRW := hide (fun nq => rowBelow hrow (below_drewN (Below.refl _ wr) nq))
          have HBW := hide (fun nq => below_drewN hB nq)
          clear hrow hB
          have i2' : (0 : Int) ≤ (pos : Int) + 1 := by omega
          have i3' : (pos : Int) + 1 < (n : Int) := by omega
          have i4' : ((pos : Int) + 1).toNat = pos + 1 := by omega
          cases hh : highB x
          · cases hlo : lowB x
            · have hxx : surr x = false := by unfold surr; rw [hh, hlo]; rfl
              have hal : aloneN x = x := by unfold aloneN; rw [hh, hlo]; rfl
              rw [hal, hxx, if_neg (by decide)] at hsn
              have HSN := hide hsn
              clear hsn hal hxx
              go_wp2
              go_quiet ((go_at_call 17; exact Calls.quiet_of_same (unhide HJ _)))
              have hrow2 := unhide HRW nq
              have hB2 := unhide HBW nq
              have c2 : (wr.drewN nq).cell? ⟨b, off + pos, none⟩ = some (.int .u16 x) := c0
              clear HRW HBW c0 c1
              generalize wr.drewN nq = W2 at *
              have hBs2 := hB2.size
              have hbl : b < W2.heap.size := by
                refine Decidable.byContradiction fun hn => ?_
                have hnn : W2.heap[b]? = none := Array.getElem?_eq_none (by omega)
                simp [World.cell?, hnn] at c2
              have c3a : ∀ o, (W2.alloc o).cell? ⟨b, off + pos, none⟩ = some (.int .u16 x) := fun o => (Below.cell (Below.alloc (Below.refl W2.heap.size W2) (Nat.le_refl _) o) (p := ⟨b, off + pos, none⟩) hbl).trans c2
              have hpl2 : pre.length ≤ 1099511627776 := by omega
              go_wp2_with (first | (go_at_call 54; refine (rHigh_any _ _).mono ?_; rintro e w' ⟨rfl, rfl⟩; rw [hh]) | (go_at_call 55; refine (rLow_any _ _).mono ?_; rintro e w' ⟨rfl, rfl⟩; rw [hlo]) | (at_builtin; refine wpList_append_own _ rfl _ _ 40 rfl w.heap.size 78 i0 (.agg #[.int .i64 0, .int .i32 0, .int .i64 0]) 3 24 Try.underlying40 hi hz0 hz1 hz2 rfl (by decide) _ _ _ rfl ((hrow2.alloc _).alloc _) ⟨W2.heap.size + 1, 0, none⟩ 1 1 [.int .i64 (pos : Nat), .int .i32 (x), .int .i64 0] rfl rfl (by simpa using cell_three_new (W2.alloc (.cells #[.int .i64 (pos : Nat), .int .i32 (x), .int .i64 0] 78)) (.int .i64 (pos : Nat)) (.int .i32 (x)) (.int .i64 0) 78) (by simp [Value.oneCell']) (by unfold maxLen; omega) (by omega) (by simp; omega) ?_; intro v' w4 hown hgrow _))
              have hB4 := below_grown2 ((hB2.alloc hBs2 _).alloc (by simp; omega) _) (by simp; omega) ((hrow2.alloc _).alloc _) hgrow
              go_roundw
              case rel => exact ⟨pos + 1, pre ++ [pos], HP2, by omega, by go_num, by rw [unhide HSN, List.length_append]; exact hown, hB4⟩
              case measure => simp [intOf]; omega
            · have hxx : surr x = true := by unfold surr; rw [hh, hlo]; rfl
              have hal : aloneN x = 65533 := by unfold aloneN; rw [hh, hlo]; rfl
              rw [hal, hxx, hh, if_pos rfl, if_neg (by decide)] at hsn
              have HSN := hide hsn
              clear hsn hal hxx
              go_wp2
              go_quiet ((go_at_call 17; exact Calls.quiet_of_same (unhide HJ _)))
              have hrow2 := unhide HRW nq
              have hB2 := unhide HBW nq
              have c2 : (wr.drewN nq).cell? ⟨b, off + pos, none⟩ = some (.int .u16 x) := c0
              clear HRW HBW c0 c1
              generalize wr.drewN nq = W2 at *
              have hBs2 := hB2.size
              have hbl : b < W2.heap.size := by
                refine Decidable.byContradiction fun hn => ?_
                have hnn : W2.heap[b]? = none := Array.getElem?_eq_none (by omega)
                simp [World.cell?, hnn] at c2
              have c3a : ∀ o, (W2.alloc o).cell? ⟨b, off + pos, none⟩ = some (.int .u16 x) := fun o => (Below.cell (Below.alloc (Below.refl W2.heap.size W2) (Nat.le_refl _) o) (p := ⟨b, off + pos, none⟩) hbl).trans c2
              have hpl2 : pre.length ≤ 1099511627776 := by omega
              go_wp2_with (first | (go_at_call 54; refine (rHigh_any _ _).mono ?_; rintro e w' ⟨rfl, rfl⟩; rw [hh]) | (go_at_call 55; refine (rLow_any _ _).mono ?_; rintro e w' ⟨rfl, rfl⟩; rw [hlo]) | (at_builtin; refine wpList_append_own _ rfl _ _ 40 rfl w.heap.size 78 i0 (.agg #[.int .i64 0, .int .i32 0, .int .i64 0]) 3 24 Try.underlying40 hi hz0 hz1 hz2 rfl (by decide) _ _ _ rfl ((hrow2.alloc _).alloc _) ⟨W2.heap.size + 1, 0, none⟩ 1 1 [.int .i64 (pos : Nat), .int .i32 (65533), .int .i64 21] rfl rfl (by simpa using cell_three_new (W2.alloc (.cells #[.int .i64 (pos : Nat), .int .i32 (65533), .int .i64 21] 78)) (.int .i64 (pos : Nat)) (.int .i32 (65533)) (.int .i64 21) 78) (by simp [Value.oneCell']) (by unfold maxLen; omega) (by omega) (by simp; omega) ?_; intro v' w4 hown hgrow _))
              have hB4 := below_grown2 ((hB2.alloc hBs2 _).alloc (by simp; omega) _) (by simp; omega) ((hrow2.alloc _).alloc _) hgrow
              go_roundw
              case rel => exact ⟨pos + 1, pre ++ [pos], HP2, by omega, by go_num, by rw [unhide HSN, List.length_append]; exact hown, hB4⟩
              case measure => simp [intOf]; omega
          · have hxx : surr x = true := by unfold surr; rw [hh]; rfl
            have hal : aloneN x = 65533 := by unfold aloneN; rw [hh]; rfl
            rw [hal, hxx, hh, if_pos rfl, if_pos rfl] at hsn
            have HSN := hide hsn
            clear hsn hal hxx
            go_wp2
            go_quiet ((go_at_call 17; exact Calls.quiet_of_same (unhide HJ _)))
            have hrow2 := unhide HRW nq
            have hB2 := unhide HBW nq
            have c2 : (wr.drewN nq).cell? ⟨b, off + pos, none⟩ = some (.int .u16 x) := c0
            clear HRW HBW c0 c1
            generalize wr.drewN nq = W2 at *
            have hBs2 := hB2.size
            have hbl : b < W2.heap.size := by
              refine Decidable.byContradiction fun hn => ?_
              have hnn : W2.heap[b]? = none := Array.getElem?_eq_none (by omega)
              simp [World.cell?, hnn] at c2
            have c3a : ∀ o, (W2.alloc o).cell? ⟨b, off + pos, none⟩ = some (.int .u16 x) := fun o => (Below.cell (Below.alloc (Below.refl W2.heap.size W2) (Nat.le_refl _) o) (p := ⟨b, off + pos, none⟩) hbl).trans c2
            have hpl2 : pre.length ≤ 1099511627776 := by omega
            go_wp2_with (first | (go_at_call 54; refine (rHigh_any _ _).mono ?_; rintro e w' ⟨rfl, rfl⟩; rw [hh]) | (at_builtin; refine wpList_append_own _ rfl _ _ 40 rfl w.heap.size 78 i0 (.agg #[.int .i64 0, .int .i32 0, .int .i64 0]) 3 24 Try.underlying40 hi hz0 hz1 hz2 rfl (by decide) _ _ _ rfl ((hrow2.alloc _).alloc _) ⟨W2.heap.size + 1, 0, none⟩ 1 1 [.int .i64 (pos : Nat), .int .i32 (65533), .int .i64 20] rfl rfl (by simpa using cell_three_new (W2.alloc (.cells #[.int .i64 (pos : Nat), .int .i32 (65533), .int .i64 20] 78)) (.int .i64 (pos : Nat)) (.int .i32 (65533)) (.int .i64 20) 78) (by simp [Value.oneCell']) (by unfold maxLen; omega) (by omega) (by simp; omega) ?_; intro v' w4 hown hgrow _))
            have hB4 := below_grown2 ((hB2.alloc hBs2 _).alloc (by simp; omega) _) (by simp; omega) ((hrow2.alloc _).alloc _) hgrow
            go_roundw
            case rel => exact ⟨pos + 1, pre ++ [pos], HP2, by omega, by go_num, by rw [unhide HSN, List.length_append]; exact hown, hB4⟩
            case measure => simp [intOf]; omega
        · have h1' : decide ((pos : Int) + 1 < (n : Int)) = false := by simp; omega
          generalize uA us pos = x at *
          clear hpa
          cases hh : highB x
          · cases hlo : lowB x
            · have hxx : surr x = false := by unfold surr; rw [hh, hlo]; rfl
              have hal : aloneN x = x := by unfold aloneN; rw [hh, hlo]; rfl
              rw [hal, hxx, if_neg (by decide)] at hsn
              have HSN := hide hsn
              clear hsn hal hxx
              have hrow2 := hrow
              have hB2 := hB
              have c2 := c0
              clear hrow hB c0
              generalize wr = W2 at *
              have hBs2 := hB2.size
              have hbl : b < W2.heap.size := by
                refine Decidable.byContradiction fun hn => ?_
                have hnn : W2.heap[b]? = none := Array.getElem?_eq_none (by omega)
                simp [World.cell?, hnn] at c2
              have c3a : ∀ o, (W2.alloc o).cell? ⟨b, off + pos, none⟩ = some (.int .u16 x) := fun o => (Below.cell (Below.alloc (Below.refl W2.heap.size W2) (Nat.le_refl _) o) (p := ⟨b, off + pos, none⟩) hbl).trans c2
              have hpl2 : pre.length ≤ 1099511627776 := by omega
              go_wp2_with (first | (go_at_call 54; refine (rHigh_any _ _).mono ?_; rintro e w' ⟨rfl, rfl⟩; rw [hh]) | (go_at_call 55; refine (rLow_any _ _).mono ?_; rintro e w' ⟨rfl, rfl⟩; rw [hlo]) | (at_builtin; refine wpList_append_own _ rfl _ _ 40 rfl w.heap.size 78 i0 (.agg #[.int .i64 0, .int .i32 0, .int .i64 0]) 3 24 Try.underlying40 hi hz0 hz1 hz2 rfl (by decide) _ _ _ rfl ((hrow2.alloc _).alloc _) ⟨W2.heap.size + 1, 0, none⟩ 1 1 [.int .i64 (pos : Nat), .int .i32 (x), .int .i64 0] rfl rfl (by simpa using cell_three_new (W2.alloc (.cells #[.int .i64 (pos : Nat), .int .i32 (x), .int .i64 0] 78)) (.int .i64 (pos : Nat)) (.int .i32 (x)) (.int .i64 0) 78) (by simp [Value.oneCell']) (by unfold maxLen; omega) (by omega) (by simp; omega) ?_; intro v' w4 hown hgrow _))
              have hB4 := below_grown2 ((hB2.alloc hBs2 _).alloc (by simp; omega) _) (by simp; omega) ((hrow2.alloc _).alloc _) hgrow
              go_roundw
              case rel => exact ⟨pos + 1, pre ++ [pos], HP2, by omega, by go_num, by rw [unhide HSN, List.length_append]; exact hown, hB4⟩
              case measure => simp [intOf]; omega
            · have hxx : surr x = true := by unfold surr; rw [hh, hlo]; rfl
              have hal : aloneN x = 65533 := by unfold aloneN; rw [hh, hlo]; rfl
              rw [hal, hxx, hh, if_pos rfl, if_neg (by decide)] at hsn
              have HSN := hide hsn
              clear hsn hal hxx
              have hrow2 := hrow
              have hB2 := hB
              have c2 := c0
              clear hrow hB c0
              generalize wr = W2 at *
              have hBs2 := hB2.size
              have hbl : b < W2.heap.size := by
                refine Decidable.byContradiction fun hn => ?_
                have hnn : W2.heap[b]? = none := Array.getElem?_eq_none (by omega)
                simp [World.cell?, hnn] at c2
              have c3a : ∀ o, (W2.alloc o).cell? ⟨b, off + pos, none⟩ = some (.int .u16 x) := fun o => (Below.cell (Below.alloc (Below.refl W2.heap.size W2) (Nat.le_refl _) o) (p := ⟨b, off + pos, none⟩) hbl).trans c2
              have hpl2 : pre.length ≤ 1099511627776 := by omega
              go_wp2_with (first | (go_at_call 54; refine (rHigh_any _ _).mono ?_; rintro e w' ⟨rfl, rfl⟩; rw [hh]) | (go_at_call 55; refine (rLow_any _ _).mono ?_; rintro e w' ⟨rfl, rfl⟩; rw [hlo]) | (at_builtin; refine wpList_append_own _ rfl _ _ 40 rfl w.heap.size 78 i0 (.agg #[.int .i64 0, .int .i32 0, .int .i64 0]) 3 24 Try.underlying40 hi hz0 hz1 hz2 rfl (by decide) _ _ _ rfl ((hrow2.alloc _).alloc _) ⟨W2.heap.size + 1, 0, none⟩ 1 1 [.int .i64 (pos : Nat), .int .i32 (65533), .int .i64 21] rfl rfl (by simpa using cell_three_new (W2.alloc (.cells #[.int .i64 (pos : Nat), .int .i32 (65533), .int .i64 21] 78)) (.int .i64 (pos : Nat)) (.int .i32 (65533)) (.int .i64 21) 78) (by simp [Value.oneCell']) (by unfold maxLen; omega) (by omega) (by simp; omega) ?_; intro v' w4 hown hgrow _))
              have hB4 := below_grown2 ((hB2.alloc hBs2 _).alloc (by simp; omega) _) (by simp; omega) ((hrow2.alloc _).alloc _) hgrow
              go_roundw
              case rel => exact ⟨pos + 1, pre ++ [pos], HP2, by omega, by go_num, by rw [unhide HSN, List.length_append]; exact hown, hB4⟩
              case measure => simp [intOf]; omega
          · have hxx : surr x = true := by unfold surr; rw [hh]; rfl
            have hal : aloneN x = 65533 := by unfold aloneN; rw [hh]; rfl
            rw [hal, hxx, hh, if_pos rfl, if_pos rfl] at hsn
            have HSN := hide hsn
            clear hsn hal hxx
            have hrow2 := hrow
            have hB2 := hB
            have c2 := c0
            clear hrow hB c0
            generalize wr = W2 at *
            have hBs2 := hB2.size
            have hbl : b < W2.heap.size := by
              refine Decidable.byContradiction fun hn => ?_
              have hnn : W2.heap[b]? = none := Array.getElem?_eq_none (by omega)
              simp [World.cell?, hnn] at c2
            have c3a : ∀ o, (W2.alloc o).cell? ⟨b, off + pos, none⟩ = some (.int .u16 x) := fun o => (Below.cell (Below.alloc (Below.refl W2.heap.size W2) (Nat.le_refl _) o) (p := ⟨b, off + pos, none⟩) hbl).trans c2
            have hpl2 : pre.length ≤ 1099511627776 := by omega
            go_wp2_with (first | (go_at_call 54; refine (rHigh_any _ _).mono ?_; rintro e w' ⟨rfl, rfl⟩; rw [hh]) | (at_builtin; refine wpList_append_own _ rfl _ _ 40 rfl w.heap.size 78 i0 (.agg #[.int .i64 0, .int .i32 0, .int .i64 0]) 3 24 Try.underlying40 hi hz0 hz1 hz2 rfl (by decide) _ _ _ rfl ((hrow2.alloc _).alloc _) ⟨W2.heap.size + 1, 0, none⟩ 1 1 [.int .i64 (pos : Nat), .int .i32 (65533), .int .i64 20] rfl rfl (by simpa using cell_three_new (W2.alloc (.cells #[.int .i64 (pos : Nat), .int .i32 (65533), .int .i64 20] 78)) (.int .i64 (pos : Nat)) (.int .i32 (65533)) (.int .i64 20) 78) (by simp [Value.oneCell']) (by unfold maxLen; omega) (by omega) (by simp; omega) ?_; intro v' w4 hown hgrow _))
            have hB4 := below_grown2 ((hB2.alloc hBs2 _).alloc (by simp; omega) _) (by simp; omega) ((hrow2.alloc _).alloc _) hgrow
            go_roundw
            case rel => exact ⟨pos + 1, pre ++ [pos], HP2, by omega, by go_num, by rw [unhide HSN, List.length_append]; exact hown, hB4⟩
            case measure => simp [intOf]; omega
      · have hn2 : nA us pos = 2 := by unfold nA; rw [hpa]; rfl
        have hr : rA us pos = joinN (uA us pos) (uA us (pos + 1)) := by unfold rA; rw [hpa]; rfl
        have hcd : cA us pos = 0 := by unfold cA lone; rw [hpa]; simp
        have hq : pos + 1 < n ∧ highB (uA us pos) = true ∧ lowB (uA us (pos + 1)) = true := by
          unfold pairAt at hpa
          rw [unhide HLEN] at hpa
          simp at hpa
          exact ⟨hpa.1.1, hpa.1.2, hpa.2⟩
        obtain ⟨h1, hq1, hq2⟩ := hq
        rw [hn2] at HP2
        rw [hr, hcd] at hsn
        have HSN := hide hsn
        obtain ⟨b', off', hbo, c1⟩ := (unhide HRD).below hB (pos + 1) (by rw [unhide HLEN]; exact h1)
        obtain ⟨rfl, rfl⟩ : b = b' ∧ off = off' := by simpa using hbo
        have HJ := hide (fun w => rJoin_yes _ _ w hq1 hq2)
        have hjb := rA_bounds (unhide HF) pos
        rw [hr] at hjb
        clear hn2 hr hcd hsn hq1 hq2 hpa hbo
        generalize joinN (uA us pos) (uA us (pos + 1)) = R at *
        generalize uA us (pos + 1) = y at *
        generalize uA us pos = x at *
        have HRW := hide (fun nq => rowBelow hrow (below_drewN (Below.refl _ wr) nq))
        have HBW := hide (fun nq => below_drewN hB nq)
        clear hrow hB
        have i2' : (0 : Int) ≤ (pos : Int) + 1 := by omega
        have i3' : (pos : Int) + 1 < (n : Int) := by omega
        have i4' : ((pos : Int) + 1).toNat = pos + 1 := by omega
        go_wp2
        go_quiet ((go_at_call 17; exact Calls.quiet_of_same (unhide HJ _)))
        have hrow2 := unhide HRW nq
        have hB2 := unhide HBW nq
        clear HRW HBW c0 c1
        generalize wr.drewN nq = W2 at *
        have hBs2 := hB2.size
        have hpl2 : pre.length ≤ 1099511627776 := by omega
        go_wp2_with (at_builtin; refine wpList_append_own _ rfl _ _ 40 rfl w.heap.size 78 i0 (.agg #[.int .i64 0, .int .i32 0, .int .i64 0]) 3 24 Try.underlying40 hi hz0 hz1 hz2 rfl (by decide) _ _ _ rfl (hrow2.alloc _) ⟨_, 0, none⟩ 1 1 [.int .i64 (pos : Nat), .int .i32 (R), .int .i64 0] rfl rfl (by simpa using cell_three_new _ (.int .i64 (pos : Nat)) (.int .i32 (R)) (.int .i64 0) 78) (by simp [Value.oneCell']) (by unfold maxLen; omega) (by omega) (by simp; omega) ?_; intro v' w4 hown hgrow _)
        have hB4 := below_grown2 (hB2.alloc hBs2 _) (by simp; omega) (hrow2.alloc _) hgrow
        go_roundw
        case rel => exact ⟨pos + 2, pre ++ [pos], HP2, by omega, by go_num, by rw [unhide HSN, List.length_append]; exact hown, hB4⟩
        case measure => simp [intOf]; omega
    · have hpe : pre = wplaces us 0 := by have := HP.out; rw [wplaces_end us pos (by rw [unhide HLEN]; exact hlt)] at this; simpa using this
      rw [hpe] at hrow
      have HPE := hide hpe
      clear hpe HP
      go_wp2
      go_ret
      exact ⟨_, rfl, hrow, hB⟩

end Go.Proofs.Ytghcheoholkpbaa

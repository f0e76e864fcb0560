/-
  These texts, one behind the other: ClA, ClL.
-/
import Derived.Test.YthgaadjkjnibaaaGreatDoorClRd
import Derived.Test.YthgaadjkjnibaaaGreatDoorClRe
/-
  Given, Class and Line of a table.
-/
namespace Go.Proofs.YthgaadjkjnibaaaGreatDoor
open Go.RowKit Go.PlainAid Go.Lib Go.PHexM Go.Shelf Go.PRow
set_option linter.unusedVariables false
set_option linter.unusedSimpArgs false

theorem field7_0 (a b c : Value) (w : World) : (Instr.field 66 (.agg #[a, b, c]) 0).run Tryz.prog w = .ok a w := by kernel_rfl
theorem field7_1 (a b c : Value) (w : World) : (Instr.field 66 (.agg #[a, b, c]) 1).run Tryz.prog w = .ok b w := by kernel_rfl
theorem field7_2 (a b c : Value) (w : World) : (Instr.field 66 (.agg #[a, b, c]) 2).run Tryz.prog w = .ok c w := by kernel_rfl
theorem tab_box {W : World} {n : Nat} {T : TypeId} {x y z : Value} (a b c : Value) (hx : W.heap[n]? = some (.cells #[x, y, z] T (0, 0))) :
    (((W.setCell ⟨n, 0, none⟩ a).setCell ⟨n, 1, none⟩ b).setCell ⟨n, 2, none⟩ c).heap[n]? = some (.cells #[a, b, c] T (0, 0)) := by
  have k1 : (W.setCell ⟨n, 0, none⟩ a).heap[n]? = some (.cells #[a, y, z] T (0, 0)) := by
    rw [setCell_eq_setRow W n 0 _ _ _ _ hx]
    exact setRow_heap W n _ _ _ _ hx
  have k2 : ((W.setCell ⟨n, 0, none⟩ a).setCell ⟨n, 1, none⟩ b).heap[n]? = some (.cells #[a, b, z] T (0, 0)) := by
    rw [setCell_eq_setRow _ n 1 _ _ _ _ k1]
    exact setRow_heap _ n _ _ _ _ k1
  rw [setCell_eq_setRow _ n 2 _ _ _ _ k2]
  exact setRow_heap _ n _ _ _ _ k2

theorem held7_any (bt bN bC : Nat) (sa : Option Addr) (sn sc : Nat) (w : World) (h : w.heap[bt]? = some (.cells #[.pointer (some ⟨bN, 0, none⟩), .pointer (some ⟨bC, 0, none⟩), .slice sa sn sc] 66 (0, 0))) :
    Calls Tryz.prog 16 #[.pointer (some ⟨bt, 0, none⟩)] w fun e w' => e = .returned (.agg #[.pointer (some ⟨bN, 0, none⟩), .pointer (some ⟨bC, 0, none⟩), .slice sa sn sc]) ∧ Below w.heap.size w w' := by
  obtain ⟨W0, hW0⟩ : ∃ W0, w.alloc (.cells #[.pointer none, .pointer none, .slice none 0 0] 66) = W0 := ⟨_, rfl⟩
  have hb0 : Below w.heap.size w W0 := by rw [← hW0]; exact (Below.refl _ w).alloc (Nat.le_refl _) _
  have hx : W0.heap[w.heap.size]? = some (.cells #[.pointer none, .pointer none, .slice none 0 0] 66 (0, 0)) := by rw [← hW0]; exact heap_alloc_new w _
  have h0 := (hb0.block _ (Array.getElem?_eq_some_iff.1 h).1).trans h
  have c0 : W0.cell? ⟨bt, 0, none⟩ = some (.pointer (some ⟨bN, 0, none⟩)) := cellH h0 rfl
  have c1 : W0.cell? ⟨bt, 1, none⟩ = some (.pointer (some ⟨bC, 0, none⟩)) := cellH h0 rfl
  have c2 : W0.cell? ⟨bt, 2, none⟩ = some (.slice sa sn sc) := cellH h0 rfl
  have d0 : W0.cell? ⟨w.heap.size, 0, none⟩ = some (.pointer none) := cellH hx rfl
  have d1 : W0.cell? ⟨w.heap.size, 1, none⟩ = some (.pointer none) := cellH hx rfl
  have d2 : W0.cell? ⟨w.heap.size, 2, none⟩ = some (.slice none 0 0) := cellH hx rfl
  have f0 : W0.frozen? ⟨w.heap.size, 0, none⟩ = false := frozH hx
  have f1 : W0.frozen? ⟨w.heap.size, 1, none⟩ = false := frozH hx
  have f2 : W0.frozen? ⟨w.heap.size, 2, none⟩ = false := frozH hx
  have hk := tab_box (.pointer (some ⟨bN, 0, none⟩)) (.pointer (some ⟨bC, 0, none⟩)) (.slice sa sn sc) hx
  have HK := hide hk
  have HB := hide (((hb0.setCell (p := ⟨w.heap.size, 0, none⟩) (Nat.le_refl _) (.pointer (some ⟨bN, 0, none⟩))).setCell (p := ⟨w.heap.size, 1, none⟩) (Nat.le_refl _) (.pointer (some ⟨bC, 0, none⟩))).setCell (p := ⟨w.heap.size, 2, none⟩) (Nat.le_refl _) (.slice sa sn sc))
  clear hk hx h0 hb0 h
  go_enter Tryz.func16, Tryz.ntmps16
  go_wp2
  refine bodyPost_ret (v := .agg #[.pointer (some ⟨bN, 0, none⟩), .pointer (some ⟨bC, 0, none⟩), .slice sa sn sc]) ?_ rfl ⟨rfl, unhide HB⟩
  have k0 := cellH (k := 0) (unhide HK) rfl
  have k1 := cellH (k := 1) (unhide HK) rfl
  have k2 := cellH (k := 2) (unhide HK) rfl
  simp [results, Tryz.results16, go_sem, k0, k1, k2]
theorem held7_nil (w : World) :
    Calls Tryz.prog 16 #[.pointer none] w fun e w' => e = .returned (.agg #[.pointer none, .pointer none, .slice none 0 0]) ∧ Below w.heap.size w w' := by
  obtain ⟨W0, hW0⟩ : ∃ W0, w.alloc (.cells #[.pointer none, .pointer none, .slice none 0 0] 66) = W0 := ⟨_, rfl⟩
  have hb0 : Below w.heap.size w W0 := by rw [← hW0]; exact (Below.refl _ w).alloc (Nat.le_refl _) _
  have hx : W0.heap[w.heap.size]? = some (.cells #[.pointer none, .pointer none, .slice none 0 0] 66 (0, 0)) := by rw [← hW0]; exact heap_alloc_new w _
  have d0 : W0.cell? ⟨w.heap.size, 0, none⟩ = some (.pointer none) := cellH hx rfl
  have d1 : W0.cell? ⟨w.heap.size, 1, none⟩ = some (.pointer none) := cellH hx rfl
  have d2 : W0.cell? ⟨w.heap.size, 2, none⟩ = some (.slice none 0 0) := cellH hx rfl
  have f0 : W0.frozen? ⟨w.heap.size, 0, none⟩ = false := frozH hx
  have f1 : W0.frozen? ⟨w.heap.size, 1, none⟩ = false := frozH hx
  have f2 : W0.frozen? ⟨w.heap.size, 2, none⟩ = false := frozH hx
  have hk := tab_box (.pointer none) (.pointer none) (.slice none 0 0) hx
  have HK := hide hk
  have HB := hide (((hb0.setCell (p := ⟨w.heap.size, 0, none⟩) (Nat.le_refl _) (.pointer none)).setCell (p := ⟨w.heap.size, 1, none⟩) (Nat.le_refl _) (.pointer none)).setCell (p := ⟨w.heap.size, 2, none⟩) (Nat.le_refl _) (.slice none 0 0))
  clear hk hx hb0
  go_enter Tryz.func16, Tryz.ntmps16
  go_wp2
  refine bodyPost_ret (v := .agg #[.pointer none, .pointer none, .slice none 0 0]) ?_ rfl ⟨rfl, unhide HB⟩
  have k0 := cellH (k := 0) (unhide HK) rfl
  have k1 := cellH (k := 1) (unhide HK) rfl
  have k2 := cellH (k := 2) (unhide HK) rfl
  simp [results, Tryz.results16, go_sem, k0, k1, k2]
theorem held7_tab {W : World} {B bt bN bC : Nat} {vN vC vM : Value} {t : TabD} (h : TabP W B bt bN bC vN vC vM t) :
    Calls Tryz.prog 16 #[.pointer (some ⟨bt, 0, none⟩)] W fun e w' => e = .returned (.agg #[.pointer (some ⟨bN, 0, none⟩), .pointer (some ⟨bC, 0, none⟩), vM]) ∧ Below W.heap.size W w' := by
  obtain ⟨a, k, e, _⟩ := h.rM.form
  have ht := h.tab
  rw [e] at ht ⊢
  exact held7_any bt bN bC a _ k W ht

theorem known7_any (r : Int) (w : World) :
    Calls Tryz.prog 26 #[.int .i32 r] w fun e w' => e = .returned (.int .i32 (known7 r)) ∧ w' = w := by
  unfold known7
  by_cases h1 : r < 0 <;> by_cases h2 : 1114111 < r
  any_goals (exfalso; omega)
  all_goals
    go_enter Tryz.func26, Tryz.ntmps26
    go_wp2
    go_ret
    exact ⟨by simp [h1, h2], rfl⟩

theorem atV_N (q : Option (Int × Int)) : VN.atV q = .tuple #[.agg #[.int .u8 (q.getD (0, 0)).1, .int .i64 (q.getD (0, 0)).2], .bool q.isSome] := by cases q <;> rfl
theorem atV_C (q : Option Int) : VC.atV q = .tuple #[.int .u8 (q.getD 0), .bool q.isSome] := by cases q <;> rfl

set_option maxRecDepth 100000 in
theorem given7_any {W : World} {B bt : Nat} {t : TabD} (h : TabAt W B bt t) (r : Int) :
    Calls Tryz.prog 10 #[.pointer (some ⟨bt, 0, none⟩), .int .i32 r] W fun e w' => e = .returned (.tuple #[.int .u8 ((givenT t r).getD (0, 0)).1, .bool (givenT t r).isSome]) ∧ Below W.heap.size W w' := by
  obtain ⟨bN, bC, vN, vC, vM, h⟩ := h
  have HH := hide (held7_tab h)
  have HA := hide (fun V (hV : Below W.heap.size W V) => VN.at_any bN vN B t.ns h.ok.1 (known7 r) V (h.mN.below hV) (h.rN.below hV))
  rw [atV_N] at HA
  have HK := hide (fun V => known7_any r V)
  have fd := field7_0
  unfold givenT
  generalize atP t.ns (known7 r) = q at HA ⊢
  generalize known7 r = kr at *
  generalize q.getD (0, 0) = g at *
  generalize q.isSome = sm at *
  clear h
  go_enter Tryz.func10, Tryz.ntmps10
  go_wp2_with fail
  refine (unhide HH).mono ?_
  rintro e w1 ⟨rfl, hb1⟩
  go_wp2_with fail
  refine (unhide HK _).mono ?_
  rintro e w2 ⟨rfl, hw2⟩
  obtain rfl : w1 = w2 := hw2.symm
  go_wp2_with fail
  refine (unhide HA _ hb1).mono ?_
  rintro e w3 ⟨rfl, hb3⟩
  go_wp2
  go_ret2
  exact ⟨rfl, (hb1.trans (hb3.mono hb1.size)).alloc (Nat.le_trans hb1.size hb3.size) _⟩

set_option maxRecDepth 100000 in
theorem line7_any {W : World} {B bt : Nat} {t : TabD} (h : TabAt W B bt t) (r : Int) :
    Calls Tryz.prog 12 #[.pointer (some ⟨bt, 0, none⟩), .int .i32 r] W fun e w' => e = .returned (.int .i64 ((givenT t r).getD (0, 0)).2) ∧ Below W.heap.size W w' := by
  obtain ⟨bN, bC, vN, vC, vM, h⟩ := h
  have HH := hide (held7_tab h)
  have HA := hide (fun V (hV : Below W.heap.size W V) => VN.at_any bN vN B t.ns h.ok.1 (known7 r) V (h.mN.below hV) (h.rN.below hV))
  rw [atV_N] at HA
  have HK := hide (fun V => known7_any r V)
  have fd := field7_0
  unfold givenT
  generalize atP t.ns (known7 r) = q at HA ⊢
  generalize known7 r = kr at *
  generalize q.getD (0, 0) = g at *
  generalize q.isSome = sm at *
  clear h
  go_enter Tryz.func12, Tryz.ntmps12
  go_wp2_with fail
  refine (unhide HH).mono ?_
  rintro e w1 ⟨rfl, hb1⟩
  go_wp2_with fail
  refine (unhide HK _).mono ?_
  rintro e w2 ⟨rfl, hw2⟩
  obtain rfl : w1 = w2 := hw2.symm
  go_wp2_with fail
  refine (unhide HA _ hb1).mono ?_
  rintro e w3 ⟨rfl, hb3⟩
  go_wp2
  go_ret
  exact ⟨rfl, (hb1.trans (hb3.mono hb1.size)).alloc (Nat.le_trans hb1.size hb3.size) _⟩

set_option maxRecDepth 100000 in
theorem class7_any {W : World} {B bt : Nat} {t : TabD} (h : TabAt W B bt t) (r : Int) :
    Calls Tryz.prog 11 #[.pointer (some ⟨bt, 0, none⟩), .int .i32 r] W fun e w' => e = .returned (.int .u8 (classT t r)) ∧ Below W.heap.size W w' := by
  have HG := hide (given7_any h r)
  obtain ⟨bN, bC, vN, vC, vM, h⟩ := h
  have HH := hide (fun V (hV : Below W.heap.size W V) => held7_tab (h.below hV))
  have HA := hide (fun V (hV : Below W.heap.size W V) => VC.at_any bC vC B t.us h.ok.2 (known7 r) V (h.mC.below hV) (h.rC.below hV))
  rw [atV_C] at HA
  have HK := hide (fun V => known7_any r V)
  have fd := field7_1
  cases hq : givenT t r with
  | some p =>
    have e1 : classT t r = p.1 := by unfold classT; rw [hq]
    rw [e1]
    rw [hq] at HG
    simp only [Option.getD_some, Option.isSome_some] at HG
    clear h e1 hq HA HH
    go_enter Tryz.func11, Tryz.ntmps11
    go_wp2_with fail
    refine (unhide HG).mono ?_
    rintro e w1 ⟨rfl, hb1⟩
    go_wp2
    go_ret
    exact ⟨rfl, hb1⟩
  | none =>
    have e1 : classT t r = (atP t.us (known7 r)).getD 0 := by unfold classT; rw [hq]
    rw [e1]
    rw [hq] at HG
    simp only [Option.getD_none, Option.isSome_none] at HG
    generalize (atP t.us (known7 r)).isSome = sm at *
    generalize (atP t.us (known7 r)).getD 0 = g at *
    generalize known7 r = kr at *
    clear h e1 hq
    go_enter Tryz.func11, Tryz.ntmps11
    go_wp2_with fail
    refine (unhide HG).mono ?_
    rintro e w1 ⟨rfl, hb1⟩
    go_wp2_with fail
    refine (unhide HH _ hb1).mono ?_
    rintro e w2 ⟨rfl, hb2⟩
    have hb12 := hb1.trans (hb2.mono hb1.size)
    go_wp2_with fail
    refine (unhide HK _).mono ?_
    rintro e w3 ⟨rfl, hw3⟩
    obtain rfl : w2 = w3 := hw3.symm
    go_wp2_with fail
    refine (unhide HA _ hb12).mono ?_
    rintro e w4 ⟨rfl, hb4⟩
    go_wp2
    go_ret
    exact ⟨rfl, hb12.trans (hb4.mono hb12.size)⟩
end Go.Proofs.YthgaadjkjnibaaaGreatDoor
/-
  The law's own file, read and asked.
-/
namespace Go.Proofs.YthgaadjkjnibaaaGreatDoor
open Go.RowKit Go.PlainAid Go.Lib Go.PHexM Go.Shelf Go.PRow
set_option linter.unusedVariables false
set_option linter.unusedSimpArgs false
set_option maxRecDepth 100000

abbrev textL7 : ByteArray := ⟨#[35, 32, 64, 109, 105, 115, 115, 105, 110, 103, 58, 32, 48, 48, 48, 48, 46, 46, 49, 48, 70, 70, 70, 70, 59, 32, 76, 101, 102, 116, 95, 84, 111, 95, 82, 105, 103, 104, 116, 10, 35, 32, 64, 109, 105, 115, 115, 105, 110, 103, 58, 32, 48, 53, 57, 48, 46, 46, 48, 53, 70, 70, 59, 32, 82, 10, 10, 48, 48, 51, 48, 46, 46, 48, 48, 51, 57, 32, 59, 32, 69, 78, 32, 35, 32, 100, 105, 103, 105, 116, 115, 10, 48, 53, 68, 48, 32, 59, 32, 82, 105, 103, 104, 116, 32, 84, 111, 32, 76, 101, 102, 116, 10]⟩
theorem live_a : (tabS textL7).2 = none := by decide +kernel
theorem live_b : classT (tabS textL7).1 49 = 4 := by decide +kernel
theorem live_c : classT (tabS textL7).1 1425 = 2 := by decide +kernel
theorem live_d : classT (tabS textL7).1 1536 = 1 := by decide +kernel
theorem live_e : givenT (tabS textL7).1 49 = some (4, 4) := by decide +kernel
theorem live_f : ((givenT (tabS textL7).1 1488).getD (0, 0)).2 = 5 := by decide +kernel

set_option maxHeartbeats 2000000 in
theorem awake7_any (w : World) (hm : MaxAt w) :
    Calls Tryz.prog 4 #[] w fun e w' => e = .returned (.bool true) ∧ Below w.heap.size w w' := by
  have HR := hide (read7_any ⟨#[102]⟩ textL7 w (by decide) hm)
  go_enter Tryz.func4, Tryz.ntmps4
  go_wp2_with fail
  refine (unhide HR).mono ?_
  rintro e w1 ⟨hb1, (⟨hnone, bt, rfl, hT⟩ | ⟨no, code, fb, hsome, rfl, hfb, hfc⟩)⟩
  · have HG := hide (fun V (hV : Below w1.heap.size w1 V) => given7_any (hT.below hV) 49)
    have HC1 := hide (fun V (hV : Below w1.heap.size w1 V) => class7_any (hT.below hV) 49)
    have HC2 := hide (fun V (hV : Below w1.heap.size w1 V) => class7_any (hT.below hV) 1425)
    have HC3 := hide (fun V (hV : Below w1.heap.size w1 V) => class7_any (hT.below hV) 1536)
    have HL := hide (fun V (hV : Below w1.heap.size w1 V) => line7_any (hT.below hV) 1488)
    rw [live_e] at HG
    rw [live_b] at HC1
    rw [live_c] at HC2
    rw [live_d] at HC3
    rw [live_f] at HL
    simp only [Option.getD_some, Option.isSome_some] at HG
    clear hT hnone HR
    go_wp2_with fail
    refine (unhide HG _ (Below.refl _ _)).mono ?_
    rintro e w2 ⟨rfl, hb2⟩
    go_wp2_with fail
    refine (unhide HC1 _ hb2).mono ?_
    rintro e w3 ⟨rfl, hb3⟩
    have hb3' := hb2.trans (hb3.mono hb2.size)
    go_wp2_with fail
    refine (unhide HC2 _ hb3').mono ?_
    rintro e w4 ⟨rfl, hb4⟩
    have hb4' := hb3'.trans (hb4.mono hb3'.size)
    go_wp2_with fail
    refine (unhide HC3 _ hb4').mono ?_
    rintro e w5 ⟨rfl, hb5⟩
    have hb5' := hb4'.trans (hb5.mono hb4'.size)
    go_wp2_with fail
    refine (unhide HL _ hb5').mono ?_
    rintro e w6 ⟨rfl, hb6⟩
    have hb6' := hb5'.trans (hb6.mono hb5'.size)
    go_wp2
    go_ret
    exact ⟨rfl, hb1.trans (hb6'.mono hb1.size)⟩
  · rw [live_a] at hsome
    cases hsome
end Go.Proofs.YthgaadjkjnibaaaGreatDoor

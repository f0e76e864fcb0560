/-
  Check of no tables; Pack of no base.
-/
import Derived.Test.YteakbnogfnbpkaaGreatDoorSuO2
import Derived.Test.YteakbnogfnbpkaaGreatDoorSeqM
import Derived.Laws.EntriesVeiled
import Derived.Test.YteakbnogfnbpkaaGreatDoorPRow
import Derived.Shelf.Abstract
namespace Go.Proofs.YteakbnogfnbpkaaGreatDoor.Im
open Go.RowKit Go.PlainAid Go.Lib Go.Shelf
set_option linter.unusedVariables false
set_option linter.unusedSimpArgs false
theorem hide {p : Prop} (h : p) : Hid p := h
theorem unhide {p : Prop} (h : Hid p) : p := h
abbrev noP : Value := .agg #[.slice none 0 0, .slice none 0 0, .slice none 0 0]
abbrev noK : Value := .agg #[.slice none 0 0, .slice none 0 0, .slice none 0 0, .slice none 0 0, .slice none 0 0, .slice none 0 0, .slice none 0 0, .slice none 0 0, .slice none 0 0, .slice none 0 0, .slice none 0 0, .slice none 0 0]
theorem set_same {W : World} {b i : Nat} {cs : Array Value} {t : TypeId} {fz : Nat × Nat} {v : Value} (h : W.heap[b]? = some (.cells cs t fz)) (hi : cs[i]? = some v) : W.setCell ⟨b, i, none⟩ v = W := by
  obtain ⟨heap, tape, drawn, os, output⟩ := W
  simp only [World.setCell]
  congr 1
  apply Array.ext_getElem?
  intro j
  rw [Array.getElem?_modify]
  split
  · rename_i e
    subst e
    simp only at h
    rw [h]
    simp only [Option.map_some]
    congr 2
    rw [if_neg (by simp)]
    apply Array.ext_getElem?
    intro k
    by_cases hk : i = k
    · subst hk
      rw [hi]
      have := (Array.getElem?_eq_some_iff.1 hi).1
      simp [this]
    · rw [Array.getElem?_setIfInBounds_ne hk]
  · rfl
/-- a box of nothing: twelve cells that are nil, none frozen; writing nothing there changes nothing -/
theorem box_none {W : World} {b : Nat} (h : W.heap[b]? = some (.cells #[.slice none 0 0, .slice none 0 0, .slice none 0 0, .slice none 0 0, .slice none 0 0, .slice none 0 0, .slice none 0 0, .slice none 0 0, .slice none 0 0, .slice none 0 0, .slice none 0 0, .slice none 0 0] 31 (0, 0))) (i : Nat) (hi : i < 12) : W.cell? ⟨b, i, none⟩ = some (.slice none 0 0) ∧ W.frozen? ⟨b, i, none⟩ = false ∧ W.setCell ⟨b, i, none⟩ (.slice none 0 0) = W := by
  have hc : (#[.slice none 0 0, .slice none 0 0, .slice none 0 0, .slice none 0 0, .slice none 0 0, .slice none 0 0, .slice none 0 0, .slice none 0 0, .slice none 0 0, .slice none 0 0, .slice none 0 0, .slice none 0 0] : Array Value)[i]? = some (.slice none 0 0) := by
    rcases i with _ | _ | _ | _ | _ | _ | _ | _ | _ | _ | _ | _ | i <;> first | rfl | omega
  exact ⟨by simp only [World.cell?, h]; exact hc, by simp [World.frozen?, h], set_same h hc⟩
set_option maxRecDepth 100000 in
theorem leads_none (w : World) : Calls Tryz.prog 80 #[noP] w fun e w' => e = .returned (.bool false) ∧ Below w.heap.size w w' := by
  have hb : ∀ o : Obj, Below w.heap.size w (w.alloc o) := fun o => (Below.refl _ w).alloc (Nat.le_refl _) o
  go_enter Tryz.func80, Tryz.ntmps80
  go_wp2
  go_ret
  exact ⟨rfl, hb _⟩
set_option maxRecDepth 100000 in
set_option maxHeartbeats 4000000 in
theorem from_none (w : World) : Calls Tryz.prog 43 #[noP] w fun e w' => e = .returned (.tuple #[.pointer none, .int .i64 112]) ∧ Below w.heap.size w w' := by
  have hb : ∀ o : Obj, Below w.heap.size w (w.alloc o) := fun o => (Below.refl _ w).alloc (Nat.le_refl _) o
  have HB := hide hb
  clear hb
  go_enter Tryz.func43, Tryz.ntmps43
  go_wp2_with fail
  refine (leads_none _).mono ?_
  rintro e w1 ⟨rfl, hb1⟩
  have HF := hide ((unhide HB _).trans (hb1.mono (unhide HB _).size))
  clear hb1
  go_wp2
  refine bodyPost_ret (results_tmp2 rfl _ _ _) rfl ?_
  exact ⟨rfl, unhide HF⟩
theorem index_none (f : Value) (w : World) : Calls Tryz.prog 79 #[.slice none 0 0, f] w fun e w' => e = .returned (.int .i64 (-1)) ∧ w' = w := by
  go_enter Tryz.func79, Tryz.ntmps79
  go_wp2
  go_loopw [8] (fun v8 wr => v8 = .int .i64 0 ∧ wr = w) (fun _ _ => 0)
  case atStart => exact ⟨rfl, rfl⟩
  case round =>
    obtain ⟨rfl, rfl⟩ := hrel
    go_wp2
    go_ret
    exact ⟨rfl, rfl⟩
theorem contains_none (f : Value) (w : World) : Calls Tryz.prog 41 #[.slice none 0 0, f] w fun e w' => e = .returned (.bool false) ∧ w' = w := by
  go_enter Tryz.func41, Tryz.ntmps41
  go_wp2_with fail
  refine (index_none f w).mono ?_
  rintro e w1 ⟨rfl, rfl⟩
  go_wp2
  go_ret
  exact ⟨rfl, rfl⟩
set_option maxRecDepth 100000 in
set_option maxHeartbeats 4000000 in
theorem may_none (f : Nat) (w : World) : Calls Tryz.prog 19 #[noP, .func (.func f) #[] #[]] w fun e w' => e = .returned (.bool false) ∧ Below w.heap.size w w' := by
  have hmf : ∀ (fn : Fn) (first cap : Array Value) (w : World), (Instr.makeFunc fn first cap).run Tryz.prog w = .ok (.func fn first cap) w := fun _ _ _ _ => rfl
  obtain ⟨W, hW⟩ : ∃ W, W = (w.alloc (.cells #[.slice none 0 0, .slice none 0 0, .slice none 0 0] 26)).alloc (.cells #[.func (.func f) #[] #[]] 61) := ⟨_, rfl⟩
  have HB := hide (show Below w.heap.size w W by rw [hW]; exact ((Below.refl _ w).alloc (Nat.le_refl _) _).alloc (by simp) _)
  have HW := hide hW
  clear hW
  go_enter Tryz.func19, Tryz.ntmps19
  go_wp2_with fail
  refine (contains_none _ _).mono ?_
  rintro e w1 ⟨rfl, rfl⟩
  go_wp2_with fail
  rw [← unhide HW]
  refine (from_none W).mono ?_
  rintro e w2 ⟨rfl, hb2⟩
  have HF := hide ((unhide HB).trans (hb2.mono (unhide HB).size))
  clear hb2
  go_wp2
  go_ret
  exact ⟨rfl, unhide HF⟩
set_option maxRecDepth 100000 in
set_option maxHeartbeats 4000000 in
theorem check_none (w : World) : Calls Tryz.prog 7 #[noK] w fun e w' => e = .returned (.int .i64 132) ∧ Below w.heap.size w w' := by
  obtain ⟨W, hW⟩ : ∃ W, W = w.alloc (.cells #[.slice none 0 0, .slice none 0 0, .slice none 0 0, .slice none 0 0, .slice none 0 0, .slice none 0 0, .slice none 0 0, .slice none 0 0, .slice none 0 0, .slice none 0 0, .slice none 0 0, .slice none 0 0] 31) := ⟨_, rfl⟩
  have HB := hide (show Below w.heap.size w W by rw [hW]; exact (Below.refl _ w).alloc (Nat.le_refl _) _)
  have HW := hide hW
  clear hW
  go_enter Tryz.func7, Tryz.ntmps7
  go_wp2_with fail
  rw [← unhide HW]
  refine (may_none _ W).mono ?_
  rintro e w1 ⟨rfl, hb1⟩
  have HF := hide ((unhide HB).trans (hb1.mono (unhide HB).size))
  clear hb1
  go_wp2
  go_ret
  exact ⟨rfl, unhide HF⟩
-- no base
theorem made_nil (w : World) : Calls Tryz.prog 34 #[.pointer none] w fun e w' => e = .returned (.bool false) ∧ w' = w := by
  go_enter Tryz.func34, Tryz.ntmps34
  go_wp2
  go_ret
  exact ⟨rfl, rfl⟩
theorem classes_nil (w : World) : Calls Tryz.prog 32 #[.pointer none] w fun e w' => e = .returned (.func (.func 55) #[] #[.pointer (some ⟨w.heap.size, 0, none⟩)]) ∧ w' = w.alloc (.cells #[.pointer none] 44) := by
  have hmf : ∀ (fn : Fn) (first cap : Array Value) (w : World), (Instr.makeFunc fn first cap).run Tryz.prog w = .ok (.func fn first cap) w := fun _ _ _ _ => rfl
  go_enter Tryz.func32, Tryz.ntmps32
  go_wp2
  go_ret
  exact ⟨rfl, rfl⟩
set_option maxRecDepth 100000 in
set_option maxHeartbeats 4000000 in
theorem classes1_nil (w : World) (n l : Nat) (hn : 2 ≤ n) (Bm : Nat) (hBm : w.heap[Bm]? = some (.cells #[.pointer none] 44 (0, 0))) : CallsIn Fence.wide n Tryz.prog 55 #[.func (.yield l) #[] #[], .pointer (some ⟨Bm, 0, none⟩)] w fun e w' => (∃ v, e = .returned v) ∧ w' = w.alloc (.cells #[.func (.yield l) #[] #[]] 106) := by
  have hB := (Below.heap_alloc w (.cells #[.func (.yield l) #[] #[]] 106) Bm (Array.getElem?_eq_some_iff.1 hBm).1).trans hBm
  have g0 : (w.alloc (.cells #[.func (.yield l) #[] #[]] 106)).cell? ⟨Bm, 0, none⟩ = some (.pointer none) := by simp [World.cell?, hB]
  have hF : ∀ f, Fence.wide.fn f := fun _ => trivial
  have hn1 : 1 ≤ n := by omega
  clear hBm hB
  refine callsIn_of_wp_marks Tryz.func55 rfl trivial ?_ rfl
  simp only [Tryz.ntmps55, List.size_toArray, List.length_cons, List.length_nil, Nat.reduceAdd, Nat.reduceSub, Array.replicate_succ, Array.replicate_zero, List.push_toArray, List.append_toArray, List.nil_append, List.cons_append]
  gi_wp2_with fail
  refine (callsIn_wide.2 (made_nil _)).mono ?_
  rintro e w1 ⟨rfl, rfl⟩
  gi_wp2
  exact ⟨_, results_none rfl _ _ _, ⟨_, rfl⟩, rfl⟩
theorem classes_gives (n Bm : Nat) (hn : 2 ≤ n) (w : World) (hBm : w.heap[Bm]? = some (.cells #[.pointer none] 44 (0, 0))) :
    SeqM.Gives4 n Tryz.prog 55 #[.pointer (some ⟨Bm, 0, none⟩)] (fun _ : Empty => #[]) 0 (fun _ => False) 0 0 (fun xs => xs = []) (fun _ => False) w :=
  fun l J Jx W hW hJ hJx hcalm hY h0 => (classes1_nil W n l hn Bm ((hW.block Bm (Array.getElem?_eq_some_iff.1 hBm).1).trans hBm)).mono (by
    rintro e w' ⟨h, rfl⟩
    exact ⟨h, .inl ⟨[], rfl, hJ.alloc _ h0⟩⟩)
set_option maxRecDepth 100000 in
set_option maxHeartbeats 4000000 in
theorem spans_nil (w : World) : Calls Tryz.prog 11 #[.pointer none] w fun e w' => e = .returned (.slice none 0 0) ∧ Below w.heap.size w w' := by
  have hF : ∀ f, Fence.wide.fn f := fun _ => trivial
  refine (callsIn_wide (n := 10)).1 ?_
  refine callsIn_of_wp_marks Tryz.func11 rfl trivial ?_ rfl
  simp only [Tryz.ntmps11, List.size_toArray, List.length_cons, List.length_nil, Nat.reduceAdd, Nat.reduceSub, Array.replicate_succ, Array.replicate_zero, List.push_toArray, List.append_toArray, List.nil_append, List.cons_append]
  obtain ⟨V, hV⟩ : ∃ V, V = w.alloc (.cells #[.slice none 0 0] 45) := ⟨_, rfl⟩
  have hb0 : Below w.heap.size w V := by rw [hV]; exact (Below.refl _ w).alloc (Nat.le_refl _) _
  have hx0 : V.heap[w.heap.size]? = some (.cells #[.slice none 0 0] 45 (0, 0)) := by rw [hV]; exact World.alloc_heap_new w _
  have hs0 : w.heap.size + 1 ≤ V.heap.size := by rw [hV]; simp
  have HV := hide hV
  clear hV
  gi_wp2_with fail
  rw [← unhide HV]
  refine (callsIn_wide.2 (classes_nil V)).mono ?_
  rintro e W ⟨rfl, hW⟩
  have hB : Below V.heap.size V W := by rw [hW]; exact (Below.refl _ V).alloc (Nat.le_refl _) _
  have hq : W.heap[V.heap.size]? = some (.cells #[.pointer none] 44 (0, 0)) := by rw [hW]; exact World.alloc_heap_new V _
  have hx1 := (hB.block _ (by omega)).trans hx0
  have hbW := hb0.trans (hB.mono hb0.size)
  clear hW HV hx0
  gi_wp2_with fail
  refine SeqM.range4G (by omega) (gf := 55) (lb := #[.pointer (some ⟨V.heap.size, 0, none⟩)]) rfl (enters_of Tryz.func55 (by kernel_rfl) rfl)
    (classes_gives _ V.heap.size (by omega) W hq) (Below.refl _ _) (fun x => nomatch x)
    (fun pre U => U.heap[w.heap.size]? = some (.cells #[.slice none 0 0] 45 (0, 0)) ∧ Below w.heap.size w U)
    (fun c pre U => False) ((SeqM.own_block _ _ _ rfl).and (ownFrom_below (Nat.le_refl _) (by have := hbW.size; omega))) (fun c => SeqM.own_pure _ _) (SeqM.CalmR.none _ _ _) ⟨hx1, hbW⟩ (fun x => nomatch x) ?assign ?body ?done ?stop
  case assign => intro l2 x; exact nomatch x
  case body => intro l2 pre x; exact nomatch x
  case stop => rintro D c pre U hD hSp; exact hSp.elim
  case done =>
    rintro D xs U hD rfl ⟨hx, hb⟩ hK
    have c0 : U.cell? ⟨w.heap.size, 0, none⟩ = some (.slice none 0 0) := by simp [World.cell?, hx]
    have HK := hide (And.intro hK hb)
    have HD : Hid (w.heap.size ≤ D) := by have := hbW.size; show w.heap.size ≤ D; omega
    clear hx hK hb hs0 hx1 hq hb0 hB hbW
    gi_wp2
    refine ⟨by simp, .inl ⟨_, _, rfl, run_takeDeferred (unhide HK).1, ?_⟩⟩
    refine ⟨_, results_tmp rfl _ _ _, rfl, ?_⟩
    exact SeqM.below_put (unhide HK).2 (unhide HD) _
set_option maxRecDepth 100000 in
set_option maxHeartbeats 4000000 in
theorem pack_nil (w : World) : Calls Tryz.prog 6 #[.pointer none] w fun e w' => e = .returned (.tuple #[noK, .int .i64 1]) ∧ Below w.heap.size w w' := by
  have hF : ∀ f, Fence.wide.fn f := fun _ => trivial
  refine (callsIn_wide (n := 14)).1 ?_
  refine callsIn_of_wp_marks Tryz.func6 rfl trivial ?_ rfl
  simp only [Tryz.ntmps6, List.size_toArray, List.length_cons, List.length_nil, Nat.reduceAdd, Nat.reduceSub, Array.replicate_succ, Array.replicate_zero, List.push_toArray, List.append_toArray, List.nil_append, List.cons_append]
  obtain ⟨W, hW⟩ : ∃ W, W = w.alloc (.cells #[.slice none 0 0, .slice none 0 0, .slice none 0 0, .slice none 0 0, .slice none 0 0, .slice none 0 0, .slice none 0 0, .slice none 0 0, .slice none 0 0, .slice none 0 0, .slice none 0 0, .slice none 0 0] 31) := ⟨_, rfl⟩
  have hb0 : Below w.heap.size w W := by rw [hW]; exact (Below.refl _ w).alloc (Nat.le_refl _) _
  have hx0 : W.heap[w.heap.size]? = some (.cells #[.slice none 0 0, .slice none 0 0, .slice none 0 0, .slice none 0 0, .slice none 0 0, .slice none 0 0, .slice none 0 0, .slice none 0 0, .slice none 0 0, .slice none 0 0, .slice none 0 0, .slice none 0 0] 31 (0, 0)) := by rw [hW]; exact World.alloc_heap_new w _
  have HW := hide hW
  have HX := hide (And.intro hb0 hx0)
  clear hW hb0 hx0
  gi_wp2_with fail
  rw [← unhide HW]
  refine (callsIn_wide.2 (spans_nil W)).mono ?_
  rintro e w1 ⟨rfl, hb1⟩
  have hx1 := (hb1.block _ (Array.getElem?_eq_some_iff.1 (unhide HX).2).1).trans (unhide HX).2
  have HF := hide (And.intro ((unhide HX).1.trans (hb1.mono (unhide HX).1.size)) hx1)
  clear hb1 HW HX
  obtain ⟨a0, b0, s0⟩ := box_none hx1 0 (by omega)
  obtain ⟨a1, b1, s1⟩ := box_none hx1 1 (by omega)
  obtain ⟨a2, b2, s2⟩ := box_none hx1 2 (by omega)
  obtain ⟨a3, b3, s3⟩ := box_none hx1 3 (by omega)
  obtain ⟨a4, b4, s4⟩ := box_none hx1 4 (by omega)
  obtain ⟨a5, b5, s5⟩ := box_none hx1 5 (by omega)
  obtain ⟨a6, b6, s6⟩ := box_none hx1 6 (by omega)
  obtain ⟨a7, b7, s7⟩ := box_none hx1 7 (by omega)
  obtain ⟨a8, b8, s8⟩ := box_none hx1 8 (by omega)
  obtain ⟨a9, b9, s9⟩ := box_none hx1 9 (by omega)
  obtain ⟨a10, b10, s10⟩ := box_none hx1 10 (by omega)
  obtain ⟨a11, b11, s11⟩ := box_none hx1 11 (by omega)
  have hbd : ∀ W : World, (Instr.build 31 #[]).run Tryz.prog W = .ok noK W := fun W => by kernel_rfl
  clear hx1
  gi_wp2
  refine ⟨.tuple #[noK, .int .i64 1], ?_, rfl, (unhide HF).1⟩
  simp [results, go_sem, a0, a1, a2, a3, a4, a5, a6, a7, a8, a9, a10, a11]
end Go.Proofs.YteakbnogfnbpkaaGreatDoor.Im

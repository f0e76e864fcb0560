/-
  Each and Back of package wide: the iterators over a copy of what was handed in.
-/
import Derived.Test.YtghcheoholkpbaaWLent
import Derived.Test.YtghcheoholkpbaaWGoes
import Derived.Laws.OwnMore
namespace Go.Proofs.Ytghcheoholkpbaa
open Go.RowKit Go.PlainAid Go.Lib
set_option linter.unusedVariables false

theorem clone_nil (x : Addr) (n c : Nat) (w : World) : (binOp .eql 31 (.slice (some x) n c) (.slice none 0 0)).run Try.prog w = .ok (.bool false) w := by kernel_rfl

set_option maxRecDepth 100000 in
set_option maxHeartbeats 1000000 in
theorem clone_any (w : World) (g off c : Nat) (us : List Int) (h : ReadsU w (some ⟨g, off, none⟩) us) (hn : us.length ≤ 1099511627776) :
    Calls Try.prog 63 #[.slice (some ⟨g, off, none⟩) us.length c] w fun e w' => ∃ a' c', e = .returned (.slice a' us.length c') ∧ ReadsU w' a' us ∧ us.length ≤ c' ∧ c' ≤ maxLen ∧ Below w.heap.size w w' := by
  obtain ⟨i0, hi, hz0, hz1, hz2⟩ := info_parts infoUnit
  have hrow0 : (w.alloc (.cells #[] 22)).ownsRow w.heap.size 22 1 (.slice (some ⟨w.heap.size, 0, none⟩) 0 0) 0 (u16s []) := by
    simpa using World.ownsRow_lit (base := w.heap.size) (e := 22) (size := 1) w #[] 0 (Nat.le_refl _) (Nat.zero_le _) (by simp)
  have hB0 : Below w.heap.size w (w.alloc (.cells #[] 22)) := by go_grown
  obtain ⟨v1, w1, hap, hown1, hgrow1, _⟩ := appU (w.alloc (.cells #[] 22)) w.heap.size _ 0 [] us (some ⟨g, off, none⟩) c hrow0 (h.below hB0) (by omega) (by simp)
  have hB1 : Below w.heap.size w w1 := belowGrown hB0 (by simp) hrow0 hgrow1
  rw [Nat.zero_add, List.nil_append] at hown1
  obtain ⟨a1, c1, rfl⟩ := row_is hown1
  have hrd := readsU_own hown1
  obtain ⟨hc1, hc2⟩ := row_caps hown1
  have HAP := hide hap
  have HRD := hide hrd
  clear hap hrd h hown1 hgrow1 hrow0
  have hnil := fun n w => clone_nil ⟨g, off, none⟩ n c w
  generalize us.length = n at *
  go_enter Try.func63, Try.ntmps63
  go_wp2_with (at_builtin; refine wpList_append_run (w.alloc (.cells #[] 22)) rfl _ _ 31 rfl _ _ rfl rfl _ _ (unhide HAP) ?_)
  go_ret
  exact ⟨a1, c1, rfl, unhide HRD, hc1, hc2, hB1⟩

/-- an iterator of wide's over units of its own -/
def ItOver (w : World) (f : Nat) (us : List Int) (v : Value) : Prop := ∃ a' c' Bs, v = .func (.func f) #[] #[.pointer (some ⟨Bs, 0, none⟩)] ∧ Boxed w Bs 31 (.slice a' us.length c') ∧ ReadsU w a' us ∧ us.length ≤ c' ∧ c' ≤ maxLen
theorem ItOver.below {w w' : World} {f : Nat} {us : List Int} {v : Value} (h : ItOver w f us v) (hb : Below w.heap.size w w') : ItOver w' f us v := by
  obtain ⟨a', c', Bs, h1, h2, h3, h4, h5⟩ := h
  exact ⟨a', c', Bs, h1, (hb.block Bs h2.lt).trans h2, h3.below hb, h4, h5⟩

theorem each_any (w : World) (g off c : Nat) (us : List Int) (h : ReadsU w (some ⟨g, off, none⟩) us) (hn : us.length ≤ 1099511627776) :
    Calls Try.prog 37 #[.slice (some ⟨g, off, none⟩) us.length c] w fun e w' => ∃ v, e = .returned v ∧ ItOver w' 74 us v ∧ Below w.heap.size w w' := by
  have HC := hide (clone_any w g off c us h hn)
  clear h
  generalize hnn : us.length = n at *
  have HNN := hide hnn
  clear hnn
  go_enter Try.func37, Try.ntmps37
  go_wp2_with fail
  refine (unhide HC).mono ?_
  rintro e w1 ⟨a', c', rfl, hrd, hc1, hc2, hb1⟩
  go_wp2_with fail
  refine (forward_any _ _ _ _).mono ?_
  rintro e w2 ⟨rfl, rfl⟩
  have hsz := hb1.size
  go_wp2
  go_ret
  refine ⟨_, rfl, ⟨a', c', w1.heap.size, rfl, ?_, hrd.below (by go_grown), by rw [unhide HNN]; exact hc1, hc2⟩, hb1.alloc hsz _⟩
  rw [unhide HNN]
  exact Boxed.new w1 _ _
theorem back_any (w : World) (g off c : Nat) (us : List Int) (h : ReadsU w (some ⟨g, off, none⟩) us) (hn : us.length ≤ 1099511627776) :
    Calls Try.prog 38 #[.slice (some ⟨g, off, none⟩) us.length c] w fun e w' => ∃ v, e = .returned v ∧ ItOver w' 78 us v ∧ Below w.heap.size w w' := by
  have HC := hide (clone_any w g off c us h hn)
  clear h
  generalize hnn : us.length = n at *
  have HNN := hide hnn
  clear hnn
  go_enter Try.func38, Try.ntmps38
  go_wp2_with fail
  refine (unhide HC).mono ?_
  rintro e w1 ⟨a', c', rfl, hrd, hc1, hc2, hb1⟩
  go_wp2_with fail
  refine (backward_any _ _ _ _).mono ?_
  rintro e w2 ⟨rfl, rfl⟩
  have hsz := hb1.size
  go_wp2
  go_ret
  refine ⟨_, rfl, ⟨a', c', w1.heap.size, rfl, ?_, hrd.below (by go_grown), by rw [unhide HNN]; exact hc1, hc2⟩, hb1.alloc hsz _⟩
  rw [unhide HNN]
  exact Boxed.new w1 _ _

/-- goes over such an iterator -/
theorem goesF_it (w : World) (v : Value) (us : List Int) (ga : Option Addr) (gc : Nat) (most : Int) (hf : Fits us) (hl : us.length ≤ 1099511627776) (hi : ItOver w 74 us v) (hma : MarksAt w us ga (wplaces us 0)) :
    Calls Try.prog 39 #[v, .slice ga (wplaces us 0).length gc, .bool false, .int .i64 most] w fun e w' => e = .returned (.bool true) ∧ Below w.heap.size w w' := by
  obtain ⟨a', c', Bs, rfl, h2, h3, h4, h5⟩ := hi
  exact goesF_any us a' ga c' gc Bs most w hf hl h4 h5 h2 h3 hma
theorem goesB_it (w : World) (v : Value) (us : List Int) (ga : Option Addr) (gc : Nat) (most : Int) (hf : Fits us) (hl : us.length ≤ 1099511627776) (hi : ItOver w 78 us v) (hma : MarksAt w us ga (wplaces us 0)) :
    Calls Try.prog 39 #[v, .slice ga (wplaces us 0).length gc, .bool true, .int .i64 most] w fun e w' => e = .returned (.bool true) ∧ Below w.heap.size w w' := by
  obtain ⟨a', c', Bs, rfl, h2, h3, h4, h5⟩ := hi
  exact goesB_any us a' ga c' gc Bs most w hf hl h4 h5 h2 h3 hma

end Go.Proofs.Ytghcheoholkpbaa

/-
  These texts, one behind the other: TrClU, TrClW, PStep.
-/
import Derived.Test.YtokillomaemocaaTrQc
import Derived.Test.YtokillomaemocaaTrQd
import Derived.WalkKit
import Derived.Deep.RegionHeld
import Derived.ControlIn
import Derived.Below
/-
  slices.Clone of a row of values.
-/
namespace Go.Proofs.Ytokillomaemocaa.VU
open Go.RowKit Go.PlainAid Go.Lib Go.PRow
set_option linter.unusedVariables false
set_option linter.unusedSimpArgs false
theorem hideR {p : Prop} (h : p) : Hid p := h
theorem unhideR {p : Prop} (h : Hid p) : p := h
set_option maxRecDepth 100000 in
theorem clone_any (w : World) (B : Nat) (v : Value) (xs : List El) (hr : RowE w B v xs) (hbig : xs.length * 1 ≤ 140737488355328) :
    Calls Try.prog 52 #[v] w fun e w' => ∃ s, e = .returned s ∧ RowE w' w.heap.size s xs ∧ Below w.heap.size w w' := by
  obtain ⟨a, cap, rfl, hc1, hc2, hnil⟩ := hr.form
  cases a with
  | none =>
    obtain rfl := hnil rfl
    have he : ∀ W : World, (binOp .eql 25 (.slice none ([] : List El).length cap) (.slice none 0 0)).run Try.prog W = .ok (.bool true) W := fun W => by first | exact run_eql_slice_nil W _ _ none _ _ Try.underlying25 | exact run_eql_slice_nil W _ _ none _ _ _ _ Try.underlying25
    simp only [List.length_nil] at he ⊢
    clear hr
    go_enter Try.func52, Try.ntmps52
    go_wp2
    go_ret
    exact ⟨_, rfl, RowV.nil _ _ _ _ _, Below.refl _ _⟩
  | some ad =>
    have hb1 : Below w.heap.size w (w.alloc (.cells #[] 5)) := (Below.refl _ w).alloc (Nat.le_refl _) _
    have h0 : RowE (w.alloc (.cells #[] 5)) w.heap.size (.slice (some ⟨w.heap.size, 0, none⟩) 0 0) [] := RowE.of (cur := #[]) (Nat.le_refl _) (heap_alloc_new w _) rfl (Nat.le_refl _) (Nat.zero_le _) rfl rfl
    obtain ⟨s', w', hr0, ht⟩ := append_es w.heap.size B (.slice (some ⟨w.heap.size, 0, none⟩) 0 0) (.slice (some ad) xs.length cap) [] xs _ (by simp) h0 (hr.below hb1) (by simpa using hbig)
    rw [List.nil_append] at ht
    have hr1 := hr0 25
    have HF := hideR (And.intro ht.1 (hb1.grown ht.2.1 (by simp) (fun k hk => by rw [blk_zero] at hk; cases hk)))
    have he : ∀ W : World, (binOp .eql 25 (.slice (some ad) xs.length cap) (.slice none 0 0)).run Try.prog W = .ok (.bool false) W := fun W => by first | exact run_eql_slice_nil W _ _ (some ad) _ _ Try.underlying25 | exact run_eql_slice_nil W _ _ (some ad) _ _ _ _ Try.underlying25
    clear hr hb1 h0 ht hr0
    generalize xs.length = n at *
    go_enter Try.func52, Try.ntmps52
    go_wp2_with (at_builtin; refine wpList_append_run _ rfl _ _ _ _ rfl _ _ rfl rfl s' w' hr1 ?_)
    go_ret
    exact ⟨_, rfl, (unhideR HF).1, (unhideR HF).2⟩
end Go.Proofs.Ytokillomaemocaa.VU
/-
  slices.Clone of a row of values.
-/
namespace Go.Proofs.Ytokillomaemocaa.VW
open Go.RowKit Go.PlainAid Go.Lib Go.PRow
set_option linter.unusedVariables false
set_option linter.unusedSimpArgs false
theorem hideR {p : Prop} (h : p) : Hid p := h
theorem unhideR {p : Prop} (h : Hid p) : p := h
set_option maxRecDepth 100000 in
theorem clone_any (w : World) (B : Nat) (v : Value) (xs : List El) (hr : RowE w B v xs) (hbig : xs.length * 2 ≤ 140737488355328) :
    Calls Try.prog 51 #[v] w fun e w' => ∃ s, e = .returned s ∧ RowE w' w.heap.size s xs ∧ Below w.heap.size w w' := by
  obtain ⟨a, cap, rfl, hc1, hc2, hnil⟩ := hr.form
  cases a with
  | none =>
    obtain rfl := hnil rfl
    have he : ∀ W : World, (binOp .eql 24 (.slice none ([] : List El).length cap) (.slice none 0 0)).run Try.prog W = .ok (.bool true) W := fun W => by first | exact run_eql_slice_nil W _ _ none _ _ Try.underlying24 | exact run_eql_slice_nil W _ _ none _ _ _ _ Try.underlying24
    simp only [List.length_nil] at he ⊢
    clear hr
    go_enter Try.func51, Try.ntmps51
    go_wp2
    go_ret
    exact ⟨_, rfl, RowV.nil _ _ _ _ _, Below.refl _ _⟩
  | some ad =>
    have hb1 : Below w.heap.size w (w.alloc (.cells #[] 34)) := (Below.refl _ w).alloc (Nat.le_refl _) _
    have h0 : RowE (w.alloc (.cells #[] 34)) w.heap.size (.slice (some ⟨w.heap.size, 0, none⟩) 0 0) [] := RowE.of (cur := #[]) (Nat.le_refl _) (heap_alloc_new w _) rfl (Nat.le_refl _) (Nat.zero_le _) rfl rfl
    obtain ⟨s', w', hr0, ht⟩ := append_es w.heap.size B (.slice (some ⟨w.heap.size, 0, none⟩) 0 0) (.slice (some ad) xs.length cap) [] xs _ (by simp) h0 (hr.below hb1) (by simpa using hbig)
    rw [List.nil_append] at ht
    have hr1 := hr0 24
    have HF := hideR (And.intro ht.1 (hb1.grown ht.2.1 (by simp) (fun k hk => by rw [blk_zero] at hk; cases hk)))
    have he : ∀ W : World, (binOp .eql 24 (.slice (some ad) xs.length cap) (.slice none 0 0)).run Try.prog W = .ok (.bool false) W := fun W => by first | exact run_eql_slice_nil W _ _ (some ad) _ _ Try.underlying24 | exact run_eql_slice_nil W _ _ (some ad) _ _ _ _ Try.underlying24
    clear hr hb1 h0 ht hr0
    generalize xs.length = n at *
    go_enter Try.func51, Try.ntmps51
    go_wp2_with (at_builtin; refine wpList_append_run _ rfl _ _ _ _ rfl _ _ rfl rfl s' w' hr1 ?_)
    go_ret
    exact ⟨_, rfl, (unhideR HF).1, (unhideR HF).2⟩
end Go.Proofs.Ytokillomaemocaa.VW
/-
  One operation of a region that draws its order, where its run is known.
-/
namespace Go.PStep
open Go
variable {P : Program} {ops : Array Oper} {Q : Exit → Act → World → Prop}

theorem wpOp_value {i : Nat} {o : Oper} {a : Act} {w w' : World} {v : Value} {K : Act → World → Prop} (hi : ops[i]? = some o) (hg : o.guard = none) (d : Option Tmp) (hd : o.dst = d) (hr : (execOp a.eval o).run P w = .ok (.value v) w') (h : K (a.put d v) w') : wpOp P ops Q i K a w := by
  subst hd
  unfold wpOp
  simp only [hi]
  have hw : Region.wanted o (yielded ops a.tmps) = true := by simp [Region.wanted, hg]
  rw [if_pos hw]
  left
  unfold Oper.wp
  rw [hr]
  exact h
theorem wpOp_skip {i : Nat} {o : Oper} {a : Act} {w w' : World} {K : Act → World → Prop} (hi : ops[i]? = some o) (hg : o.guard = none) (d : Option Tmp) (hd : o.dst = d) (hr : (execOp a.eval o).run P w = .ok .skip w') (h : K (a.put d undef) w') : wpOp P ops Q i K a w := by
  subst hd
  unfold wpOp
  simp only [hi]
  have hw : Region.wanted o (yielded ops a.tmps) = true := by simp [Region.wanted, hg]
  rw [if_pos hw]
  left
  unfold Oper.wp
  rw [hr]
  exact h
theorem wpOp_call {i : Nat} {o : Oper} {a : Act} {w w' : World} {f : Nat} {args : Array Value} {K : Act → World → Prop} {R : Ending → World → Prop} (hi : ops[i]? = some o) (hg : o.guard = none) (d : Option Tmp) (hd : o.dst = d) (hr : (execOp a.eval o).run P w = .ok (.enter f args) w')
    (hc : Calls P f args w' R) (h : ∀ e w'', R e w'' → ∃ v, e = .returned v ∧ K (a.put d v) w'') : wpOp P ops Q i K a w := by
  subst hd
  unfold wpOp
  simp only [hi]
  have hw : Region.wanted o (yielded ops a.tmps) = true := by simp [Region.wanted, hg]
  rw [if_pos hw]
  left
  unfold Oper.wp
  rw [hr]
  refine hc.mono ?_
  intro e w'' he
  obtain ⟨v, rfl, hk⟩ := h e w'' he
  exact hk
theorem take {md : Region.Mode} {S : World → Prop} {i : Nat} {oi : Oper} {v : Value} {fuel : Nat} {listed : Array Bool} {a : Act} {w : World} (d : Option Tmp) (hi : ops[i]? = some oi) (hd : oi.dst = d)
    (hs : Region.noSelect ops = true) (hf : Region.free md ops listed i = true) (hr : (Region.ready md ops listed).contains i = true)
    (hQ : ∀ c a w, Q (.panic c) (a.put d v) w → Q (.panic c) a w) (hy : YieldsIf P ops S oi v a) (hS : S w)
    (h : wpAnyH P md ops Q S fuel (listed.setIfInBounds i true) (a.put d v) w) : wpAnyH P md ops Q S (fuel + 1) listed a w := by
  subst hd
  exact wpAnyH_take hi hs hf hr hQ hy hS h
theorem wpOp_valueG {i : Nat} {o : Oper} {a : Act} {w w' : World} {v : Value} {K : Act → World → Prop} (hi : ops[i]? = some o) (hw : Region.wanted o (yielded ops a.tmps) = true) (d : Option Tmp) (hd : o.dst = d) (hr : (execOp a.eval o).run P w = .ok (.value v) w') (h : K (a.put d v) w') : wpOp P ops Q i K a w := by
  subst hd
  unfold wpOp
  simp only [hi]
  rw [if_pos hw]
  left
  unfold Oper.wp
  rw [hr]
  exact h
theorem wpOp_callG {i : Nat} {o : Oper} {a : Act} {w w' : World} {f : Nat} {args : Array Value} {K : Act → World → Prop} {R : Ending → World → Prop} (hi : ops[i]? = some o) (hw : Region.wanted o (yielded ops a.tmps) = true) (d : Option Tmp) (hd : o.dst = d) (hr : (execOp a.eval o).run P w = .ok (.enter f args) w')
    (hc : Calls P f args w' R) (h : ∀ e w'', R e w'' → ∃ v, e = .returned v ∧ K (a.put d v) w'') : wpOp P ops Q i K a w := by
  subst hd
  unfold wpOp
  simp only [hi]
  rw [if_pos hw]
  left
  unfold Oper.wp
  rw [hr]
  refine hc.mono ?_
  intro e w'' he
  obtain ⟨v, rfl, hk⟩ := h e w'' he
  exact hk
theorem one {md : Region.Mode} {S : World → Prop} {fuel : Nat} {listed : Array Bool} {a : Act} {w : World} (i : Nat) (hr : Region.ready md ops listed = [i])
    (h : wpOp P ops Q i (fun a' w' => S w' ∧ wpAnyH P md ops Q S fuel (listed.setIfInBounds i true) a' w') a w) : wpAnyH P md ops Q S (fuel + 1) listed a w :=
  wpAnyH_all hr (by simp) fun j hj => by rw [List.mem_singleton.1 hj]; exact h
/-- only the ordinary end -/
def only (K : Act → World → Prop) : Exit → Act → World → Prop
  | .normal, a, w => K a w
  | .exit _, _, _ => False
  | .goto _, _, _ => False
  | .ret, _, _ => False
  | .panic _, _, _ => False
  | .outgrown, _, _ => False
theorem wp_only {c : Code} {a : Act} {w : World} (h : c.wp P (only (Q .normal)) a w) : c.wp P Q a w :=
  wp_mono h fun e a w h => by cases e <;> first | exact h | exact h.elim
/-- what is asked at the end, by a name -/
theorem wpIn_named {F : Fence} {n : Nat} {c : Code} {a : Act} {w : World} (h : ∀ Q0, RowKit.Hid (Q0 = Q) → c.wpIn F n P Q0 a w) : c.wpIn F n P Q a w := h Q rfl
theorem wp_named {c : Code} {a : Act} {w : World} (h : ∀ Q0, RowKit.Hid (Q0 = Q) → c.wp P Q0 a w) : c.wp P Q a w := h Q rfl
end Go.PStep

/-
  slices.Clone of a row of values.
-/
import Derived.Test.YtokillomaemocaaTrRowU
namespace Go.Proofs.Ytokillomaemocaa.VU
open Go.RowKit Go.PlainAid Go.Lib Go.PRow
set_option linter.unusedVariables false
set_option linter.unusedSimpArgs false
theorem hideR {p : Prop} (h : p) : Hid p := h
theorem unhideR {p : Prop} (h : Hid p) : p := h
set_option maxRecDepth 100000 in
theorem clone_any (w : World) (B : Nat) (v : Value) (xs : List El) (hr : RowE w B v xs) (hbig : xs.length * 1 ≤ 140737488355328) :
    Calls Try.prog 52 #[v] w fun e w' => ∃ s, e = .returned s ∧ RowE w' w.heap.size s xs ∧ Below w.heap.size w w' := by
  obtain ⟨a, cap, rfl, hc1, hc2, hnil⟩ := hr.form
  cases a with
  | none =>
    obtain rfl := hnil rfl
    have he : ∀ W : World, (binOp .eql 25 (.slice none ([] : List El).length cap) (.slice none 0 0)).run Try.prog W = .ok (.bool true) W := fun W => by first | exact run_eql_slice_nil W _ _ none _ _ Try.underlying25 | exact run_eql_slice_nil W _ _ none _ _ _ _ Try.underlying25
    simp only [List.length_nil] at he ⊢
    clear hr
    go_enter Try.func52, Try.ntmps52
    go_wp2
    go_ret
    exact ⟨_, rfl, RowV.nil _ _ _ _ _, Below.refl _ _⟩
  | some ad =>
    have hb1 : Below w.heap.size w (w.alloc (.cells #[] 5)) := (Below.refl _ w).alloc (Nat.le_refl _) _
    have h0 : RowE (w.alloc (.cells #[] 5)) w.heap.size (.slice (some ⟨w.heap.size, 0, none⟩) 0 0) [] := RowE.of (cur := #[]) (Nat.le_refl _) (heap_alloc_new w _) rfl (Nat.le_refl _) (Nat.zero_le _) rfl rfl
    obtain ⟨s', w', hr0, ht⟩ := append_es w.heap.size B (.slice (some ⟨w.heap.size, 0, none⟩) 0 0) (.slice (some ad) xs.length cap) [] xs _ (by simp) h0 (hr.below hb1) (by simpa using hbig)
    rw [List.nil_append] at ht
    have hr1 := hr0 25
    have HF := hideR (And.intro ht.1 (hb1.grown ht.2.1 (by simp) (fun k hk => by rw [blk_zero] at hk; cases hk)))
    have he : ∀ W : World, (binOp .eql 25 (.slice (some ad) xs.length cap) (.slice none 0 0)).run Try.prog W = .ok (.bool false) W := fun W => by first | exact run_eql_slice_nil W _ _ (some ad) _ _ Try.underlying25 | exact run_eql_slice_nil W _ _ (some ad) _ _ _ _ Try.underlying25
    clear hr hb1 h0 ht hr0
    generalize xs.length = n at *
    go_enter Try.func52, Try.ntmps52
    go_wp2_with (at_builtin; refine wpList_append_run _ rfl _ _ _ _ rfl _ _ rfl rfl s' w' hr1 ?_)
    go_ret
    exact ⟨_, rfl, (unhideR HF).1, (unhideR HF).2⟩
end Go.Proofs.Ytokillomaemocaa.VU

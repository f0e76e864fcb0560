/-
  Runes, Text of package wide, for every units.
-/
import Derived.Test.YtghcheoholkpbaaWFwd
namespace Go.Proofs.Ytghcheoholkpbaa
open Go.RowKit Go.PlainAid Go.Lib Go.Shelf
attribute [local go_sem] Oper.semAt_some
set_option linter.unusedVariables false

abbrev i32l (l : List Int) : List Value := l.map (Value.int .i32)
theorem make_runes (w : World) (c : Nat) (hc : c ≤ 8796093022208) :
    ∃ w', (Instr.makeSlice 30 (.int .i64 0) (.int .i64 (c : Int))).run Try.prog w = .ok (.slice (some ⟨w.heap.size, 0, none⟩) 0 c) w' ∧
      w'.ownsRow w.heap.size 21 1 (.slice (some ⟨w.heap.size, 0, none⟩) 0 c) 0 [] ∧ w.grownBy w' none := by
  obtain ⟨i0, hi, hz0, hz1, hz2⟩ := info_parts infoRune
  exact run_make_own (P := Try.prog) w w.heap.size 30 21 i0 (.int .i32 0) 1 Try.underlying30 hi hz0 hz1 .i64 .i64 c (by rw [hz2]; omega) (by unfold maxLen; omega) (Nat.le_refl _)
theorem forward_some (f : Nat) (x : Value) (w : World) (h : f = 74) : (binOp .eql 50 (.func (.func f) #[] #[x]) .nilFunc).run Try.prog w = .ok (.bool false) w := by subst h; kernel_rfl
theorem ups_snoc {us : List Int} (pre : List (Up us)) (x : Up us) : i32l ((pre ++ [x]).map fun y => rA us y.1) = i32l (pre.map fun y => rA us y.1) ++ [.int .i32 (rA us x.1)] := by simp
theorem ups_all {us : List Int} (xs : List (Up us)) (h : xs.map (·.1) = wplaces us 0) : (xs.map fun y => rA us y.1) = wrunes us := by
  unfold wrunes; rw [← h, List.map_map]; rfl

set_option maxRecDepth 100000 in
set_option maxHeartbeats 2000000 in
theorem wrunes_any (us : List Int) (a : Option Addr) (c : Nat) (w : World) (hf : Fits us) (hl : us.length ≤ 1099511627776) (hcap : us.length ≤ c) (hcap2 : c ≤ maxLen) (hrd : ReadsU w a us) :
    Calls Try.prog 30 #[.slice a us.length c] w fun e w' => ∃ v, e = .returned v ∧ w'.ownsRow w.heap.size 21 1 v (wrunes us).length (i32l (wrunes us)) ∧ Below w.heap.size w w' := by
  refine (callsIn_wide (n := 5)).1 ?_
  refine callsIn_of_wp_marks Try.func30 rfl trivial ?_ rfl
  simp only [Try.ntmps30, List.size_toArray, List.length_cons, List.length_nil, Nat.reduceAdd, Nat.reduceSub, Array.replicate_succ, Array.replicate_zero, List.push_toArray, List.append_toArray, List.nil_append, List.cons_append]
  have hF : ∀ f, Fence.wide.fn f := fun _ => trivial
  have hws := fun x w => forward_some _ x w rfl
  obtain ⟨i0, hi, hz0, hz1, hz2⟩ := info_parts infoRune
  obtain ⟨w1, hmk, hown0, hgr0⟩ := make_runes w us.length (by omega)
  have hB1 : Below w.heap.size w w1 := (Below.refl _ _).grown hgr0 (Nat.le_refl _) (fun k e => by cases e)
  have hsz1 := hB1.size
  have hrd1 := hrd.below hB1
  gi_wp2_with (gi_at_call 60; refine (callsIn_wide.2 (forward_any _ _ _ _)).mono ?_; rintro e w' ⟨rfl, rfl⟩)
  obtain ⟨W0, hW0⟩ : ∃ W0, (w1.alloc (Obj.cells #[Value.slice (some ⟨w.heap.size, 0, none⟩) 0 us.length] 30)).alloc (Obj.cells #[Value.slice a us.length c] 31) = W0 := ⟨_, rfl⟩
  have hB0 : Below w.heap.size w W0 := by rw [← hW0]; exact (hB1.alloc hsz1 _).alloc (by simp; omega) _
  have b0 : Boxed W0 w1.heap.size 30 (.slice (some ⟨w.heap.size, 0, none⟩) 0 us.length) := by rw [← hW0]; exact (Boxed.new w1 _ _).alloc _
  have b1 : Boxed W0 (w1.heap.size + 1) 31 (.slice a us.length c) := by rw [← hW0]; simpa using Boxed.new (w1.alloc (Obj.cells #[Value.slice (some ⟨w.heap.size, 0, none⟩) 0 us.length] 30)) 31 (.slice a us.length c)
  have hr0 : W0.ownsRow w.heap.size 21 1 (.slice (some ⟨w.heap.size, 0, none⟩) 0 us.length) 0 [] := by rw [← hW0]; exact (hown0.alloc _).alloc _
  have hrd0 : ReadsU W0 a us := hrd.below hB0
  have hsz : W0.heap.size = w1.heap.size + 2 := by rw [← hW0]; simp
  rw [hW0]
  clear hW0 hws hmk hown0 hgr0 hrd1
  refine wpIn_rangeFunc_ownG rfl (by omega) (gf := 74) (lb := #[.pointer (some ⟨w1.heap.size + 1, 0, none⟩)]) rfl trivial (enters_of Try.func74 (by kernel_rfl) rfl)
    (forward_stops us a c _ (w1.heap.size + 1) (by omega) hf hl hcap hcap2 W0 b1 hrd0) kpU_t kpU_b (Below.refl _ _) (fun _ => rfl)
    (fun pre W => (pre.length ≤ us.length) ∧ (∃ v, Boxed W w1.heap.size 30 v ∧ W.ownsRow w.heap.size 21 1 v pre.length (i32l (pre.map fun y => rA us y.1)) ∧ True) ∧ Below w.heap.size w W)
    (fun c pre W => False)
    ((own_pure _ _).and ((Own.from (holdsRow_own _ _ _ _ _ _ _ (fun _ _ => True)) _).and (ownFrom_below (Nat.le_refl _) (by omega))))
    (fun c => own_pure _ _)
    ⟨by simp, ⟨_, b0, by simpa using hr0, trivial⟩, hB0⟩
    ?a1 ?assign ?body ?done ?stop
  case assign =>
    intro l x W K hK
    gi_wp2
    exact hK
  case body =>
    rintro l pre x W ⟨hpl, ⟨v, hv, hrow, _⟩, hB⟩ hlen
    have c2 := hv.cell
    have hle := hB.size
    gi_wp2_with (gi_at_builtin; refine wpListIn_append_own _ rfl _ _ 30 rfl w.heap.size 21 i0 (.int .i32 0) 1 4 Try.underlying30 hi hz0 hz1 hz2 rfl (by decide) _ _ _ rfl (hrow.alloc _) ⟨W.heap.size, 0, none⟩ 1 1 [.int .i32 (rA us x.1)] rfl rfl (cell_one_new _ _ _) (by simp [Value.oneCell']) (by unfold maxLen; omega) (by omega) (by simp; omega) ?_; intro v' w4 hown' hgrow _; obtain ⟨g', cap', rfl⟩ := ownsRow_succ hown'; obtain ⟨hv1, hv2, hr2, hk2, hb2⟩ := hv.appended (by decide) hrow hle (by omega) hown' hgrow; have hc1 := hv1.cell; have hf1 := hv1.frozen)
    exact ⟨hk2.from _, ⟨hk2.walks, fun hb => ((hb.alloc _).kept hgrow (hb.not_row (by decide) hrow)).other (by omega) _, fun _ => hrd.below (hB.trans hb2)⟩, by simp; omega, ⟨_, hv2, by rw [ups_snoc, List.length_append]; exact hr2, trivial⟩, hB.trans hb2⟩
  case done =>
    rintro D ys W hD hS ⟨hpl, ⟨v, hv, hrow, _⟩, hB⟩ hK
    have c2 := hv.cell
    obtain ⟨a', n', rfl⟩ := row_is hrow
    gi_wp2
    refine ⟨by simp, .inl ⟨_, _, rfl, run_takeDeferred hK, ?_⟩⟩
    refine ⟨.slice a' ys.length n', by simp [results, Try.f30, go_sem], _, rfl, ?_, hB.trans (belowK_b (w := w) (Nat.le_refl _) _ D _ _ (by omega) hK rfl rfl)⟩
    rw [← ups_all ys hS, List.length_map]
    exact ownsRow_putObj hrow _ hK rfl
  case stop =>
    rintro D c pre W hD hSp h hK
    exact h.elim

theorem wtext_any (us : List Int) (a : Option Addr) (c : Nat) (w : World) (hf : Fits us) (hl : us.length ≤ 1099511627776) (hcap : us.length ≤ c) (hcap2 : c ≤ maxLen) (hrd : ReadsU w a us) :
    Calls Try.prog 34 #[.slice a us.length c] w fun e w' => e = .returned (.string (runesBytes (wrunes us))) ∧ Below w.heap.size w w' := by
  have HR := hide (wrunes_any us a c w hf hl hcap hcap2 hrd)
  go_enter Try.func34, Try.ntmps34
  go_wp2_with fail
  refine (unhide HR).mono ?_
  rintro e w1 ⟨v, rfl, hrow, hb⟩
  have HO := hide (encode_own hrow)
  clear hrow HR
  go_wp2_with fail
  refine (unhide HO).mono ?_
  rintro e w2 ⟨rfl, rfl⟩
  go_wp2
  go_ret
  exact ⟨rfl, hb⟩

end Go.Proofs.Ytghcheoholkpbaa

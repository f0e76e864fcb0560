/-
  The law's function all (furrowlaw03): the lines that Each tells, the first few of them, or all.
-/
import Derived.Test.YtlaennakglhmjaaDoorLRead
import Derived.Test.YtlaennakglhmjaaDoorRPiM
namespace Go.Proofs.YtlaennakglhmjaaDoor
open Go.RowKit Go.PlainAid Go.Lib Go.Shelf Go.Seq2 Go.Seq3
attribute [local go_sem] Oper.semAt_some
set_option linter.unusedVariables false

theorem infoTold : (Tryd.prog.info? 31).map (fun i => (i.zero, i.size, i.bytes)) = some (some (.agg #[.int .i64 0, .string ⟨#[]⟩]), 2, 24) := by kernel_rfl
/-- the cells of the lines that were told -/
def toldCs (s : ByteArray) (l : List (Nat × Nat × Nat)) : List Value := l.flatMap fun x => [.int .i64 (x.1 : Nat), .string (s.extract x.2.1 x.2.2)]
theorem toldCs_snoc (s : ByteArray) (l : List (Nat × Nat × Nat)) (x : Nat × Nat × Nat) : toldCs s (l ++ [x]) = toldCs s l ++ [.int .i64 (x.1 : Nat), .string (s.extract x.2.1 x.2.2)] := by simp [toldCs]
/-- how many are told -/
def nOf (s : ByteArray) (few : Int) : Nat := if 1 ≤ few ∧ few < (linesL s).length then few.toNat else (linesL s).length
def ToldAt (V : World) (base b : Nat) (s : ByteArray) (pre : List (Nat × Nat × Nat)) : Prop := ∃ v, Boxed V b 28 v ∧ V.ownsRow base 31 2 v pre.length (toldCs s pre)
def AllI (s : ByteArray) (few : Int) (w : World) (pre : List (Nat × Nat × Nat)) (V : World) : Prop :=
  ¬ (1 ≤ few ∧ few ≤ (pre.length : Int)) ∧ pre.length ≤ s.size ∧ ToldAt V w.heap.size (w.heap.size + 1) s pre ∧ Boxed V w.heap.size 3 (.int .i64 few) ∧ Below w.heap.size w V
def AllX (s : ByteArray) (few : Int) (w : World) (c : Code) (pre : List (Nat × Nat × Nat)) (V : World) : Prop :=
  c = .exit 0 ∧ (1 ≤ few ∧ (pre.length : Int) = few) ∧ ToldAt V w.heap.size (w.heap.size + 1) s pre ∧ Below w.heap.size w V
theorem ToldAt.grown {A B : World} {row : Option Nat} {base b : Nat} {s : ByteArray} {pre : List (Nat × Nat × Nat)} (h : ToldAt A base b s pre) (hg : A.grownBy B row) (hr : ∀ r, row = some r → b < r ∧ ∃ o : Obj, A.heap[r]? = some o ∧ o.isCells = false) : ToldAt B base b s pre := by
  obtain ⟨v, h1, h2⟩ := h
  refine ⟨v, h1.kept hg (fun e => by have := (hr b e.symm).1; omega), row_grown h2 hg (fun r e => (hr r e).2)⟩
theorem take_n (s : ByteArray) (few : Int) (pre : List (Nat × Nat × Nat)) (hp : pre <+: linesL s) (h1 : 1 ≤ few) (h2 : (pre.length : Int) = few) : (linesL s).take (nOf s few) = pre ∧ nOf s few = pre.length := by
  obtain ⟨r, hr⟩ := hp
  have hl := congrArg List.length hr
  rw [List.length_append] at hl
  unfold nOf
  by_cases h : few < (linesL s).length
  · rw [if_pos ⟨h1, h⟩]
    have : few.toNat = pre.length := by omega
    rw [this, ← hr, List.take_left' rfl]; exact ⟨rfl, rfl⟩
  · rw [if_neg (fun k => h k.2), List.take_of_length_le (Nat.le_refl _)]
    have : r = [] := List.length_eq_zero_iff.1 (by omega)
    rw [this, List.append_nil] at hr
    rw [hr]; exact ⟨rfl, rfl⟩
theorem take_all (s : ByteArray) (few : Int) (h : ¬ (1 ≤ few ∧ few ≤ ((linesL s).length : Int))) : (linesL s).take (nOf s few) = linesL s ∧ nOf s few = (linesL s).length := by
  unfold nOf
  rw [if_neg (fun k => h ⟨k.1, by omega⟩), List.take_of_length_le (Nat.le_refl _)]; exact ⟨rfl, rfl⟩

set_option maxRecDepth 100000 in
set_option maxHeartbeats 2000000 in
theorem all_any (s : ByteArray) (few : Int) (w : World) (hs : s.size ≤ 1073741824) :
    Calls Tryd.prog 16 #[.string s, .int .i64 few] w fun e w' => ∃ v, e = .returned v ∧ w'.ownsRow w.heap.size 31 2 v (nOf s few) (toldCs s ((linesL s).take (nOf s few))) ∧ Below w.heap.size w w' := by
  refine (callsIn_wide (n := 9)).1 ?_
  refine callsIn_of_wp_marks Tryd.func16 rfl trivial ?_ rfl
  simp only [Tryd.ntmps16, List.size_toArray, List.length_cons, List.length_nil, Nat.reduceAdd, Nat.reduceSub, Array.replicate_succ, Array.replicate_zero, List.push_toArray, List.append_toArray, List.nil_append, List.cons_append]
  have hF : ∀ f, Fence.wide.fn f := fun _ => trivial
  obtain ⟨i0, hi0, hz0, hz1, hz2⟩ := info_parts infoTold
  gi_wp2_with (gi_at_call 15; refine (callsIn_wide.2 (each_in s _)).mono ?_; rintro e w' ⟨rfl, rfl⟩)
  obtain ⟨W0, hW0⟩ : ∃ W0, ((w.alloc (Obj.cells #[Value.int IntKind.i64 few] 3)).alloc (Obj.cells #[Value.slice none 0 0] 28)).alloc (Obj.cells #[Value.string s] 9) = W0 := ⟨_, rfl⟩
  have hB0 : Below w.heap.size w W0 := by rw [← hW0]; go_grown
  have hsz : W0.heap.size = w.heap.size + 3 := by rw [← hW0]; simp
  have b0 : Boxed W0 w.heap.size 3 (.int .i64 few) := by rw [← hW0]; exact ((Boxed.new w _ _).alloc _).alloc _
  have b1 : Boxed W0 (w.heap.size + 1) 28 (.slice none 0 0) := by
    rw [← hW0]; simpa [Boxed] using (Boxed.new (w.alloc (Obj.cells #[Value.int IntKind.i64 few] 3)) 28 (.slice none 0 0)).alloc (Obj.cells #[Value.string s] 9)
  have b2 : Boxed W0 (w.heap.size + 1 + 1) 9 (.string s) := by
    rw [← hW0]; simpa [Boxed] using Boxed.new ((w.alloc (Obj.cells #[Value.int IntKind.i64 few] 3)).alloc (Obj.cells #[Value.slice none 0 0] 28)) 9 (.string s)
  rw [hW0]
  clear hW0
  refine range3G (by omega) (gf := 36) (lb := #[.pointer (some ⟨w.heap.size + 1 + 1, 0, none⟩)]) rfl (enters_of Tryd.func36 (by kernel_rfl) rfl)
    (each_gives s (by omega) _ (w.heap.size + 1 + 1) (by omega) W0 b2) (Below.refl _ _) (fun _ => rfl)
    (AllI s few w) (AllX s few w)
    (fun st A B row hx hg hr => by
        obtain ⟨e1, e2, e3, e4, e5⟩ := hx
        exact ⟨e1, e2, e3.grown hg (fun r e => ⟨by have := (hr r e).1; omega, (hr r e).2⟩), own_block (β := Unit) _ _ _ rfl () A B row e4 hg hr, ownFrom_below (β := Unit) (Nat.le_refl _) (by omega) () A B row e5 hg hr⟩)
    (fun c st A B row hx hg hr => by
        obtain ⟨e1, e2, e3, e5⟩ := hx
        exact ⟨e1, e2, e3.grown hg (fun r e => ⟨by have := (hr r e).1; omega, (hr r e).2⟩), ownFrom_below (β := Unit) (Nat.le_refl _) (by omega) () A B row e5 hg hr⟩)
    ⟨by simp; omega, by simp, ⟨.slice none 0 0, b1, by simpa [toldCs] using World.ownsRow_nil W0 _ _ _⟩, b0, hB0⟩
    ?a1 ?assign ?body ?done ?stop
  case assign =>
    intro l x W K hK
    gi_wp2
    exact hK
  case body =>
    have HSZ := hide hsz
    clear hsz
    rintro l pre x V hl hsz2 ⟨r, hr⟩ ⟨hno, hpl, ⟨v, hv, hrow⟩, f0, hB⟩ hSp
    have hm := lines_mem s x (hSp.subset (by simp))
    have hlen : pre.length + 1 ≤ s.size := by
      have h1 := hSp.length_le
      have h2 := lines_len s
      simp at h1; omega
    have c0 := f0.cell
    have c2 := hv.cell
    have hle := hB.size
    have hsz := unhide HSZ
    obtain ⟨va, vc, rfl⟩ := row_slice2 hrow
    have HSN := hide (toldCs_snoc s pre x)
    have HSP := hide hSp
    have HNO := hide hno
    clear hSp hno
    generalize s.extract x.2.1 x.2.2 = T at *
    generalize x.1 = X at *
    by_cases q : (pre.length : Int) + 1 = few
    · have d1 : ((pre.length : Int) + 1 == few) = true := by simpa using q
      gi_wp2_with (gi_at_builtin; refine wpListIn_append_own _ rfl _ _ 28 rfl w.heap.size 31 i0 (.agg #[.int .i64 0, .string ⟨#[]⟩]) 2 24 Tryd.underlying28 hi0 hz0 hz1 hz2 rfl (by decide) _ _ _ rfl (hrow.alloc _) ⟨V.heap.size, 0, none⟩ 1 1 [.int .i64 (X : Nat), .string T] rfl rfl (cell_two_new _ _ _ _) (by simp [Value.oneCell']) (by unfold maxLen; omega) (by omega) (by simp; omega) ?_; intro v' w1 hown' hgrow _; obtain ⟨g', cap', rfl⟩ := ownsRow_succ hown'; obtain ⟨hv1, hv2, hr2, hk2, hb2⟩ := hv.appended (by decide) hrow hle (by omega) hown' hgrow; have hc1 := hv1.cell; have hf1 := hv1.frozen; have d0 := (f0.alloc _).kept hgrow (f0.not_row (by decide) hrow); have e0 := d0.cell)
      exact ⟨hk2.from _, rfl, ⟨by omega, by simp; omega⟩, ⟨_, hv2, by rw [unhide HSN, List.length_append]; exact hr2⟩, hB.trans hb2⟩
    · have d1 : ((pre.length : Int) + 1 == few) = false := by simpa using q
      gi_wp2_with (gi_at_builtin; refine wpListIn_append_own _ rfl _ _ 28 rfl w.heap.size 31 i0 (.agg #[.int .i64 0, .string ⟨#[]⟩]) 2 24 Tryd.underlying28 hi0 hz0 hz1 hz2 rfl (by decide) _ _ _ rfl (hrow.alloc _) ⟨V.heap.size, 0, none⟩ 1 1 [.int .i64 (X : Nat), .string T] rfl rfl (cell_two_new _ _ _ _) (by simp [Value.oneCell']) (by unfold maxLen; omega) (by omega) (by simp; omega) ?_; intro v' w1 hown' hgrow _; obtain ⟨g', cap', rfl⟩ := ownsRow_succ hown'; obtain ⟨hv1, hv2, hr2, hk2, hb2⟩ := hv.appended (by decide) hrow hle (by omega) hown' hgrow; have hc1 := hv1.cell; have hf1 := hv1.frozen; have d0 := (f0.alloc _).kept hgrow (f0.not_row (by decide) hrow); have e0 := d0.cell)
      exact ⟨hk2.from _, ⟨hk2.walks, fun k t y hk1 ht hb => ((hb.alloc _).kept hgrow (hb.not_row (by rcases ht with rfl | rfl <;> decide) hrow)).other (by omega) _⟩, (by have := unhide HNO; simp; omega), by simp; omega, ⟨_, hv2, by rw [unhide HSN, List.length_append]; exact hr2⟩, d0.other (by omega) _, hB.trans hb2⟩
  case done =>
    rintro D xs V hD hS ⟨hno, hpl, ⟨v, hv, hrow⟩, f0, hB⟩ hK
    subst hS
    have c2 := hv.cell
    have HT := hide (take_all s few hno)
    clear hno
    obtain ⟨va, vc, rfl⟩ := row_slice2 hrow
    gi_wp2
    refine ⟨by simp, .inl ⟨_, _, rfl, run_takeDeferred hK, ?_⟩⟩
    refine ⟨_, results_tmp rfl _ _ _, _, rfl, ?_, hB.trans (belowK_b (w := w) (Nat.le_refl _) _ D _ _ (by omega) hK rfl rfl)⟩
    rw [(unhide HT).1, (unhide HT).2]
    exact ownsRow_putObj hrow _ hK rfl
  case stop =>
    rintro D c pre V hD hSp ⟨rfl, ⟨h1, h2⟩, ⟨v, hv, hrow⟩, hB⟩ hK
    have c2 := hv.cell
    have HT := hide (take_n s few pre hSp h1 h2)
    clear hSp h2
    obtain ⟨va, vc, rfl⟩ := row_slice2 hrow
    gi_wp2
    refine ⟨by simp, .inl ⟨_, _, rfl, run_takeDeferred hK, ?_⟩⟩
    refine ⟨_, results_tmp rfl _ _ _, _, rfl, ?_, hB.trans (belowK_b (w := w) (Nat.le_refl _) _ D _ _ (by omega) hK rfl rfl)⟩
    rw [(unhide HT).1, (unhide HT).2]
    exact ownsRow_putObj hrow _ hK rfl
end Go.Proofs.YtlaennakglhmjaaDoor

/-
  Parts of package utf: what a text stands for by parts, as a new list.
-/
import Derived.Test.YtjkchpjopgpeeaaPieces
namespace Go.Proofs.Ytjkchpjopgpeeaa
open Go.RowKit Go.PlainAid Go.Lib Go.Shelf Go.Seq2
attribute [local go_sem] Oper.semAt_some

theorem infoRune2 : (Try.prog.info? 21).map (fun i => (i.zero, i.size, i.bytes)) = some (some (.int .i32 0), 1, 4) := by kernel_rfl
/-- the characters of the pieces that begin at the places l -/
def partVals (s : ByteArray) (l : List Nat) : List Value := l.map fun i => .int .i32 ((Utf8.decode s i).1 : Nat)
theorem partVals_snoc (s : ByteArray) (l : List Nat) (i : Nat) : partVals s (l ++ [i]) = partVals s l ++ [.int .i32 ((Utf8.decode s i).1 : Nat)] := by simp [partVals]
/-- a row of elements of a type that is none of a box's -/
theorem calm_row {β : Type} (B m : Nat) (T : TypeId → Prop) (n₀ b : Nat) (t e : TypeId) (size : Nat) (k : β → Nat) (f : β → List Value) (hb : b < B) (hT : ∀ t, T t → t ≠ e) :
    Calm2 B m T (fun s W => ∃ v, Boxed W b t v ∧ W.ownsRow n₀ e size v (k s) (f s) ∧ True) := by
  rintro s W i ti u v h1 h2 h3 h4 ⟨x, hx1, hx2, _⟩
  exact ⟨x, hx1.other (by omega) _, hx2.kept (grownBy_setCell' _ _ _) (.inr (h4.not_row (hT _ h3) hx2).symm), trivial⟩

set_option maxRecDepth 100000 in
set_option maxHeartbeats 2000000 in
theorem parts_any (s : ByteArray) (w : World) (hs : s.size ≤ 4398046511104) :
    Calls Try.prog 22 #[.string s] w fun e w' => ∃ v, e = .returned v ∧ w'.ownsRow w.heap.size 21 1 v (pieces s).length (partVals s (pieces s)) ∧ Below w.heap.size w w' := by
  have hsm : s.size ≤ maxLen := by unfold maxLen; omega
  refine (callsIn_wide (n := 9)).1 ?_
  refine callsIn_of_wp_marks Try.func22 rfl trivial ?_ rfl
  simp only [Try.ntmps22, List.size_toArray, List.length_cons, List.length_nil, Nat.reduceAdd, Nat.reduceSub, Array.replicate_succ, Array.replicate_zero, List.push_toArray, List.append_toArray, List.nil_append, List.cons_append]
  have hF : ∀ f, Fence.wide.fn f := fun _ => trivial
  obtain ⟨i0, hi, hz0, hz1, hz2⟩ := info_parts infoRune2
  gi_wp2_with (gi_at_call 21; refine (callsIn_wide.2 (piecesIt_in s _)).mono ?_; rintro e w' ⟨rfl, rfl⟩)
  obtain ⟨W0, hW0⟩ : ∃ W0, (w.alloc (Obj.cells #[Value.slice none 0 0] 38)).alloc (Obj.cells #[Value.string s] 9) = W0 := ⟨_, rfl⟩
  have hB0 : Below w.heap.size w W0 := by rw [← hW0]; go_grown
  have b0 : Boxed W0 w.heap.size 38 (.slice none 0 0) := by rw [← hW0]; exact (Boxed.new w _ _).alloc _
  have b1 : Boxed W0 (w.heap.size + 1) 9 (.string s) := by rw [← hW0]; simpa using Boxed.new (w.alloc (Obj.cells #[Value.slice none 0 0] 38)) 9 (.string s)
  have hsz : W0.heap.size = w.heap.size + 2 := by rw [← hW0]; simp
  rw [hW0]
  clear hW0
  refine range2 (by omega) (gf := 37) (lb := #[.pointer (some ⟨w.heap.size + 1, 0, none⟩)]) rfl (enters_of Try.func37 (by kernel_rfl) rfl)
    (pieces_gives s hsm _ (w.heap.size + 1) (by omega) W0 b1) (Below.refl _ _) (fun _ => rfl)
    (fun pre W => pre.length ≤ s.size ∧ (∃ v, Boxed W w.heap.size 38 v ∧ W.ownsRow w.heap.size 21 1 v pre.length (partVals s (vals pre)) ∧ True) ∧ Below w.heap.size w W)
    (fun _ _ _ => False)
    ((own_pure _ _).and ((Own.from (holdsRow_own _ _ _ _ _ _ _ (fun _ _ => True)) _).and (ownFrom_below (Nat.le_refl _) (by omega))))
    (fun c _ _ _ _ h _ _ => h)
    ((calm_pure _ _ _ _).and ((calm_row _ _ _ _ _ _ _ _ _ _ (by omega) (fun _ h => h)).and (calm_below _ (by omega))))
    ⟨by simp, ⟨_, b0, by simpa [partVals, vals] using World.ownsRow_nil W0 _ _ _, trivial⟩, hB0⟩
    (fun x a' _ => a' = { tmps := #[.string s, undef, .slice none 0 0, .pointer (some ⟨w.heap.size, 0, none⟩), undef, .int .i32 ((Utf8.decode s x.1).1 : Nat), .string s, .func (.func 37) #[] #[.pointer (some ⟨w.heap.size + 1, 0, none⟩)], .string (s.extract x.1 (pieceEnd s x.1)), .int .i32 ((Utf8.decode s x.1).1 : Nat), undef, undef, undef, undef, undef], defers := [] }) (fun x a' => own_pure _ _) ?assign ?body ?done ?stop
  case assign =>
    rintro l pre x W K hle hi hK
    gi_wp2
    exact hK _ _ (KeepsFrom.refl _ _) (KpB.refl _) hi rfl
  case body =>
    rintro l pre x a' W hl hle hrec ⟨hpl, ⟨v, hv, hrow, _⟩, hB⟩ rfl hlen
    have c2 := hv.cell
    have hBs := hB.size
    gi_wp2_with (gi_at_builtin; refine wpListIn_append_own _ rfl _ _ 38 rfl w.heap.size 21 i0 (.int .i32 0) 1 4 Try.underlying38 hi hz0 hz1 hz2 rfl (by decide) _ _ _ rfl (hrow.alloc _) ⟨W.heap.size, 0, none⟩ 1 1 [.int .i32 ((Utf8.decode s x.1).1 : Nat)] rfl rfl (cell_one_new _ _ _) (by simp [Value.oneCell']) (by unfold maxLen; omega) (by omega) (by simp; omega) ?_; intro v' w1 hown' hgrow _; obtain ⟨g', cap', rfl⟩ := ownsRow_succ hown'; obtain ⟨hv1, hv2, hr2, hk2, hb2⟩ := hv.appended (by decide) hrow hBs (by omega) hown' hgrow; have hc1 := hv1.cell; have hf1 := hv1.frozen)
    refine ⟨hk2.from _, ⟨hk2.walks, ?_⟩, by simp; omega, ⟨_, hv2, by rw [vals_snoc, partVals_snoc, List.length_append]; exact hr2, trivial⟩, hB.trans hb2⟩
    intro k t u hk ht hb
    exact ((hb.alloc _).kept hgrow (hb.not_row ht hrow)).other (by rcases hk with hk | hk <;> omega) _
  case done =>
    rintro D ys W hD hS ⟨hpl, ⟨v, hv, hrow, _⟩, hB⟩ hK
    have c2 := hv.cell
    obtain ⟨a, n', c, rfl⟩ : ∃ a n' c, v = .slice a n' c := by
      rcases hrow.2 with ⟨rfl, _⟩ | ⟨g, cap, cur, rfl, _⟩
      · exact ⟨_, _, _, rfl⟩
      · exact ⟨_, _, _, rfl⟩
    gi_wp2
    refine ⟨by simp, .inl ⟨_, _, rfl, run_takeDeferred hK, ?_⟩⟩
    refine ⟨.slice a n' c, by simp [results, Try.f22, go_sem], _, rfl, ?_, hB.trans (belowK_b (w := w) (Nat.le_refl _) _ D _ _ (by omega) hK rfl rfl)⟩
    rw [← hS, vals_length]
    exact ownsRow_putObj hrow _ hK rfl
  case stop =>
    rintro D c pre W _ _ h _
    exact h.elim

end Go.Proofs.Ytjkchpjopgpeeaa

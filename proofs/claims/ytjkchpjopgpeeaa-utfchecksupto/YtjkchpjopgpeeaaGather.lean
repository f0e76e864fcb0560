/-
  The law's function all: the pairs that All tells, the first few of them, or all.
-/
import Derived.Test.YtjkchpjopgpeeaaAll
namespace Go.Proofs.Ytjkchpjopgpeeaa
open Go.RowKit Go.PlainAid Go.Lib Go.Shelf
attribute [local go_sem] Oper.semAt_some

theorem infoPair : (Try.prog.info? 29).map (fun i => (i.zero, i.size, i.bytes)) = some (some (.agg #[.int .i64 0, .int .i32 0]), 2, 16) := by kernel_rfl

/-- the cells of the pairs of the characters at the places l -/
def pairCells (s : ByteArray) (l : List Nat) : List Value := l.flatMap fun i => [.int .i64 (i : Nat), .int .i32 ((Utf8.decode s i).1 : Nat)]
theorem pairCells_snoc (s : ByteArray) (l : List Nat) (i : Nat) : pairCells s (l ++ [i]) = pairCells s l ++ [.int .i64 (i : Nat), .int .i32 ((Utf8.decode s i).1 : Nat)] := by simp [pairCells]

theorem pairs_snoc {s : ByteArray} (pre : List (Pl s)) (x : Pl s) : pairCells s ((pre ++ [x]).map (·.1)) = pairCells s (pre.map (·.1)) ++ [.int .i64 (x.1 : Nat), .int .i32 ((Utf8.decode s x.1).1 : Nat)] := by
  rw [List.map_append]; exact pairCells_snoc s _ _

/-- the first few of them: a number below 0 means all -/
def fewOf (few : Int) (l : List Nat) : List Nat := if few < 0 then l else l.take (few + 1).toNat
theorem all_some (f : Nat) (x : Value) (w : World) (h : f = 40) : (binOp .eql 59 (.func (.func f) #[] #[x]) .nilFunc).run Try.prog w = .ok (.bool false) w := by subst h; kernel_rfl

set_option maxRecDepth 100000 in
set_option maxHeartbeats 2000000 in
theorem gather_on (s : ByteArray) (few : Int) (w : World) (hs : s.size ≤ 4398046511104) (hf : few ≤ 9223372036854775806) :
    Calls Try.prog 7 #[.string s, .bool false, .int .i64 few] w fun e w' => ∃ v, e = .returned v ∧ w'.ownsRow w.heap.size 29 2 v (fewOf few (places s)).length (pairCells s (fewOf few (places s))) ∧ Below w.heap.size w w' := by
  refine (callsIn_wide (n := 5)).1 ?_
  refine callsIn_of_wp_marks Try.func7 rfl trivial ?_ rfl
  simp only [Try.ntmps7, List.size_toArray, List.length_cons, List.length_nil, Nat.reduceAdd, Nat.reduceSub, Array.replicate_succ, Array.replicate_zero, List.push_toArray, List.append_toArray, List.nil_append, List.cons_append]
  have hF : ∀ f, Fence.wide.fn f := fun _ => trivial
  have hws := fun x w => all_some _ x w rfl
  obtain ⟨i0, hi, hz0, hz1, hz2⟩ := info_parts infoPair
  gi_wp2_with (gi_at_call 25; refine (callsIn_wide.2 (allIt_in s _)).mono ?_; rintro e w' ⟨rfl, rfl⟩)
  clear hws
  obtain ⟨W0, hW0⟩ : ∃ W0, ((((w.alloc (Obj.cells #[Value.int IntKind.i64 few] 3)).alloc (Obj.cells #[Value.slice none 0 0] 24)).alloc (Obj.cells #[Value.slice none 0 0] 24)).alloc (Obj.cells #[Value.string s] 9)) = W0 := ⟨_, rfl⟩
  have hB0 : Below w.heap.size w W0 := by rw [← hW0]; go_grown
  have b0 : Boxed W0 w.heap.size 3 (.int .i64 few) := by rw [← hW0]; exact (((Boxed.new w _ _).alloc _).alloc _).alloc _
  have b1 : Boxed W0 (w.heap.size + 1) 24 (.slice none 0 0) := by rw [← hW0]; simpa using ((Boxed.new (w.alloc (Obj.cells #[Value.int IntKind.i64 few] 3)) 24 (.slice none 0 0)).alloc (Obj.cells #[Value.slice none 0 0] 24)).alloc (Obj.cells #[Value.string s] 9)
  have b2 : Boxed W0 (w.heap.size + 1 + 1) 24 (.slice none 0 0) := by rw [← hW0]; simpa using (Boxed.new ((w.alloc (Obj.cells #[Value.int IntKind.i64 few] 3)).alloc (Obj.cells #[Value.slice none 0 0] 24)) 24 (.slice none 0 0)).alloc (Obj.cells #[Value.string s] 9)
  have b3 : Boxed W0 (w.heap.size + 1 + 1 + 1) 9 (.string s) := by rw [← hW0]; simpa using Boxed.new (((w.alloc (Obj.cells #[Value.int IntKind.i64 few] 3)).alloc (Obj.cells #[Value.slice none 0 0] 24)).alloc (Obj.cells #[Value.slice none 0 0] 24)) 9 (.string s)
  have hsz : W0.heap.size = w.heap.size + 4 := by rw [← hW0]; simp
  rw [hW0]
  clear hW0
  refine wpIn_rangeFunc_ownG rfl (by omega) (gf := 40) (lb := #[.pointer (some ⟨w.heap.size + 1 + 1 + 1, 0, none⟩)]) rfl trivial (enters_of Try.func40 (by kernel_rfl) rfl)
    (allIt_stops s _ (w.heap.size + 1 + 1 + 1) (by omega) W0 b3) kpS_t kpS_b (Below.refl _ _) (fun _ => rfl)
    (fun pre W => ((0 ≤ few → (pre.length : Int) ≤ few) ∧ pre.length ≤ s.size) ∧ (∃ v, Boxed W (w.heap.size + 1 + 1) 24 v ∧ W.ownsRow w.heap.size 29 2 v pre.length (pairCells s (pre.map (·.1))) ∧ True) ∧ W.heap[w.heap.size]? = some (.cells #[.int .i64 few] 3) ∧ W.heap[w.heap.size + 1]? = some (.cells #[.slice none 0 0] 24) ∧ Below w.heap.size w W)
    (fun c pre W => (c = .ret ∧ 0 ≤ few ∧ (pre.length : Int) = few + 1) ∧ (∃ v, Boxed W (w.heap.size + 1) 24 v ∧ W.ownsRow w.heap.size 29 2 v pre.length (pairCells s (pre.map (·.1))) ∧ True) ∧ Below w.heap.size w W)
    ((own_pure _ _).and ((Own.from (holdsRow_own _ _ _ _ _ _ _ (fun _ _ => True)) _).and ((own_block _ _ _ rfl).and ((own_block _ _ _ rfl).and (ownFrom_below (Nat.le_refl _) (by omega))))))
    (fun c => OwnFrom.and (own_pure _ _) ((Own.from (holdsRow_own _ _ _ _ _ _ _ (fun _ _ => True)) _).and (ownFrom_below (Nat.le_refl _) (by omega))))
    ⟨⟨fun h => by simpa using h, by simp⟩, ⟨_, b2, by simpa [pairCells] using World.ownsRow_nil W0 _ _ _, trivial⟩, b0, b1, hB0⟩
    ?a1 ?assign ?body ?done ?stop
  case assign =>
    intro l x W K hK
    gi_wp2
    exact hK
  case body =>
    rintro l pre x W ⟨⟨hfew, hpl⟩, ⟨v, hv, hrow, _⟩, h0, h1, hB⟩ hlen
    have c0 := (show Boxed W w.heap.size 3 (.int .i64 few) from h0).cell
    have c2 := hv.cell
    have hle := hB.size
    have hlt1 := (Array.getElem?_eq_some_iff.1 h1).1
    have h3 : (few < 0 ∧ decide (0 ≤ few) = false) ∨ (0 ≤ few ∧ (pre.length : Int) + 1 ≤ few) ∨ (0 ≤ few ∧ few < (pre.length : Int) + 1) := by
      by_cases hn : few < 0
      · exact .inl ⟨hn, by simp; omega⟩
      · omega
    have HFEW := hide hfew
    clear hfew
    rcases h3 with ⟨q1, q2⟩ | ⟨q1, q2⟩ | ⟨q1, q2⟩
    all_goals gi_wp2_with (gi_at_builtin; refine wpListIn_append_own _ rfl _ _ 24 rfl w.heap.size 29 i0 (.agg #[.int .i64 0, .int .i32 0]) 2 16 Try.underlying24 hi hz0 hz1 hz2 rfl (by decide) _ _ _ rfl (hrow.alloc _) ⟨W.heap.size, 0, none⟩ 1 1 [.int .i64 (x.1 : Nat), .int .i32 ((Utf8.decode s x.1).1 : Nat)] rfl rfl (cell_two_new _ _ _ _) (by simp [Value.oneCell']) (by unfold maxLen; omega) (by omega) (by simp; omega) ?_; intro v' w1 hown' hgrow _; obtain ⟨g', cap', rfl⟩ := ownsRow_succ hown'; obtain ⟨hv1, hv2, hr2, hk2, hb2⟩ := hv.appended (by decide) hrow hle (by omega) hown' hgrow; have hc1 := hv1.cell; have hf1 := hv1.frozen; have d0 := ((show Boxed W w.heap.size 3 (.int .i64 few) from h0).alloc _).kept hgrow ((show Boxed W w.heap.size 3 (.int .i64 few) from h0).not_row (by decide) hrow); have d1 := ((show Boxed W (w.heap.size + 1) 24 (.slice none 0 0) from h1).alloc _).kept hgrow ((show Boxed W (w.heap.size + 1) 24 (.slice none 0 0) from h1).not_row (by decide) hrow); have e0 := d0.cell; have e1 := d1.cell; have e2 := d1.frozen)
    · exact ⟨hk2.from _, ⟨hk2.walks, fun hb => ((hb.alloc _).kept hgrow (hb.not_row (by decide) hrow)).other (by omega) _⟩, ⟨fun h => by omega, by simp; omega⟩, ⟨_, hv2, by rw [pairs_snoc, List.length_append]; exact hr2, trivial⟩, d0.other (by omega) _, d1.other (by omega) _, hB.trans hb2⟩
    · exact ⟨hk2.from _, ⟨hk2.walks, fun hb => ((hb.alloc _).kept hgrow (hb.not_row (by decide) hrow)).other (by omega) _⟩, ⟨fun h => by simp; omega, by simp; omega⟩, ⟨_, hv2, by rw [pairs_snoc, List.length_append]; exact hr2, trivial⟩, d0.other (by omega) _, d1.other (by omega) _, hB.trans hb2⟩
    · have d2 := d1.other (B' := w.heap.size + 1 + 1) (by omega) (.slice (some ⟨g', 0, none⟩) (pre.length + 1) cap')
      have hfw := unhide HFEW q1
      exact ⟨(hk2.trans (KeepsOthers.setCell _ _ _)).from _, ⟨rfl, q1, by simp; omega⟩, ⟨_, d2.set _, by rw [pairs_snoc, List.length_append]; exact hr2.kept (grownBy_setCell' _ _ _) (.inr (d2.not_row (by decide) hr2).symm), trivial⟩, (hB.trans hb2).setCell (p := ⟨w.heap.size + 1, 0, none⟩) (by simp) _⟩
  case done =>
    rintro D ys W hD hS ⟨⟨hfew, hpl⟩, ⟨v, hv, hrow, _⟩, h0, h1, hB⟩ hK
    have c2 := hv.cell
    have c1 := (show Boxed W (w.heap.size + 1) 24 (.slice none 0 0) from h1).cell
    have f1 := (show Boxed W (w.heap.size + 1) 24 (.slice none 0 0) from h1).frozen
    have hl : fewOf few (places s) = places s := by
      unfold fewOf
      split
      · rfl
      · rename_i hn
        refine List.take_of_length_le ?_
        have := hfew (by omega)
        rw [← hS]; simp; omega
    obtain ⟨a, n', c, rfl⟩ : ∃ a n' c, v = .slice a n' c := by
      rcases hrow.2 with ⟨rfl, _⟩ | ⟨g, cap, cur, rfl, _⟩
      · exact ⟨_, _, _, rfl⟩
      · exact ⟨_, _, _, rfl⟩
    have HL := hide hl
    have HFEW := hide hfew
    clear hl hfew
    gi_wp2
    have d2 := (show Boxed W (w.heap.size + 1) 24 (.slice none 0 0) from h1).set (.slice a n' c)
    have hr2 := hrow.kept (grownBy_setCell' W (w.heap.size + 1) (.slice a n' c)) (.inr ((show Boxed W (w.heap.size + 1) 24 (.slice none 0 0) from h1).not_row (by decide) hrow).symm)
    have hK' := (KeepsOthers.setCell W ⟨w.heap.size + 1, 0, none⟩ (.slice a n' c)).same D _ hK rfl
    have hB2 := hB.setCell (p := ⟨w.heap.size + 1, 0, none⟩) (by simp) (.slice a n' c)
    refine ⟨by simp, .inl ⟨_, _, rfl, run_takeDeferred hK', ?_⟩⟩
    have hc5 := cell_kept d2.cell (grownBy_putObj' _ D (.deferred none)) (fun r e => by cases e; exact ⟨_, hK', rfl⟩)
    refine ⟨.slice a n' c, ?_, _, rfl, ?_, hB2.trans (belowK_b (w := w) (Nat.le_refl _) _ D _ _ (by omega) hK' rfl rfl)⟩
    · simp [results, Try.f7, go_sem, hc5]
    · rw [unhide HL, ← hS, List.length_map]
      exact ownsRow_putObj hr2 _ hK' rfl
  case stop =>
    rintro D c pre W hD hSp ⟨⟨rfl, hf0, hl⟩, ⟨v, hv, hrow, _⟩, hB⟩ hK
    gi_wp2
    refine ⟨by simp, .inl ⟨_, _, rfl, run_takeDeferred hK, ?_⟩⟩
    have hc5 := cell_kept hv.cell (grownBy_putObj' _ D (.deferred none)) (fun r e => by cases e; exact ⟨_, hK, rfl⟩)
    have hl2 : fewOf few (places s) = pre.map (·.1) := by
      unfold fewOf
      rw [if_neg (by omega)]
      obtain ⟨rest, hrest⟩ := hSp
      rw [← hrest, List.take_left' (by simp; omega)]
    refine ⟨v, ?_, _, rfl, ?_, hB.trans (belowK_b (w := w) (Nat.le_refl _) _ D _ _ (by omega) hK rfl rfl)⟩
    · simp [results, Try.f7, go_sem, hc5]
    · rw [hl2, List.length_map]
      exact ownsRow_putObj hrow _ hK rfl

end Go.Proofs.Ytjkchpjopgpeeaa

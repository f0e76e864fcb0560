/-
  firstWrong, Check of package utf, for every text.
-/
import Derived.Test.YtjkchpjopgpeeaaSpots
namespace Go.Proofs.Ytjkchpjopgpeeaa
open Go.RowKit Go.PlainAid Go.Lib Go.Shelf
attribute [local go_sem] Oper.semAt_some

/-- why the byte at i is wrong; 0: it isn't, or nothing begins there -/
abbrev why (s : ByteArray) (i : Nat) : Int := whyN (s.extract i s.size)

theorem own_block {β : Type} (B b : Nat) (o : Obj) (ho : o.isCells = true) : OwnFrom B (fun (_ : β) W => W.heap[b]? = some o) :=
  fun _ _ _ _ hs hg hr => (grownBy_keeps_cells hg (fun r e => (hr r e).2) hs ho).trans hs
theorem own_pure {β : Type} (B : Nat) (p : β → Prop) : OwnFrom B (fun b (_ : World) => p b) := fun _ _ _ _ hs _ _ => hs

theorem spot_cells {W : World} {b : Nat} {x y z u : Int} (h : W.heap[b]? = some (spotCells x y z u)) :
    W.cell? ⟨b, 0, none⟩ = some (.int .i64 x) ∧ W.cell? ⟨b, 1, none⟩ = some (.int .i64 y) ∧ W.cell? ⟨b, 2, none⟩ = some (.int .i32 z) ∧ W.cell? ⟨b, 3, none⟩ = some (.int .i64 u) := by
  refine ⟨?_, ?_, ?_, ?_⟩ <;> simp [World.cell?, h]
theorem spot_frozen {W : World} {b : Nat} {x y z u : Int} (h : W.heap[b]? = some (spotCells x y z u)) :
    W.frozen? ⟨b, 0, none⟩ = false ∧ W.frozen? ⟨b, 1, none⟩ = false ∧ W.frozen? ⟨b, 2, none⟩ = false ∧ W.frozen? ⟨b, 3, none⟩ = false := by
  refine ⟨?_, ?_, ?_, ?_⟩ <;> simp [World.frozen?, h]

/-- the block of the Spot of the character at i -/
abbrev spotBlk (s : ByteArray) (i : Nat) : Obj := spotCells i ((Utf8.decode s i).2 : Nat) ((Utf8.decode s i).1 : Nat) (why s i)

theorem blk_set {W : World} {b i : Nat} {cs : Array Value} {t : TypeId} {fz : Nat × Nat} (v : Value) (h : W.heap[b]? = some (.cells cs t fz)) : (W.setCell ⟨b, i, none⟩ v).heap[b]? = some (.cells (cs.setIfInBounds i v) t fz) := by
  obtain ⟨hlt, hk⟩ := Array.getElem?_eq_some_iff.1 h
  show (W.heap.modify b _)[b]? = _
  rw [Array.getElem?_eq_getElem (by rw [Array.size_modify]; exact hlt), Array.getElem_modify_self, hk]
  rfl

/-- a Spot stored over a Spot's block -/
theorem spot_stored {W : World} {b : Nat} {x y z u : Int} (x' y' z' u' : Int) (h : W.heap[b]? = some (spotCells x y z u)) :
    (((((W.setCell ⟨b, 0, none⟩ (.int .i64 x')).setCell ⟨b, 1, none⟩ (.int .i64 y')).setCell ⟨b, 2, none⟩ (.int .i32 z')).setCell ⟨b, 3, none⟩ (.int .i64 u')).heap[b]? = some (spotCells x' y' z' u')) ∧
    (∀ k, k ≠ b → ((((W.setCell ⟨b, 0, none⟩ (.int .i64 x')).setCell ⟨b, 1, none⟩ (.int .i64 y')).setCell ⟨b, 2, none⟩ (.int .i32 z')).setCell ⟨b, 3, none⟩ (.int .i64 u')).heap[k]? = W.heap[k]?) ∧
    KeepsOthers W ((((W.setCell ⟨b, 0, none⟩ (.int .i64 x')).setCell ⟨b, 1, none⟩ (.int .i64 y')).setCell ⟨b, 2, none⟩ (.int .i32 z')).setCell ⟨b, 3, none⟩ (.int .i64 u')) := by
  refine ⟨?_, ?_, ?_⟩
  · exact blk_set (i := 3) _ (blk_set (i := 2) _ (blk_set (i := 1) _ (blk_set (i := 0) _ h)))
  · intro k hk
    rw [Below.heap_setCell _ _ _ _ hk, Below.heap_setCell _ _ _ _ hk, Below.heap_setCell _ _ _ _ hk, Below.heap_setCell _ _ _ _ hk]
  · exact (((KeepsOthers.setCell _ _ _).trans (KeepsOthers.setCell _ _ _)).trans (KeepsOthers.setCell _ _ _)).trans (KeepsOthers.setCell _ _ _)
theorem pl_mem {s : ByteArray} {pre : List (Pl s)} {L : List Nat} (h : pre.map (·.1) = L) {p : Nat → Prop} (hp : ∀ x ∈ pre, p x.1) : ∀ i ∈ L, p i := by
  intro i hi
  rw [← h] at hi
  obtain ⟨x, hx, rfl⟩ := List.mem_map.1 hi
  exact hp x hx

set_option maxRecDepth 100000 in
set_option maxHeartbeats 2000000 in
theorem firstWrong_any (s : ByteArray) (w : World) (hs : s.size ≤ maxLen) :
    Calls Try.prog 34 #[.string s] w fun e w' =>
      (((∀ i ∈ places s, why s i = 0) ∧ e = .returned (.tuple #[spotV 0 0 0 0, .bool false])) ∨
       (∃ pre i rest, places s = pre ++ i :: rest ∧ (∀ j ∈ pre, why s j = 0) ∧ why s i ≠ 0 ∧ e = .returned (.tuple #[spotOf s i, .bool true]))) ∧ Below w.heap.size w w' := by
  refine (callsIn_wide (n := 5)).1 ?_
  refine callsIn_of_wp_marks Try.func34 rfl trivial ?_ rfl
  simp only [Try.ntmps34, List.size_toArray, List.length_cons, List.length_nil, Nat.reduceAdd, Nat.reduceSub, Array.replicate_succ, Array.replicate_zero, List.push_toArray, List.append_toArray, List.nil_append, List.cons_append]
  have hF : ∀ f, Fence.wide.fn f := fun _ => trivial
  gi_wp2_with (gi_at_call 9; refine (callsIn_wide.2 (spots_in s _)).mono ?_; rintro e w' ⟨rfl, rfl⟩)
  obtain ⟨W0, hW0⟩ : ∃ W0, ((w.alloc (spotCells 0 0 0 0)).alloc (Obj.cells #[Value.bool false] 4)).alloc (Obj.cells #[Value.string s] 9) = W0 := ⟨_, rfl⟩
  have hR0 : W0.heap[w.heap.size]? = some (spotCells 0 0 0 0) := by rw [← hW0, Below.heap_alloc _ _ _ (by simp; omega), Below.heap_alloc _ _ _ (by simp)]; exact heap_alloc_new w _
  have hR1 : Boxed W0 (w.heap.size + 1) 4 (.bool false) := by
    have := (Boxed.new (w.alloc (spotCells 0 0 0 0)) 4 (.bool false)).alloc (Obj.cells #[Value.string s] 9)
    rw [World.size_alloc] at this; rw [← hW0]; exact this
  have hBs : Boxed W0 (w.heap.size + 1 + 1) 9 (.string s) := by
    have := Boxed.new ((w.alloc (spotCells 0 0 0 0)).alloc (Obj.cells #[Value.bool false] 4)) 9 (.string s)
    rw [World.size_alloc, World.size_alloc] at this; rw [← hW0]; exact this
  have hB0 : Below w.heap.size w W0 := by rw [← hW0]; go_grown
  have hsz : W0.heap.size = w.heap.size + 3 := by rw [← hW0]; simp
  rw [hW0]
  clear hW0
  refine wpIn_rangeFunc_ownH rfl (by omega) (gf := 27) (lb := #[.pointer (some ⟨w.heap.size + 1 + 1, 0, none⟩)]) rfl trivial (enters_of Try.func27 (by kernel_rfl) rfl)
    (spots_stops s hs _ (w.heap.size + 1 + 1) (by omega) W0 hBs) kpS_t kpS_b (Below.refl _ _) (fun _ => rfl)
    (fun pre W => (∀ x ∈ pre, why s x.1 = 0) ∧ W.heap[w.heap.size]? = some (spotCells 0 0 0 0) ∧ W.heap[w.heap.size + 1]? = some (Obj.cells #[Value.bool false] 4) ∧ Below w.heap.size w W)
    (fun c pre W => (c = .ret ∧ ∃ ini last, pre = ini ++ [last] ∧ (∀ x ∈ ini, why s x.1 = 0) ∧ why s last.1 ≠ 0 ∧ W.heap[w.heap.size]? = some (spotBlk s last.1)) ∧ W.heap[w.heap.size + 1]? = some (Obj.cells #[Value.bool true] 4) ∧ Below w.heap.size w W)
    ((own_pure _ _).and ((own_block _ _ _ rfl).and ((own_block _ _ _ rfl).and (ownFrom_below (Nat.le_refl _) (by omega)))))
    (fun c => OwnFrom.and (fun st A B row hx hg hr => by
        obtain ⟨hc, ini, last, e1, e2, e3, e4⟩ := hx
        exact ⟨hc, ini, last, e1, e2, e3, own_block (β := Unit) _ _ _ rfl () A B row e4 hg hr⟩) ((own_block _ _ _ rfl).and (ownFrom_below (Nat.le_refl _) (by omega))))
    ⟨by simp, hR0, hR1, hB0⟩
    (fun x a' W => ∃ Bx, W.heap[Bx]? = some (spotBlk s x.1) ∧ w.heap.size + 1 < Bx ∧ a' = { tmps := #[.string s, undef, .pointer (some ⟨w.heap.size, 0, none⟩), .pointer (some ⟨w.heap.size + 1, 0, none⟩), .pointer (some ⟨Bx, 0, none⟩), .string s, .func (.func 27) #[] #[.pointer (some ⟨w.heap.size + 1 + 1, 0, none⟩)], spotOf s x.1, undef, undef, undef, undef, undef], defers := [] })
    (fun x a' st A B row hx hg hr => by
        obtain ⟨Bx, h1, h2, h3⟩ := hx
        exact ⟨Bx, own_block (β := Unit) _ _ _ rfl () A B row h1 hg hr, h2, h3⟩) ?assign ?body ?done ?stop
  case assign =>
    rintro l pre x W K ⟨h1, h2, h3, hB⟩ hK
    gi_wp2
    have hlt := (Array.getElem?_eq_some_iff.1 h3).1
    exact hK _ _ ((KeepsOthers.alloc _ _).from _) ⟨KeepsWalks.alloc _ _, fun h => h.alloc _⟩ ⟨h1, (Below.heap_alloc W _ _ (by omega)).trans h2, (Below.heap_alloc W _ _ hlt).trans h3, hB.alloc hB.size _⟩ ⟨W.heap.size, heap_alloc_new W _, hlt, rfl⟩
  case body =>
    rintro l pre x a' W hl ⟨r, hr⟩ ⟨h1, h2, h3, hB⟩ ⟨Bx, hx1, hx2, rfl⟩ hlen
    obtain ⟨c0, c1, c2, c3⟩ := spot_cells hx1
    by_cases hz : why s x.1 = 0
    · have hz' : (why s x.1 != 0) = false := by simp [hz]
      have HZ : Hid (why s x.1 = 0) := hz
      clear hz
      have H2 := hide h2
      have H3 := hide h3
      clear h2 h3
      gi_wp2
      exact ⟨KeepsFrom.refl _ _, ⟨KeepsWalks.refl _, fun h => h⟩, fun y hy => (List.mem_append.1 hy).elim (h1 y) (fun e => by simp at e; subst e; exact HZ.out), unhide H2, unhide H3, hB⟩
    · have hz' : (why s x.1 != 0) = true := by simp [hz]
      have HZ : Hid (¬ why s x.1 = 0) := hz
      clear hz
      obtain ⟨r0, r1, r2, r3⟩ := spot_cells h2
      obtain ⟨f0, f1, f2, f3⟩ := spot_frozen h2
      have b0 := (show Boxed W (w.heap.size + 1) 4 (.bool false) from h3).cell
      have b1 := (show Boxed W (w.heap.size + 1) 4 (.bool false) from h3).frozen
      gi_wp2
      obtain ⟨s1, s2, s3⟩ := spot_stored x.1 ((Utf8.decode s x.1).2 : Nat) ((Utf8.decode s x.1).1 : Nat) (why s x.1) h2
      refine ⟨(s3.trans (KeepsOthers.setCell _ _ _)).from _, ⟨rfl, pre, x, rfl, h1, HZ.out, ?_⟩, ?_, ?_⟩
      · exact (Below.heap_setCell _ _ _ _ (by simp)).trans s1
      · exact blk_set (i := 0) _ ((s2 _ (by omega)).trans h3)
      · exact ((((hB.setCell (p := ⟨w.heap.size, 0, none⟩) (Nat.le_refl _) _).setCell (p := ⟨w.heap.size, 1, none⟩) (Nat.le_refl _) _).setCell (p := ⟨w.heap.size, 2, none⟩) (Nat.le_refl _) _).setCell (p := ⟨w.heap.size, 3, none⟩) (Nat.le_refl _) _).setCell (p := ⟨w.heap.size + 1, 0, none⟩) (by simp) _
  case done =>
    rintro D ys W hD hS ⟨h1, h2, h3, hB⟩ hK
    obtain ⟨r0, r1, r2, r3⟩ := spot_cells h2
    obtain ⟨f0, f1, f2, f3⟩ := spot_frozen h2
    have b0 := (show Boxed W (w.heap.size + 1) 4 (.bool false) from h3).cell
    have b1 := (show Boxed W (w.heap.size + 1) 4 (.bool false) from h3).frozen
    gi_wp2
    obtain ⟨s1, s2, s3⟩ := spot_stored 0 0 0 0 h2
    have s4 := blk_set (i := 0) (.bool false) ((s2 (w.heap.size + 1) (by omega)).trans h3)
    have s5 := (Below.heap_setCell _ ⟨w.heap.size + 1, 0, none⟩ (.bool false) w.heap.size (by simp)).trans s1
    have s6 := s3.trans (KeepsOthers.setCell _ ⟨w.heap.size + 1, 0, none⟩ (.bool false))
    have hB5 := ((((hB.setCell (p := ⟨w.heap.size, 0, none⟩) (Nat.le_refl _) (.int .i64 0)).setCell (p := ⟨w.heap.size, 1, none⟩) (Nat.le_refl _) (.int .i64 0)).setCell (p := ⟨w.heap.size, 2, none⟩) (Nat.le_refl _) (.int .i32 0)).setCell (p := ⟨w.heap.size, 3, none⟩) (Nat.le_refl _) (.int .i64 0)).setCell (p := ⟨w.heap.size + 1, 0, none⟩) (by simp) (.bool false)
    have hK' := s6.same D _ hK rfl
    generalize (((((W.setCell ⟨w.heap.size, 0, none⟩ (.int .i64 0)).setCell ⟨w.heap.size, 1, none⟩ (.int .i64 0)).setCell ⟨w.heap.size, 2, none⟩ (.int .i32 0)).setCell ⟨w.heap.size, 3, none⟩ (.int .i64 0)).setCell ⟨w.heap.size + 1, 0, none⟩ (.bool false)) = W5 at *
    refine ⟨by simp, .inl ⟨_, _, rfl, run_takeDeferred hK', ?_⟩⟩
    have t0 : (W5.putObj D (.deferred none)).heap[w.heap.size]? = some (spotCells 0 0 0 0) := (World.putObj_heap_other (by omega)).trans s5
    have t1 : Boxed (W5.putObj D (.deferred none)) (w.heap.size + 1) 4 (.bool false) := (World.putObj_heap_other (by omega)).trans s4
    obtain ⟨q0, q1, q2, q3⟩ := spot_cells t0
    have q4 := t1.cell
    refine ⟨.tuple #[spotV 0 0 0 0, .bool false], ?_, .inl ⟨pl_mem hS h1, rfl⟩, hB5.trans (belowK_b (w := w) (Nat.le_refl _) _ D _ _ (by omega) hK' rfl rfl)⟩
    simp [results, Try.f34, go_sem, q0, q1, q2, q3, q4]
  case stop =>
    rintro D c pre W hD hSp ⟨⟨rfl, ini, last, e1, e2, e3, e4⟩, h3, hB⟩ hK
    gi_wp2
    refine ⟨by simp, .inl ⟨_, _, rfl, run_takeDeferred hK, ?_⟩⟩
    have t0 : (W.putObj D (.deferred none)).heap[w.heap.size]? = some (spotBlk s last.1) := (World.putObj_heap_other (by omega)).trans e4
    have t1 : Boxed (W.putObj D (.deferred none)) (w.heap.size + 1) 4 (.bool true) := (World.putObj_heap_other (by omega)).trans h3
    obtain ⟨q0, q1, q2, q3⟩ := spot_cells t0
    have q4 := t1.cell
    obtain ⟨rest, hrest⟩ := hSp
    refine ⟨.tuple #[spotOf s last.1, .bool true], ?_, .inr ⟨ini.map (·.1), last.1, rest, ?_, pl_mem rfl e2, e3, rfl⟩, hB.trans (belowK_b (w := w) (Nat.le_refl _) _ D _ _ (by omega) hK rfl rfl)⟩
    · simp [results, Try.f34, go_sem, q0, q1, q2, q3, q4]
    · rw [← hrest, e1, List.map_append, List.append_assoc]; rfl

/-- where the first wrong byte is, or how many bytes there are; and why -/
def checkV (s : ByteArray) (a : Nat) (c : Int) : Prop :=
  ((∀ i ∈ places s, why s i = 0) ∧ a = s.size ∧ c = 0) ∨ (∃ pre rest, places s = pre ++ a :: rest ∧ (∀ j ∈ pre, why s j = 0) ∧ why s a ≠ 0 ∧ c = why s a)

set_option maxRecDepth 100000 in
set_option maxHeartbeats 1000000 in
theorem check_any (s : ByteArray) (w : World) (hs : s.size ≤ maxLen) :
    Calls Try.prog 16 #[.string s] w fun e w' => ∃ (a : Nat) (c : Int), checkV s a c ∧ e = .returned (.tuple #[.int .i64 a, .int .i64 c]) ∧ Below w.heap.size w w' := by
  go_enter Try.func16, Try.ntmps16
  go_wp2_with fail
  refine (firstWrong_any s _ hs).mono ?_
  rintro e w1 ⟨⟨hall, rfl⟩ | ⟨pre, i, rest, h1, h2, h3, rfl⟩, hb⟩
  · have HA := hide hall
    clear hall
    go_wp2
    go_ret2
    exact ⟨s.size, 0, .inl ⟨unhide HA, rfl, rfl⟩, rfl, hb.alloc hb.size _⟩
  · have H1 := hide h1
    have H2 := hide h2
    have H3 := hide h3
    clear h1 h2 h3
    go_wp2
    go_region
    all_goals
      go_wp2
      go_ret2
      exact ⟨i, why s i, .inr ⟨pre, rest, unhide H1, unhide H2, unhide H3, rfl⟩, rfl, (hb.alloc hb.size _).drew⟩

end Go.Proofs.Ytjkchpjopgpeeaa

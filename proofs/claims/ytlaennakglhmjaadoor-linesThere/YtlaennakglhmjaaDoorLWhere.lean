/-
  Where of package lines, for every text and every place.
-/
import Derived.Test.YtlaennakglhmjaaDoorLRead
import Derived.Test.YtlaennakglhmjaaDoorLCols
import Derived.Test.YtlaennakglhmjaaDoorRPiM
import Derived.RangeFuncWrites
namespace Go.Proofs.YtlaennakglhmjaaDoor
open Go.RowKit Go.PlainAid Go.Lib Go.Shelf Go.Seq2 Go.Seq3
attribute [local go_sem] Oper.semAt_some
set_option linter.unusedVariables false

/-- a line, a column that lies behind the place b -/
def brkE (b : Int) (x : Nat × Nat × Nat) : Bool := decide (1 < x.1) && decide (b < (x.2.1 : Int))
def brkC (b : Int) (y : Nat × Nat) : Bool := decide (1 < y.1) && decide (b < (y.2 : Int))
def lastE (l : List (Nat × Nat × Nat)) : Nat × Nat × Nat := l.getLast?.getD (0, 0, 0)
def lastC (l : List (Nat × Nat)) : Nat := (l.getLast?.getD (0, 0)).1
theorem lastE_snoc (l : List (Nat × Nat × Nat)) (x : Nat × Nat × Nat) : lastE (l ++ [x]) = x := by simp [lastE]
theorem lastC_snoc (l : List (Nat × Nat)) (x : Nat × Nat) : lastC (l ++ [x]) = x.1 := by simp [lastC]
/-- where the place b is -/
def whereE (s : ByteArray) (b : Int) : Nat × Nat × Nat := lastE ((extsL s).takeWhile fun x => !brkE b x)
def whereC (s : ByteArray) (b : Int) : Nat := lastC ((colsL s (whereE s b).2.1 (whereE s b).2.2).takeWhile fun y => !brkC b y)
theorem tw_stop {α : Type} (p : α → Bool) (qs r : List α) (x : α) (h : ∀ y ∈ qs, p y = true) (hx : p x = false) : (qs ++ [x] ++ r).takeWhile p = qs := by
  rw [List.append_assoc, tw_append _ _ _ h, List.singleton_append, List.takeWhile_cons, if_neg (by simp [hx]), List.append_nil]
theorem tw_full {α : Type} (p : α → Bool) (qs : List α) (h : ∀ y ∈ qs, p y = true) : qs.takeWhile p = qs := by
  have := tw_append p qs [] h
  simpa using this
theorem whereE_mem (s : ByteArray) (b : Int) : whereE s b ∈ extsL s := by
  have h1 : extsL s = (1, markN s, endTo s (markN s)) :: (if hasEnd s (markN s) = true then extsI s 2 (endNext s (markN s)) else []) := extsI_step s 1 (markN s) (mark_le s)
  unfold whereE lastE
  have h2 : (extsL s).takeWhile (fun x => !brkE b x) ≠ [] := by rw [h1, List.takeWhile_cons, if_pos (by simp [brkE])]; simp
  rw [List.getLast?_eq_some_getLast h2]
  exact (List.takeWhile_sublist _).subset (List.getLast_mem h2)

/-- the boxes of the two results, of the place and of the line that was found -/
structure WBox (w : World) (V : World) (b : Int) (x : Nat × Nat × Nat) (c : Nat) : Prop where
  b0 : Boxed V w.heap.size 3 (.int .i64 b)
  b1 : Boxed V (w.heap.size + 1) 3 (.int .i64 (x.1 : Nat))
  b2 : Boxed V (w.heap.size + 1 + 1) 3 (.int .i64 (c : Nat))
  b3 : V.heap[w.heap.size + 1 + 1 + 1]? = some (extBlk x.2.1 x.2.2)
  bl : Below w.heap.size w V
theorem WBox.own {w : World} {b : Int} {T : Nat} (hT : w.heap.size + 3 < T) (x : Nat × Nat × Nat) (c : Nat) : OwnFrom (β := Unit) T (fun _ V => WBox w V b x c) := by
  intro st A B row hx hg hr
  exact ⟨own_block (β := Unit) _ _ _ rfl () A B row hx.b0 hg hr, own_block (β := Unit) _ _ _ rfl () A B row hx.b1 hg hr, own_block (β := Unit) _ _ _ rfl () A B row hx.b2 hg hr, own_block (β := Unit) _ _ _ rfl () A B row hx.b3 hg hr, ownFrom_below (β := Unit) (Nat.le_refl _) (by omega) () A B row hx.bl hg hr⟩
theorem WBox.below {w V V' : World} {b : Int} {x : Nat × Nat × Nat} {c : Nat} (h : WBox w V b x c) (hb : Below V.heap.size V V') : WBox w V' b x c :=
  ⟨boxed_below2 h.b0 hb, boxed_below2 h.b1 hb, boxed_below2 h.b2 hb, (hb.block _ (Array.getElem?_eq_some_iff.1 h.b3).1).trans h.b3, h.bl.trans (hb.mono h.bl.size)⟩

/-- the line's box and what was found, written -/
theorem WBox.setE {w V : World} {b : Int} {x : Nat × Nat × Nat} {c : Nat} (h : WBox w V b x c) (y : Nat × Nat × Nat) :
    ∃ V', ((V.setCell ⟨w.heap.size + 1, 0, none⟩ (.int .i64 (y.1 : Nat))).setCell ⟨w.heap.size + 1 + 1 + 1, 0, none⟩ (.int .i64 (y.2.1 : Nat))).setCell ⟨w.heap.size + 1 + 1 + 1, 1, none⟩ (.int .i64 (y.2.2 : Nat)) = V' ∧ WBox w V' b y c ∧ KeepsOthers V V' ∧ (∀ k, k ≠ w.heap.size + 1 → k ≠ w.heap.size + 1 + 1 + 1 → V'.heap[k]? = V.heap[k]?) := by
  refine ⟨_, rfl, ⟨?_, ?_, ?_, ?_, ?_⟩, ?_, ?_⟩
  · exact ((h.b0.other (by omega) _).other (by omega) _ |> fun q => (heap_setCell_other _ _ _ _ (by show w.heap.size ≠ w.heap.size + 1 + 1 + 1; omega)).trans q)
  · have q := h.b1.set (.int .i64 (y.1 : Nat))
    exact (heap_setCell_other _ _ _ _ (by show w.heap.size + 1 ≠ w.heap.size + 1 + 1 + 1; omega)).trans ((heap_setCell_other _ _ _ _ (by show w.heap.size + 1 ≠ w.heap.size + 1 + 1 + 1; omega)).trans q)
  · have q := h.b2.other (B' := w.heap.size + 1) (by omega) (.int .i64 (y.1 : Nat))
    exact (heap_setCell_other _ _ _ _ (by show w.heap.size + 1 + 1 ≠ w.heap.size + 1 + 1 + 1; omega)).trans ((heap_setCell_other _ _ _ _ (by show w.heap.size + 1 + 1 ≠ w.heap.size + 1 + 1 + 1; omega)).trans q)
  · have q : (V.setCell ⟨w.heap.size + 1, 0, none⟩ (.int .i64 (y.1 : Nat))).heap[w.heap.size + 1 + 1 + 1]? = some (extBlk x.2.1 x.2.2) := (heap_setCell_other _ _ _ _ (by show w.heap.size + 1 + 1 + 1 ≠ w.heap.size + 1; omega)).trans h.b3
    have q2 := heap_setCell_same _ (w.heap.size + 1 + 1 + 1) 0 _ _ (.int .i64 (y.2.1 : Nat)) q
    have q3 := heap_setCell_same _ (w.heap.size + 1 + 1 + 1) 1 _ _ (.int .i64 (y.2.2 : Nat)) q2
    exact q3
  · exact ((h.bl.setCell (p := ⟨w.heap.size + 1, 0, none⟩) (by show _ ≤ w.heap.size + 1; omega) _).setCell (p := ⟨w.heap.size + 1 + 1 + 1, 0, none⟩) (by show _ ≤ w.heap.size + 1 + 1 + 1; omega) _).setCell (p := ⟨w.heap.size + 1 + 1 + 1, 1, none⟩) (by show _ ≤ w.heap.size + 1 + 1 + 1; omega) _
  · exact ((KeepsOthers.setCell _ _ _).trans (KeepsOthers.setCell _ _ _)).trans (KeepsOthers.setCell _ _ _)
  · intro k h1 h2
    rw [heap_setCell_other _ _ _ _ (by exact h2), heap_setCell_other _ _ _ _ (by exact h2), heap_setCell_other _ _ _ _ (by exact h1)]

theorem ext2f {W : World} {b : Nat} {f t : Nat} (h : W.heap[b]? = some (extBlk f t)) : W.frozen? ⟨b, 0, none⟩ = false ∧ W.frozen? ⟨b, 1, none⟩ = false := by
  refine ⟨?_, ?_⟩ <;> simp [World.frozen?, h]
theorem WBox.drew {w V : World} {b : Int} {x : Nat × Nat × Nat} {c : Nat} (h : WBox w V b x c) : WBox w V.drew b x c :=
  ⟨h.b0, h.b1, h.b2, h.b3, h.bl.trans ⟨rfl, rfl, rfl, Nat.le_refl _, fun _ _ => rfl⟩⟩
def WhI (w : World) (s : ByteArray) (b : Int) (pre : List (Nat × Nat × Nat)) (V : World) : Prop := (∀ y ∈ pre, brkE b y = false) ∧ WBox w V b (lastE pre) 0
def WhX (w : World) (s : ByteArray) (b : Int) (c : Code) (pre : List (Nat × Nat × Nat)) (V : World) : Prop := c = .exit 0 ∧ ∃ qs x, pre = qs ++ [x] ∧ (∀ y ∈ qs, brkE b y = false) ∧ brkE b x = true ∧ WBox w V b (lastE qs) 0

def WcI (w : World) (b : Int) (E : Nat × Nat × Nat) (D : Nat) (pre : List (Nat × Nat)) (U : World) : Prop := (∀ y ∈ pre, brkC b y = false) ∧ WBox w U b E (lastC pre) ∧ U.heap[D]? = some (.deferred (some []))
def WcX (w : World) (b : Int) (E : Nat × Nat × Nat) (D : Nat) (c : Code) (pre : List (Nat × Nat)) (U : World) : Prop := c = .exit 2 ∧ ∃ qs y, pre = qs ++ [y] ∧ (∀ y ∈ qs, brkC b y = false) ∧ brkC b y = true ∧ WBox w U b E (lastC qs) ∧ U.heap[D]? = some (.deferred (some []))

set_option maxRecDepth 100000 in
set_option maxHeartbeats 4000000 in
theorem where_any (s : ByteArray) (b : Int) (w : World) (hs : s.size ≤ 1099511627776) (hb0 : 0 ≤ b) (hb1 : b ≤ (s.size : Int)) :
    Calls Tryd.prog 27 #[.string s, .int .i64 b] w fun e w' => e = .returned (.tuple #[.int .i64 ((whereE s b).1 : Nat), .int .i64 (whereC s b : Nat)]) ∧ Below w.heap.size w w' := by
  refine (callsIn_wide (n := 12)).1 ?_
  refine callsIn_of_wp_marks Tryd.func27 rfl trivial ?_ rfl
  simp only [Tryd.ntmps27, List.size_toArray, List.length_cons, List.length_nil, Nat.reduceAdd, Nat.reduceSub, Array.replicate_succ, Array.replicate_zero, List.push_toArray, List.append_toArray, List.nil_append, List.cons_append]
  have hF : ∀ f, Fence.wide.fn f := fun _ => trivial
  have d1 : decide (b < 0) = false := decide_eq_false (by omega)
  have d2 : decide ((s.size : Int) < b) = false := decide_eq_false (by omega)
  have d2' : ¬ (s.size : Int) < b := by omega
  have HEX := hide (fun w => callsIn_wide (n := 11) |>.2 (extents_in s w))
  have HCO := hide (fun f t w => callsIn_wide (n := 11) |>.2 (columns_in s f t w))
  gi_wp2_with (gi_at_call 37; refine (unhide HEX _).mono ?_; rintro e w' ⟨rfl, rfl⟩)
  obtain ⟨W0, hW0⟩ : ∃ W0, ((((w.alloc (Obj.cells #[Value.int IntKind.i64 b] 3)).alloc (Obj.cells #[Value.int IntKind.i64 0] 3)).alloc (Obj.cells #[Value.int IntKind.i64 0] 3)).alloc (Obj.cells #[Value.int IntKind.i64 0, Value.int IntKind.i64 0] 82)).alloc (Obj.cells #[Value.string s] 9) = W0 := ⟨_, rfl⟩
  have hsz : W0.heap.size = w.heap.size + 5 := by rw [← hW0]; simp
  have hwb : WBox w W0 b (0, 0, 0) 0 := by
    rw [← hW0]
    refine ⟨((((Boxed.new w _ _).alloc _).alloc _).alloc _).alloc _, ?_, ?_, ?_, ?_⟩
    · simpa [Boxed] using (((Boxed.new (w.alloc (Obj.cells #[Value.int IntKind.i64 b] 3)) 3 (.int .i64 0)).alloc (Obj.cells #[Value.int IntKind.i64 0] 3)).alloc (Obj.cells #[Value.int IntKind.i64 0, Value.int IntKind.i64 0] 82)).alloc (Obj.cells #[Value.string s] 9)
    · simpa [Boxed] using ((Boxed.new ((w.alloc (Obj.cells #[Value.int IntKind.i64 b] 3)).alloc (Obj.cells #[Value.int IntKind.i64 0] 3)) 3 (.int .i64 0)).alloc (Obj.cells #[Value.int IntKind.i64 0, Value.int IntKind.i64 0] 82)).alloc (Obj.cells #[Value.string s] 9)
    · have := (Below.heap_alloc _ (Obj.cells #[Value.string s] 9) _ (by simp)).trans (heap_alloc_new (((w.alloc (Obj.cells #[Value.int IntKind.i64 b] 3)).alloc (Obj.cells #[Value.int IntKind.i64 0] 3)).alloc (Obj.cells #[Value.int IntKind.i64 0] 3)) (Obj.cells #[Value.int IntKind.i64 0, Value.int IntKind.i64 0] 82))
      simpa [extBlk] using this
    · go_grown
  have b4 : Boxed W0 (w.heap.size + 1 + 1 + 1 + 1) 9 (.string s) := by
    rw [← hW0]; simpa [Boxed] using Boxed.new ((((w.alloc (Obj.cells #[Value.int IntKind.i64 b] 3)).alloc (Obj.cells #[Value.int IntKind.i64 0] 3)).alloc (Obj.cells #[Value.int IntKind.i64 0] 3)).alloc (Obj.cells #[Value.int IntKind.i64 0, Value.int IntKind.i64 0] 82)) 9 (.string s)
  rw [hW0]
  clear hW0
  refine range3 (by omega) (gf := 54) (lb := #[.pointer (some ⟨w.heap.size + 1 + 1 + 1 + 1, 0, none⟩)]) rfl (enters_of Tryd.func54 (by kernel_rfl) rfl)
    (ext_gives s (by omega) _ (w.heap.size + 1 + 1 + 1 + 1) (by omega) W0 b4) (Below.refl _ _) (fun _ => rfl)
    (WhI w s b) (WhX w s b)
    (fun st A B row hx hg hr => ⟨hx.1, WBox.own (by omega) _ _ () A B row hx.2 hg hr⟩)
    (fun c st A B row hx hg hr => by
        obtain ⟨e1, qs, x, e2, e3, e4, e5⟩ := hx
        exact ⟨e1, qs, x, e2, e3, e4, WBox.own (by omega) _ _ () A B row e5 hg hr⟩)
    ⟨by simp, hwb⟩
    (fun x a' V => ∃ Bx, V.heap[Bx]? = some (extBlk x.2.1 x.2.2) ∧ w.heap.size + 4 < Bx ∧ a' = { tmps := #[.string s, .int .i64 b, undef, .pointer (some ⟨w.heap.size, 0, none⟩), .pointer (some ⟨w.heap.size + 1, 0, none⟩), .pointer (some ⟨w.heap.size + 1 + 1, 0, none⟩), .pointer (some ⟨w.heap.size + 1 + 1 + 1, 0, none⟩), .int .i64 (x.1 : Nat), .pointer (some ⟨Bx, 0, none⟩), undef, undef, .int .i64 b, .bool false, .bool false, .int .i64 b, .string s, .int .i64 (s.size : Nat), .bool false, .bool false, .string s, .func (.func 54) #[] #[.pointer (some ⟨w.heap.size + 1 + 1 + 1 + 1, 0, none⟩)], .int .i64 (x.1 : Nat), .agg #[.int .i64 (x.2.1 : Nat), .int .i64 (x.2.2 : Nat)], undef, undef, undef, undef, undef, undef, undef, undef, undef, undef, undef, undef, undef, undef, undef, undef, undef, undef, undef, undef, undef, undef, undef, undef, undef], defers := [] })
    (fun x a' st A B row hx hg hr => by
        obtain ⟨Bx, h1, h2, h3⟩ := hx
        exact ⟨Bx, own_block (β := Unit) _ _ _ rfl () A B row h1 hg hr, h2, h3⟩) ?assign ?body ?done ?stop
  case assign =>
    rintro l2 pre x V K hsz2 ⟨h1, h2⟩ hK
    gi_wp2
    exact hK _ _ ((KeepsOthers.alloc _ _).from _) ⟨KeepsWalks.alloc _ _, fun k t v _ _ h => h.alloc _⟩ ⟨h1, h2.below ((Below.refl _ V).alloc (Nat.le_refl _) _)⟩ ⟨V.heap.size, heap_alloc_new V _, by omega, rfl⟩
  case body =>
    rintro l2 pre x a' V hl hsz2 ⟨r, hr⟩ ⟨h1, h2⟩ ⟨Bx, hx1, hx2, rfl⟩ hSp
    have hm := exts_mem s x (hSp.subset (by simp))
    obtain ⟨X, F, T⟩ := x
    simp only [] at hx1 hm
    obtain ⟨m1, m2, m3, m4⟩ := hm
    obtain ⟨c0, c1⟩ := ext2 hx1
    have z0 := h2.b0.cell
    have z1 := h2.b1.cell
    have y1 := h2.b1.frozen
    obtain ⟨z3, z4⟩ := ext2 h2.b3
    obtain ⟨y3, y4⟩ := ext2f h2.b3
    have hxo : ∀ v, (V.setCell ⟨w.heap.size + 1, 0, none⟩ v).heap[Bx]? = some (extBlk F T) := fun v => (heap_setCell_other _ _ _ _ (by show Bx ≠ w.heap.size + 1; omega)).trans hx1
    have g0 := fun v => (ext2 (hxo v)).1
    have g1 := fun v => (ext2 (hxo v)).2
    have hio : ∀ v, (V.setCell ⟨w.heap.size + 1, 0, none⟩ v).heap[w.heap.size + 1 + 1 + 1]? = some (extBlk (lastE pre).2.1 (lastE pre).2.2) := fun v => (heap_setCell_other _ _ _ _ (by show w.heap.size + 1 + 1 + 1 ≠ w.heap.size + 1; omega)).trans h2.b3
    have g3 := fun v => (ext2 (hio v)).1
    have g4 := fun v => (ext2 (hio v)).2
    have k3 := fun v => (ext2f (hio v)).1
    have k4 := fun v => (ext2f (hio v)).2
    clear hxo hio
    have HWB := hide h2
    have H1 := hide h1
    clear hSp h1 h2
    by_cases q : brkE b (X, F, T) = true
    · have qq : 1 < X ∧ b < (F : Int) := by simpa [brkE] using q
      have d3 : decide ((1 : Int) < (X : Int)) = true := decide_eq_true (by omega)
      have d3' : (1 : Int) < (X : Int) := by omega
      have d4 : decide (b < (F : Int)) = true := decide_eq_true qq.2
      have HQ := hide q
      clear q
      gi_wp2
      exact ⟨KeepsFrom.refl _ _, rfl, pre, (X, F, T), rfl, unhide H1, unhide HQ, unhide HWB⟩
    · have q' : brkE b (X, F, T) = false := by simpa using q
      have qq : ¬ (1 < X ∧ b < (F : Int)) := by simpa [brkE] using q
      have HALL : Hid (∀ y ∈ pre ++ [(X, F, T)], brkE b y = false) := by
        intro y hy
        rcases List.mem_append.1 hy with h | h
        · exact unhide H1 y h
        · rw [List.mem_singleton.1 h]; exact q'
      clear q q'
      obtain ⟨V', hV', hwb', hko, hoth⟩ := (unhide HWB).setE (X, F, T)
      dsimp only at hV'
      have HVV := hide hV'
      clear hV'
      have hV' := HVV
      clear HVV
      by_cases q1 : 1 < X
      · have d3 : decide ((1 : Int) < (X : Int)) = true := decide_eq_true (by omega)
        have d3' : (1 : Int) < (X : Int) := by omega
        have d4 : decide (b < (F : Int)) = false := decide_eq_false (fun h => qq ⟨q1, h⟩)
        have d4' : ¬ b < (F : Int) := fun h => qq ⟨q1, h⟩
        clear qq
        gi_wp2
        gi_region
        all_goals gi_wp2
        all_goals
          rw [unhide hV']
          exact ⟨⟨hko.size, fun k o _ => hko.same k o⟩, ⟨hko.walks.trans (⟨Nat.le_refl _, fun _ _ h _ => h⟩ : KeepsWalks V' V'.drew), fun k t v hk1 ht hb => (hoth k (by omega) (by omega)).trans hb⟩, unhide HALL, by rw [lastE_snoc]; exact hwb'.drew⟩
      · have d3 : decide ((1 : Int) < (X : Int)) = false := decide_eq_false (by omega)
        have d3' : ¬ (1 : Int) < (X : Int) := by omega
        clear qq
        gi_wp2
        gi_region
        all_goals gi_wp2
        all_goals
          rw [unhide hV']
          exact ⟨⟨hko.size, fun k o _ => hko.same k o⟩, ⟨hko.walks.trans (⟨Nat.le_refl _, fun _ _ h _ => h⟩ : KeepsWalks V' V'.drew), fun k t v hk1 ht hb => (hoth k (by omega) (by omega)).trans hb⟩, unhide HALL, by rw [lastE_snoc]; exact hwb'.drew⟩
  -- TAIL
  case done =>
    rintro D xs V hD hS ⟨h1, hwb2⟩ hK
    have hEE : lastE xs = whereE s b := by
      subst hS
      unfold whereE
      rw [tw_full _ _ (fun y hy => by rw [h1 y hy]; rfl)]
    rw [hEE] at hwb2
    clear hEE h1 hS
    have hme := exts_mem s _ (whereE_mem s b)
    have HWC : Hid (∀ l : List (Nat × Nat), l = (colsL s (whereE s b).2.1 (whereE s b).2.2).takeWhile (fun y => !brkC b y) → lastC l = whereC s b) := fun l h => by rw [h]; rfl
    obtain ⟨E, hE⟩ : ∃ E, whereE s b = E := ⟨_, rfl⟩
    rw [hE] at hme HWC hwb2
    have HE := hide hE
    clear hE
    obtain ⟨EX, EF, ET⟩ := E
    simp only [] at hme HWC
    have z0 := hwb2.b0.cell
    obtain ⟨z3, z4⟩ := ext2 hwb2.b3
    have HWB := hide hwb2
    gi_wp2_with (gi_at_call 48; refine (unhide HCO _ _ _).mono ?_; rintro e w' ⟨rfl, rfl⟩)
    obtain ⟨W1, hW1⟩ : ∃ W1, (V.alloc (.cells #[.string s] 9)).alloc (extBlk EF ET) = W1 := ⟨_, rfl⟩
    have hB1 : Below V.heap.size V W1 := by rw [← hW1]; exact ((Below.refl _ V).alloc (Nat.le_refl _) _).alloc (by simp) _
    have hwb1 : WBox w W1 b (EX, EF, ET) 0 := (unhide HWB).below hB1
    have hK1 : W1.heap[D]? = some (.deferred (some [])) := (hB1.block D (Array.getElem?_eq_some_iff.1 hK).1).trans hK
    have q0 : Boxed W1 V.heap.size 9 (.string s) := by rw [← hW1]; exact (Boxed.new V _ _).alloc _
    have q1 : W1.heap[V.heap.size + 1]? = some (extBlk EF ET) := by rw [← hW1]; simpa using heap_alloc_new (V.alloc (.cells #[.string s] 9)) (extBlk EF ET)
    have hs1 : W1.heap.size = V.heap.size + 2 := by rw [← hW1]; simp
    have hVl : w.heap.size + 3 < V.heap.size := (Array.getElem?_eq_some_iff.1 (unhide HWB).b3).1
    have hDV : D < V.heap.size := (Array.getElem?_eq_some_iff.1 hK).1
    rw [hW1]
    clear hW1 z0 z3 z4 hwb2 hK
    refine wpIn_rangeFunc_ownG rfl (by omega) (gf := 63) (lb := #[.pointer (some ⟨V.heap.size, 0, none⟩), .pointer (some ⟨V.heap.size + 1, 0, none⟩)]) rfl trivial (enters_of Tryd.func63 (by kernel_rfl) rfl)
      (cols_stops s EF ET (by omega) (by omega) (by omega) _ V.heap.size (V.heap.size + 1) (by omega) W1 q0 q1) kpC_t kpC_b (Below.refl _ _) (fun _ => rfl)
      (WcI w b (EX, EF, ET) D)
      (WcX w b (EX, EF, ET) D)
      (fun st A B row hx hg hr => ⟨hx.1, WBox.own (by omega) _ _ () A B row hx.2.1 hg hr, (hg.block D (Array.getElem?_eq_some_iff.1 hx.2.2).1 (fun e => by have := (hr D e.symm).1; omega)).trans hx.2.2⟩)
      (fun c st A B row hx hg hr => by
          obtain ⟨e1, qs, x, e2, e3, e4, e5, e6⟩ := hx
          exact ⟨e1, qs, x, e2, e3, e4, WBox.own (by omega) _ _ () A B row e5 hg hr, (hg.block D (Array.getElem?_eq_some_iff.1 e6).1 (fun e => by have := (hr D e.symm).1; omega)).trans e6⟩)
      ⟨by simp, hwb1, hK1⟩
      ?a1 ?assign1 ?body1 ?done1 ?stop1
    case assign1 =>
      intro l x W K hK
      gi_wp2
      exact hK
    case body1 =>
      clear hs1
      rintro l pre x U ⟨h1, h2, h3⟩ hlen
      obtain ⟨C, Bg⟩ := x
      have z0 := h2.b0.cell
      have z2 := h2.b2.cell
      have y2 := h2.b2.frozen
      have HWU := hide h2
      have H1 := hide h1
      clear h1 h2
      by_cases q : brkC b (C, Bg) = true
      · have qq : 1 < C ∧ b < (Bg : Int) := by simpa [brkC] using q
        have d3 : decide ((1 : Int) < (C : Int)) = true := decide_eq_true (by omega)
        have d3' : (1 : Int) < (C : Int) := by omega
        have d4 : decide (b < (Bg : Int)) = true := decide_eq_true qq.2
        have HQ := hide q
        clear q
        gi_wp2
        exact ⟨KeepsFrom.refl _ _, rfl, pre, (C, Bg), rfl, unhide H1, unhide HQ, unhide HWU, h3⟩
      · have q' : brkC b (C, Bg) = false := by simpa using q
        have qq : ¬ (1 < C ∧ b < (Bg : Int)) := by simpa [brkC] using q
        have HALL : Hid (∀ y ∈ pre ++ [(C, Bg)], brkC b y = false) := by
          intro y hy
          rcases List.mem_append.1 hy with h | h
          · exact unhide H1 y h
          · rw [List.mem_singleton.1 h]; exact q'
        clear q q'
        have fin : ∀ ac : Act, ownPostG W1.heap.size (KpC V.heap.size (V.heap.size + 1) EF ET s) (WcI w b (EX, EF, ET) D) (WcX w b (EX, EF, ET) D) (pre ++ [(C, Bg)]) U .normal ac (U.setCell ⟨w.heap.size + 1 + 1, 0, none⟩ (.int .i64 (C : Nat))) := by
          intro ac
          have ko := KeepsOthers.setCell U ⟨w.heap.size + 1 + 1, 0, none⟩ (.int .i64 (C : Nat))
          refine ⟨ko.from _, ⟨ko.walks, fun hb => hb.other (by omega) _, fun hb => (heap_setCell_other _ _ _ _ (by show V.heap.size + 1 ≠ w.heap.size + 1 + 1; omega)).trans hb⟩, HALL.out, ⟨(unhide HWU).b0.other (by omega) _, (unhide HWU).b1.other (by omega) _, ?_, (heap_setCell_other _ _ _ _ (by show w.heap.size + 1 + 1 + 1 ≠ w.heap.size + 1 + 1; omega)).trans (unhide HWU).b3, (unhide HWU).bl.setCell (p := ⟨w.heap.size + 1 + 1, 0, none⟩) (by show _ ≤ w.heap.size + 1 + 1; omega) _⟩, ko.same D _ h3 rfl⟩
          rw [lastC_snoc]; exact (unhide HWU).b2.set _
        have FIN := hide fin
        clear fin
        by_cases q1 : 1 < C
        · have d3 : decide ((1 : Int) < (C : Int)) = true := decide_eq_true (by omega)
          have d3' : (1 : Int) < (C : Int) := by omega
          have d4 : decide (b < (Bg : Int)) = false := decide_eq_false (fun h => qq ⟨q1, h⟩)
          have d4' : ¬ b < (Bg : Int) := fun h => qq ⟨q1, h⟩
          clear qq
          gi_wp2
          exact unhide FIN _
        · have d3 : decide ((1 : Int) < (C : Int)) = false := decide_eq_false (by omega)
          have d3' : ¬ (1 : Int) < (C : Int) := by omega
          clear qq
          gi_wp2
          exact unhide FIN _
    case done1 =>
      rintro D2 xs U hD2 hS ⟨h1, h2, h3⟩ hK2
      subst hS
      have HC := hide (unhide HWC _ (tw_full _ _ (fun y hy => by rw [h1 y hy]; rfl)).symm)
      rw [unhide HC] at h2
      clear h1
      have z1 := h2.b1.cell
      have z2 := h2.b2.cell
      have y1 := h2.b1.frozen
      have y2 := h2.b2.frozen
      have e1 := set_same h2.b1
      have e2 := set_same h2.b2
      have HU := hide h2
      gi_wp2
      gi_region
      all_goals gi_wp2
      all_goals
        have hne12 : D ≠ D2 := by omega
        have k1' : (U.drew.putObj D2 (.deferred none)).heap[D]? = some (.deferred (some [])) := (World.putObj_heap_other hne12).trans h3
        have hD2' : w.heap.size + 3 < D2 := by omega
        have hDD : w.heap.size + 3 < D := by omega
        refine ⟨by simp, .inl ⟨_, _, rfl, run_takeDeferred (show U.drew.heap[D2]? = _ from hK2), by simp, .inl ⟨_, _, rfl, run_takeDeferred k1', ?_⟩⟩⟩
        have r1 : Boxed ((U.drew.putObj D2 (.deferred none)).putObj D (.deferred none)) (w.heap.size + 1) 3 (.int .i64 (EX : Nat)) := (World.putObj_heap_other (by omega)).trans ((World.putObj_heap_other (by omega)).trans (unhide HU).b1)
        have r2 : Boxed ((U.drew.putObj D2 (.deferred none)).putObj D (.deferred none)) (w.heap.size + 1 + 1) 3 (.int .i64 (whereC s b : Nat)) := (World.putObj_heap_other (by omega)).trans ((World.putObj_heap_other (by omega)).trans (unhide HU).b2)
        have r1c := r1.cell
        have r2c := r2.cell
        refine ⟨.tuple #[.int .i64 (EX : Nat), .int .i64 (whereC s b : Nat)], by simp [results, Tryd.f27, go_sem, r1c, r2c], by rw [unhide HE], ((unhide HU).drew.bl.trans (belowK_b (w := w) (Nat.le_refl _) _ D2 _ _ (by omega) (show U.drew.heap[D2]? = _ from hK2) rfl rfl)).trans (belowK_b (w := w) (Nat.le_refl _) _ D _ _ (by omega) k1' rfl rfl)⟩
    case stop1 =>
      rintro D2 c pre U hD2 hSp ⟨rfl, qs, y, rfl, h1, h1', h2, h3⟩ hK2
      obtain ⟨rr, hrr⟩ := hSp
      have HC := hide (unhide HWC qs (by rw [← hrr]; exact (tw_stop _ qs rr y (fun z hz => by rw [h1 z hz]; rfl) (by rw [h1']; rfl)).symm))
      rw [unhide HC] at h2
      clear h1 h1' hrr
      have z1 := h2.b1.cell
      have z2 := h2.b2.cell
      have y1 := h2.b1.frozen
      have y2 := h2.b2.frozen
      have e1 := set_same h2.b1
      have e2 := set_same h2.b2
      have HU := hide h2
      gi_wp2
      gi_region
      all_goals gi_wp2
      all_goals
        have hne12 : D ≠ D2 := by omega
        have k1' : (U.drew.putObj D2 (.deferred none)).heap[D]? = some (.deferred (some [])) := (World.putObj_heap_other hne12).trans h3
        have hD2' : w.heap.size + 3 < D2 := by omega
        have hDD : w.heap.size + 3 < D := by omega
        refine ⟨by simp, .inl ⟨_, _, rfl, run_takeDeferred (show U.drew.heap[D2]? = _ from hK2), by simp, .inl ⟨_, _, rfl, run_takeDeferred k1', ?_⟩⟩⟩
        have r1 : Boxed ((U.drew.putObj D2 (.deferred none)).putObj D (.deferred none)) (w.heap.size + 1) 3 (.int .i64 (EX : Nat)) := (World.putObj_heap_other (by omega)).trans ((World.putObj_heap_other (by omega)).trans (unhide HU).b1)
        have r2 : Boxed ((U.drew.putObj D2 (.deferred none)).putObj D (.deferred none)) (w.heap.size + 1 + 1) 3 (.int .i64 (whereC s b : Nat)) := (World.putObj_heap_other (by omega)).trans ((World.putObj_heap_other (by omega)).trans (unhide HU).b2)
        have r1c := r1.cell
        have r2c := r2.cell
        refine ⟨.tuple #[.int .i64 (EX : Nat), .int .i64 (whereC s b : Nat)], by simp [results, Tryd.f27, go_sem, r1c, r2c], by rw [unhide HE], ((unhide HU).drew.bl.trans (belowK_b (w := w) (Nat.le_refl _) _ D2 _ _ (by omega) (show U.drew.heap[D2]? = _ from hK2) rfl rfl)).trans (belowK_b (w := w) (Nat.le_refl _) _ D _ _ (by omega) k1' rfl rfl)⟩
  case stop =>
    rintro D c pre V hD hSp ⟨rfl, qs, y, rfl, h1, h1', hwb2⟩ hK
    obtain ⟨rr, hrr⟩ := hSp
    have hEE : lastE qs = whereE s b := by
      unfold whereE
      rw [← hrr, tw_stop _ qs rr y (fun z hz => by rw [h1 z hz]; rfl) (by rw [h1']; rfl)]
    rw [hEE] at hwb2
    clear hEE h1 h1' hrr
    have hme := exts_mem s _ (whereE_mem s b)
    have HWC : Hid (∀ l : List (Nat × Nat), l = (colsL s (whereE s b).2.1 (whereE s b).2.2).takeWhile (fun y => !brkC b y) → lastC l = whereC s b) := fun l h => by rw [h]; rfl
    obtain ⟨E, hE⟩ : ∃ E, whereE s b = E := ⟨_, rfl⟩
    rw [hE] at hme HWC hwb2
    have HE := hide hE
    clear hE
    obtain ⟨EX, EF, ET⟩ := E
    simp only [] at hme HWC
    have z0 := hwb2.b0.cell
    obtain ⟨z3, z4⟩ := ext2 hwb2.b3
    have HWB := hide hwb2
    gi_wp2_with (gi_at_call 48; refine (unhide HCO _ _ _).mono ?_; rintro e w' ⟨rfl, rfl⟩)
    obtain ⟨W1, hW1⟩ : ∃ W1, (V.alloc (.cells #[.string s] 9)).alloc (extBlk EF ET) = W1 := ⟨_, rfl⟩
    have hB1 : Below V.heap.size V W1 := by rw [← hW1]; exact ((Below.refl _ V).alloc (Nat.le_refl _) _).alloc (by simp) _
    have hwb1 : WBox w W1 b (EX, EF, ET) 0 := (unhide HWB).below hB1
    have hK1 : W1.heap[D]? = some (.deferred (some [])) := (hB1.block D (Array.getElem?_eq_some_iff.1 hK).1).trans hK
    have q0 : Boxed W1 V.heap.size 9 (.string s) := by rw [← hW1]; exact (Boxed.new V _ _).alloc _
    have q1 : W1.heap[V.heap.size + 1]? = some (extBlk EF ET) := by rw [← hW1]; simpa using heap_alloc_new (V.alloc (.cells #[.string s] 9)) (extBlk EF ET)
    have hs1 : W1.heap.size = V.heap.size + 2 := by rw [← hW1]; simp
    have hVl : w.heap.size + 3 < V.heap.size := (Array.getElem?_eq_some_iff.1 (unhide HWB).b3).1
    have hDV : D < V.heap.size := (Array.getElem?_eq_some_iff.1 hK).1
    rw [hW1]
    clear hW1 z0 z3 z4 hwb2 hK
    refine wpIn_rangeFunc_ownG rfl (by omega) (gf := 63) (lb := #[.pointer (some ⟨V.heap.size, 0, none⟩), .pointer (some ⟨V.heap.size + 1, 0, none⟩)]) rfl trivial (enters_of Tryd.func63 (by kernel_rfl) rfl)
      (cols_stops s EF ET (by omega) (by omega) (by omega) _ V.heap.size (V.heap.size + 1) (by omega) W1 q0 q1) kpC_t kpC_b (Below.refl _ _) (fun _ => rfl)
      (WcI w b (EX, EF, ET) D)
      (WcX w b (EX, EF, ET) D)
      (fun st A B row hx hg hr => ⟨hx.1, WBox.own (by omega) _ _ () A B row hx.2.1 hg hr, (hg.block D (Array.getElem?_eq_some_iff.1 hx.2.2).1 (fun e => by have := (hr D e.symm).1; omega)).trans hx.2.2⟩)
      (fun c st A B row hx hg hr => by
          obtain ⟨e1, qs, x, e2, e3, e4, e5, e6⟩ := hx
          exact ⟨e1, qs, x, e2, e3, e4, WBox.own (by omega) _ _ () A B row e5 hg hr, (hg.block D (Array.getElem?_eq_some_iff.1 e6).1 (fun e => by have := (hr D e.symm).1; omega)).trans e6⟩)
      ⟨by simp, hwb1, hK1⟩
      ?a2 ?assign2 ?body2 ?done2 ?stop2
    case assign2 =>
      intro l x W K hK
      gi_wp2
      exact hK
    case body2 =>
      clear hs1
      rintro l pre x U ⟨h1, h2, h3⟩ hlen
      obtain ⟨C, Bg⟩ := x
      have z0 := h2.b0.cell
      have z2 := h2.b2.cell
      have y2 := h2.b2.frozen
      have HWU := hide h2
      have H1 := hide h1
      clear h1 h2
      by_cases q : brkC b (C, Bg) = true
      · have qq : 1 < C ∧ b < (Bg : Int) := by simpa [brkC] using q
        have d3 : decide ((1 : Int) < (C : Int)) = true := decide_eq_true (by omega)
        have d3' : (1 : Int) < (C : Int) := by omega
        have d4 : decide (b < (Bg : Int)) = true := decide_eq_true qq.2
        have HQ := hide q
        clear q
        gi_wp2
        exact ⟨KeepsFrom.refl _ _, rfl, pre, (C, Bg), rfl, unhide H1, unhide HQ, unhide HWU, h3⟩
      · have q' : brkC b (C, Bg) = false := by simpa using q
        have qq : ¬ (1 < C ∧ b < (Bg : Int)) := by simpa [brkC] using q
        have HALL : Hid (∀ y ∈ pre ++ [(C, Bg)], brkC b y = false) := by
          intro y hy
          rcases List.mem_append.1 hy with h | h
          · exact unhide H1 y h
          · rw [List.mem_singleton.1 h]; exact q'
        clear q q'
        have fin : ∀ ac : Act, ownPostG W1.heap.size (KpC V.heap.size (V.heap.size + 1) EF ET s) (WcI w b (EX, EF, ET) D) (WcX w b (EX, EF, ET) D) (pre ++ [(C, Bg)]) U .normal ac (U.setCell ⟨w.heap.size + 1 + 1, 0, none⟩ (.int .i64 (C : Nat))) := by
          intro ac
          have ko := KeepsOthers.setCell U ⟨w.heap.size + 1 + 1, 0, none⟩ (.int .i64 (C : Nat))
          refine ⟨ko.from _, ⟨ko.walks, fun hb => hb.other (by omega) _, fun hb => (heap_setCell_other _ _ _ _ (by show V.heap.size + 1 ≠ w.heap.size + 1 + 1; omega)).trans hb⟩, HALL.out, ⟨(unhide HWU).b0.other (by omega) _, (unhide HWU).b1.other (by omega) _, ?_, (heap_setCell_other _ _ _ _ (by show w.heap.size + 1 + 1 + 1 ≠ w.heap.size + 1 + 1; omega)).trans (unhide HWU).b3, (unhide HWU).bl.setCell (p := ⟨w.heap.size + 1 + 1, 0, none⟩) (by show _ ≤ w.heap.size + 1 + 1; omega) _⟩, ko.same D _ h3 rfl⟩
          rw [lastC_snoc]; exact (unhide HWU).b2.set _
        have FIN := hide fin
        clear fin
        by_cases q1 : 1 < C
        · have d3 : decide ((1 : Int) < (C : Int)) = true := decide_eq_true (by omega)
          have d3' : (1 : Int) < (C : Int) := by omega
          have d4 : decide (b < (Bg : Int)) = false := decide_eq_false (fun h => qq ⟨q1, h⟩)
          have d4' : ¬ b < (Bg : Int) := fun h => qq ⟨q1, h⟩
          clear qq
          gi_wp2
          exact unhide FIN _
        · have d3 : decide ((1 : Int) < (C : Int)) = false := decide_eq_false (by omega)
          have d3' : ¬ (1 : Int) < (C : Int) := by omega
          clear qq
          gi_wp2
          exact unhide FIN _
    case done2 =>
      rintro D2 xs U hD2 hS ⟨h1, h2, h3⟩ hK2
      subst hS
      have HC := hide (unhide HWC _ (tw_full _ _ (fun y hy => by rw [h1 y hy]; rfl)).symm)
      rw [unhide HC] at h2
      clear h1
      have z1 := h2.b1.cell
      have z2 := h2.b2.cell
      have y1 := h2.b1.frozen
      have y2 := h2.b2.frozen
      have e1 := set_same h2.b1
      have e2 := set_same h2.b2
      have HU := hide h2
      gi_wp2
      gi_region
      all_goals gi_wp2
      all_goals
        have hne12 : D ≠ D2 := by omega
        have k1' : (U.drew.putObj D2 (.deferred none)).heap[D]? = some (.deferred (some [])) := (World.putObj_heap_other hne12).trans h3
        have hD2' : w.heap.size + 3 < D2 := by omega
        have hDD : w.heap.size + 3 < D := by omega
        refine ⟨by simp, .inl ⟨_, _, rfl, run_takeDeferred (show U.drew.heap[D2]? = _ from hK2), by simp, .inl ⟨_, _, rfl, run_takeDeferred k1', ?_⟩⟩⟩
        have r1 : Boxed ((U.drew.putObj D2 (.deferred none)).putObj D (.deferred none)) (w.heap.size + 1) 3 (.int .i64 (EX : Nat)) := (World.putObj_heap_other (by omega)).trans ((World.putObj_heap_other (by omega)).trans (unhide HU).b1)
        have r2 : Boxed ((U.drew.putObj D2 (.deferred none)).putObj D (.deferred none)) (w.heap.size + 1 + 1) 3 (.int .i64 (whereC s b : Nat)) := (World.putObj_heap_other (by omega)).trans ((World.putObj_heap_other (by omega)).trans (unhide HU).b2)
        have r1c := r1.cell
        have r2c := r2.cell
        refine ⟨.tuple #[.int .i64 (EX : Nat), .int .i64 (whereC s b : Nat)], by simp [results, Tryd.f27, go_sem, r1c, r2c], by rw [unhide HE], ((unhide HU).drew.bl.trans (belowK_b (w := w) (Nat.le_refl _) _ D2 _ _ (by omega) (show U.drew.heap[D2]? = _ from hK2) rfl rfl)).trans (belowK_b (w := w) (Nat.le_refl _) _ D _ _ (by omega) k1' rfl rfl)⟩
    case stop2 =>
      rintro D2 c pre U hD2 hSp ⟨rfl, qs, y, rfl, h1, h1', h2, h3⟩ hK2
      obtain ⟨rr, hrr⟩ := hSp
      have HC := hide (unhide HWC qs (by rw [← hrr]; exact (tw_stop _ qs rr y (fun z hz => by rw [h1 z hz]; rfl) (by rw [h1']; rfl)).symm))
      rw [unhide HC] at h2
      clear h1 h1' hrr
      have z1 := h2.b1.cell
      have z2 := h2.b2.cell
      have y1 := h2.b1.frozen
      have y2 := h2.b2.frozen
      have e1 := set_same h2.b1
      have e2 := set_same h2.b2
      have HU := hide h2
      gi_wp2
      gi_region
      all_goals gi_wp2
      all_goals
        have hne12 : D ≠ D2 := by omega
        have k1' : (U.drew.putObj D2 (.deferred none)).heap[D]? = some (.deferred (some [])) := (World.putObj_heap_other hne12).trans h3
        have hD2' : w.heap.size + 3 < D2 := by omega
        have hDD : w.heap.size + 3 < D := by omega
        refine ⟨by simp, .inl ⟨_, _, rfl, run_takeDeferred (show U.drew.heap[D2]? = _ from hK2), by simp, .inl ⟨_, _, rfl, run_takeDeferred k1', ?_⟩⟩⟩
        have r1 : Boxed ((U.drew.putObj D2 (.deferred none)).putObj D (.deferred none)) (w.heap.size + 1) 3 (.int .i64 (EX : Nat)) := (World.putObj_heap_other (by omega)).trans ((World.putObj_heap_other (by omega)).trans (unhide HU).b1)
        have r2 : Boxed ((U.drew.putObj D2 (.deferred none)).putObj D (.deferred none)) (w.heap.size + 1 + 1) 3 (.int .i64 (whereC s b : Nat)) := (World.putObj_heap_other (by omega)).trans ((World.putObj_heap_other (by omega)).trans (unhide HU).b2)
        have r1c := r1.cell
        have r2c := r2.cell
        refine ⟨.tuple #[.int .i64 (EX : Nat), .int .i64 (whereC s b : Nat)], by simp [results, Tryd.f27, go_sem, r1c, r2c], by rw [unhide HE], ((unhide HU).drew.bl.trans (belowK_b (w := w) (Nat.le_refl _) _ D2 _ _ (by omega) (show U.drew.heap[D2]? = _ from hK2) rfl rfl)).trans (belowK_b (w := w) (Nat.le_refl _) _ D _ _ (by omega) k1' rfl rfl)⟩
end Go.Proofs.YtlaennakglhmjaaDoor

/-
  UnitAt, ByteAt of package wide, and the iterator starts that they go over.
-/
import Derived.Test.YtghcheoholkpbaaWUst
namespace Go.Proofs.Ytghcheoholkpbaa
open Go.RowKit Go.PlainAid Go.Lib Go.Shelf
attribute [local go_sem] World.iter
attribute [local go_sem] Oper.semAt_some
set_option linter.unusedVariables false

theorem starts_any (s : ByteArray) (w : World) :
    Calls Try.prog 65 #[.string s] w fun e w' => e = .returned (.func (.func 80) #[] #[.pointer (some ⟨w.heap.size, 0, none⟩)]) ∧ w' = w.alloc (.cells #[.string s] 9) := by
  go_enter Try.func65, Try.ntmps65
  go_wp2
  go_ret
  exact ⟨rfl, rfl⟩
/-- what starts hands to the loop's body -/
abbrev stVals (x : Nat × Nat) : Array Value := #[.int .i64 (x.1 : Nat), .int .i64 (x.2 : Nat)]

set_option maxRecDepth 100000 in
set_option maxHeartbeats 2000000 in
theorem starts1_in (s : ByteArray) (hs : s.size ≤ 1099511627776) (n l Bs : Nat) (hn : 1 ≤ n) (J Jx : List (Nat × Nat) → World → Prop)
    (hY : ∀ pre x W, J pre W → pre.length < s.size + 1 → YieldAt Fence.wide (n - 1) Try.prog l (stVals x) W fun e W' =>
      (e = .returned (.bool true) ∧ J (pre ++ [x]) W' ∧ KpS Bs s W W') ∨ (e = .returned (.bool false) ∧ Jx (pre ++ [x]) W'))
    (W : World) (hJ : AbidesFrom W.heap.size J) (hBs : Boxed W Bs 9 (.string s)) (h0 : J [] W) :
    CallsIn Fence.wide n Try.prog 80 #[.func (.yield l) #[] #[], .pointer (some ⟨Bs, 0, none⟩)] W fun e W' => (∃ v, e = .returned v) ∧
      ((∃ xs, xs = ust s ∧ J xs W') ∨ (∃ pre, pre <+: ust s ∧ Jx pre W')) := by
  refine callsIn_of_wp Try.func80 rfl trivial ?_ rfl
  simp only [Try.ntmps80, List.size_toArray, List.length_cons, List.length_nil, Nat.reduceAdd, Nat.reduceSub, Array.replicate_succ, Array.replicate_zero, List.push_toArray, List.append_toArray, List.nil_append, List.cons_append]
  have hc := hBs.cell
  have hF : ∀ f, Fence.wide.fn f := fun _ => trivial
  gi_wp2
  gi_loopw [3] (fun v3 wr => ∃ (pos k : Nat) (pre : List (Nat × Nat)), v3 = .int .i64 k ∧ k ≤ 2 * pos ∧ pos ≤ s.size ∧ Hid (pre ++ ustL s.size (chars s pos) k = ust s) ∧ wr.heap[W.heap.size]? = some (.stringIter s pos) ∧ Boxed wr Bs 9 (.string s) ∧ J pre wr)
    (fun _ wr => s.size - wr.iterPos W.heap.size)
  case atStart =>
    exact ⟨0, 0, [], rfl, Nat.le_refl _, Nat.zero_le _, rfl, heap_alloc_new W _, hBs.alloc _, hJ _ _ _ none h0 (World.grownBy_alloc W _ none) (fun r e => by cases e)⟩
  case round =>
    obtain ⟨pos, k, pre, rfl, hk, hps, HP, hit, hbx, hJs⟩ := hrel
    have hpl : pre.length < s.size + 1 := by
      have := congrArg List.length HP.out
      have h2 := chars_length s 0
      rw [ust_len, List.length_append, ustL_len] at this; omega
    by_cases hlt : pos < s.size
    · have hnx := fun ty => run_next_any_at (P := Try.prog) wr W.heap.size s pos ty hit hlt
      have hb := dec_bounds s pos hlt
      have hit2 := iterAt_heap wr W.heap.size s pos (pos + (Utf8.decode s pos).2) hit
      have hbx2 := iterAt_boxed (p' := pos + (Utf8.decode s pos).2) hit hbx
      have hJ2 : J pre (wr.iterAt W.heap.size s (pos + (Utf8.decode s pos).2)) := hJ _ _ _ (some W.heap.size) hJs (grownBy_iterAt wr W.heap.size s _) (fun r e => by cases e; exact ⟨Nat.le_refl _, _, hit, rfl⟩)
      have HP2 : Hid (pre ++ [(pos, k)] ++ ustL s.size (chars s (pos + (Utf8.decode s pos).2)) (k + wNn (Utf8.decode s pos).1) = ust s) := by
        show _ = _
        rw [← HP.out, ust_step s pos k hlt, List.append_assoc]; rfl
      have hw := wN_nat (Utf8.decode s pos).1
      have hwb := wNn_bounds (Utf8.decode s pos).1
      have hmeas : s.size - (pos + (Utf8.decode s pos).2) < s.size - wr.iterPos W.heap.size := by rw [iterPos_of hit]; omega
      generalize hW3 : wr.iterAt W.heap.size s (pos + (Utf8.decode s pos).2) = W3 at *
      clear hW3
      obtain ⟨fn, tmps, assign, body, hy, hR⟩ := hY pre (pos, k) _ hJ2 hpl
      dsimp only [stVals] at hy
      gi_wp2
      refine hR.mono ?_
      rintro e W5 (⟨rfl, hJ5, hk5⟩ | ⟨rfl, hJx5⟩)
      · have hit5 := walks_iter hk5.1 hit2
        have hbx5 := hk5.2 hbx2
        gi_wp2_with (gi_at_call 18; refine (callsIn_wide.2 (wWidth_any _ _)).mono ?_; rintro e w' ⟨rfl, rfl⟩; rw [hw])
        go_roundw
        case rel => exact ⟨_, k + wNn (Utf8.decode s pos).1, _, by go_num, by omega, by omega, HP2, hit5, hbx5, hJ5⟩
        case measure => rw [iterPos_of hit5]; exact hmeas
      · gi_wp2
        refine bodyPost_ret (results_none rfl _ _ _) rfl ?_
        exact ⟨⟨_, rfl⟩, .inr ⟨_, ⟨_, HP2.out⟩, hJx5⟩⟩
    · have hnx := fun ty => run_next_end_at (P := Try.prog) wr W.heap.size s pos ty hit hlt
      have HE : Hid (pre ++ [(s.size, k)] = ust s) := by
        show _ = _
        have := HP.out
        rw [ust_end s pos k hlt] at this; exact this
      have hcx := hbx.cell
      obtain ⟨fn, tmps, assign, body, hy, hR⟩ := hY pre (s.size, k) _ hJs hpl
      dsimp only [stVals] at hy
      gi_wp2
      refine hR.mono ?_
      rintro e W5 (⟨rfl, hJ5, hk5⟩ | ⟨rfl, hJx5⟩)
      · gi_wp2
        go_end0
        exact ⟨⟨_, rfl⟩, .inl ⟨_, HE.out, hJ5⟩⟩
      · gi_wp2
        go_end0
        exact ⟨⟨_, rfl⟩, .inr ⟨_, ⟨[], by rw [List.append_nil]; exact HE.out⟩, hJx5⟩⟩

theorem starts_stops (s : ByteArray) (hs : s.size ≤ 1099511627776) (n Bs : Nat) (hn : 1 ≤ n) (w : World) (hBs : Boxed w Bs 9 (.string s)) :
    SeqStopsK Fence.wide n Try.prog 80 #[.pointer (some ⟨Bs, 0, none⟩)] stVals (KpS Bs s) (fun xs => xs = ust s) (fun pre => pre <+: ust s) (s.size + 1) w :=
  fun l J Jx W hW hJ _ hY h0 => starts1_in s hs n l Bs hn J Jx hY W hJ ((hW.block Bs hBs.lt).trans hBs) h0
theorem starts_some (f : Nat) (x : Value) (w : World) (h : f = 80) : (binOp .eql 82 (.func (.func f) #[] #[x]) .nilFunc).run Try.prog w = .ok (.bool false) w := by subst h; kernel_rfl

theorem four_boxes (w : World) (z : Int) (s : ByteArray) (W0 : World) (hW0 : ((((w.alloc (Obj.cells #[Value.int IntKind.i64 z] 3)).alloc (Obj.cells #[Value.int IntKind.i64 0] 3)).alloc (Obj.cells #[Value.int IntKind.i64 0] 44)).alloc (Obj.cells #[Value.string s] 9)) = W0) :
    Below w.heap.size w W0 ∧ Boxed W0 w.heap.size 3 (.int .i64 z) ∧ Boxed W0 (w.heap.size + 1) 3 (.int .i64 0) ∧ Boxed W0 (w.heap.size + 1 + 1) 44 (.int .i64 0) ∧ Boxed W0 (w.heap.size + 1 + 1 + 1) 9 (.string s) ∧ W0.heap.size = w.heap.size + 4 := by
  refine ⟨by rw [← hW0]; go_grown, ?_, ?_, ?_, ?_, by rw [← hW0]; simp⟩
  · rw [← hW0]; exact (((Boxed.new w _ _).alloc _).alloc _).alloc _
  · rw [← hW0]; simpa using ((Boxed.new (w.alloc (Obj.cells #[Value.int IntKind.i64 z] 3)) 3 (.int .i64 0)).alloc (Obj.cells #[Value.int IntKind.i64 0] 44)).alloc (Obj.cells #[Value.string s] 9)
  · rw [← hW0]; simpa using (Boxed.new ((w.alloc (Obj.cells #[Value.int IntKind.i64 z] 3)).alloc (Obj.cells #[Value.int IntKind.i64 0] 3)) 44 (.int .i64 0)).alloc (Obj.cells #[Value.string s] 9)
  · rw [← hW0]; simpa using Boxed.new (((w.alloc (Obj.cells #[Value.int IntKind.i64 z] 3)).alloc (Obj.cells #[Value.int IntKind.i64 0] 3)).alloc (Obj.cells #[Value.int IntKind.i64 0] 44)) 9 (.string s)

set_option maxRecDepth 100000 in
set_option maxHeartbeats 2000000 in
theorem unitAt_in (s : ByteArray) (at' : Int) (w : World) (hs : s.size ≤ 1099511627776) (h0 : 0 ≤ at') (h1 : at' ≤ s.size) :
    Calls Try.prog 40 #[.string s, .int .i64 at'] w fun e w' => e = .returned (.tuple #[.int .i64 (unitR s at').1, .int .i64 (unitR s at').2]) ∧ Below w.heap.size w w' := by
  refine (callsIn_wide (n := 5)).1 ?_
  refine callsIn_of_wp_marks Try.func40 rfl trivial ?_ rfl
  simp only [Try.ntmps40, List.size_toArray, List.length_cons, List.length_nil, Nat.reduceAdd, Nat.reduceSub, Array.replicate_succ, Array.replicate_zero, List.push_toArray, List.append_toArray, List.nil_append, List.cons_append]
  have hF : ∀ f, Fence.wide.fn f := fun _ => trivial
  have hws := fun x w => starts_some _ x w rfl
  have d0 : decide (at' < 0) = false := by simp; omega
  have d1 : decide ((s.size : Int) < at') = false := by simp; omega
  gi_wp2_with (gi_at_call 65; refine (callsIn_wide.2 (starts_any _ _)).mono ?_; rintro e w' ⟨rfl, rfl⟩)
  obtain ⟨W0, hW0⟩ : ∃ W0, ((((w.alloc (Obj.cells #[Value.int IntKind.i64 at'] 3)).alloc (Obj.cells #[Value.int IntKind.i64 0] 3)).alloc (Obj.cells #[Value.int IntKind.i64 0] 44)).alloc (Obj.cells #[Value.string s] 9)) = W0 := ⟨_, rfl⟩
  obtain ⟨hB0, b0, b1, b2, b3, hsz⟩ := four_boxes w at' s W0 hW0
  rw [hW0]
  clear hW0 hws d0 d1
  refine wpIn_rangeFunc_ownG rfl (by omega) (gf := 80) (lb := #[.pointer (some ⟨w.heap.size + 1 + 1 + 1, 0, none⟩)]) rfl trivial (enters_of Try.func80 (by kernel_rfl) rfl)
    (starts_stops s hs _ (w.heap.size + 1 + 1 + 1) (by omega) W0 b3) kpS_t kpS_b (Below.refl _ _) (fun _ => rfl)
    (fun pre W => (∀ y ∈ pre, (y.1 : Int) < at') ∧ W.heap[w.heap.size]? = some (.cells #[.int .i64 at'] 3) ∧ W.heap[w.heap.size + 1]? = some (.cells #[.int .i64 0] 3) ∧ W.heap[w.heap.size + 1 + 1]? = some (.cells #[.int .i64 0] 44) ∧ Below w.heap.size w W)
    (fun c pre W => ∃ ini x u v, (pre = ini ++ [x] ∧ (∀ y ∈ ini, (y.1 : Int) < at') ∧ ((c = .ret ∧ (x.1 : Int) = at' ∧ u = ((x.2 : Nat) : Int) ∧ v = 0) ∨ (c = .exit 0 ∧ at' < (x.1 : Int) ∧ u = 0 ∧ v = 0))) ∧ W.heap[w.heap.size + 1]? = some (.cells #[.int .i64 u] 3) ∧ W.heap[w.heap.size + 1 + 1]? = some (.cells #[.int .i64 v] 44) ∧ Below w.heap.size w W)
    ((own_pure _ _).and ((own_block _ _ _ rfl).and ((own_block _ _ _ rfl).and ((own_block _ _ _ rfl).and (ownFrom_below (Nat.le_refl _) (by omega))))))
    (fun c st A B row hx hg hr => by
        obtain ⟨ini, x, u, v, e1, e2, e3, e4⟩ := hx
        exact ⟨ini, x, u, v, e1, own_block (β := Unit) _ _ _ rfl () A B row e2 hg hr, own_block (β := Unit) _ _ _ rfl () A B row e3 hg hr, ownFrom_below (β := Unit) (Nat.le_refl _) (by omega) () A B row e4 hg hr⟩)
    ⟨by simp, b0, b1, b2, hB0⟩
    ?a1 ?assign ?body ?done ?stop
  case assign =>
    intro l x W K hK
    gi_wp2
    exact hK
  case body =>
    rintro l pre x W ⟨hpre, k0, k1, k2, hB⟩ hlen
    have c0 := (show Boxed W w.heap.size 3 (.int .i64 at') from k0).cell
    have c1 := (show Boxed W (w.heap.size + 1) 3 (.int .i64 0) from k1).cell
    have c2 := (show Boxed W (w.heap.size + 1 + 1) 44 (.int .i64 0) from k2).cell
    have f1 := (show Boxed W (w.heap.size + 1) 3 (.int .i64 0) from k1).frozen
    have f2 := (show Boxed W (w.heap.size + 1 + 1) 44 (.int .i64 0) from k2).frozen
    have HPRE := hide hpre
    have K0 := hide k0
    have K1 := hide k1
    have K2 := hide k2
    clear hpre k0 k1 k2
    by_cases he : (x.1 : Int) = at'
    · have hq : ((x.1 : Int) == at') = true := by simpa using he
      have HE := hide he
      clear he
      gi_wp2
      refine ⟨((KeepsOthers.setCell _ _ _).trans (KeepsOthers.setCell _ _ _)).from _, pre, x, _, _, ⟨rfl, unhide HPRE, .inl ⟨rfl, unhide HE, rfl, rfl⟩⟩, ?_, ?_, ?_⟩
      · exact (Below.heap_setCell _ _ _ _ (by simp)).trans (blk_set (i := 0) _ (unhide K1))
      · exact blk_set (i := 0) _ ((Below.heap_setCell _ _ _ _ (by simp)).trans (unhide K2))
      · exact (hB.setCell (p := ⟨w.heap.size + 1, 0, none⟩) (by simp) _).setCell (p := ⟨w.heap.size + 1 + 1, 0, none⟩) (by simp; omega) _
    · have hq : ((x.1 : Int) == at') = false := by simpa using he
      have HE := hide he
      clear he
      by_cases hg : at' < (x.1 : Int)
      · gi_wp2
        exact ⟨KeepsFrom.refl _ _, pre, x, _, _, ⟨rfl, unhide HPRE, .inr ⟨rfl, hg, rfl, rfl⟩⟩, unhide K1, unhide K2, hB⟩
      · have hg' : decide (at' < (x.1 : Int)) = false := by simpa using hg
        have HALL : Hid (∀ y ∈ pre ++ [x], (y.1 : Int) < at') := by
          intro y hy
          rcases List.mem_append.1 hy with hy | hy
          · exact unhide HPRE y hy
          · have := unhide HE
            simp at hy; subst hy; omega
        gi_wp2
        exact ⟨KeepsFrom.refl _ _, ⟨KeepsWalks.refl _, fun h => h⟩, fun y z hy => unhide HALL (y, z) hy, unhide K0, unhide K1, unhide K2, hB⟩
  case done =>
    rintro D ys W hD hS ⟨hpre, _⟩ hK
    exfalso
    obtain ⟨pre, e⟩ := ust_last s
    have := hpre _ (by rw [hS, e]; exact List.mem_append_right _ (List.mem_singleton.2 rfl))
    have h2 : (s.size : Int) < at' := this
    omega
  case stop =>
    rintro D c pre W hD ⟨post, hpost⟩ ⟨ini, x, u, v, ⟨e1, e2, ⟨rfl, e4, rfl, rfl⟩ | ⟨rfl, e4, rfl, rfl⟩⟩, k1, k2, hB⟩ hK
    · have HR := hide (unit_yes s ini post x (by rw [← hpost, e1, List.append_assoc]; rfl))
      have HX := hide e4
      clear e4 hpost e1
      gi_wp2
      refine ⟨by simp, .inl ⟨_, _, rfl, run_takeDeferred hK, ?_⟩⟩
      have t1 : Boxed (W.putObj D (.deferred none)) (w.heap.size + 1) 3 (.int .i64 (x.2 : Nat)) := (World.putObj_heap_other (by omega)).trans k1
      have t2 : Boxed (W.putObj D (.deferred none)) (w.heap.size + 1 + 1) 44 (.int .i64 0) := (World.putObj_heap_other (by omega)).trans k2
      have q1 := t1.cell
      have q2 := t2.cell
      refine ⟨.tuple #[.int .i64 (x.2 : Nat), .int .i64 0], ?_, ?_, hB.trans (belowK_b (w := w) (Nat.le_refl _) _ D _ _ (by omega) hK rfl rfl)⟩
      · simp [results, Try.f40, go_sem, q1, q2]
      · rw [← unhide HX, unhide HR]
    · have HR := hide (unit_between s ini post x at' (by rw [← hpost, e1, List.append_assoc]; rfl) e2 e4)
      have c1 := (show Boxed W (w.heap.size + 1) 3 (.int .i64 0) from k1).cell
      have c2 := (show Boxed W (w.heap.size + 1 + 1) 44 (.int .i64 0) from k2).cell
      have f1 := (show Boxed W (w.heap.size + 1) 3 (.int .i64 0) from k1).frozen
      have f2 := (show Boxed W (w.heap.size + 1 + 1) 44 (.int .i64 0) from k2).frozen
      clear hpost e1 e2
      gi_wp2
      have hK' := ((KeepsOthers.setCell W ⟨w.heap.size + 1, 0, none⟩ (.int .i64 0)).trans (KeepsOthers.setCell _ ⟨w.heap.size + 1 + 1, 0, none⟩ (.int .i64 23))).same D _ hK rfl
      have hB5 := (hB.setCell (p := ⟨w.heap.size + 1, 0, none⟩) (by simp) (.int .i64 0)).setCell (p := ⟨w.heap.size + 1 + 1, 0, none⟩) (by simp; omega) (.int .i64 23)
      have t1 := (Below.heap_setCell (W.setCell ⟨w.heap.size + 1, 0, none⟩ (.int .i64 0)) ⟨w.heap.size + 1 + 1, 0, none⟩ (.int .i64 23) (w.heap.size + 1) (by simp)).trans (blk_set (i := 0) (.int .i64 0) k1)
      have t2 := blk_set (i := 0) (.int .i64 23) ((Below.heap_setCell W ⟨w.heap.size + 1, 0, none⟩ (.int .i64 0) (w.heap.size + 1 + 1) (by simp)).trans k2)
      generalize (W.setCell ⟨w.heap.size + 1, 0, none⟩ (.int .i64 0)).setCell ⟨w.heap.size + 1 + 1, 0, none⟩ (.int .i64 23) = W5 at *
      refine ⟨by simp, .inl ⟨_, _, rfl, run_takeDeferred hK', ?_⟩⟩
      have t1' : Boxed (W5.putObj D (.deferred none)) (w.heap.size + 1) 3 (.int .i64 0) := (World.putObj_heap_other (by omega)).trans t1
      have t2' : Boxed (W5.putObj D (.deferred none)) (w.heap.size + 1 + 1) 44 (.int .i64 23) := (World.putObj_heap_other (by omega)).trans t2
      have q1 := t1'.cell
      have q2 := t2'.cell
      refine ⟨.tuple #[.int .i64 0, .int .i64 23], ?_, ?_, hB5.trans (belowK_b (w := w) (Nat.le_refl _) _ D _ _ (by omega) hK' rfl rfl)⟩
      · simp [results, Try.f40, go_sem, q1, q2]
      · rw [unhide HR]

set_option maxRecDepth 100000 in
set_option maxHeartbeats 2000000 in
theorem byteAt_in (s : ByteArray) (at' : Int) (w : World) (hs : s.size ≤ 1099511627776) (h0 : 0 ≤ at') :
    Calls Try.prog 42 #[.string s, .int .i64 at'] w fun e w' => e = .returned (.tuple #[.int .i64 (byteR s at').1, .int .i64 (byteR s at').2]) ∧ Below w.heap.size w w' := by
  refine (callsIn_wide (n := 5)).1 ?_
  refine callsIn_of_wp_marks Try.func42 rfl trivial ?_ rfl
  simp only [Try.ntmps42, List.size_toArray, List.length_cons, List.length_nil, Nat.reduceAdd, Nat.reduceSub, Array.replicate_succ, Array.replicate_zero, List.push_toArray, List.append_toArray, List.nil_append, List.cons_append]
  have hF : ∀ f, Fence.wide.fn f := fun _ => trivial
  have hws := fun x w => starts_some _ x w rfl
  have d0 : decide (at' < 0) = false := by simp; omega
  gi_wp2_with (gi_at_call 65; refine (callsIn_wide.2 (starts_any _ _)).mono ?_; rintro e w' ⟨rfl, rfl⟩)
  obtain ⟨W0, hW0⟩ : ∃ W0, ((((w.alloc (Obj.cells #[Value.int IntKind.i64 at'] 3)).alloc (Obj.cells #[Value.int IntKind.i64 0] 3)).alloc (Obj.cells #[Value.int IntKind.i64 0] 44)).alloc (Obj.cells #[Value.string s] 9)) = W0 := ⟨_, rfl⟩
  obtain ⟨hB0, b0, b1, b2, b3, hsz⟩ := four_boxes w at' s W0 hW0
  rw [hW0]
  clear hW0 hws d0
  refine wpIn_rangeFunc_ownG rfl (by omega) (gf := 80) (lb := #[.pointer (some ⟨w.heap.size + 1 + 1 + 1, 0, none⟩)]) rfl trivial (enters_of Try.func80 (by kernel_rfl) rfl)
    (starts_stops s hs _ (w.heap.size + 1 + 1 + 1) (by omega) W0 b3) kpS_t kpS_b (Below.refl _ _) (fun _ => rfl)
    (fun pre W => (∀ y ∈ pre, (y.2 : Int) < at') ∧ W.heap[w.heap.size]? = some (.cells #[.int .i64 at'] 3) ∧ W.heap[w.heap.size + 1]? = some (.cells #[.int .i64 0] 3) ∧ W.heap[w.heap.size + 1 + 1]? = some (.cells #[.int .i64 0] 44) ∧ Below w.heap.size w W)
    (fun c pre W => ∃ ini x u v, (pre = ini ++ [x] ∧ (∀ y ∈ ini, (y.2 : Int) < at') ∧ ((c = .ret ∧ (x.2 : Int) = at' ∧ u = ((x.1 : Nat) : Int) ∧ v = 0) ∨ (c = .ret ∧ at' < (x.2 : Int) ∧ u = 0 ∧ v = 23))) ∧ W.heap[w.heap.size + 1]? = some (.cells #[.int .i64 u] 3) ∧ W.heap[w.heap.size + 1 + 1]? = some (.cells #[.int .i64 v] 44) ∧ Below w.heap.size w W)
    ((own_pure _ _).and ((own_block _ _ _ rfl).and ((own_block _ _ _ rfl).and ((own_block _ _ _ rfl).and (ownFrom_below (Nat.le_refl _) (by omega))))))
    (fun c st A B row hx hg hr => by
        obtain ⟨ini, x, u, v, e1, e2, e3, e4⟩ := hx
        exact ⟨ini, x, u, v, e1, own_block (β := Unit) _ _ _ rfl () A B row e2 hg hr, own_block (β := Unit) _ _ _ rfl () A B row e3 hg hr, ownFrom_below (β := Unit) (Nat.le_refl _) (by omega) () A B row e4 hg hr⟩)
    ⟨by simp, b0, b1, b2, hB0⟩
    ?a1 ?assign ?body ?done ?stop
  case assign =>
    intro l x W K hK
    gi_wp2
    exact hK
  case body =>
    rintro l pre x W ⟨hpre, k0, k1, k2, hB⟩ hlen
    have c0 := (show Boxed W w.heap.size 3 (.int .i64 at') from k0).cell
    have c1 := (show Boxed W (w.heap.size + 1) 3 (.int .i64 0) from k1).cell
    have c2 := (show Boxed W (w.heap.size + 1 + 1) 44 (.int .i64 0) from k2).cell
    have f1 := (show Boxed W (w.heap.size + 1) 3 (.int .i64 0) from k1).frozen
    have f2 := (show Boxed W (w.heap.size + 1 + 1) 44 (.int .i64 0) from k2).frozen
    have HPRE := hide hpre
    have K0 := hide k0
    have K1 := hide k1
    have K2 := hide k2
    clear hpre k0 k1 k2
    by_cases he : (x.2 : Int) = at'
    · have hq : ((x.2 : Int) == at') = true := by simpa using he
      have HE := hide he
      clear he
      gi_wp2
      refine ⟨((KeepsOthers.setCell _ _ _).trans (KeepsOthers.setCell _ _ _)).from _, pre, x, _, _, ⟨rfl, unhide HPRE, .inl ⟨rfl, unhide HE, rfl, rfl⟩⟩, ?_, ?_, ?_⟩
      · exact (Below.heap_setCell _ _ _ _ (by simp)).trans (blk_set (i := 0) _ (unhide K1))
      · exact blk_set (i := 0) _ ((Below.heap_setCell _ _ _ _ (by simp)).trans (unhide K2))
      · exact (hB.setCell (p := ⟨w.heap.size + 1, 0, none⟩) (by simp) _).setCell (p := ⟨w.heap.size + 1 + 1, 0, none⟩) (by simp; omega) _
    · have hq : ((x.2 : Int) == at') = false := by simpa using he
      have HE := hide he
      clear he
      by_cases hg : at' < (x.2 : Int)
      · gi_wp2
        refine ⟨((KeepsOthers.setCell _ _ _).trans (KeepsOthers.setCell _ _ _)).from _, pre, x, _, _, ⟨rfl, unhide HPRE, .inr ⟨rfl, hg, rfl, rfl⟩⟩, ?_, ?_, ?_⟩
        · exact (Below.heap_setCell _ _ _ _ (by simp)).trans (blk_set (i := 0) _ (unhide K1))
        · exact blk_set (i := 0) _ ((Below.heap_setCell _ _ _ _ (by simp)).trans (unhide K2))
        · exact (hB.setCell (p := ⟨w.heap.size + 1, 0, none⟩) (by simp) _).setCell (p := ⟨w.heap.size + 1 + 1, 0, none⟩) (by simp; omega) _
      · have hg' : decide (at' < (x.2 : Int)) = false := by simpa using hg
        have HALL : Hid (∀ y ∈ pre ++ [x], (y.2 : Int) < at') := by
          intro y hy
          rcases List.mem_append.1 hy with hy | hy
          · exact unhide HPRE y hy
          · have := unhide HE
            simp at hy; subst hy; omega
        gi_wp2
        exact ⟨KeepsFrom.refl _ _, ⟨KeepsWalks.refl _, fun h => h⟩, fun y z hy => unhide HALL (y, z) hy, unhide K0, unhide K1, unhide K2, hB⟩
  case done =>
    rintro D ys W hD hS ⟨hpre, k0, k1, k2, hB⟩ hK
    have HR := hide (byte_past s at' (by rw [← hS]; exact hpre))
    have c1 := (show Boxed W (w.heap.size + 1) 3 (.int .i64 0) from k1).cell
    have c2 := (show Boxed W (w.heap.size + 1 + 1) 44 (.int .i64 0) from k2).cell
    have f1 := (show Boxed W (w.heap.size + 1) 3 (.int .i64 0) from k1).frozen
    have f2 := (show Boxed W (w.heap.size + 1 + 1) 44 (.int .i64 0) from k2).frozen
    have HPRE := hide hpre
    have HS := hide hS
    clear hpre hS
    gi_wp2
    have hK' := ((KeepsOthers.setCell W ⟨w.heap.size + 1, 0, none⟩ (.int .i64 0)).trans (KeepsOthers.setCell _ ⟨w.heap.size + 1 + 1, 0, none⟩ (.int .i64 2))).same D _ hK rfl
    have hB5 := (hB.setCell (p := ⟨w.heap.size + 1, 0, none⟩) (by simp) (.int .i64 0)).setCell (p := ⟨w.heap.size + 1 + 1, 0, none⟩) (by simp; omega) (.int .i64 2)
    have t1 := (Below.heap_setCell (W.setCell ⟨w.heap.size + 1, 0, none⟩ (.int .i64 0)) ⟨w.heap.size + 1 + 1, 0, none⟩ (.int .i64 2) (w.heap.size + 1) (by simp)).trans (blk_set (i := 0) (.int .i64 0) k1)
    have t2 := blk_set (i := 0) (.int .i64 2) ((Below.heap_setCell W ⟨w.heap.size + 1, 0, none⟩ (.int .i64 0) (w.heap.size + 1 + 1) (by simp)).trans k2)
    generalize (W.setCell ⟨w.heap.size + 1, 0, none⟩ (.int .i64 0)).setCell ⟨w.heap.size + 1 + 1, 0, none⟩ (.int .i64 2) = W5 at *
    refine ⟨by simp, .inl ⟨_, _, rfl, run_takeDeferred hK', ?_⟩⟩
    have t1' : Boxed (W5.putObj D (.deferred none)) (w.heap.size + 1) 3 (.int .i64 0) := (World.putObj_heap_other (by omega)).trans t1
    have t2' : Boxed (W5.putObj D (.deferred none)) (w.heap.size + 1 + 1) 44 (.int .i64 2) := (World.putObj_heap_other (by omega)).trans t2
    have q1 := t1'.cell
    have q2 := t2'.cell
    refine ⟨.tuple #[.int .i64 0, .int .i64 2], ?_, ?_, hB5.trans (belowK_b (w := w) (Nat.le_refl _) _ D _ _ (by omega) hK' rfl rfl)⟩
    · simp [results, Try.f42, go_sem, q1, q2]
    · rw [unhide HR]
  case stop =>
    rintro D c pre W hD ⟨post, hpost⟩ ⟨ini, x, u, v, ⟨e1, e2, ⟨rfl, e4, rfl, rfl⟩ | ⟨rfl, e4, rfl, rfl⟩⟩, k1, k2, hB⟩ hK
    · have HR := hide (byte_yes s ini post x (by rw [← hpost, e1, List.append_assoc]; rfl))
      have HX := hide e4
      clear e4 hpost e1
      gi_wp2
      refine ⟨by simp, .inl ⟨_, _, rfl, run_takeDeferred hK, ?_⟩⟩
      have t1 : Boxed (W.putObj D (.deferred none)) (w.heap.size + 1) 3 (.int .i64 (x.1 : Nat)) := (World.putObj_heap_other (by omega)).trans k1
      have t2 : Boxed (W.putObj D (.deferred none)) (w.heap.size + 1 + 1) 44 (.int .i64 0) := (World.putObj_heap_other (by omega)).trans k2
      have q1 := t1.cell
      have q2 := t2.cell
      refine ⟨.tuple #[.int .i64 (x.1 : Nat), .int .i64 0], ?_, ?_, hB.trans (belowK_b (w := w) (Nat.le_refl _) _ D _ _ (by omega) hK rfl rfl)⟩
      · simp [results, Try.f42, go_sem, q1, q2]
      · rw [← unhide HX, unhide HR]
    · have HR := hide (byte_between s ini post x at' (by rw [← hpost, e1, List.append_assoc]; rfl) e2 e4)
      clear hpost e1 e2
      gi_wp2
      refine ⟨by simp, .inl ⟨_, _, rfl, run_takeDeferred hK, ?_⟩⟩
      have t1 : Boxed (W.putObj D (.deferred none)) (w.heap.size + 1) 3 (.int .i64 0) := (World.putObj_heap_other (by omega)).trans k1
      have t2 : Boxed (W.putObj D (.deferred none)) (w.heap.size + 1 + 1) 44 (.int .i64 23) := (World.putObj_heap_other (by omega)).trans k2
      have q1 := t1.cell
      have q2 := t2.cell
      refine ⟨.tuple #[.int .i64 0, .int .i64 23], ?_, ?_, hB.trans (belowK_b (w := w) (Nat.le_refl _) _ D _ _ (by omega) hK rfl rfl)⟩
      · simp [results, Try.f42, go_sem, q1, q2]
      · rw [unhide HR]

theorem unitAt_out (s : ByteArray) (at' : Int) (w : World) (h : at' < 0 ∨ (s.size : Int) < at') :
    Calls Try.prog 40 #[.string s, .int .i64 at'] w fun e w' => e = .returned (.tuple #[.int .i64 0, .int .i64 2]) ∧ Below w.heap.size w w' := by
  have hd : (decide (at' < 0) = true) ∨ (decide (at' < 0) = false ∧ decide ((s.size : Int) < at') = true) := by
    by_cases h' : at' < 0
    · left; simpa using h'
    · right; exact ⟨by simpa using h', by simp; omega⟩
  rcases hd with d1 | ⟨d1, d2⟩
  all_goals
    go_enter Try.func40, Try.ntmps40
    go_wp2
    refine bodyPost_ret (v := .tuple #[.int .i64 0, .int .i64 2]) (by simp [results, Try.results40, go_sem]) rfl ⟨rfl, ?_⟩
    go_grown
theorem byteAt_out (s : ByteArray) (at' : Int) (w : World) (h : at' < 0) :
    Calls Try.prog 42 #[.string s, .int .i64 at'] w fun e w' => e = .returned (.tuple #[.int .i64 0, .int .i64 2]) ∧ Below w.heap.size w w' := by
  go_enter Try.func42, Try.ntmps42
  go_wp2
  refine bodyPost_ret (v := .tuple #[.int .i64 0, .int .i64 2]) (by simp [results, Try.results42, go_sem]) rfl ⟨rfl, ?_⟩
  go_grown

end Go.Proofs.Ytghcheoholkpbaa

/-
  Each of package lines: an iterator that tells the lines of a text, whatever the loop's body does with them.
-/
import Derived.Test.YtlgolaoabgmijaaGreatDoorLExt
import Derived.Test.YtlgolaoabgmijaaGreatDoorQuietIn
namespace Go.Proofs.YtlgolaoabgmijaaGreatDoor
open Go.RowKit Go.PlainAid Go.Lib Go.Shelf Go.Seq2 Go.Seq3
attribute [local go_sem] Oper.semAt_some
set_option linter.unusedVariables false

/-- a text's lines: their numbers, beginnings, ends -/
def linesL (s : ByteArray) : List (Nat × Nat × Nat) := (extsL s).takeWhile fun x => x.2.1 != s.size
abbrev lineVals (s : ByteArray) (x : Nat × Nat × Nat) : Array Value := #[.int .i64 (x.1 : Nat), .string (s.extract x.2.1 x.2.2)]
abbrev eachT (t : TypeId) : Prop := t = 9 ∨ t = 160
theorem tw_append {α : Type} (p : α → Bool) (l m : List α) (h : ∀ x ∈ l, p x = true) : (l ++ m).takeWhile p = l ++ m.takeWhile p := by
  induction l with
  | nil => rfl
  | cons a l ih => rw [List.cons_append, List.takeWhile_cons, if_pos (h a (by simp)), ih (fun x hx => h x (by simp [hx]))]; rfl
theorem lines_stop (s : ByteArray) (pre : List (Nat × Nat × Nat)) (x : Nat × Nat × Nat) (h : (pre ++ [x]) <+: extsL s) (ha : ∀ y ∈ pre, y.2.1 ≠ s.size) (hx : x.2.1 = s.size) : pre = linesL s := by
  obtain ⟨r, hr⟩ := h
  unfold linesL
  rw [← hr, List.append_assoc, tw_append _ _ _ (fun y hy => by simpa using ha y hy), List.singleton_append, List.takeWhile_cons, if_neg (by simpa using hx), List.append_nil]
theorem lines_go (s : ByteArray) (pre : List (Nat × Nat × Nat)) (h : pre <+: extsL s) (ha : ∀ y ∈ pre, y.2.1 ≠ s.size) : pre <+: linesL s := by
  obtain ⟨r, hr⟩ := h
  unfold linesL
  rw [← hr, tw_append _ _ _ (fun y hy => by simpa using ha y hy)]
  exact List.prefix_append _ _
theorem lines_all (s : ByteArray) (ha : ∀ y ∈ extsL s, y.2.1 ≠ s.size) : extsL s = linesL s := by
  unfold linesL
  have := tw_append (fun x : Nat × Nat × Nat => x.2.1 != s.size) (extsL s) [] (fun y hy => by simpa using ha y hy)
  simpa using this.symm

theorem each_in (s : ByteArray) (w : World) :
    Calls Tryz.prog 51 #[.string s] w fun e w' => e = .returned (.func (.func 86) #[] #[.pointer (some ⟨w.heap.size, 0, none⟩)]) ∧ w' = w.alloc (.cells #[.string s] 9) := by
  go_enter Tryz.func51, Tryz.ntmps51
  go_wp2
  go_ret
  exact ⟨rfl, rfl⟩
theorem box2 {W : World} {b : Nat} {x y : Value} {t : TypeId} (h : W.heap[b]? = some (.cells #[x, y] t)) :
    W.cell? ⟨b, 0, none⟩ = some x ∧ W.cell? ⟨b, 1, none⟩ = some y := by
  refine ⟨?_, ?_⟩ <;> simp [World.cell?, h]
theorem boxed_eq {W : World} {b : Nat} {t t' : TypeId} {x y : Value} (h : Boxed W b t x) (h' : Boxed W b t' y) : t = t' ∧ x = y := by
  have h1 : W.heap[b]? = _ := h
  have h2 : W.heap[b]? = _ := h'
  rw [h1] at h2
  simp only [Option.some.injEq, Obj.cells.injEq] at h2
  exact ⟨h2.2.1, by simpa using h2.1⟩

set_option maxRecDepth 100000 in
set_option maxHeartbeats 4000000 in
theorem each1_in (s : ByteArray) (hs : s.size ≤ 140737488355328) (n l Bs : Nat) (hn : 5 ≤ n) (J Jx : List (Nat × Nat × Nat) → World → Prop) (W : World)
    (hY : ∀ pre x W1, J pre W1 → (pre ++ [x]) <+: linesL s → YieldAt Fence.wide (n - 1) Tryz.prog l (lineVals s x) W1 fun e W' =>
      (e = .returned (.bool true) ∧ J (pre ++ [x]) W' ∧ Kp2 2 (fun k => k = Bs) eachT W.heap.size W1 W') ∨ (e = .returned (.bool false) ∧ Jx (pre ++ [x]) W' ∧ KeepsFrom W.heap.size W1 W'))
    (hJ : OwnFrom W.heap.size J) (hJx : OwnFrom W.heap.size Jx) (hBs : Boxed W Bs 9 (.string s)) (h0 : J [] W) :
    CallsIn Fence.wide n Tryz.prog 86 #[.func (.yield l) #[] #[], .pointer (some ⟨Bs, 0, none⟩)] W fun e W' => (∃ v, e = .returned v) ∧
      ((∃ xs, xs = linesL s ∧ J xs W') ∨ (∃ pre, pre <+: linesL s ∧ Jx pre W')) := by
  refine callsIn_of_wp_marks Tryz.func86 rfl trivial ?_ rfl
  simp only [Tryz.ntmps86, List.size_toArray, List.length_cons, List.length_nil, Nat.reduceAdd, Nat.reduceSub, Array.replicate_succ, Array.replicate_zero, List.push_toArray, List.append_toArray, List.nil_append, List.cons_append]
  have hn1 : 1 ≤ n := by omega
  have hn2 : 1 ≤ n - 1 - 1 := by omega
  have hc2 := (hBs.alloc (Obj.cells #[Value.func (Fn.yield l) #[] #[]] 160)).cell
  have hF : ∀ f, Fence.wide.fn f := fun _ => trivial
  have HYY := hide hY
  clear hY
  gi_wp2_with (gi_at_call 87; refine (callsIn_wide.2 (extents_in s _)).mono ?_; rintro e w' ⟨rfl, rfl⟩)
  obtain ⟨W0, hW0⟩ : ∃ W0, (W.alloc (Obj.cells #[Value.func (Fn.yield l) #[] #[]] 160)).alloc (Obj.cells #[Value.string s] 9) = W0 := ⟨_, rfl⟩
  have by0 : Boxed W0 W.heap.size 160 (.func (.yield l) #[] #[]) := by rw [← hW0]; exact (Boxed.new W _ _).alloc _
  have bq0 : Boxed W0 (W.heap.size + 1) 9 (.string s) := by rw [← hW0]; simpa using Boxed.new (W.alloc (Obj.cells #[Value.func (Fn.yield l) #[] #[]] 160)) 9 (.string s)
  have bs0 : Boxed W0 Bs 9 (.string s) := by rw [← hW0]; exact (hBs.alloc _).alloc _
  have hJ0 : J [] W0 := by rw [← hW0]; exact hJ.alloc _ (hJ.alloc _ h0)
  have hsz : W0.heap.size = W.heap.size + 2 := by rw [← hW0]; simp
  have hlt := hBs.lt
  rw [hW0]
  clear hW0 hc2
  refine range3 (by omega) (gf := 126) (lb := #[.pointer (some ⟨W.heap.size + 1, 0, none⟩)]) rfl (enters_of Tryz.func126 (by kernel_rfl) rfl)
    (ext_gives s hs _ (W.heap.size + 1) (by omega) W0 bq0) (Below.refl _ _) (fun _ => rfl)
    (fun pre V => J pre V ∧ (∀ y ∈ pre, y.2.1 ≠ s.size) ∧ V.heap[W.heap.size]? = some (.cells #[.func (.yield l) #[] #[]] 160) ∧ V.heap[W.heap.size + 1]? = some (.cells #[.string s] 9) ∧ V.heap[Bs]? = some (.cells #[.string s] 9) ∧ W0.heap.size ≤ V.heap.size)
    (fun c pre V => c = .ret ∧ ((∃ qs, qs = linesL s ∧ J qs V) ∨ (pre <+: linesL s ∧ Jx pre V)))
    (OwnFrom.and (fun st A B row hx hg hr => OwnFrom.le hJ (by omega) st A B row hx hg hr) ((own_pure _ _).and ((own_block _ _ _ rfl).and ((own_block _ _ _ rfl).and ((own_block _ _ _ rfl).and (fun _ _ _ _ hs hg _ => Nat.le_trans hs hg.size))))))
    (fun c st A B row hx hg hr => by
        obtain ⟨hc, hx⟩ := hx
        rcases hx with ⟨qs, e1, e2⟩ | ⟨e1, e2⟩
        · exact ⟨hc, .inl ⟨qs, e1, OwnFrom.le hJ (by omega) qs A B row e2 hg hr⟩⟩
        · exact ⟨hc, .inr ⟨e1, OwnFrom.le hJx (by omega) st A B row e2 hg hr⟩⟩)
    ⟨hJ0, by simp, by0, bq0, bs0, Nat.le_refl _⟩
    (fun x a' V => ∃ Bx, V.heap[Bx]? = some (.cells #[.int .i64 (x.2.1 : Nat), .int .i64 (x.2.2 : Nat)] 165) ∧ W.heap.size + 1 < Bx ∧ a' = { tmps := #[.func (.yield l) #[] #[], .pointer (some ⟨Bs, 0, none⟩), .pointer (some ⟨W.heap.size, 0, none⟩), .int .i64 (x.1 : Nat), .pointer (some ⟨Bx, 0, none⟩), .string s, .func (.func 126) #[] #[.pointer (some ⟨W.heap.size + 1, 0, none⟩)], .int .i64 (x.1 : Nat), .agg #[.int .i64 (x.2.1 : Nat), .int .i64 (x.2.2 : Nat)], undef, undef, undef, undef, undef, undef, undef, undef, undef, undef, undef, undef, undef, undef, undef], defers := [] })
    (fun x a' st A B row hx hg hr => by
        obtain ⟨Bx, h1, h2, h3⟩ := hx
        exact ⟨Bx, own_block (β := Unit) _ _ _ rfl () A B row h1 hg hr, h2, h3⟩) ?assign ?body ?done ?stop
  case assign =>
    rintro l2 pre x V K hsz2 ⟨h1, h2, h3, h4, h5, h6⟩ hK
    gi_wp2
    exact hK _ _ ((KeepsOthers.alloc _ _).from _) ⟨KeepsWalks.alloc _ _, fun k t v _ _ h => h.alloc _⟩ ⟨hJ.alloc _ h1, h2, (Below.heap_alloc V _ _ (by omega)).trans h3, (Below.heap_alloc V _ _ (by omega)).trans h4, (Below.heap_alloc V _ _ (by omega)).trans h5, by simp; omega⟩ ⟨V.heap.size, heap_alloc_new V _, by omega, rfl⟩
  case body =>
    rintro l2 pre x a' V hl hsz2 ⟨r, hr⟩ ⟨h1, h2, h3, h4, h5, h6⟩ ⟨Bx, hx1, hx2, rfl⟩ hSp
    obtain ⟨c0, c1⟩ := box2 hx1
    have y0 := (show Boxed V W.heap.size 160 (.func (.yield l) #[] #[]) from h3).cell
    have s0 := (show Boxed V Bs 9 (.string s) from h5).cell
    have hm := exts_mem s x (hSp.subset (by simp))
    obtain ⟨m1, m2, m3, m4⟩ := hm
    by_cases hz : x.2.1 = s.size
    · have hze : ((x.2.1 : Int) == (s.size : Int)) = true := by simp; omega
      have HZ := hide hz
      have HS := hide hSp
      have H2 := hide h2
      clear hz hSp h2
      gi_wp2
      exact ⟨KeepsFrom.refl _ _, rfl, .inl ⟨pre, lines_stop s pre x (unhide HS) (unhide H2) (unhide HZ), h1⟩⟩
    · have hze : ((x.2.1 : Int) == (s.size : Int)) = false := by simp; omega
      have hall : ∀ y ∈ pre ++ [x], y.2.1 ≠ s.size := by
        intro y hy
        rcases List.mem_append.1 hy with h | h
        · exact h2 y h
        · rw [List.mem_singleton.1 h]; exact hz
      have HALL := hide hall
      have HGO := hide (lines_go s (pre ++ [x]) hSp hall)
      clear hz hSp h2 hall
      gi_wp2
      refine Reads.wpIn_region_reads 8 (by kernel_rfl) (by kernel_rfl) (by kernel_rfl) ?_
      simp only [List.take_succ_cons, List.take_zero, List.drop_succ_cons, List.drop_zero]
      repeat (go_big_quiet_step (fail))
      refine wpQuiet_nil ?_
      intro _ hw'
      obtain ⟨nr, hw''⟩ := hw'
      subst hw''
      obtain ⟨fn, tmps, assign, body, hy, hR⟩ := yieldIn (m := n - 1 - 1 - 1) (lr := l2) (unhide HYY pre x (V.drewN nr) (OwnFrom.le hJ (Nat.le_refl _) pre V _ none h1 (grown_drewN _ _ _) (fun r e => by cases e)) HGO.out)
      dsimp only [lineVals] at hy
      gi_wp2
      refine hR.mono ?_
      rintro e V5 (⟨rfl, hJ5, hk5⟩ | ⟨rfl, hJx5, hk5⟩)
      · gi_wp2
        have hKF : KeepsFrom W.heap.size V V5 := KeepsFrom.trans (⟨Nat.le_refl _, fun _ _ _ h _ => h⟩ : KeepsFrom W.heap.size V (V.drewN nr)) hk5.1
        have b3 := hk5.2.2 W.heap.size _ _ (.inl ⟨Nat.le_refl _, by omega⟩) (.inr rfl) (show Boxed (V.drewN nr) W.heap.size 160 (.func (.yield l) #[] #[]) from h3)
        have b4 := hk5.2.2 (W.heap.size + 1) _ _ (.inl ⟨by omega, by omega⟩) (.inl rfl) (show Boxed (V.drewN nr) (W.heap.size + 1) 9 (.string s) from h4)
        have b5 := hk5.2.2 Bs _ _ (.inr rfl) (.inl rfl) (show Boxed (V.drewN nr) Bs 9 (.string s) from h5)
        refine ⟨⟨hKF.size, fun k o hB => hKF.same k o (by omega)⟩, ⟨?_, fun k t v hk _ hb => ?_⟩, hJ5, unhide HALL, b3, b4, b5, ?_⟩
        · exact KeepsWalks.trans (⟨Nat.le_refl _, fun _ _ h _ => h⟩ : KeepsWalks V (V.drewN nr)) hk5.2.1
        · obtain rfl : k = W.heap.size + 1 := by rcases hk with h | h; omega; exact h
          obtain ⟨rfl, rfl⟩ := boxed_eq hb (show Boxed V (W.heap.size + 1) 9 (.string s) from h4)
          exact b4
        · have := hKF.size; omega
      · gi_wp2
        have hKF : KeepsFrom W.heap.size V V5 := KeepsFrom.trans (⟨Nat.le_refl _, fun _ _ _ h _ => h⟩ : KeepsFrom W.heap.size V (V.drewN nr)) hk5
        exact ⟨⟨hKF.size, fun k o hB => hKF.same k o (by omega)⟩, rfl, .inr ⟨HGO.out, hJx5⟩⟩
  case done =>
    rintro D xs V hD hS ⟨h1, h2, h3, h4, h5, h6⟩ hK
    subst hS
    gi_wp2
    refine ⟨by simp, .inl ⟨_, _, rfl, run_takeDeferred hK, ?_⟩⟩
    refine ⟨_, results_none rfl _ _ _, ⟨_, rfl⟩, .inl ⟨extsL s, lines_all s h2, ?_⟩⟩
    exact hJ _ V _ (some D) h1 (grownBy_putObj' V D _) (fun r e => by cases e; exact ⟨by omega, _, hK, rfl⟩)
  case stop =>
    rintro D c pre V hD hSp ⟨rfl, hx⟩ hK
    gi_wp2
    refine ⟨by simp, .inl ⟨_, _, rfl, run_takeDeferred hK, ?_⟩⟩
    refine ⟨_, results_none rfl _ _ _, ⟨_, rfl⟩, ?_⟩
    rcases hx with ⟨qs, e1, e2⟩ | ⟨e1, e2⟩
    · exact .inl ⟨qs, e1, hJ _ V _ (some D) e2 (grownBy_putObj' V D _) (fun r e => by cases e; exact ⟨by omega, _, hK, rfl⟩)⟩
    · exact .inr ⟨pre, e1, hJx _ V _ (some D) e2 (grownBy_putObj' V D _) (fun r e => by cases e; exact ⟨by omega, _, hK, rfl⟩)⟩

theorem each_gives (s : ByteArray) (hs : s.size ≤ 140737488355328) (n Bs : Nat) (hn : 5 ≤ n) (w : World) (hBs : Boxed w Bs 9 (.string s)) :
    Gives3 n Tryz.prog 86 #[.pointer (some ⟨Bs, 0, none⟩)] (lineVals s) 2 (fun k => k = Bs) eachT (fun xs => xs = linesL s) (fun pre => pre <+: linesL s) w :=
  fun l J Jx W hW hJ hJx hY h0 => each1_in s hs n l Bs hn J Jx W hY hJ hJx ((hW.block Bs hBs.lt).trans hBs) h0

end Go.Proofs.YtlgolaoabgmijaaGreatDoor

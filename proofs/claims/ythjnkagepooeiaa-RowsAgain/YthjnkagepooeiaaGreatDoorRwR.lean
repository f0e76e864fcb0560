/-
  Read of package rows, for every text.
-/
import Derived.Test.YthjnkagepooeiaaGreatDoorRwG
namespace Go.Proofs.YthjnkagepooeiaaGreatDoor
open Go.RowKit Go.PlainAid Go.Lib Go.PHexM Go.Shelf Go.Seq4
attribute [local go_sem] Oper.semAt_some
set_option linter.unusedVariables false
set_option linter.unusedSimpArgs false

set_option maxRecDepth 100000 in
set_option maxHeartbeats 4000000 in
theorem read6_any (file s : ByteArray) (w : World) (hg : Glob w) (hs : s.size ≤ 1073741824) :
    Calls Tryz.prog 17 #[.string file, .string s] w fun e w' => Below w.heap.size w w' ∧
      (((rowsS s).2 = none ∧ ∃ v, e = .returned (.tuple #[v, .nilIface]) ∧ RowsAt w' w.heap.size v (rowsS s).1) ∨
       (∃ no code fb, (rowsS s).2 = some (no, code) ∧ e = .returned (.tuple #[.slice none 0 0, .iface 44 (.pointer (some ⟨fb, 0, none⟩))]) ∧ w.heap.size ≤ fb ∧ w'.heap[fb]? = some (.cells #[.string file, .int .i64 no, .int .i64 code] 48 (0, 0)))) := by
  obtain ⟨Wa, hWa⟩ : ∃ Wa, ((w.alloc (Obj.cells #[Value.string file] 9)).alloc (Obj.cells #[Value.slice none 0 0] 37)).alloc (Obj.cells #[Value.nilIface] 39) = Wa := ⟨_, rfl⟩
  have hba : Below w.heap.size w Wa := by rw [← hWa]; exact (((Below.refl _ w).alloc (Nat.le_refl _) _).alloc (by simp) _).alloc (by simp; omega) _
  have hsa : Wa.heap.size = w.heap.size + 3 := by rw [← hWa]; simp
  have a0 : Wa.heap[w.heap.size]? = some (.cells #[.string file] 9 (0, 0)) := by rw [← hWa]; exact (Below.heap_alloc _ _ _ (by simp; omega)).trans ((Below.heap_alloc _ _ _ (by simp)).trans (heap_alloc_new w _))
  have a1 : Wa.heap[w.heap.size + 1]? = some (.cells #[.slice none 0 0] 37 (0, 0)) := by
    rw [← hWa]; refine (Below.heap_alloc _ _ _ (by simp)).trans ?_
    have h := heap_alloc_new (w.alloc (Obj.cells #[Value.string file] 9)) (Obj.cells #[Value.slice none 0 0] 37)
    rw [World.size_alloc] at h; exact h
  have a2 : Wa.heap[w.heap.size + 1 + 1]? = some (.cells #[.nilIface] 39 (0, 0)) := by
    rw [← hWa]
    have h := heap_alloc_new ((w.alloc (Obj.cells #[Value.string file] 9)).alloc (Obj.cells #[Value.slice none 0 0] 37)) (Obj.cells #[Value.nilIface] 39)
    rw [World.size_alloc, World.size_alloc] at h; exact h
  have HRD := hide (read_any file s Wa hs)
  have hga := hg.below hba
  have c0 : Wa.cell? ⟨w.heap.size, 0, none⟩ = some (.string file) := by simp [World.cell?, a0]
  refine (callsIn_wide (n := 9)).1 ?_
  refine callsIn_of_wp_marks Tryz.func17 rfl trivial ?_ rfl
  simp only [Tryz.ntmps17, List.size_toArray, List.length_cons, List.length_nil, Nat.reduceAdd, Nat.reduceSub, Array.replicate_succ, Array.replicate_zero, List.push_toArray, List.append_toArray, List.nil_append, List.cons_append]
  have hF : ∀ f, Fence.wide.fn f := fun _ => trivial
  obtain ⟨i0, hi0, hz0, hz1, hz2⟩ := info_parts infoRow
  gi_wp2_with fail
  clear hWa
  refine (callsIn_wide.2 (unhide HRD)).mono ?_
  rintro e w1 ⟨hb1, (⟨hnone, va, rfl, ps, hps, hrl⟩ | ⟨no, code, fb, hsome, rfl, hfb, hfc⟩)⟩
  · have hbw := hba.trans (hb1.mono hba.size)
    have f0 := (hb1.block _ (by omega)).trans a0
    have f1 := (hb1.block _ (by omega)).trans a1
    have f2 := (hb1.block _ (by omega)).trans a2
    have hs1 := hb1.size
    have hg1 := hga.below hb1
    have hrS : rowsS s = tellR (eachR startW (readS s).1) := by unfold rowsS; rw [hnone]
    have hfl : ∀ p ∈ ps, ∀ x ∈ p.1.fields, x.length ≤ 1073741824 := fun p hp x hx => Nat.le_trans (read_field_le (s := s) (d := p.1) (by rw [← hps]; exact List.mem_map_of_mem hp) hx) hs
    have hvs : ∃ a n c, va = .slice a n c := by obtain ⟨a, c, e, _⟩ := rowL_at hrl; exact ⟨_, _, _, e⟩
    obtain ⟨W0, hW0⟩ : ∃ W0, (w1.alloc (Obj.cells #[Value.slice none 0 0] 37)).alloc (Obj.cells #[va] 85) = W0 := ⟨_, rfl⟩
    have hb0 : Below w1.heap.size w1 W0 := by rw [← hW0]; exact ((Below.refl _ w1).alloc (Nat.le_refl _) _).alloc (by simp) _
    have hs0 : W0.heap.size = w1.heap.size + 2 := by rw [← hW0]; simp
    have b0 : W0.heap[w1.heap.size]? = some (.cells #[.slice none 0 0] 37 (0, 0)) := by rw [← hW0]; exact (Below.heap_alloc _ _ _ (by simp)).trans (heap_alloc_new w1 _)
    have b1 : Boxed W0 (w1.heap.size + 1) 85 va := by
      rw [← hW0]
      have h := heap_alloc_new (w1.alloc (Obj.cells #[Value.slice none 0 0] 37)) (Obj.cells #[va] 85)
      rw [World.size_alloc] at h; exact h
    have HE6 := hide (fun V => callsIn_wide (n := 9 - 1) |>.2 (each6f_any va V hvs))
    have HRL := hide hrl
    clear hnone HRD
    gi_wp2_with (gi_at_call 40; with_reducible refine CallsIn.mono (unhide HE6 _) ?_; rintro e V7 ⟨rfl, rfl⟩)
    clear hW0
    have hkk : KeptC w1.heap.size w1 W0 := fun k o hk ho hx => (hb0.block k hk).trans hx
    have hbwW : Below w.heap.size w W0 := hbw.trans (hb0.mono (by omega))
    have len1 : (eachR startW (ps.map (·.1))).length ≤ 1099511627776 := by
      have h1 := each_len startW (ps.map (·.1))
      have h2 : (ps.map (·.1)).length ≤ s.size + 2 := by
        rw [hps]
        have h3 : ∀ l : List (Nat × Nat × Nat), (rdS s l).1.length ≤ l.length := by
          intro l
          induction l with
          | nil => simp [rdS]
          | cons x l ih => unfold rdS; split <;> simp <;> omega
        have h4 := h3 (linesL s)
        have h5 : (linesL s).length ≤ (extsL s).length := (List.takeWhile_sublist _).length_le
        have h6 := exts_len s
        unfold readS
        omega
      omega
    refine range4B (by omega) (gf := 68) (lb := #[.pointer (some ⟨w1.heap.size + 1, 0, none⟩)]) rfl (enters_of Tryz.func68 (by kernel_rfl) rfl)
      (each6_gives ps w1 Wa.heap.size va (w1.heap.size + 1) hg1 hrl hfl _ (by omega) W0 hkk (by omega) b1) (Below.refl _ _) (fun _ => rfl)
      (RdI file w w1.heap.size (W0.heap.size + 2 + 2)) (RdX file w)
      (own_RdI file w _ _ (by omega)) (fun c => own_RdX file w c (by omega)) (calm_RdI file w _ _ (by omega) (by omega) (by omega))
      ⟨fun x hx => by simp at hx, ⟨_, b0, rfl, .inl ⟨rfl, rfl⟩⟩, (hb0.block _ (by omega)).trans f0, (hb0.block _ (by omega)).trans f1, (hb0.block _ (by omega)).trans f2, hbwW⟩
      (fun x => .cells (rowC x.1).toArray 29 (0, 0)) (fun _ => rfl) ?fr ?assign ?body ?done ?stop
    case assign =>
      intro l2 x V K hK
      gi_wp2
      generalize hBx : V.heap.size = Bx
      exact hK Bx hBx.symm
    case body =>
      rintro l2 pre x Bx V hl hsz2 ⟨r, hr⟩ ⟨hok, ⟨vs, h1, h2⟩, h3, h4, h5, h6⟩ hx1 hx2 hSp
      obtain ⟨xr, xe⟩ := x
      simp only at hx1
      have bX : Blk V Bx (rowC xr) 29 := hx1
      have cx0 := bX.cell (j := 0) rfl
      have cx1 := bX.cell (j := 1) rfl
      have cx2 := bX.cell (j := 2) rfl
      have cx3 := bX.cell (j := 3) rfl
      have cx4 := bX.cell (j := 4) rfl
      have cx5 := bX.cell (j := 5) rfl
      have cx6 := bX.cell (j := 6) rfl
      have cx7 := bX.cell (j := 7) rfl
      have cx8 := bX.cell (j := 8) rfl
      have hpl : pre.length + 1 ≤ 1099511627776 := by have := hSp.length_le; simp only [List.length_append, List.length_cons, List.length_nil] at this; omega
      obtain ⟨sa, sn, sc, rfl⟩ : ∃ a n c, vs = .slice a n c := by
        rcases h2.2 with ⟨rfl, _⟩ | ⟨g, cap, cur, rfl, _⟩
        · exact ⟨_, _, _, rfl⟩
        · exact ⟨_, _, _, rfl⟩
      have cF : V.cell? ⟨w1.heap.size, 0, none⟩ = some (.slice sa sn sc) := by simp [World.cell?, h1]
      have lF := (Array.getElem?_eq_some_iff.1 h1).1
      have HOK := hide hok
      clear hok
      by_cases hy : xe = 0
      · subst hy
        have HBX := hide bX
        have HK := hide (⟨h3, h4, h5, h6⟩ : _ ∧ _ ∧ _ ∧ _)
        clear bX h3 h4 h5 h6 hx1
        gi_wp2_with (gi_at_builtin; refine wpListIn_append_own _ rfl _ _ 37 rfl (W0.heap.size + 2 + 2) 29 i0 (.agg #[.int .i64 0, .int .i32 0, .int .i32 0, .string ⟨#[]⟩, .string ⟨#[]⟩, .int .u8 0, .int .u8 0, .int .i32 0, .bool false]) 9 64 Tryz.underlying37 hi0 hz0 hz1 hz2 rfl (by decide) _ _ _ rfl (h2.alloc _) ⟨V.heap.size, 0, none⟩ 1 1 (rowC xr) rfl rfl (cells_new _ _ _) (by simp [Value.oneCell']) (by unfold maxLen; omega) (by omega) (by simp; omega) ?_; intro v' w7 hown' hgrow _; obtain ⟨g', cap', rfl⟩ := ownsRow_succ hown'; obtain ⟨q5, hbx', hrow', ko, hs', hkeep, hos⟩ := box_put h1 h2 (by omega) hown' hgrow; have c5 : w7.cell? ⟨w1.heap.size, 0, none⟩ = some (.slice sa sn sc) := (by simp [World.cell?, q5]); have f5 : w7.frozen? ⟨w1.heap.size, 0, none⟩ = false := (by simp [World.frozen?, q5]))
        obtain ⟨h3, h4, h5, h6⟩ := unhide HK
        refine ⟨ko.from _, ⟨ko.walks, fun k ob hk hc hx => ?_⟩, fun y hy => ?_, ⟨_, hbx', ?_⟩, (hkeep _ (by omega) (by omega) (by omega)).trans h3, (hkeep _ (by omega) (by omega) (by omega)).trans h4, (hkeep _ (by omega) (by omega) (by omega)).trans h5, ?_⟩
        · have hkV := (Array.getElem?_eq_some_iff.1 hx).1
          refine (hkeep k hkV ?_ ?_).trans hx
          · rcases hk with hk | hk | hk <;> omega
          · rcases hk with hk | hk | hk <;> omega
        · rcases List.mem_append.1 hy with hy | hy
          · exact unhide HOK y hy
          · rw [List.mem_singleton.1 hy]
        · rw [List.map_append, List.map_singleton, rowsC_snoc, List.length_append]
          exact hrow'
        · exact ⟨hos.1.trans h6.os, hos.2.1.trans h6.tape, hos.2.2.trans h6.output, Nat.le_trans h6.size (by omega), fun k hk => (hkeep k (by omega) (by omega) (by omega)).trans (h6.block k hk)⟩
      · have dC : (xe != 0) = true := by simpa using hy
        have dC2 : (xe == 0) = false := by simpa using hy
        have q0 : Boxed V w.heap.size 9 (.string file) := h3
        have q1 : Boxed V (w.heap.size + 1) 37 (.slice none 0 0) := h4
        have q2 : Boxed V (w.heap.size + 1 + 1) 39 .nilIface := h5
        have hse := set_same q1
        have hse1 := fun o => set_same (q1.alloc o)
        have l1 := q1.lt
        have l2' := q2.lt
        have z0 := q0.cell
        have z1 := q1.cell
        have z2 := q2.cell
        have y1 := q1.frozen
        have y2 := q2.frozen
        have g0 := fun o => (q0.alloc o).cell
        have g1 := fun o => (q1.alloc o).cell
        have g2 := fun o => (q2.alloc o).cell
        have k1 := fun o => (q1.alloc o).frozen
        have k2 := fun o => (q2.alloc o).frozen
        have x0 := fun o => (bX.alloc o).cell (j := 0) rfl
        have hW5 : ∃ A, V.setCell ⟨w.heap.size + 1 + 1, 0, none⟩ (.iface 44 (.pointer (some ⟨V.heap.size, 0, none⟩))) = A ∧ A.heap.size = V.heap.size ∧ KeepsOthers V A ∧ Boxed A (w.heap.size + 1) 37 (.slice none 0 0) ∧ Boxed A (w.heap.size + 1 + 1) 39 (.iface 44 (.pointer (some ⟨V.heap.size, 0, none⟩))) ∧ Below w.heap.size w A :=
          ⟨_, rfl, by simp, KeepsOthers.setCell _ _ _, q1.other (by omega) _, q2.set _, h6.setCell (by simp; omega) _⟩
        obtain ⟨A, hA, hA0, hA1, hA2, hA3, hA4⟩ := hW5
        have hlw : w.heap.size ≤ V.heap.size := h6.size
        have fin : KeepsFrom W0.heap.size V (A.alloc (.cells #[.string file, .int .i64 xr.line, .int .i64 xe] 48)).drew ∧ RdX file w .ret (pre ++ [(xr, xe)]) (A.alloc (.cells #[.string file, .int .i64 xr.line, .int .i64 xe] 48)).drew := by
          have hk := hA1.trans (KeepsOthers.alloc A (.cells #[.string file, .int .i64 xr.line, .int .i64 xe] 48))
          have hnew := heap_alloc_new A (.cells #[.string file, .int .i64 xr.line, .int .i64 xe] 48)
          rw [hA0] at hnew
          refine ⟨⟨hk.size, fun k o _ => hk.same k o⟩, rfl, (xr, xe), pre, V.heap.size, rfl, unhide HOK, hy, hA2.alloc _, hA3.alloc _, by omega, hnew, (hA4.alloc hA4.size _).trans ⟨rfl, rfl, rfl, Nat.le_refl _, fun _ _ => rfl⟩⟩
        have FIN := hide fin
        have HA := hide hA
        clear fin hA hA0 hA1 hA2 hA3 hA4 hlw h1 h2 h3 h4 h5 h6 bX hx1 q0 q1 q2
        gi_wp2
        gi_region
        all_goals gi_wp2
        all_goals (rw [unhide HA]; exact unhide FIN)
    case done =>
      rintro D xs V hD hS ⟨e1, ⟨v, e4, e5⟩, e6, e7, e8, e9⟩ hK
      subst hS
      obtain ⟨va', vc, rfl⟩ : ∃ a c, v = .slice a (eachR startW (ps.map (·.1))).length c := by
        rcases e5.2 with ⟨rfl, h0⟩ | ⟨g, cap, cur, rfl, _⟩
        · exact ⟨none, 0, by rw [h0]⟩
        · exact ⟨_, _, rfl⟩
      have p1 : Boxed V (w.heap.size + 1) 37 (.slice none 0 0) := e7
      have p2 : Boxed V (w.heap.size + 1 + 1) 39 .nilIface := e8
      have p4 : Boxed V w1.heap.size 37 (.slice va' (eachR startW (ps.map (·.1))).length vc) := e4
      generalize hNN : (eachR startW (ps.map (·.1))).length = NN at *
      have c1 := p1.cell
      have f1 := p1.frozen
      have c3 := p4.cell
      have g8 := p2.other (B' := w.heap.size + 1) (by omega) (.slice va' NN vc)
      have c2 := g8.cell
      have f2 := g8.frozen
      have x1 : Boxed ((V.setCell ⟨w.heap.size + 1, 0, none⟩ (.slice va' NN vc)).setCell ⟨w.heap.size + 1 + 1, 0, none⟩ .nilIface) (w.heap.size + 1) 37 (.slice va' NN vc) := (p1.set _).other (by omega) _
      have x2 : Boxed ((V.setCell ⟨w.heap.size + 1, 0, none⟩ (.slice va' NN vc)).setCell ⟨w.heap.size + 1 + 1, 0, none⟩ .nilIface) (w.heap.size + 1 + 1) 39 .nilIface := g8.set _
      have x3 : ((V.setCell ⟨w.heap.size + 1, 0, none⟩ (.slice va' NN vc)).setCell ⟨w.heap.size + 1 + 1, 0, none⟩ .nilIface).heap[D]? = some (.deferred (some [])) := (Below.heap_setCell _ _ _ _ (by simp; omega)).trans ((Below.heap_setCell _ _ _ _ (by simp; omega)).trans hK)
      have x4 : ((V.setCell ⟨w.heap.size + 1, 0, none⟩ (.slice va' NN vc)).setCell ⟨w.heap.size + 1 + 1, 0, none⟩ .nilIface).ownsRow (W0.heap.size + 2 + 2) 29 9 (.slice va' NN vc) NN (rowsC ((eachR startW (ps.map (·.1))).map (·.1))) := row_kept6 e5 fun g cur hh hge _ => (Below.heap_setCell _ _ _ _ (by simp; omega)).trans (Below.heap_setCell _ _ _ _ (by simp; omega))
      have x5 : Below w.heap.size w ((V.setCell ⟨w.heap.size + 1, 0, none⟩ (.slice va' NN vc)).setCell ⟨w.heap.size + 1 + 1, 0, none⟩ .nilIface) := (e9.setCell (by simp) _).setCell (by simp; omega) _
      have X1 := hide x1
      have X2 := hide x2
      have X3 := hide x3
      have X4 := hide x4
      have X5 := hide x5
      have HNN := hide hNN
      clear x1 x2 x3 x4 x5 hNN e4 e5 e6 e7 e8 e9
      gi_wp2
      generalize hX : (V.setCell ⟨w.heap.size + 1, 0, none⟩ (.slice va' NN vc)).setCell ⟨w.heap.size + 1 + 1, 0, none⟩ .nilIface = X at *
      refine ⟨by simp, .inl ⟨_, _, rfl, run_takeDeferred (unhide X3), ?_⟩⟩
      have y1 : Boxed (X.putObj D (.deferred none)) (w.heap.size + 1) _ _ := (World.putObj_heap_other (by omega)).trans (unhide X1)
      have y2 : Boxed (X.putObj D (.deferred none)) (w.heap.size + 1 + 1) _ _ := (World.putObj_heap_other (by omega)).trans (unhide X2)
      have q1 := y1.cell
      have q2 := y2.cell
      have hte := tell_ok _ e1
      rw [hps] at hte
      refine ⟨.tuple #[.slice va' NN vc, .nilIface], by simp [results, Tryz.f17, go_sem, q1, q2], (unhide X5).grown (grownBy_putObj' X D _) (unhide X5).size (fun k e => by cases e; omega), .inl ⟨by rw [hrS, hte], _, rfl, ?_⟩⟩
      rw [hrS, hte]
      have h4 := unhide X4
      rw [hps] at h4
      have hNl := unhide HNN
      rw [hps] at hNl
      unfold RowsAt
      simp only [List.length_map]
      rw [hNl]
      have h5 : (X.putObj D (.deferred none)).ownsRow (W0.heap.size + 2 + 2) 29 9 (.slice va' NN vc) NN (rowsC ((eachR startW (readS s).1).map (·.1))) := row_kept6 h4 fun g cur hh _ _ => World.putObj_heap_other (by rintro rfl; rw [unhide X3] at hh; cases hh)
      exact row_base h5 (by omega)
    case stop =>
      rintro D c pre V hD hSp ⟨rfl, x, qs, fb, e1, e2, e3, e4, e5, e6, e7, e8⟩ hK
      gi_wp2
      refine ⟨by simp, .inl ⟨_, _, rfl, run_takeDeferred hK, ?_⟩⟩
      have y1 : Boxed (V.putObj D (.deferred none)) (w.heap.size + 1) _ _ := (World.putObj_heap_other (by omega)).trans e4
      have y2 : Boxed (V.putObj D (.deferred none)) (w.heap.size + 1 + 1) _ _ := (World.putObj_heap_other (by omega)).trans e5
      have hne : fb ≠ D := by
        intro e
        rw [e, hK] at e7; cases e7
      have y3 : (V.putObj D (.deferred none)).heap[fb]? = _ := (World.putObj_heap_other hne).trans e7
      have q1 := y1.cell
      have q2 := y2.cell
      obtain ⟨r, hr⟩ := hSp
      have hbad : (rowsS s).2 = some (x.1.line, x.2) := by
        rw [hrS, ← hps, ← hr, e1, List.append_assoc]; exact tell_bad qs r x e2 e3
      exact ⟨.tuple #[.slice none 0 0, .iface 44 (.pointer (some ⟨fb, 0, none⟩))], by simp [results, Tryz.f17, go_sem, q1, q2], e8.grown (grownBy_putObj' V D _) e8.size (fun k e => by cases e; omega), .inr ⟨_, _, fb, hbad, rfl, e6, y3⟩⟩
  · have hbw := hba.trans (hb1.mono hba.size)
    have p1 : Boxed w1 (w.heap.size + 1) 37 (.slice none 0 0) := (hb1.block _ (by omega)).trans a1
    have p2 : Boxed w1 (w.heap.size + 1 + 1) 39 .nilIface := (hb1.block _ (by omega)).trans a2
    have hrS : (rowsS s).2 = some ((no : Int), code) := by unfold rowsS; rw [hsome]
    have c1 := p1.cell
    have f1 := p1.frozen
    have c2 := p2.cell
    have f2 := p2.frozen
    have hse := set_same p1
    have hB := hbw.setCell (p := ⟨w.heap.size + 1 + 1, 0, none⟩) (by simp; omega) (.iface 44 (.pointer (some ⟨fb, 0, none⟩)))
    have y1 : Boxed (w1.setCell ⟨w.heap.size + 1 + 1, 0, none⟩ (.iface 44 (.pointer (some ⟨fb, 0, none⟩)))) (w.heap.size + 1) _ _ := p1.other (by omega) _
    have y2 : Boxed (w1.setCell ⟨w.heap.size + 1 + 1, 0, none⟩ (.iface 44 (.pointer (some ⟨fb, 0, none⟩)))) (w.heap.size + 1 + 1) _ _ := p2.set _
    have y3 : (w1.setCell ⟨w.heap.size + 1 + 1, 0, none⟩ (.iface 44 (.pointer (some ⟨fb, 0, none⟩)))).heap[fb]? = _ := (Below.heap_setCell _ _ _ _ (by simp; omega)).trans hfc
    have Y := hide (⟨y1, y2, y3, hB, hfb⟩ : _ ∧ _ ∧ _ ∧ _ ∧ _)
    clear y1 y2 y3 hB hsome hfb hfc a0 a1 a2 HRD hbw hb1
    gi_wp2
    obtain ⟨y1, y2, y3, hB, hfb⟩ := unhide Y
    have q1 := y1.cell
    have q2 := y2.cell
    refine ⟨.tuple #[.slice none 0 0, .iface 44 (.pointer (some ⟨fb, 0, none⟩))], by simp [results, Tryz.f17, go_sem, q1, q2], hB, .inr ⟨_, _, fb, hrS, rfl, by omega, y3⟩⟩
end Go.Proofs.YthjnkagepooeiaaGreatDoor

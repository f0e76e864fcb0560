/-
  WordsEach: the law's walk.
-/
import Derived.Test.YtkpmcojoiijonaaWoEach1
import Derived.LoopNIn
namespace Go.Proofs.Ytkpmcojoiijonaa
open Go.RowKit Go.PlainAid Go.Lib Go.Shelf Go.Seq2 Go.Seq3
attribute [local go_sem] Oper.semAt_some
set_option linter.unusedVariables false

set_option maxRecDepth 100000 in
set_option maxHeartbeats 8000000 in
theorem eachs_any (s : ByteArray) (most : Int) (w : World) (hs : s.size ≤ 1048576) :
    Calls Try.prog 4 #[.string s, .int .i64 most] w fun e w' => e = .returned (.bool true) ∧ Below w.heap.size w w' := by
  refine (callsIn_wide (n := 12)).1 ?_
  refine callsIn_of_wp_marks Try.func4 rfl trivial ?_ rfl
  simp only [Try.ntmps4, List.size_toArray, List.length_cons, List.length_nil, Nat.reduceAdd, Nat.reduceSub, Array.replicate_succ, Array.replicate_zero, List.push_toArray, List.append_toArray, List.nil_append, List.cons_append]
  have hF : ∀ f, Fence.wide.fn f := fun _ => trivial
  have HAW := hide (fun w => callsIn_wide (n := 11) |>.2 (awake_any w))
  have HWO := hide (fun w => callsIn_wide (n := 11) |>.2 (rWords_any s w (by omega)))
  have HEA := hide (fun w => callsIn_wide (n := 11) |>.2 (weach_in s w))
  have hws := fun x w => weach_some _ x w rfl
  have hwl := words_len s
  gi_wp2_with (gi_at_call 15; refine (unhide HAW _).mono ?_; rintro e w1 ⟨rfl, hb1⟩)
  refine (unhide HWO _).mono ?_
  rintro e w2 ⟨vp, rfl, hrp, hb2⟩
  obtain ⟨pa, pc, rfl⟩ := row_sliceC hrp
  have HRP := hide hrp
  clear hrp
  gi_wp2_with fail
  refine (unhide HEA _).mono ?_
  rintro e w3 ⟨rfl, hw3⟩
  subst hw3
  gi_wp2
  refine wpIn_loop_rounds 4 ?_
  rw [roundsIn_succ]
  gi_wp2
  obtain ⟨W0, hW0⟩ : ∃ W0, (((w2.alloc (Obj.cells #[Value.slice pa (wordsL s).length pc] 24)).alloc (Obj.cells #[Value.string s] 9)).alloc (Obj.cells #[Value.int IntKind.i64 0] 3)).alloc (Obj.cells #[Value.int IntKind.i64 0] 3) = W0 := ⟨_, rfl⟩
  have hz1 := hb1.size
  have hz2 := hb2.size
  simp only [World.size_alloc] at hz1
  have hB1 : Below w.heap.size w w1 := (((Below.refl _ w).alloc (Nat.le_refl _) _).alloc (by simp) _).trans (hb1.mono (by simp; omega))
  have hB2 : Below w.heap.size w w2 := hB1.trans (hb2.mono hB1.size)
  have b3 : Boxed w2 w.heap.size 3 (.int .i64 most) := boxed_belowC (boxed_belowC ((Boxed.new w _ _).alloc _) hb1) hb2
  have b4 : Boxed w2 (w.heap.size + 1) 4 (.bool false) := boxed_belowC (boxed_belowC (by simpa using Boxed.new (w.alloc (.cells #[.int .i64 most] 3)) 4 (.bool false)) hb1) hb2
  have hE0 : EB w s most 0 0 (.slice pa (wordsL s).length pc) w.heap.size (w.heap.size + 1) w2.heap.size (w2.heap.size + 1) (w2.heap.size + 1 + 1) (w2.heap.size + 1 + 1 + 1) W0.heap.size [] W0 := by
    rw [← hW0]
    refine ⟨(((b3.alloc _).alloc _).alloc _).alloc _, (((b4.alloc _).alloc _).alloc _).alloc _, (((Boxed.new w2 _ _).alloc _).alloc _).alloc _, ?_, ?_, ?_, (((row_baseC (unhide HRP) (by omega)).alloc _).alloc _ |>.alloc _).alloc _, (by intro D hD; cases hD), by
      have := hB2.size
      exact ((((hB2.alloc hB2.size _).alloc (by simp; omega) _).alloc (by simp; omega) _).alloc (by simp; omega) _)⟩
    · simpa using ((Boxed.new (w2.alloc (Obj.cells #[Value.slice pa (wordsL s).length pc] 24)) 9 (.string s)).alloc (Obj.cells #[Value.int IntKind.i64 0] 3)).alloc (Obj.cells #[Value.int IntKind.i64 0] 3)
    · simpa using (Boxed.new ((w2.alloc (Obj.cells #[Value.slice pa (wordsL s).length pc] 24)).alloc (Obj.cells #[Value.string s] 9)) 3 (.int .i64 0)).alloc (Obj.cells #[Value.int IntKind.i64 0] 3)
    · simpa using Boxed.new (((w2.alloc (Obj.cells #[Value.slice pa (wordsL s).length pc] 24)).alloc (Obj.cells #[Value.string s] 9)).alloc (Obj.cells #[Value.int IntKind.i64 0] 3)) 3 (.int .i64 0)
  have hs0 : W0.heap.size = w2.heap.size + 4 := by rw [← hW0]; simp
  have hl3 := b3.lt
  have hl4 := b4.lt
  have hBW := hB2.size
  rw [hW0]
  clear hW0 HRP hb1 hb2 hB1 b3 b4 hws
  obtain ⟨N, hN⟩ : ∃ N, (wordsL s).length = N := ⟨_, rfl⟩
  have HN := hide hN
  rw [hN] at hE0 hwl
  rw [hN]
  clear hN
  have HE0 := hide hE0
  clear hE0
  obtain ⟨B3, hB3⟩ : ∃ B, w.heap.size = B := ⟨_, rfl⟩
  obtain ⟨B4, hB4⟩ : ∃ B, w.heap.size + 1 = B := ⟨_, rfl⟩
  obtain ⟨B5, hB5⟩ : ∃ B, w2.heap.size = B := ⟨_, rfl⟩
  obtain ⟨Bs, hBs⟩ : ∃ B, w2.heap.size + 1 = B := ⟨_, rfl⟩
  obtain ⟨B7A, hB7A⟩ : ∃ B, w2.heap.size + 1 + 1 = B := ⟨_, rfl⟩
  obtain ⟨B8A, hB8A⟩ : ∃ B, w2.heap.size + 1 + 1 + 1 = B := ⟨_, rfl⟩
  have hE0 := unhide HE0
  rw [hB8A, hB7A, hBs, hB5, hB4, hB3]
  rw [hB8A, hB7A, hBs, hB5, hB4, hB3] at hE0
  have hTA : w.heap.size ≤ W0.heap.size := by omega
  have i1 : w.heap.size ≤ B3 ∧ B3 < B4 ∧ B4 < B5 ∧ B5 < Bs ∧ Bs < B7A ∧ B7A < B8A ∧ B8A < W0.heap.size := by omega
  obtain ⟨i0, i1, i2, i3, i4, i5, i6⟩ := i1
  clear hB3 hB4 hB5 hBs hB7A hB8A hs0 hl3 hl4 hBW hz1 hz2 hB2 HE0
  refine range3G (by omega) (gf := 40) (lb := #[.pointer (some ⟨Bs, 0, none⟩)]) rfl (enters_of Try.func40 (by kernel_rfl) rfl)
    (weach_gives s (by omega) _ Bs (by omega) W0 hE0.bs) (Below.refl _ _) (fun _ => rfl)
    (EI w s most 0 (.slice pa N pc) B3 B4 B5 Bs B7A B8A W0.heap.size []) (fun _ _ _ => False) (EI_own w s most 0 (.slice pa N pc) B3 B4 B5 Bs B7A B8A W0.heap.size [] hTA) (fun c st A B row hx hg hr => hx)
    ⟨fun h => by omega, hE0⟩
    ?aA ?assignA ?bodyA ?doneA ?stopA
  case assignA =>
    intro l x W K hK
    gi_wp2
    exact hK

  case bodyA =>
    rintro l pre x V hl hsz2 ⟨rr, hrr⟩ ⟨hmost, hE⟩ hSp
    have hlen : pre.length + 1 ≤ N := by
      have h1 := hSp.length_le
      rw [unhide HN] at h1; simpa using h1
    have hx : (wordsL s)[pre.length]? = some x := by
      obtain ⟨rest, hrest⟩ := hSp
      rw [← hrest]; simp
    have hrow := hE.row
    rw [unhide HN] at hrow
    obtain ⟨g, hpa, hpc1, hpc2⟩ : ∃ g, pa = some ⟨g, 0, none⟩ ∧ N ≤ pc ∧ pc ≤ 9223372036854775807 := by
      rcases hrow.2 with ⟨_, h⟩ | ⟨g', cap', cur, h, h0, _, h1, h2, _⟩
      · omega
      · simp only [Value.slice.injEq] at h
        unfold maxLen at h2
        exact ⟨g', h.1, by rw [h.2.2]; exact h1, by rw [h.2.2]; exact h2⟩
    subst hpa
    have y0 : V.cell? ⟨g, pre.length * 2, none⟩ = some (.int .i64 (x.1 : Nat)) := (hrow.cellAt _ (by omega)).trans (wordCs_at s _ _ _ hx).1
    have y1 : V.cell? ⟨g, pre.length * 2 + 1, none⟩ = some (.string (s.extract x.1 x.2)) := (hrow.cellAt _ (by omega)).trans (wordCs_at s _ _ _ hx).2
    have c3 := hE.b3.cell
    have c5 := hE.b5.cell
    have c7 := hE.b7.cell
    have c8 := hE.b8.cell
    have f8 := hE.b8.frozen
    have n1 : (pre.length : Int) < (N : Int) := by omega
    have hRA := hE.raise ((pre.length : Int) + 1) (by omega) (by omega) (by omega) (by omega) (by omega) (by omega)
    have r3 := hRA.b3.cell
    have r7 := hRA.b7.cell
    have r8 := hRA.b8.cell
    have HLL : Hid (((pre ++ [x]).length : Int) = (pre.length : Int) + 1) := by show _ = _; simp
    have HK := hide (KeepsOthers.setCell V ⟨B8A, 0, none⟩ (.int .i64 ((pre.length : Int) + 1)))
    have HRA := hide hRA
    have HMO := hide hmost
    clear hE hRA hrow hx hSp hmost
    generalize s.extract x.1 x.2 = X at *
    generalize x.1 = A at *
    generalize pre.length = m at *
    have q1 : ((A : Int) != (A : Int)) = false := by simp
    have q2 : (X.toList != X.toList) = false := by simp
    gi_wp2
    exact ⟨(unhide HK).from _, ⟨(unhide HK).walks, fun k t y hk1 ht hb => hb.other (by omega) _⟩, fun h => by omega, by rw [HLL.out]; exact unhide HRA⟩

  case stopA =>
    rintro D c pre V hD hSp h hK
    exact h.elim

  case doneA =>
    rintro D1 xs V1 hD1 hS ⟨_, hE1⟩ hK1
    rw [hS, unhide HN] at hE1
    clear hS
    have j1 : W0.heap.size ≤ V1.heap.size ∧ D1 < V1.heap.size := ⟨by have := (Array.getElem?_eq_some_iff.1 hK1).1; omega, (Array.getElem?_eq_some_iff.1 hK1).1⟩
    obtain ⟨j1, j1'⟩ := j1
    have c3 := hE1.b3.cell
    have c5 := hE1.b5.cell
    have c7 := hE1.b7.cell
    have c8 := hE1.b8.cell
    have q0 : ((N : Int) != (N : Int)) = false := by simp
    obtain ⟨WB, hWB⟩ : ∃ W, ((V1.alloc (Obj.cells #[Value.int IntKind.i64 1] 3)).alloc (Obj.cells #[Value.int IntKind.i64 0] 3)) = W := ⟨_, rfl⟩
    have hEB := hE1.next hK1 1
    rw [hWB] at hEB
    have hsB : WB.heap.size = V1.heap.size + 2 := by rw [← hWB]; simp
    have HWB := hide hWB
    clear hWB
    rw [← hsB] at hEB
    have htB : V1.heap.size + 2 ≤ WB.heap.size := by omega
    clear hsB

    clear hE1
    gi_wp2
    rw [roundsIn_succ]
    gi_wp2
    rw [unhide HWB]
    clear c3 c5 c7 c8
    have hTB : w.heap.size ≤ WB.heap.size := by omega
    refine range3G (by omega) (gf := 40) (lb := #[.pointer (some ⟨Bs, 0, none⟩)]) rfl (enters_of Try.func40 (by kernel_rfl) rfl)
      (weach_gives s (by omega) _ Bs (by omega) WB hEB.bs) (Below.refl _ _) (fun _ => rfl)
      (EI w s most 1 (.slice pa N pc) B3 B4 B5 Bs V1.heap.size (V1.heap.size + 1) WB.heap.size [D1]) (EX w s most 1 (.slice pa N pc) B3 B4 B5 Bs V1.heap.size (V1.heap.size + 1) WB.heap.size [D1] 2) (EI_own w s most 1 (.slice pa N pc) B3 B4 B5 Bs V1.heap.size (V1.heap.size + 1) WB.heap.size [D1] hTB) (fun c => EX_own w s most 1 (.slice pa N pc) B3 B4 B5 Bs V1.heap.size (V1.heap.size + 1) WB.heap.size [D1] 2 hTB c)
      ⟨fun _ h => by have h1 := h.1; have h2 := h.2; simp at h2; omega, hEB⟩
      ?aB ?assignB ?bodyB ?doneB ?stopB
    case assignB =>
      intro l x W K hK
      gi_wp2
      exact hK

    case bodyB =>
      rintro l pre x V hl hsz2 ⟨rr, hrr⟩ ⟨hmost, hE⟩ hSp
      have hlen : pre.length + 1 ≤ N := by
        have h1 := hSp.length_le
        rw [unhide HN] at h1; simpa using h1
      have hx : (wordsL s)[pre.length]? = some x := by
        obtain ⟨rest, hrest⟩ := hSp
        rw [← hrest]; simp
      have hrow := hE.row
      rw [unhide HN] at hrow
      obtain ⟨g, hpa, hpc1, hpc2⟩ : ∃ g, pa = some ⟨g, 0, none⟩ ∧ N ≤ pc ∧ pc ≤ 9223372036854775807 := by
        rcases hrow.2 with ⟨_, h⟩ | ⟨g', cap', cur, h, h0, _, h1, h2, _⟩
        · omega
        · simp only [Value.slice.injEq] at h
          unfold maxLen at h2
          exact ⟨g', h.1, by rw [h.2.2]; exact h1, by rw [h.2.2]; exact h2⟩
      subst hpa
      have y0 : V.cell? ⟨g, pre.length * 2, none⟩ = some (.int .i64 (x.1 : Nat)) := (hrow.cellAt _ (by omega)).trans (wordCs_at s _ _ _ hx).1
      have y1 : V.cell? ⟨g, pre.length * 2 + 1, none⟩ = some (.string (s.extract x.1 x.2)) := (hrow.cellAt _ (by omega)).trans (wordCs_at s _ _ _ hx).2
      have c3 := hE.b3.cell
      have c5 := hE.b5.cell
      have c7 := hE.b7.cell
      have c8 := hE.b8.cell
      have f8 := hE.b8.frozen
      have n1 : (pre.length : Int) < (N : Int) := by omega
      have hRA := hE.raise ((pre.length : Int) + 1) (by omega) (by omega) (by omega) (by omega) (by omega) (by omega)
      have r3 := hRA.b3.cell
      have r7 := hRA.b7.cell
      have r8 := hRA.b8.cell
      have HLL : Hid (((pre ++ [x]).length : Int) = (pre.length : Int) + 1) := by show _ = _; simp
      have HK := hide (KeepsOthers.setCell V ⟨V1.heap.size + 1, 0, none⟩ (.int .i64 ((pre.length : Int) + 1)))
      have HRA := hide hRA
      have HMO := hide hmost
      clear hE hRA hrow hx hSp hmost
      generalize s.extract x.1 x.2 = X at *
      generalize x.1 = A at *
      generalize pre.length = m at *
      have q1 : ((A : Int) != (A : Int)) = false := by simp
      have q2 : (X.toList != X.toList) = false := by simp
      by_cases hm : (m : Int) + 1 = most
      · have hme : ((m : Int) + 1 == most) = true := by simp [hm]
        have HM := hide hm
        clear hm
        gi_wp2
        exact ⟨(unhide HK).from _, rfl, rfl, by rw [HLL.out]; exact (unhide HM).symm, by rw [HLL.out]; exact unhide HRA⟩
      · have hme : ((m : Int) + 1 == most) = false := by simp [hm]
        have HM := hide hm
        clear hm
        gi_wp2
        exact ⟨(unhide HK).from _, ⟨(unhide HK).walks, fun k t y hk1 ht hb => hb.other (by omega) _⟩, fun h => (by rw [HLL.out]; intro h2; exact (unhide HMO (by simp)) ⟨h2.1, by have h3 := unhide HM; have h4 := h2.2; omega⟩), by rw [HLL.out]; exact unhide HRA⟩

    case doneB =>
      rintro D2 xs V2 hD2 hS ⟨_, hE2⟩ hK2
      rw [hS, unhide HN] at hE2
      clear hS
      have j2 : WB.heap.size ≤ V2.heap.size ∧ D2 < V2.heap.size := ⟨by have := (Array.getElem?_eq_some_iff.1 hK2).1; omega, (Array.getElem?_eq_some_iff.1 hK2).1⟩
      obtain ⟨j2, j2'⟩ := j2
      have c3 := hE2.b3.cell
      have c5 := hE2.b5.cell
      have c7 := hE2.b7.cell
      have c8 := hE2.b8.cell
      have q0 : ((N : Int) != (N : Int)) = false := by simp
      obtain ⟨WC, hWC⟩ : ∃ W, ((V2.alloc (Obj.cells #[Value.int IntKind.i64 2] 3)).alloc (Obj.cells #[Value.int IntKind.i64 0] 3)) = W := ⟨_, rfl⟩
      have hEC := hE2.next hK2 2
      rw [hWC] at hEC
      have hsC : WC.heap.size = V2.heap.size + 2 := by rw [← hWC]; simp
      have HWC := hide hWC
      clear hWC
      rw [← hsC] at hEC
      have htC : V2.heap.size + 2 ≤ WC.heap.size := by omega
      clear hsC

      clear hE2
      gi_wp2
      rw [roundsIn_succ]
      gi_wp2
      rw [unhide HWC]
      have hTC : w.heap.size ≤ WC.heap.size := by omega
      refine range3G (by omega) (gf := 40) (lb := #[.pointer (some ⟨Bs, 0, none⟩)]) rfl (enters_of Try.func40 (by kernel_rfl) rfl)
        (weach_gives s (by omega) _ Bs (by omega) WC hEC.bs) (Below.refl _ _) (fun _ => rfl)
        (EI w s most 2 (.slice pa N pc) B3 B4 B5 Bs V2.heap.size (V2.heap.size + 1) WC.heap.size [D2, D1]) (fun _ _ _ => False) (EI_own w s most 2 (.slice pa N pc) B3 B4 B5 Bs V2.heap.size (V2.heap.size + 1) WC.heap.size [D2, D1] hTC) (fun c st A B row hx hg hr => hx)
        ⟨fun h => by omega, hEC⟩
        ?aC ?assignC ?bodyC ?doneC ?stopC
      case assignC =>
        intro l x W K hK
        gi_wp2
        exact hK
      case bodyC =>
        rintro l pre x V hl hsz2 ⟨rr, hrr⟩ ⟨hmost, hE⟩ hSp
        have hlen : pre.length + 1 ≤ N := by
          have h1 := hSp.length_le
          rw [unhide HN] at h1; simpa using h1
        have hx : (wordsL s)[pre.length]? = some x := by
          obtain ⟨rest, hrest⟩ := hSp
          rw [← hrest]; simp
        have hrow := hE.row
        rw [unhide HN] at hrow
        obtain ⟨g, hpa, hpc1, hpc2⟩ : ∃ g, pa = some ⟨g, 0, none⟩ ∧ N ≤ pc ∧ pc ≤ 9223372036854775807 := by
          rcases hrow.2 with ⟨_, h⟩ | ⟨g', cap', cur, h, h0, _, h1, h2, _⟩
          · omega
          · simp only [Value.slice.injEq] at h
            unfold maxLen at h2
            exact ⟨g', h.1, by rw [h.2.2]; exact h1, by rw [h.2.2]; exact h2⟩
        subst hpa
        have y0 : V.cell? ⟨g, pre.length * 2, none⟩ = some (.int .i64 (x.1 : Nat)) := (hrow.cellAt _ (by omega)).trans (wordCs_at s _ _ _ hx).1
        have y1 : V.cell? ⟨g, pre.length * 2 + 1, none⟩ = some (.string (s.extract x.1 x.2)) := (hrow.cellAt _ (by omega)).trans (wordCs_at s _ _ _ hx).2
        have c3 := hE.b3.cell
        have c5 := hE.b5.cell
        have c7 := hE.b7.cell
        have c8 := hE.b8.cell
        have f8 := hE.b8.frozen
        have n1 : (pre.length : Int) < (N : Int) := by omega
        have hRA := hE.raise ((pre.length : Int) + 1) (by omega) (by omega) (by omega) (by omega) (by omega) (by omega)
        have r3 := hRA.b3.cell
        have r7 := hRA.b7.cell
        have r8 := hRA.b8.cell
        have HLL : Hid (((pre ++ [x]).length : Int) = (pre.length : Int) + 1) := by show _ = _; simp
        have HK := hide (KeepsOthers.setCell V ⟨V2.heap.size + 1, 0, none⟩ (.int .i64 ((pre.length : Int) + 1)))
        have HRA := hide hRA
        have HMO := hide hmost
        clear hE hRA hrow hx hSp hmost
        generalize s.extract x.1 x.2 = X at *
        generalize x.1 = A at *
        generalize pre.length = m at *
        have q1 : ((A : Int) != (A : Int)) = false := by simp
        have q2 : (X.toList != X.toList) = false := by simp
        gi_wp2
        exact ⟨(unhide HK).from _, ⟨(unhide HK).walks, fun k t y hk1 ht hb => hb.other (by omega) _⟩, fun h => by omega, by rw [HLL.out]; exact unhide HRA⟩
      case stopC =>
        rintro D c pre V hD hSp h hK
        exact h.elim
      case doneC =>
        rintro D3 xs V3 hD3 hS ⟨_, hE3⟩ hK3
        rw [hS, unhide HN] at hE3
        clear hS
        have c3 := hE3.b3.cell
        have c5 := hE3.b5.cell
        have c7 := hE3.b7.cell
        have c8 := hE3.b8.cell
        have q0 : ((N : Int) != (N : Int)) = false := by simp
        gi_wp2
        rw [roundsIn_succ]
        gi_wp2_with fail
        refine (unhide HAW _).mono ?_
        rintro e V9 ⟨rfl, hb9⟩
        have hz9 := hb9.size
        simp only [World.size_alloc] at hz9
        have kk : ∀ D : Nat, V3.heap[D]? = some (.deferred (some [])) → V9.heap[D]? = some (.deferred (some [])) := fun D h => by
          have hlt := (Array.getElem?_eq_some_iff.1 h).1
          exact (hb9.block D (by simp; omega)).trans ((Below.heap_alloc V3 _ D hlt).trans h)
        have k1 := kk D3 hK3
        have k2 := kk D2 (hE3.ds D2 (by simp)).2
        have k3 := kk D1 (hE3.ds D1 (by simp)).2
        have b4 : Boxed V9 B4 4 (.bool false) := boxed_belowC (hE3.b4.alloc _) hb9
        have hBw : Below w.heap.size w V9 := (hE3.below.alloc hE3.below.size _).trans (hb9.mono (by have := hE3.below.size; simp; omega))
        have c4 := b4.cell
        have f4 := b4.frozen
        obtain ⟨VA, hVA⟩ : ∃ W, V9.setCell ⟨B4, 0, none⟩ (.bool true) = W := ⟨_, rfl⟩
        have m1 : VA.heap[D3]? = some (.deferred (some [])) := by rw [← hVA]; exact (KeepsOthers.setCell V9 ⟨B4, 0, none⟩ (.bool true)).same _ _ k1 rfl
        have m2 : VA.heap[D2]? = some (.deferred (some [])) := by rw [← hVA]; exact (KeepsOthers.setCell V9 ⟨B4, 0, none⟩ (.bool true)).same _ _ k2 rfl
        have m3 : VA.heap[D1]? = some (.deferred (some [])) := by rw [← hVA]; exact (KeepsOthers.setCell V9 ⟨B4, 0, none⟩ (.bool true)).same _ _ k3 rfl
        have m4 : Boxed VA B4 4 (.bool true) := by rw [← hVA]; exact b4.set _
        have m5 : Below w.heap.size w VA := by rw [← hVA]; exact hBw.setCell (p := ⟨B4, 0, none⟩) (by simp; omega) _
        have n12 : D2 ≠ D3 := by omega
        have n13 : D1 ≠ D3 := by omega
        have n23 : D1 ≠ D2 := by omega
        have HVA := hide hVA
        have M1 := hide m1
        have M2 := hide m2
        have M3 := hide m3
        have M4 := hide m4
        have M5 := hide m5
        clear hVA m1 m2 m3 m4 m5 k1 k2 k3 kk hE3 hBw hb9
        gi_wp2
        rw [unhide HVA]
        have m2' : (VA.putObj D3 (Obj.deferred none)).heap[D2]? = some (.deferred (some [])) := (World.putObj_heap_other n12).trans (unhide M2)
        have m3' : ((VA.putObj D3 (Obj.deferred none)).putObj D2 (Obj.deferred none)).heap[D1]? = some (.deferred (some [])) := (World.putObj_heap_other n23).trans ((World.putObj_heap_other n13).trans (unhide M3))
        refine ⟨by simp, .inl ⟨_, _, rfl, run_takeDeferred (unhide M1), by simp, .inl ⟨_, _, rfl, run_takeDeferred m2', by simp, .inl ⟨_, _, rfl, run_takeDeferred m3', ?_⟩⟩⟩⟩
        have y4 : Boxed (((VA.putObj D3 (Obj.deferred none)).putObj D2 (Obj.deferred none)).putObj D1 (Obj.deferred none)) B4 4 (.bool true) := (World.putObj_heap_other (by omega)).trans ((World.putObj_heap_other (by omega)).trans ((World.putObj_heap_other (by omega)).trans (unhide M4)))
        have z4 := y4.cell
        exact ⟨.bool true, by simp [results, Try.f4, go_sem, z4], rfl, (((unhide M5).trans (belowK_b (w := w) (Nat.le_refl _) _ D3 _ _ (by omega) (unhide M1) rfl rfl)).trans (belowK_b (w := w) (Nat.le_refl _) _ D2 _ _ (by omega) m2' rfl rfl)).trans (belowK_b (w := w) (Nat.le_refl _) _ D1 _ _ (by omega) m3' rfl rfl)⟩

    case stopB =>
      rintro D2 c pre V2 hD2 hSp ⟨rfl, _, hmp, hE2⟩ hK2
      have hpl : pre.length ≤ N := by have h1 := hSp.length_le; rw [unhide HN] at h1; exact h1
      clear hSp
      generalize pre.length = m at *
      subst hmp
      have j2 : WB.heap.size ≤ V2.heap.size ∧ D2 < V2.heap.size := ⟨by have := (Array.getElem?_eq_some_iff.1 hK2).1; omega, (Array.getElem?_eq_some_iff.1 hK2).1⟩
      obtain ⟨j2, j2'⟩ := j2
      have c3 := hE2.b3.cell
      have c5 := hE2.b5.cell
      have c7 := hE2.b7.cell
      have c8 := hE2.b8.cell
      have q0 : ((N : Int) != (N : Int)) = false := by simp
      have q1 : ((m : Int) != (m : Int)) = false := by simp
      obtain ⟨WS, hWS⟩ : ∃ W, ((V2.alloc (Obj.cells #[Value.int IntKind.i64 2] 3)).alloc (Obj.cells #[Value.int IntKind.i64 0] 3)) = W := ⟨_, rfl⟩
      have hES := hE2.next hK2 2
      rw [hWS] at hES
      have hsS : WS.heap.size = V2.heap.size + 2 := by rw [← hWS]; simp
      have HWS := hide hWS
      clear hWS
      rw [← hsS] at hES
      have htS : V2.heap.size + 2 ≤ WS.heap.size := by omega
      clear hsS

      clear hE2
      by_cases hmN : m = N
      · subst hmN
        gi_wp2
        rw [roundsIn_succ]
        gi_wp2
        rw [unhide HWS]
        have hTS : w.heap.size ≤ WS.heap.size := by omega
        refine range3G (by omega) (gf := 40) (lb := #[.pointer (some ⟨Bs, 0, none⟩)]) rfl (enters_of Try.func40 (by kernel_rfl) rfl)
          (weach_gives s (by omega) _ Bs (by omega) WS hES.bs) (Below.refl _ _) (fun _ => rfl)
          (EI w s (m : Int) 2 (.slice pa m pc) B3 B4 B5 Bs V2.heap.size (V2.heap.size + 1) WS.heap.size [D2, D1]) (fun _ _ _ => False) (EI_own w s (m : Int) 2 (.slice pa m pc) B3 B4 B5 Bs V2.heap.size (V2.heap.size + 1) WS.heap.size [D2, D1] hTS) (fun c st A B row hx hg hr => hx)
          ⟨fun h => by omega, hES⟩
          ?aS ?assignS ?bodyS ?doneS ?stopS
        case assignS =>
          intro l x W K hK
          gi_wp2
          exact hK
        case bodyS =>
          rintro l pre x V hl hsz2 ⟨rr, hrr⟩ ⟨hmost, hE⟩ hSp
          have hlen : pre.length + 1 ≤ m := by
            have h1 := hSp.length_le
            rw [unhide HN] at h1; simpa using h1
          have hx : (wordsL s)[pre.length]? = some x := by
            obtain ⟨rest, hrest⟩ := hSp
            rw [← hrest]; simp
          have hrow := hE.row
          rw [unhide HN] at hrow
          obtain ⟨g, hpa, hpc1, hpc2⟩ : ∃ g, pa = some ⟨g, 0, none⟩ ∧ m ≤ pc ∧ pc ≤ 9223372036854775807 := by
            rcases hrow.2 with ⟨_, h⟩ | ⟨g', cap', cur, h, h0, _, h1, h2, _⟩
            · omega
            · simp only [Value.slice.injEq] at h
              unfold maxLen at h2
              exact ⟨g', h.1, by rw [h.2.2]; exact h1, by rw [h.2.2]; exact h2⟩
          subst hpa
          have y0 : V.cell? ⟨g, pre.length * 2, none⟩ = some (.int .i64 (x.1 : Nat)) := (hrow.cellAt _ (by omega)).trans (wordCs_at s _ _ _ hx).1
          have y1 : V.cell? ⟨g, pre.length * 2 + 1, none⟩ = some (.string (s.extract x.1 x.2)) := (hrow.cellAt _ (by omega)).trans (wordCs_at s _ _ _ hx).2
          have c3 := hE.b3.cell
          have c5 := hE.b5.cell
          have c7 := hE.b7.cell
          have c8 := hE.b8.cell
          have f8 := hE.b8.frozen
          have n1 : (pre.length : Int) < (m : Int) := by omega
          have hRA := hE.raise ((pre.length : Int) + 1) (by omega) (by omega) (by omega) (by omega) (by omega) (by omega)
          have r3 := hRA.b3.cell
          have r7 := hRA.b7.cell
          have r8 := hRA.b8.cell
          have HLL : Hid (((pre ++ [x]).length : Int) = (pre.length : Int) + 1) := by show _ = _; simp
          have HK := hide (KeepsOthers.setCell V ⟨V2.heap.size + 1, 0, none⟩ (.int .i64 ((pre.length : Int) + 1)))
          have HRA := hide hRA
          have HMO := hide hmost
          clear hE hRA hrow hx hSp hmost
          generalize s.extract x.1 x.2 = X at *
          generalize x.1 = A at *
          generalize pre.length = m at *
          have q1 : ((A : Int) != (A : Int)) = false := by simp
          have q2 : (X.toList != X.toList) = false := by simp
          gi_wp2
          exact ⟨(unhide HK).from _, ⟨(unhide HK).walks, fun k t y hk1 ht hb => hb.other (by omega) _⟩, fun h => by omega, by rw [HLL.out]; exact unhide HRA⟩
        case stopS =>
          rintro D c pre V hD hSp h hK
          exact h.elim
        case doneS =>
          rintro D3 xs V3 hD3 hS ⟨_, hE3⟩ hK3
          rw [hS, unhide HN] at hE3
          clear hS
          have c3 := hE3.b3.cell
          have c5 := hE3.b5.cell
          have c7 := hE3.b7.cell
          have c8 := hE3.b8.cell
          have q0 : ((m : Int) != (m : Int)) = false := by simp
          gi_wp2
          rw [roundsIn_succ]
          gi_wp2_with fail
          refine (unhide HAW _).mono ?_
          rintro e V9 ⟨rfl, hb9⟩
          have hz9 := hb9.size
          simp only [World.size_alloc] at hz9
          have kk : ∀ D : Nat, V3.heap[D]? = some (.deferred (some [])) → V9.heap[D]? = some (.deferred (some [])) := fun D h => by
            have hlt := (Array.getElem?_eq_some_iff.1 h).1
            exact (hb9.block D (by simp; omega)).trans ((Below.heap_alloc V3 _ D hlt).trans h)
          have k1 := kk D3 hK3
          have k2 := kk D2 (hE3.ds D2 (by simp)).2
          have k3 := kk D1 (hE3.ds D1 (by simp)).2
          have b4 : Boxed V9 B4 4 (.bool false) := boxed_belowC (hE3.b4.alloc _) hb9
          have hBw : Below w.heap.size w V9 := (hE3.below.alloc hE3.below.size _).trans (hb9.mono (by have := hE3.below.size; simp; omega))
          have c4 := b4.cell
          have f4 := b4.frozen
          obtain ⟨VA, hVA⟩ : ∃ W, V9.setCell ⟨B4, 0, none⟩ (.bool true) = W := ⟨_, rfl⟩
          have m1 : VA.heap[D3]? = some (.deferred (some [])) := by rw [← hVA]; exact (KeepsOthers.setCell V9 ⟨B4, 0, none⟩ (.bool true)).same _ _ k1 rfl
          have m2 : VA.heap[D2]? = some (.deferred (some [])) := by rw [← hVA]; exact (KeepsOthers.setCell V9 ⟨B4, 0, none⟩ (.bool true)).same _ _ k2 rfl
          have m3 : VA.heap[D1]? = some (.deferred (some [])) := by rw [← hVA]; exact (KeepsOthers.setCell V9 ⟨B4, 0, none⟩ (.bool true)).same _ _ k3 rfl
          have m4 : Boxed VA B4 4 (.bool true) := by rw [← hVA]; exact b4.set _
          have m5 : Below w.heap.size w VA := by rw [← hVA]; exact hBw.setCell (p := ⟨B4, 0, none⟩) (by simp; omega) _
          have n12 : D2 ≠ D3 := by omega
          have n13 : D1 ≠ D3 := by omega
          have n23 : D1 ≠ D2 := by omega
          have HVA := hide hVA
          have M1 := hide m1
          have M2 := hide m2
          have M3 := hide m3
          have M4 := hide m4
          have M5 := hide m5
          clear hVA m1 m2 m3 m4 m5 k1 k2 k3 kk hE3 hBw hb9
          gi_wp2
          rw [unhide HVA]
          have m2' : (VA.putObj D3 (Obj.deferred none)).heap[D2]? = some (.deferred (some [])) := (World.putObj_heap_other n12).trans (unhide M2)
          have m3' : ((VA.putObj D3 (Obj.deferred none)).putObj D2 (Obj.deferred none)).heap[D1]? = some (.deferred (some [])) := (World.putObj_heap_other n23).trans ((World.putObj_heap_other n13).trans (unhide M3))
          refine ⟨by simp, .inl ⟨_, _, rfl, run_takeDeferred (unhide M1), by simp, .inl ⟨_, _, rfl, run_takeDeferred m2', by simp, .inl ⟨_, _, rfl, run_takeDeferred m3', ?_⟩⟩⟩⟩
          have y4 : Boxed (((VA.putObj D3 (Obj.deferred none)).putObj D2 (Obj.deferred none)).putObj D1 (Obj.deferred none)) B4 4 (.bool true) := (World.putObj_heap_other (by omega)).trans ((World.putObj_heap_other (by omega)).trans ((World.putObj_heap_other (by omega)).trans (unhide M4)))
          have z4 := y4.cell
          exact ⟨.bool true, by simp [results, Try.f4, go_sem, z4], rfl, (((unhide M5).trans (belowK_b (w := w) (Nat.le_refl _) _ D3 _ _ (by omega) (unhide M1) rfl rfl)).trans (belowK_b (w := w) (Nat.le_refl _) _ D2 _ _ (by omega) m2' rfl rfl)).trans (belowK_b (w := w) (Nat.le_refl _) _ D1 _ _ (by omega) m3' rfl rfl)⟩

      · have q3 : ((m : Int) != (N : Int)) = true := by simp; omega
        gi_wp2
        rw [roundsIn_succ]
        gi_wp2
        rw [unhide HWS]
        have hTS : w.heap.size ≤ WS.heap.size := by omega
        refine range3G (by omega) (gf := 40) (lb := #[.pointer (some ⟨Bs, 0, none⟩)]) rfl (enters_of Try.func40 (by kernel_rfl) rfl)
          (weach_gives s (by omega) _ Bs (by omega) WS hES.bs) (Below.refl _ _) (fun _ => rfl)
          (EI w s (m : Int) 2 (.slice pa N pc) B3 B4 B5 Bs V2.heap.size (V2.heap.size + 1) WS.heap.size [D2, D1]) (fun _ _ _ => False) (EI_own w s (m : Int) 2 (.slice pa N pc) B3 B4 B5 Bs V2.heap.size (V2.heap.size + 1) WS.heap.size [D2, D1] hTS) (fun c st A B row hx hg hr => hx)
          ⟨fun h => by omega, hES⟩
          ?aT ?assignT ?bodyT ?doneT ?stopT
        case assignT =>
          intro l x W K hK
          gi_wp2
          exact hK
        case bodyT =>
          rintro l pre x V hl hsz2 ⟨rr, hrr⟩ ⟨hmost, hE⟩ hSp
          have hlen : pre.length + 1 ≤ N := by
            have h1 := hSp.length_le
            rw [unhide HN] at h1; simpa using h1
          have hx : (wordsL s)[pre.length]? = some x := by
            obtain ⟨rest, hrest⟩ := hSp
            rw [← hrest]; simp
          have hrow := hE.row
          rw [unhide HN] at hrow
          obtain ⟨g, hpa, hpc1, hpc2⟩ : ∃ g, pa = some ⟨g, 0, none⟩ ∧ N ≤ pc ∧ pc ≤ 9223372036854775807 := by
            rcases hrow.2 with ⟨_, h⟩ | ⟨g', cap', cur, h, h0, _, h1, h2, _⟩
            · omega
            · simp only [Value.slice.injEq] at h
              unfold maxLen at h2
              exact ⟨g', h.1, by rw [h.2.2]; exact h1, by rw [h.2.2]; exact h2⟩
          subst hpa
          have y0 : V.cell? ⟨g, pre.length * 2, none⟩ = some (.int .i64 (x.1 : Nat)) := (hrow.cellAt _ (by omega)).trans (wordCs_at s _ _ _ hx).1
          have y1 : V.cell? ⟨g, pre.length * 2 + 1, none⟩ = some (.string (s.extract x.1 x.2)) := (hrow.cellAt _ (by omega)).trans (wordCs_at s _ _ _ hx).2
          have c3 := hE.b3.cell
          have c5 := hE.b5.cell
          have c7 := hE.b7.cell
          have c8 := hE.b8.cell
          have f8 := hE.b8.frozen
          have n1 : (pre.length : Int) < (N : Int) := by omega
          have hRA := hE.raise ((pre.length : Int) + 1) (by omega) (by omega) (by omega) (by omega) (by omega) (by omega)
          have r3 := hRA.b3.cell
          have r7 := hRA.b7.cell
          have r8 := hRA.b8.cell
          have HLL : Hid (((pre ++ [x]).length : Int) = (pre.length : Int) + 1) := by show _ = _; simp
          have HK := hide (KeepsOthers.setCell V ⟨V2.heap.size + 1, 0, none⟩ (.int .i64 ((pre.length : Int) + 1)))
          have HRA := hide hRA
          have HMO := hide hmost
          clear hE hRA hrow hx hSp hmost
          generalize s.extract x.1 x.2 = X at *
          generalize x.1 = A at *
          generalize pre.length = m at *
          have q1 : ((A : Int) != (A : Int)) = false := by simp
          have q2 : (X.toList != X.toList) = false := by simp
          gi_wp2
          exact ⟨(unhide HK).from _, ⟨(unhide HK).walks, fun k t y hk1 ht hb => hb.other (by omega) _⟩, fun h => by omega, by rw [HLL.out]; exact unhide HRA⟩
        case stopT =>
          rintro D c pre V hD hSp h hK
          exact h.elim
        case doneT =>
          rintro D3 xs V3 hD3 hS ⟨_, hE3⟩ hK3
          rw [hS, unhide HN] at hE3
          clear hS
          have c3 := hE3.b3.cell
          have c5 := hE3.b5.cell
          have c7 := hE3.b7.cell
          have c8 := hE3.b8.cell
          have q0 : ((N : Int) != (N : Int)) = false := by simp
          gi_wp2
          rw [roundsIn_succ]
          gi_wp2_with fail
          refine (unhide HAW _).mono ?_
          rintro e V9 ⟨rfl, hb9⟩
          have hz9 := hb9.size
          simp only [World.size_alloc] at hz9
          have kk : ∀ D : Nat, V3.heap[D]? = some (.deferred (some [])) → V9.heap[D]? = some (.deferred (some [])) := fun D h => by
            have hlt := (Array.getElem?_eq_some_iff.1 h).1
            exact (hb9.block D (by simp; omega)).trans ((Below.heap_alloc V3 _ D hlt).trans h)
          have k1 := kk D3 hK3
          have k2 := kk D2 (hE3.ds D2 (by simp)).2
          have k3 := kk D1 (hE3.ds D1 (by simp)).2
          have b4 : Boxed V9 B4 4 (.bool false) := boxed_belowC (hE3.b4.alloc _) hb9
          have hBw : Below w.heap.size w V9 := (hE3.below.alloc hE3.below.size _).trans (hb9.mono (by have := hE3.below.size; simp; omega))
          have c4 := b4.cell
          have f4 := b4.frozen
          obtain ⟨VA, hVA⟩ : ∃ W, V9.setCell ⟨B4, 0, none⟩ (.bool true) = W := ⟨_, rfl⟩
          have m1 : VA.heap[D3]? = some (.deferred (some [])) := by rw [← hVA]; exact (KeepsOthers.setCell V9 ⟨B4, 0, none⟩ (.bool true)).same _ _ k1 rfl
          have m2 : VA.heap[D2]? = some (.deferred (some [])) := by rw [← hVA]; exact (KeepsOthers.setCell V9 ⟨B4, 0, none⟩ (.bool true)).same _ _ k2 rfl
          have m3 : VA.heap[D1]? = some (.deferred (some [])) := by rw [← hVA]; exact (KeepsOthers.setCell V9 ⟨B4, 0, none⟩ (.bool true)).same _ _ k3 rfl
          have m4 : Boxed VA B4 4 (.bool true) := by rw [← hVA]; exact b4.set _
          have m5 : Below w.heap.size w VA := by rw [← hVA]; exact hBw.setCell (p := ⟨B4, 0, none⟩) (by simp; omega) _
          have n12 : D2 ≠ D3 := by omega
          have n13 : D1 ≠ D3 := by omega
          have n23 : D1 ≠ D2 := by omega
          have HVA := hide hVA
          have M1 := hide m1
          have M2 := hide m2
          have M3 := hide m3
          have M4 := hide m4
          have M5 := hide m5
          clear hVA m1 m2 m3 m4 m5 k1 k2 k3 kk hE3 hBw hb9
          gi_wp2
          rw [unhide HVA]
          have m2' : (VA.putObj D3 (Obj.deferred none)).heap[D2]? = some (.deferred (some [])) := (World.putObj_heap_other n12).trans (unhide M2)
          have m3' : ((VA.putObj D3 (Obj.deferred none)).putObj D2 (Obj.deferred none)).heap[D1]? = some (.deferred (some [])) := (World.putObj_heap_other n23).trans ((World.putObj_heap_other n13).trans (unhide M3))
          refine ⟨by simp, .inl ⟨_, _, rfl, run_takeDeferred (unhide M1), by simp, .inl ⟨_, _, rfl, run_takeDeferred m2', by simp, .inl ⟨_, _, rfl, run_takeDeferred m3', ?_⟩⟩⟩⟩
          have y4 : Boxed (((VA.putObj D3 (Obj.deferred none)).putObj D2 (Obj.deferred none)).putObj D1 (Obj.deferred none)) B4 4 (.bool true) := (World.putObj_heap_other (by omega)).trans ((World.putObj_heap_other (by omega)).trans ((World.putObj_heap_other (by omega)).trans (unhide M4)))
          have z4 := y4.cell
          exact ⟨.bool true, by simp [results, Try.f4, go_sem, z4], rfl, (((unhide M5).trans (belowK_b (w := w) (Nat.le_refl _) _ D3 _ _ (by omega) (unhide M1) rfl rfl)).trans (belowK_b (w := w) (Nat.le_refl _) _ D2 _ _ (by omega) m2' rfl rfl)).trans (belowK_b (w := w) (Nat.le_refl _) _ D1 _ _ (by omega) m3' rfl rfl)⟩

end Go.Proofs.Ytkpmcojoiijonaa

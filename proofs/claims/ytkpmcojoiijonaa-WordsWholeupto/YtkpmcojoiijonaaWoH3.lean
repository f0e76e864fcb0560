/-
  WordsWhole: the law's walk.
-/
import Derived.Test.YtkpmcojoiijonaaWoH2
import Derived.Test.YtkpmcojoiijonaaWoEach1
import Derived.Test.YtkpmcojoiijonaaQuietIn
namespace Go.Proofs.Ytkpmcojoiijonaa
open Go.RowKit Go.PlainAid Go.Lib Go.Shelf Go.Seq2 Go.Seq3
attribute [local go_sem] World.iter
attribute [local go_sem] Oper.semAt_some
set_option linter.unusedVariables false

set_option maxRecDepth 100000 in
set_option maxHeartbeats 8000000 in
theorem whole_any (a b : ByteArray) (w : World) (ha : a.size ≤ 1048576) (hb : b.size ≤ 1048576) :
    Calls Try.prog 11 #[.string a, .string b] w fun e w' => e = .returned (.bool true) ∧ Below w.heap.size w w' := by
  refine (callsIn_wide (n := 12)).1 ?_
  refine callsIn_of_wp_marks Try.func11 rfl trivial ?_ rfl
  simp only [Try.ntmps11, List.size_toArray, List.length_cons, List.length_nil, Nat.reduceAdd, Nat.reduceSub, Array.replicate_succ, Array.replicate_zero, List.push_toArray, List.append_toArray, List.nil_append, List.cons_append]
  have hF : ∀ f, Fence.wide.fn f := fun _ => trivial
  have HAW := hide (fun w => callsIn_wide (n := 11) |>.2 (awake_any w))
  have HEA := hide (fun w => callsIn_wide (n := 11) |>.2 (weach_in a w))
  have HEB := hide (fun w => callsIn_wide (n := 11) |>.2 (weach_in b w))
  have HEC := hide (fun w => callsIn_wide (n := 11) |>.2 (weach_in (a ++ sp1 ++ b) w))
  have hws := fun x w => weach_some _ x w rfl
  gi_wp2_with (gi_at_call 15; refine (unhide HAW _).mono ?_; rintro e w1 ⟨rfl, hb1⟩; have hz1 := hb1.size; simp only [World.size_alloc] at hz1; have b2 : Boxed w1 w.heap.size 9 (.string a) := boxed_belowC ((Boxed.new w _ _).alloc _) hb1; have b4 : Boxed w1 (w.heap.size + 1) 4 (.bool false) := boxed_belowC (by simpa using Boxed.new (w.alloc (.cells #[.string a] 9)) 4 (.bool false)) hb1; have c2 := b2.cell; have c2' := fun o o' => ((b2.alloc o).alloc o').cell; have c2'' := fun o o' o'' => (((b2.alloc o).alloc o').alloc o'').cell)
  refine (unhide HEA _).mono ?_
  rintro e w2 ⟨rfl, hw2⟩
  subst hw2
  gi_wp2_with fail
  refine (unhide HEA _).mono ?_
  rintro e w3 ⟨rfl, hw3⟩
  subst hw3
  gi_wp2
  obtain ⟨W0, hW0⟩ : ∃ W0, (((w1.alloc (Obj.cells #[Value.int IntKind.i64 0] 3)).alloc (Obj.cells #[Value.int IntKind.i64 0] 3)).alloc (Obj.cells #[Value.string a] 9)).alloc (Obj.cells #[Value.string a] 9) = W0 := ⟨_, rfl⟩
  have hB1 : Below w.heap.size w w1 := (((Below.refl _ w).alloc (Nat.le_refl _) _).alloc (by simp) _).trans (hb1.mono (by simp; omega))
  have hE0 : HB1 w a 0 0 w.heap.size (w.heap.size + 1) w1.heap.size (w1.heap.size + 1) W0 := by
    rw [← hW0]
    refine ⟨(((b2.alloc _).alloc _).alloc _).alloc _, (((b4.alloc _).alloc _).alloc _).alloc _, (((Boxed.new w1 _ _).alloc _).alloc _).alloc _, ?_, ?_⟩
    · simpa using ((Boxed.new (w1.alloc (Obj.cells #[Value.int IntKind.i64 0] 3)) 3 (.int .i64 0)).alloc (Obj.cells #[Value.string a] 9)).alloc (Obj.cells #[Value.string a] 9)
    · have := hB1.size
      exact (((hB1.alloc hB1.size _).alloc (by simp; omega) _).alloc (by simp; omega) _).alloc (by simp; omega) _
  have bs0 : Boxed W0 (w1.heap.size + 1 + 1 + 1) 9 (.string a) := by
    rw [← hW0]
    simpa using Boxed.new (((w1.alloc (Obj.cells #[Value.int IntKind.i64 0] 3)).alloc (Obj.cells #[Value.int IntKind.i64 0] 3)).alloc (Obj.cells #[Value.string a] 9)) 9 (.string a)
  have hs0 : W0.heap.size = w1.heap.size + 4 := by rw [← hW0]; simp
  rw [hW0]
  clear hW0 c2 c2' c2'' b2 b4 hb1
  obtain ⟨B2, hB2⟩ : ∃ B, w.heap.size = B := ⟨_, rfl⟩
  obtain ⟨B4, hB4⟩ : ∃ B, w.heap.size + 1 = B := ⟨_, rfl⟩
  obtain ⟨B5, hB5⟩ : ∃ B, w1.heap.size = B := ⟨_, rfl⟩
  obtain ⟨B6, hB6⟩ : ∃ B, w1.heap.size + 1 = B := ⟨_, rfl⟩
  obtain ⟨Bs, hBs⟩ : ∃ B, w1.heap.size + 1 + 1 + 1 = B := ⟨_, rfl⟩
  rw [hBs] at bs0
  rw [hB6, hB5, hB4, hB2] at hE0
  rw [hBs, hB6, hB5, hB4, hB2]
  have ii : w.heap.size ≤ B2 ∧ B2 < B4 ∧ B4 < B5 ∧ B5 < B6 ∧ B6 < Bs ∧ Bs < W0.heap.size := by omega
  obtain ⟨i0, i1, i2, i3, i4, i5⟩ := ii
  clear hB2 hB4 hB5 hB6 hBs hs0 hz1 hB1
  have hT0 : w.heap.size ≤ W0.heap.size := by omega
  refine range3G (by omega) (gf := 40) (lb := #[.pointer (some ⟨Bs, 0, none⟩)]) rfl (enters_of Try.func40 (by kernel_rfl) rfl)
    (weach_gives a (by omega) _ Bs (by omega) W0 bs0) (Below.refl _ _) (fun _ => rfl)
    (HI1 w a B2 B4 B5 B6) (fun _ _ _ => False) (HI1_own w a B2 B4 B5 B6 _ hT0) (fun c st A B row hx hg hr => hx)
    ⟨0, wordsL a, rfl, good_all a, hE0⟩
    ?a1 ?assign1 ?body1 ?done1 ?stop1
  case assign1 =>
    intro l x W K hK
    gi_wp2
    exact hK
  case stop1 =>
    rintro D c pre V hD hSp h hK
    exact h.elim
  case body1 =>
    rintro l pre x V hl hsz2 ⟨rr, hrr⟩ ⟨e, ws, hws1, hgood, hE⟩ hSp
    obtain ⟨ws', rfl⟩ : ∃ ws', ws = x :: ws' := by
      obtain ⟨rest, hrest⟩ := hSp
      rw [← hws1, List.append_assoc] at hrest
      have := List.append_cancel_left hrest
      exact ⟨rest, this.symm⟩
    obtain ⟨F, E⟩ := x
    obtain ⟨g1, g2, g3, g4, g5, g6, g7⟩ := hgood
    dsimp only at g1 g2 g3 g4 g5 g6 g7
    obtain ⟨D, rfl⟩ : ∃ D, E = F + D := ⟨E - F, by omega⟩
    have hTs : (a.extract F (F + D)).size = D := by rw [ex_size _ _ _ g5]; omega
    have HBL := hide (callsIn_wide (n := 12 - 1 - 1 - 1) |>.2 (lawBlank_yes (a.extract e F) V (by rw [ex_size _ _ _ (by omega)]; omega) g3))
    have HG2 := hide g2
    have HG7 := hide g7
    have HG6 := hide g6
    have HWS := hide hws1
    have q1 : ((a.extract F (F + D)).toList != (a.extract F (F + D)).toList) = false := by simp
    have c2 := hE.b2.cell
    have c5 := hE.b5.cell
    have c6 := hE.b6.cell
    have z1 : (e : Int) ≤ (F : Int) := by omega
    have z2 : (F : Int) + (D : Int) ≤ (a.size : Int) := by omega
    have z3 : ((D : Int) == 0) = false := by simp; omega
    have z4 : ((F : Int) + (D : Int)).toNat = F + D := by omega
    have hpe : (0 < (pre.length : Int) ∧ ((F : Int) == (e : Int)) = false) ∨ ((pre.length : Int) = 0 ∧ decide ((0 : Int) < (pre.length : Int)) = false) := by
      cases pre with
      | nil => right; exact ⟨rfl, by simp⟩
      | cons y pre => left; exact ⟨by simp only [List.length_cons]; omega, by have := g2 rfl; simp; omega⟩
    have hLN : ((pre ++ [(F, F + D)]).length : Int) = (pre.length : Int) + 1 := by simp
    have hEM : (pre ++ [(F, F + D)]).isEmpty = false := by cases pre <;> rfl
    have HLN := hide hLN
    have HEM := hide hEM
    have HE := hide hE
    have h63 : pre.length ≤ 1048576 := by
      have h1 := hSp.length_le
      have h2 := words_len a
      simp at h1; omega
    clear g2 g3 g6 g7 hws1 hSp hLN hEM hE HG2
    generalize hmm : pre.length = m at *
    clear hmm
    have d1 : decide (F < e) = false := decide_eq_false (by omega)
    have d2 : decide ((F : Int) < (e : Int)) = false := decide_eq_false (by omega)
    have d3 : decide ((a.size : Int) < (F : Int) + (D : Int)) = false := decide_eq_false (by omega)
    rcases hpe with ⟨p1, p2⟩ | ⟨p1, p2⟩
    · gi_wp2_with fail
      refine (unhide HBL).mono ?_
      rintro e' V1 ⟨rfl, hbV⟩
      have hE1 := (unhide HE).belowC hbV
      have HE1 := hide hE1
      have c21 := hE1.b2.cell
      have c51 := hE1.b5.cell
      have c61 := hE1.b6.cell
      clear hE1
      gi_wp2
      gi_loopw [10] (fun _ wr => ∃ (pos : Nat) (pr : List (Nat × Nat)), Hid (pr ++ chars (a.extract F (F + D)) pos = chars (a.extract F (F + D)) 0) ∧ wr.heap[V1.heap.size]? = some (.stringIter (a.extract F (F + D)) pos) ∧ Below V1.heap.size V1 wr) (fun _ wr => (a.extract F (F + D)).size - wr.iterPos V1.heap.size)
      case atStart => exact ⟨0, [], rfl, heap_alloc_new V1 _, (Below.refl _ _).alloc (Nat.le_refl _) _⟩
      case round =>
        obtain ⟨pos, pr, HP, hit, hB⟩ := hrel
        have HTS := hide hTs
        clear hTs
        by_cases hlt : pos < (a.extract F (F + D)).size
        · have hnx := fun ty => run_next_any_at (P := Try.prog) wr V1.heap.size (a.extract F (F + D)) pos ty hit hlt
          have hbd := dec_bounds (a.extract F (F + D)) pos hlt
          have hst := chars_step (a.extract F (F + D)) pos hlt
          have HP2 : Hid (pr ++ [(pos, (Utf8.decode (a.extract F (F + D)) pos).1)] ++ chars (a.extract F (F + D)) (pos + (Utf8.decode (a.extract F (F + D)) pos).2) = chars (a.extract F (F + D)) 0) := by
            show _ = _
            rw [← HP.out, hst]; simp
          have hbl : blankB (((Utf8.decode (a.extract F (F + D)) pos).1 : Nat) : Int) = false := by
            apply unhide HG6
            refine List.mem_map.2 ⟨(pos, (Utf8.decode (a.extract F (F + D)) pos).1), ?_, rfl⟩
            rw [← HP.out, hst]; simp
          have hBl := fun w => callsIn_wide (n := 12 - 1 - 1 - 1) |>.2 (blank_any (((Utf8.decode (a.extract F (F + D)) pos).1 : Nat) : Int) w)
          rw [hbl] at hBl
          have HB := hide hBl
          have hit2 := iterAt_heap wr V1.heap.size (a.extract F (F + D)) pos (pos + (Utf8.decode (a.extract F (F + D)) pos).2) hit
          have hB2 : Below V1.heap.size V1 (wr.iterAt V1.heap.size (a.extract F (F + D)) (pos + (Utf8.decode (a.extract F (F + D)) pos).2)) := below_iterAt hB (Nat.le_refl _) _ _
          have hmeas : (a.extract F (F + D)).size - (pos + (Utf8.decode (a.extract F (F + D)) pos).2) < (a.extract F (F + D)).size - wr.iterPos V1.heap.size := by rw [iterPos_of hit]; omega
          generalize hW3 : wr.iterAt V1.heap.size (a.extract F (F + D)) (pos + (Utf8.decode (a.extract F (F + D)) pos).2) = W3 at *
          clear hW3 hst hbl hBl
          gi_wp2_with (gi_at_call 13; refine (unhide HB W3).mono ?_; rintro e w' ⟨rfl, hw⟩; obtain rfl : W3 = w' := hw.symm)
          go_roundw
          case rel => exact ⟨_, _, HP2, hit2, hB2⟩
          case measure => rw [iterPos_of hit2]; exact hmeas
        · have hnx := fun ty => run_next_end_at (P := Try.prog) wr V1.heap.size (a.extract F (F + D)) pos ty hit hlt
          have hTs := unhide HTS
          have hE2 := (unhide HE1).belowC hB
          have HE2 := hide (hE2.set ((F : Int) + (D : Int)) ((m : Int) + 1) i0 i1 i2 i3)
          have k5 := hE2.b5.cell
          have f5 := hE2.b5.frozen
          have k6 := fun v => (hE2.b6.other (B' := B5) (by omega) v).cell
          have f6 := fun v => (hE2.b6.other (B' := B5) (by omega) v).frozen
          have HKK := hide (((keeps_belowC hbV).trans (keeps_belowC hB)).trans ((KeepsOthers.setCell wr ⟨B5, 0, none⟩ (.int .i64 ((F : Int) + (D : Int)))).trans (KeepsOthers.setCell _ ⟨B6, 0, none⟩ (.int .i64 ((m : Int) + 1)))))
          have HBX := hide (fun (k : Nat) (t : TypeId) (y : Value) (h : Boxed V k t y) => boxed_belowC (boxed_belowC h hbV) hB)
          clear hE2
          gi_wp2
          exact ⟨(unhide HKK).from _, ⟨(unhide HKK).walks, fun k t y hk1 ht hb => ((unhide HBX k t y hb).other (by omega) _).other (by omega) _⟩, F + D, ws', by rw [List.append_assoc]; exact unhide HWS, by rw [unhide HEM]; exact unhide HG7, by rw [unhide HLN]; exact unhide HE2⟩
    · obtain rfl : m = 0 := by omega
      clear p1
      gi_wp2_with fail
      refine (unhide HBL).mono ?_
      rintro e' V1 ⟨rfl, hbV⟩
      have hE1 := (unhide HE).belowC hbV
      have HE1 := hide hE1
      have c21 := hE1.b2.cell
      have c51 := hE1.b5.cell
      have c61 := hE1.b6.cell
      clear hE1
      gi_wp2
      gi_loopw [10] (fun _ wr => ∃ (pos : Nat) (pr : List (Nat × Nat)), Hid (pr ++ chars (a.extract F (F + D)) pos = chars (a.extract F (F + D)) 0) ∧ wr.heap[V1.heap.size]? = some (.stringIter (a.extract F (F + D)) pos) ∧ Below V1.heap.size V1 wr) (fun _ wr => (a.extract F (F + D)).size - wr.iterPos V1.heap.size)
      case atStart => exact ⟨0, [], rfl, heap_alloc_new V1 _, (Below.refl _ _).alloc (Nat.le_refl _) _⟩
      case round =>
        obtain ⟨pos, pr, HP, hit, hB⟩ := hrel
        have HTS := hide hTs
        clear hTs
        by_cases hlt : pos < (a.extract F (F + D)).size
        · have hnx := fun ty => run_next_any_at (P := Try.prog) wr V1.heap.size (a.extract F (F + D)) pos ty hit hlt
          have hbd := dec_bounds (a.extract F (F + D)) pos hlt
          have hst := chars_step (a.extract F (F + D)) pos hlt
          have HP2 : Hid (pr ++ [(pos, (Utf8.decode (a.extract F (F + D)) pos).1)] ++ chars (a.extract F (F + D)) (pos + (Utf8.decode (a.extract F (F + D)) pos).2) = chars (a.extract F (F + D)) 0) := by
            show _ = _
            rw [← HP.out, hst]; simp
          have hbl : blankB (((Utf8.decode (a.extract F (F + D)) pos).1 : Nat) : Int) = false := by
            apply unhide HG6
            refine List.mem_map.2 ⟨(pos, (Utf8.decode (a.extract F (F + D)) pos).1), ?_, rfl⟩
            rw [← HP.out, hst]; simp
          have hBl := fun w => callsIn_wide (n := 12 - 1 - 1 - 1) |>.2 (blank_any (((Utf8.decode (a.extract F (F + D)) pos).1 : Nat) : Int) w)
          rw [hbl] at hBl
          have HB := hide hBl
          have hit2 := iterAt_heap wr V1.heap.size (a.extract F (F + D)) pos (pos + (Utf8.decode (a.extract F (F + D)) pos).2) hit
          have hB2 : Below V1.heap.size V1 (wr.iterAt V1.heap.size (a.extract F (F + D)) (pos + (Utf8.decode (a.extract F (F + D)) pos).2)) := below_iterAt hB (Nat.le_refl _) _ _
          have hmeas : (a.extract F (F + D)).size - (pos + (Utf8.decode (a.extract F (F + D)) pos).2) < (a.extract F (F + D)).size - wr.iterPos V1.heap.size := by rw [iterPos_of hit]; omega
          generalize hW3 : wr.iterAt V1.heap.size (a.extract F (F + D)) (pos + (Utf8.decode (a.extract F (F + D)) pos).2) = W3 at *
          clear hW3 hst hbl hBl
          gi_wp2_with (gi_at_call 13; refine (unhide HB W3).mono ?_; rintro e w' ⟨rfl, hw⟩; obtain rfl : W3 = w' := hw.symm)
          go_roundw
          case rel => exact ⟨_, _, HP2, hit2, hB2⟩
          case measure => rw [iterPos_of hit2]; exact hmeas
        · have hnx := fun ty => run_next_end_at (P := Try.prog) wr V1.heap.size (a.extract F (F + D)) pos ty hit hlt
          have hTs := unhide HTS
          have hE2 := (unhide HE1).belowC hB
          have HE2 := hide (hE2.set ((F : Int) + (D : Int)) (((0 : Nat) : Int) + 1) i0 i1 i2 i3)
          have k5 := hE2.b5.cell
          have f5 := hE2.b5.frozen
          have k6 := fun v => (hE2.b6.other (B' := B5) (by omega) v).cell
          have f6 := fun v => (hE2.b6.other (B' := B5) (by omega) v).frozen
          have HKK := hide (((keeps_belowC hbV).trans (keeps_belowC hB)).trans ((KeepsOthers.setCell wr ⟨B5, 0, none⟩ (.int .i64 ((F : Int) + (D : Int)))).trans (KeepsOthers.setCell _ ⟨B6, 0, none⟩ (.int .i64 (((0 : Nat) : Int) + 1)))))
          have HBX := hide (fun (k : Nat) (t : TypeId) (y : Value) (h : Boxed V k t y) => boxed_belowC (boxed_belowC h hbV) hB)
          clear hE2
          gi_wp2
          exact ⟨(unhide HKK).from _, ⟨(unhide HKK).walks, fun k t y hk1 ht hb => ((unhide HBX k t y hb).other (by omega) _).other (by omega) _⟩, F + D, ws', by rw [List.append_assoc]; exact unhide HWS, by rw [unhide HEM]; exact unhide HG7, by rw [unhide HLN]; exact unhide HE2⟩
  case done1 =>
    rintro D1 xs V hD1 hS ⟨e, ws, hws1, hgood, hE⟩ hK1
    obtain rfl : ws = [] := by
      have := congrArg List.length hws1
      rw [hS] at this
      simp at this
      exact this
    obtain ⟨g1, g2⟩ := hgood
    have HBL := hide (callsIn_wide (n := 11) |>.2 (lawBlank_yes (a.extract e a.size) V (by rw [ex_size _ _ _ (by omega)]; omega) g2))
    have HE := hide hE
    have c2 := hE.b2.cell
    have c5 := hE.b5.cell
    have z1 : (e : Int) ≤ (a.size : Int) := by omega
    have HD1 := hide (And.intro hD1 hK1)
    clear g2 hws1 hE hS hD1 hK1
    generalize xs.length = nn at *
    gi_wp2_with fail
    refine (unhide HBL).mono ?_
    rintro e' V1 ⟨rfl, hbV⟩
    have hE1 := (unhide HE).belowC hbV
    have c21 := hE1.b2.cell
    have c2a := fun o o' => ((hE1.b2.alloc o).alloc o').cell
    have c2b := fun o o' o'' => (((hE1.b2.alloc o).alloc o').alloc o'').cell
    gi_wp2_with fail
    refine (unhide HEA _).mono ?_
    rintro e' w2 ⟨rfl, hw2⟩
    subst hw2
    gi_wp2_with fail
    refine (unhide HEA _).mono ?_
    rintro e' w3 ⟨rfl, hw3⟩
    subst hw3
    gi_wp2
    -- LATER
    obtain ⟨W2, hW2⟩ : ∃ W, (((V1.alloc (Obj.cells #[Value.slice none 0 0] 58)).alloc (Obj.cells #[Value.slice none 0 0] 58)).alloc (Obj.cells #[Value.string a] 9)).alloc (Obj.cells #[Value.string a] 9) = W := ⟨_, rfl⟩
    have hs2 : W2.heap.size = V1.heap.size + 4 := by rw [← hW2]; simp
    have hzV := hbV.size
    have hzw := hE1.below.size
    obtain ⟨hD1, hK1⟩ := unhide HD1
    have hDlt : D1 < V.heap.size := (Array.getElem?_eq_some_iff.1 hK1).1
    have hE2 : HB2 w a W2.heap.size (.slice none 0 0) ([] ++ ([] : List (Nat × Nat)).map fun x => a.extract x.1 x.2) (.slice none 0 0) [] B2 B4 (V1.heap.size + 1) V1.heap.size (V1.heap.size + 1 + 1 + 1) W2.heap.size [D1] W2 := by
      refine ⟨by rw [← hW2]; exact (((hE1.b2.alloc _).alloc _).alloc _).alloc _, by rw [← hW2]; exact (((hE1.b4.alloc _).alloc _).alloc _).alloc _, ?_, by rw [← hW2]; exact (((Boxed.new V1 _ _).alloc _).alloc _).alloc _, by simpa [txtV] using World.ownsRow_nil W2 _ _ _, by simpa [txtV] using World.ownsRow_nil W2 _ _ _, (fun g e => by cases e), (fun g e => by cases e), ?_, ?_⟩
      · rw [← hW2]
        simpa using ((Boxed.new (V1.alloc (Obj.cells #[Value.slice none 0 0] 58)) 58 (.slice none 0 0)).alloc (Obj.cells #[Value.string a] 9)).alloc (Obj.cells #[Value.string a] 9)
      · intro D hD
        rw [List.mem_singleton.1 hD]
        refine ⟨by omega, ?_⟩
        rw [← hW2]
        exact (Below.heap_alloc _ _ _ (by simp; omega)).trans ((Below.heap_alloc _ _ _ (by simp; omega)).trans ((Below.heap_alloc _ _ _ (by simp; omega)).trans ((Below.heap_alloc _ _ _ (by omega)).trans ((hbV.block D1 hDlt).trans hK1))))
      · rw [← hW2]
        exact (((hE1.below.alloc hE1.below.size _).alloc (by simp; omega) _).alloc (by simp; omega) _).alloc (by simp; omega) _
    have bsB : Boxed W2 (V1.heap.size + 1 + 1 + 1) 9 (.string a) := by
      rw [← hW2]
      simpa using Boxed.new (((V1.alloc (Obj.cells #[Value.slice none 0 0] 58)).alloc (Obj.cells #[Value.slice none 0 0] 58)).alloc (Obj.cells #[Value.string a] 9)) 9 (.string a)
    rw [hW2]
    have hTB : w.heap.size ≤ W2.heap.size := by omega
    have hnwB : w.heap.size ≤ W2.heap.size := by omega
    have hLB : ([] : List ByteArray).length ≤ 2097152 := by simp
    have hq2 : B6 < V1.heap.size := by have := hE1.b6.lt; omega
    have hq2' : V1.heap.size + 4 ≤ W2.heap.size := by omega
    have hD1' : D1 < V1.heap.size := by omega
    obtain ⟨j0, hj, hy0, hy1, hy2⟩ := info_parts infoStr
    clear hW2 c2 c5 c21 c2a c2b hE1 hs2 HBL HE HD1 hK1 hzV hzw hE0 bs0
    obtain ⟨B11, hB11⟩ : ∃ B, V1.heap.size = B := ⟨_, rfl⟩
    obtain ⟨B12, hB12⟩ : ∃ B, V1.heap.size + 1 = B := ⟨_, rfl⟩
    obtain ⟨BT, hBT⟩ : ∃ B, V1.heap.size + 1 + 1 + 1 = B := ⟨_, rfl⟩
    rw [hBT, hB12, hB11] at hE2
    rw [hBT] at bsB
    rw [hBT, hB12, hB11]
    have ii2 : B6 < B11 ∧ B11 < B12 ∧ B12 < BT ∧ BT < W2.heap.size ∧ D1 < B11 := by omega
    obtain ⟨i6, i7, i8, i9, i10⟩ := ii2
    clear hB11 hB12 hBT hq2 hq2' hD1'
    refine range3G (by omega) (gf := 40) (lb := #[.pointer (some ⟨BT, 0, none⟩)]) rfl (enters_of Try.func40 (by kernel_rfl) rfl)
      (weach_gives a (by omega) _ (BT) (by omega) W2 bsB) (Below.refl _ _) (fun _ => rfl)
      (HI2 w a W2.heap.size [] a (.slice none 0 0) [] B2 B4 B12 B11 (BT) W2.heap.size [D1]) (fun _ _ _ => False) (HI2_own w a W2.heap.size [] a (.slice none 0 0) [] B2 B4 B12 B11 (BT) W2.heap.size [D1] hTB) (fun c st A B row hx hg hr => hx)
      ⟨_, hE2⟩
      ?aB ?assignB ?bodyB ?doneB ?stopB
    case assignB =>
      intro l x W K hK
      gi_wp2
      exact hK
    case stopB =>
      rintro D c pre V hD hSp h hK
      exact h.elim
    case bodyB =>
      rintro l pre x V hl hsz2 ⟨rr, hrr⟩ ⟨v, hE⟩ hSp
      have hpl : pre.length ≤ a.size := by
        have h1 := hSp.length_le
        have h2 := words_len a
        simp at h1; omega
      have hll : ([] ++ pre.map fun x : Nat × Nat => a.extract x.1 x.2).length ≤ 8388608 := by
        rw [List.length_append, List.length_map]
        have := hLB
        omega
      have HLN : Hid ([] ++ (pre ++ [x]).map (fun x : Nat × Nat => a.extract x.1 x.2) = ([] ++ pre.map fun x : Nat × Nat => a.extract x.1 x.2) ++ [a.extract x.1 x.2]) := by show _ = _; simp
      obtain ⟨va, vc, rfl⟩ := row_sliceC hE.row
      have hrow := hE.row
      have cA := hE.bA.cell
      have HE := hide hE
      have hBSV : BT < V.heap.size := by omega
      have hn0V : W2.heap.size ≤ V.heap.size := by have := Nat.le_refl W2.heap.size; omega
      clear hE hSp
      generalize ([] ++ pre.map fun x : Nat × Nat => a.extract x.1 x.2) = L at *
      generalize a.extract x.1 x.2 = T at *
      gi_wp2_with (gi_at_builtin; refine wpListIn_append_own_at _ rfl _ _ 58 rfl W2.heap.size 9 j0 (.string ⟨#[]⟩) 1 16 Try.underlying58 hj hy0 hy1 hy2 rfl (by decide) _ _ _ rfl (hrow.alloc _) ⟨V.heap.size, 0, none⟩ 1 1 [.string T] rfl rfl (cell_one_new _ _ _) (by simp [Value.oneCell']) (by unfold maxLen; omega) (by omega) (by simp; omega) ?_; intro v' w6 hown' hgrow _ hat; obtain ⟨g', cap', rfl⟩ := ownsRow_succ hown'; obtain ⟨u1, u2, u3, u4⟩ := (unhide HE).app hnwB hown' hgrow hat hBSV (by omega) (by omega) (by omega) (by omega) (by omega) (by omega); have t1 := u3.cell; have t2 := u3.frozen; have U1 := hide u1; have U4 := hide u4; clear u1 u4)
      exact ⟨u2.from _, ⟨u2.walks, fun k t y hk1 ht hb => by
        obtain rfl : k = BT := by rcases hk1 with h | h; omega; exact h
        obtain rfl := ht
        exact unhide U4 y hb⟩, _, by rw [HLN.out]; exact unhide U1⟩
    case doneB =>
      rintro D2 xs V2 hD2 hS ⟨v2, hE3⟩ hK2
      rw [List.nil_append, hS] at hE3
      have hTX : (wordsL a).map (fun x => a.extract x.1 x.2) = wordT a := rfl
      rw [hTX] at hE3
      clear hS hTX
      have HE3 := hide hE3
      have hD2lt : D2 < V2.heap.size := (Array.getElem?_eq_some_iff.1 hK2).1
      have HK2 := hide hK2
      have hws := fun x w => weach_some _ x w rfl
      clear hE3 hK2
      gi_wp2_with fail
      refine (unhide HEB _).mono ?_
      rintro e' w2 ⟨rfl, hw2⟩
      subst hw2
      gi_wp2_with fail
      refine (unhide HEB _).mono ?_
      rintro e' w3 ⟨rfl, hw3⟩
      subst hw3
      gi_wp2
      obtain ⟨W3, hW3⟩ : ∃ W, (V2.alloc (Obj.cells #[Value.string b] 9)).alloc (Obj.cells #[Value.string b] 9) = W := ⟨_, rfl⟩
      have hE4 := (unhide HE3).move (Obj.cells #[Value.string b] 9) (Obj.cells #[Value.string b] 9) (unhide HK2)
      rw [hW3] at hE4
      have hs3 : W3.heap.size = V2.heap.size + 2 := by rw [← hW3]; simp
      have bsC : Boxed W3 (V2.heap.size + 1) 9 (.string b) := by rw [← hW3]; simpa using Boxed.new (V2.alloc (Obj.cells #[Value.string b] 9)) 9 (.string b)
      rw [hW3]
      have hq3 : V2.heap.size + 2 ≤ W3.heap.size := by omega
      have hTC : w.heap.size ≤ W3.heap.size := by omega
      have hnwC : w.heap.size ≤ W2.heap.size := by omega
      have hLC : (wordT a).length ≤ 2097152 := by unfold wordT; rw [List.length_map]; have := words_len a; omega
      have hE4' : HB2 w a W2.heap.size v2 (wordT a ++ ([] : List (Nat × Nat)).map fun x => b.extract x.1 x.2) (.slice none 0 0) [] B2 B4 B12 B11 (V2.heap.size + 1) W3.heap.size [D2, D1] W3 := by simpa using hE4
      have hd23 : D2 < W3.heap.size := by omega
      have h23 : W2.heap.size ≤ W3.heap.size := by omega
      clear hW3 hs3 hE4 HE3 HK2 bsB hE2
      refine range3G (by omega) (gf := 40) (lb := #[.pointer (some ⟨V2.heap.size + 1, 0, none⟩)]) rfl (enters_of Try.func40 (by kernel_rfl) rfl)
        (weach_gives b (by omega) _ (V2.heap.size + 1) (by omega) W3 bsC) (Below.refl _ _) (fun _ => rfl)
        (HI2 w a W2.heap.size (wordT a) b (.slice none 0 0) [] B2 B4 B12 B11 (V2.heap.size + 1) W3.heap.size [D2, D1]) (fun _ _ _ => False) (HI2_own w a W2.heap.size (wordT a) b (.slice none 0 0) [] B2 B4 B12 B11 (V2.heap.size + 1) W3.heap.size [D2, D1] hTC) (fun c st A B row hx hg hr => hx)
        ⟨_, hE4'⟩
        ?aC ?assignC ?bodyC ?doneC ?stopC
      case assignC =>
        intro l x W K hK
        gi_wp2
        exact hK
      case stopC =>
        rintro D c pre V hD hSp h hK
        exact h.elim
      case bodyC =>
        rintro l pre x V hl hsz2 ⟨rr, hrr⟩ ⟨v, hE⟩ hSp
        have hpl : pre.length ≤ b.size := by
          have h1 := hSp.length_le
          have h2 := words_len b
          simp at h1; omega
        have hll : ((wordT a) ++ pre.map fun x : Nat × Nat => b.extract x.1 x.2).length ≤ 8388608 := by
          rw [List.length_append, List.length_map]
          have := hLC
          omega
        have HLN : Hid ((wordT a) ++ (pre ++ [x]).map (fun x : Nat × Nat => b.extract x.1 x.2) = ((wordT a) ++ pre.map fun x : Nat × Nat => b.extract x.1 x.2) ++ [b.extract x.1 x.2]) := by show _ = _; simp
        obtain ⟨va, vc, rfl⟩ := row_sliceC hE.row
        have hrow := hE.row
        have cA := hE.bA.cell
        have HE := hide hE
        have hBSV : V2.heap.size + 1 < V.heap.size := by omega
        have hn0V : W2.heap.size ≤ V.heap.size := by have := h23; omega
        clear hE hSp
        generalize ((wordT a) ++ pre.map fun x : Nat × Nat => b.extract x.1 x.2) = L at *
        generalize b.extract x.1 x.2 = T at *
        gi_wp2_with (gi_at_builtin; refine wpListIn_append_own_at _ rfl _ _ 58 rfl W2.heap.size 9 j0 (.string ⟨#[]⟩) 1 16 Try.underlying58 hj hy0 hy1 hy2 rfl (by decide) _ _ _ rfl (hrow.alloc _) ⟨V.heap.size, 0, none⟩ 1 1 [.string T] rfl rfl (cell_one_new _ _ _) (by simp [Value.oneCell']) (by unfold maxLen; omega) (by omega) (by simp; omega) ?_; intro v' w6 hown' hgrow _ hat; obtain ⟨g', cap', rfl⟩ := ownsRow_succ hown'; obtain ⟨u1, u2, u3, u4⟩ := (unhide HE).app hnwC hown' hgrow hat hBSV (by omega) (by omega) (by omega) (by omega) (by omega) (by omega); have t1 := u3.cell; have t2 := u3.frozen; have U1 := hide u1; have U4 := hide u4; clear u1 u4)
        exact ⟨u2.from _, ⟨u2.walks, fun k t y hk1 ht hb => by
          obtain rfl : k = V2.heap.size + 1 := by rcases hk1 with h | h; omega; exact h
          obtain rfl := ht
          exact unhide U4 y hb⟩, _, by rw [HLN.out]; exact unhide U1⟩

      case doneC =>
        rintro D3 xs V3 hD3 hS ⟨v3, hE5⟩ hK3
        rw [hS] at hE5
        have hTX : (wordsL b).map (fun x : Nat × Nat => b.extract x.1 x.2) = wordT b := rfl
        rw [hTX] at hE5
        clear hS hTX
        have c2 := hE5.b2.cell
        have c2o := fun o => (hE5.b2.alloc o).cell
        have HE5 := hide hE5
        have hD3lt : D3 < V3.heap.size := (Array.getElem?_eq_some_iff.1 hK3).1
        have HK3 := hide hK3
        have s1 : (a ++ sp1).size = a.size + 1 := by rw [ByteArray.size_append]; rfl
        have s2 : (a ++ sp1 ++ b).size = a.size + 1 + b.size := by rw [ByteArray.size_append, s1]
        clear hE5 hK3
        gi_wp2_with fail
        refine (unhide HEC _).mono ?_
        rintro e' w2 ⟨rfl, hw2⟩
        subst hw2
        gi_wp2_with fail
        refine (unhide HEC _).mono ?_
        rintro e' w3 ⟨rfl, hw3⟩
        subst hw3
        gi_wp2
        generalize hC : a ++ sp1 ++ b = C at *
        have HC := hide hC
        obtain ⟨W4, hW4⟩ : ∃ W, (V3.alloc (Obj.cells #[Value.string C] 9)).alloc (Obj.cells #[Value.string C] 9) = W := ⟨_, rfl⟩
        have hE6 := (unhide HE5).swap hnwC (Obj.cells #[Value.string C] 9) (Obj.cells #[Value.string C] 9) (unhide HK3)
        rw [hW4] at hE6
        have hs4 : W4.heap.size = V3.heap.size + 2 := by rw [← hW4]; simp
        have bsD : Boxed W4 (V3.heap.size + 1) 9 (.string C) := by rw [← hW4]; simpa using Boxed.new (V3.alloc (Obj.cells #[Value.string C] 9)) 9 (.string C)
        rw [hW4]
        have hq4 : V3.heap.size + 2 ≤ W4.heap.size := by omega
        have hTD : w.heap.size ≤ W4.heap.size := by omega
        have hnwD : w.heap.size ≤ W4.heap.size := by omega
        have hLD : ([] : List ByteArray).length ≤ 2097152 := by simp
        have hE6' : HB2 w a W4.heap.size (.slice none 0 0) ([] ++ ([] : List (Nat × Nat)).map fun x => C.extract x.1 x.2) v3 (wordT a ++ wordT b) B2 B4 B11 B12 (V3.heap.size + 1) W4.heap.size [D3, D2, D1] W4 := by simpa using hE6
        have hd34 : D3 < W4.heap.size := by omega
        clear hW4 hs4 hE6 HE5 HK3 bsC hE4' c2 c2o hC
        refine range3G (by omega) (gf := 40) (lb := #[.pointer (some ⟨V3.heap.size + 1, 0, none⟩)]) rfl (enters_of Try.func40 (by kernel_rfl) rfl)
          (weach_gives C (by omega) _ (V3.heap.size + 1) (by omega) W4 bsD) (Below.refl _ _) (fun _ => rfl)
          (HI2 w a W4.heap.size [] C v3 (wordT a ++ wordT b) B2 B4 B11 B12 (V3.heap.size + 1) W4.heap.size [D3, D2, D1]) (fun _ _ _ => False) (HI2_own w a W4.heap.size [] C v3 (wordT a ++ wordT b) B2 B4 B11 B12 (V3.heap.size + 1) W4.heap.size [D3, D2, D1] hTD) (fun c st A B row hx hg hr => hx)
          ⟨_, hE6'⟩
          ?aD ?assignD ?bodyD ?doneD ?stopD
        case assignD =>
          intro l x W K hK
          gi_wp2
          exact hK
        case stopD =>
          rintro D c pre V hD hSp h hK
          exact h.elim
        case bodyD =>
          rintro l pre x V hl hsz2 ⟨rr, hrr⟩ ⟨v, hE⟩ hSp
          have hpl : pre.length ≤ C.size := by
            have h1 := hSp.length_le
            have h2 := words_len C
            simp at h1; omega
          have hll : ([] ++ pre.map fun x : Nat × Nat => C.extract x.1 x.2).length ≤ 8388608 := by
            rw [List.length_append, List.length_map]
            have := hLD
            omega
          have HLN : Hid ([] ++ (pre ++ [x]).map (fun x : Nat × Nat => C.extract x.1 x.2) = ([] ++ pre.map fun x : Nat × Nat => C.extract x.1 x.2) ++ [C.extract x.1 x.2]) := by show _ = _; simp
          obtain ⟨va, vc, rfl⟩ := row_sliceC hE.row
          have hrow := hE.row
          have cA := hE.bA.cell
          have HE := hide hE
          have hBSV : V3.heap.size + 1 < V.heap.size := by omega
          have hn0V : W4.heap.size ≤ V.heap.size := by have := Nat.le_refl W4.heap.size; omega
          clear hE hSp
          generalize ([] ++ pre.map fun x : Nat × Nat => C.extract x.1 x.2) = L at *
          generalize C.extract x.1 x.2 = T at *
          gi_wp2_with (gi_at_builtin; refine wpListIn_append_own_at _ rfl _ _ 58 rfl W4.heap.size 9 j0 (.string ⟨#[]⟩) 1 16 Try.underlying58 hj hy0 hy1 hy2 rfl (by decide) _ _ _ rfl (hrow.alloc _) ⟨V.heap.size, 0, none⟩ 1 1 [.string T] rfl rfl (cell_one_new _ _ _) (by simp [Value.oneCell']) (by unfold maxLen; omega) (by omega) (by simp; omega) ?_; intro v' w6 hown' hgrow _ hat; obtain ⟨g', cap', rfl⟩ := ownsRow_succ hown'; obtain ⟨u1, u2, u3, u4⟩ := (unhide HE).app hnwD hown' hgrow hat hBSV (by omega) (by omega) (by omega) (by omega) (by omega) (by omega); have t1 := u3.cell; have t2 := u3.frozen; have U1 := hide u1; have U4 := hide u4; clear u1 u4)
          exact ⟨u2.from _, ⟨u2.walks, fun k t y hk1 ht hb => by
            obtain rfl : k = V3.heap.size + 1 := by rcases hk1 with h | h; omega; exact h
            obtain rfl := ht
            exact unhide U4 y hb⟩, _, by rw [HLN.out]; exact unhide U1⟩

        case doneD =>
          rintro D4 xs V4 hD4 hS ⟨v4, hE7⟩ hK4
          rw [List.nil_append, hS] at hE7
          have hTX : (wordsL C).map (fun x : Nat × Nat => C.extract x.1 x.2) = wordT C := rfl
          rw [hTX, ← unhide HC, wordT_space] at hE7
          clear hS hTX
          have hLL : (wordT a ++ wordT b).length ≤ 4194304 := by
            rw [List.length_append]
            unfold wordT
            rw [List.length_map, List.length_map]
            have h1 := words_len a
            have h2 := words_len b
            omega
          obtain ⟨a4, c4, rfl⟩ := row_sliceC hE7.row
          obtain ⟨a3, c3, rfl⟩ := row_sliceC hE7.rP
          have cA := hE7.bA.cell
          have cP := hE7.bP.cell
          have HE7 := hide hE7
          have HK4 := hide hK4
          clear hE7 hK4 hE6' bsD
          generalize hL : wordT a ++ wordT b = L at *
          clear hL
          generalize hN : L.length = N at *
          have HN := hide hN
          clear hN
          have q0 : ((N : Int) != (N : Int)) = false := by simp
          gi_wp2
          gi_loopw [19] (fun v19 wr => ∃ k q : Nat, k ≤ N ∧ v19 = .int .i64 k ∧ wr = V4.drewN q) (fun v19 _ => N - (RowKit.intOf v19).toNat)
          case atStart => exact ⟨0, 0, Nat.zero_le _, rfl, rfl⟩
          case round =>
            obtain ⟨k, q, hk, rfl, rfl⟩ := hrel
            obtain ⟨WX, hWX⟩ : ∃ WX, V4.drewN q = WX := ⟨_, rfl⟩
            have kA : WX.cell? ⟨B11, 0, none⟩ = some (.slice a4 N c4) := by rw [← hWX]; exact cA
            have kP : WX.cell? ⟨B12, 0, none⟩ = some (.slice a3 N c3) := by rw [← hWX]; exact cP
            by_cases hlt : k < N
            · have hr4 := (unhide HE7).row
              have hr3 := (unhide HE7).rP
              rw [unhide HN] at hr4 hr3
              obtain ⟨g4, e4, y1, y2, _⟩ := row_someH hr4 (by omega)
              obtain ⟨g3, e3, y3, y4, _⟩ := row_someH hr3 (by omega)
              subst e4
              subst e3
              have hkL : k < L.length := by rw [unhide HN]; exact hlt
              have m4 : WX.cell? ⟨g4, k, none⟩ = some (.string (L[k]'hkL)) := by
                rw [← hWX]
                refine (hr4.cellAt k (by omega)).trans ?_
                rw [List.getElem?_map, List.getElem?_eq_getElem hkL]; rfl
              have m3 : WX.cell? ⟨g3, k, none⟩ = some (.string (L[k]'hkL)) := by
                rw [← hWX]
                refine (hr3.cellAt k (by omega)).trans ?_
                rw [List.getElem?_map, List.getElem?_eq_getElem hkL]; rfl
              clear hr4 hr3 cA cP
              rw [hWX]
              have HWX := hide hWX
              clear hWX
              generalize (L[k]'hkL) = T at *
              have qT : (T.toList != T.toList) = false := by simp
              gi_wp2
              refine wpIn_wide.2 ?_
              go_quiet (fail)
              gi_wp2
              go_roundw
              case rel => exact ⟨k + 1, q + nq, by omega, by go_num, by rw [← unhide HWX]; exact World.drewN_drewN _ _ _⟩
              case measure => simp [RowKit.intOf]; omega
            · obtain rfl : k = N := by omega
              have hEX : HB2 w a W4.heap.size (.slice a4 k c4) L (.slice a3 k c3) L B2 B4 B11 B12 (V3.heap.size + 1) W4.heap.size [D3, D2, D1] WX := by
                rw [← hWX]
                have h := unhide HE7
                exact ⟨h.b2, h.b4, h.bA, h.bP, h.row, h.rP, h.ap, h.na, h.ds, below_drewN h.below q⟩
              have hKX : WX.heap[D4]? = some (.deferred (some [])) := by rw [← hWX]; exact unhide HK4
              rw [hWX]
              clear hWX cA cP HE7 HK4
              have HEX := hide hEX
              have HKX := hide hKX
              clear hEX hKX
              gi_wp2_with fail
              refine (unhide HAW _).mono ?_
              rintro e' V9 ⟨rfl, hb9⟩
              have hEX := unhide HEX
              have kk : ∀ D : Nat, WX.heap[D]? = some (.deferred (some [])) → V9.heap[D]? = some (.deferred (some [])) := fun D h => (hb9.block D (Array.getElem?_eq_some_iff.1 h).1).trans h
              have k4 := kk D4 (unhide HKX)
              have k3 := kk D3 (hEX.ds D3 (by simp)).2
              have k2 := kk D2 (hEX.ds D2 (by simp)).2
              have k1 := kk D1 (hEX.ds D1 (by simp)).2
              have b4 := boxed_belowC hEX.b4 hb9
              have hBw := below2 hEX.below hb9
              have cc4 := b4.cell
              have ff4 := b4.frozen
              obtain ⟨VA, hVA⟩ : ∃ W, V9.setCell ⟨B4, 0, none⟩ (.bool true) = W := ⟨_, rfl⟩
              have sm : ∀ D : Nat, V9.heap[D]? = some (.deferred (some [])) → VA.heap[D]? = some (.deferred (some [])) := fun D h => by rw [← hVA]; exact (KeepsOthers.setCell V9 ⟨B4, 0, none⟩ (.bool true)).same D _ h rfl
              have M4 := hide (sm D4 k4)
              have M3 := hide (sm D3 k3)
              have M2 := hide (sm D2 k2)
              have M1 := hide (sm D1 k1)
              have mb : Boxed VA B4 4 (.bool true) := by rw [← hVA]; exact b4.set _
              have mB : Below w.heap.size w VA := by rw [← hVA]; exact hBw.setCell (p := ⟨B4, 0, none⟩) (by show _ ≤ B4; omega) _
              have MB := hide mB
              have Mb := hide mb
              have HVA := hide hVA
              have n34 : D3 ≠ D4 := by omega
              have n24 : D2 ≠ D4 := by omega
              have n14 : D1 ≠ D4 := by omega
              have n23 : D2 ≠ D3 := by omega
              have n13 : D1 ≠ D3 := by omega
              have n12 : D1 ≠ D2 := by omega
              clear sm kk k1 k2 k3 k4 mb mB hVA hEX hBw hb9 HEX HKX
              gi_wp2
              rw [unhide HVA]
              have p3 : (VA.putObj D4 (Obj.deferred none)).heap[D3]? = some (.deferred (some [])) := (World.putObj_heap_other n34).trans (unhide M3)
              have p2 : ((VA.putObj D4 (Obj.deferred none)).putObj D3 (Obj.deferred none)).heap[D2]? = some (.deferred (some [])) := (World.putObj_heap_other n23).trans ((World.putObj_heap_other n24).trans (unhide M2))
              have p1 : (((VA.putObj D4 (Obj.deferred none)).putObj D3 (Obj.deferred none)).putObj D2 (Obj.deferred none)).heap[D1]? = some (.deferred (some [])) := (World.putObj_heap_other n12).trans ((World.putObj_heap_other n13).trans ((World.putObj_heap_other n14).trans (unhide M1)))
              refine ⟨by simp, .inl ⟨_, _, rfl, run_takeDeferred (unhide M4), by simp, .inl ⟨_, _, rfl, run_takeDeferred p3, by simp, .inl ⟨_, _, rfl, run_takeDeferred p2, by simp, .inl ⟨_, _, rfl, run_takeDeferred p1, ?_⟩⟩⟩⟩⟩
              have y4 : Boxed ((((VA.putObj D4 (Obj.deferred none)).putObj D3 (Obj.deferred none)).putObj D2 (Obj.deferred none)).putObj D1 (Obj.deferred none)) B4 4 (.bool true) := (World.putObj_heap_other (by omega)).trans ((World.putObj_heap_other (by omega)).trans ((World.putObj_heap_other (by omega)).trans ((World.putObj_heap_other (by omega)).trans (unhide Mb))))
              have zz := y4.cell
              exact ⟨.bool true, by simp [results, Try.f11, go_sem, zz], rfl, ((((unhide MB).trans (belowK_b (w := w) (Nat.le_refl _) _ D4 _ _ (by omega) (unhide M4) rfl rfl)).trans (belowK_b (w := w) (Nat.le_refl _) _ D3 _ _ (by omega) p3 rfl rfl)).trans (belowK_b (w := w) (Nat.le_refl _) _ D2 _ _ (by omega) p2 rfl rfl)).trans (belowK_b (w := w) (Nat.le_refl _) _ D1 _ _ (by omega) p1 rfl rfl)⟩

end Go.Proofs.Ytkpmcojoiijonaa

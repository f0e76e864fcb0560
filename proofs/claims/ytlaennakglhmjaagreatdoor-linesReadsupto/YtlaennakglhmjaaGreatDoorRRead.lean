/-
  The document's Read (furrowref03), for every text.
-/
import Derived.Test.YtlaennakglhmjaaGreatDoorRScan
import Derived.Test.YtlaennakglhmjaaGreatDoorLTold
import Derived.Test.YtlaennakglhmjaaGreatDoorRPieces
import Derived.Test.YtlaennakglhmjaaGreatDoorLRead
import Derived.Test.YtlaennakglhmjaaGreatDoorRApM2
namespace Go.Proofs.YtlaennakglhmjaaGreatDoor
open Go.RowKit Go.PlainAid Go.Lib Go.Shelf
set_option linter.unusedVariables false

theorem PiAt.below2 {w w' : World} {s : ByteArray} {a : Option Addr} {l : List (Nat × Nat × Nat)} (h : PiAt w s a l) (hb : Below w.heap.size w w') : PiAt w' s a l := by
  intro i x hx
  obtain ⟨g, h1, h2, h3, h4⟩ := h i x hx
  have hlt : g < w.heap.size := by
    refine Decidable.byContradiction fun hn => ?_
    have : w.heap[g]? = none := Array.getElem?_eq_none (by omega)
    simp [World.cell?, this] at h2
  exact ⟨g, h1, (hb.cell (p := ⟨g, i * 3, none⟩) hlt).trans h2, (hb.cell (p := ⟨g, i * 3 + 1, none⟩) hlt).trans h3, (hb.cell (p := ⟨g, i * 3 + 2, none⟩) hlt).trans h4⟩
theorem rd_front (s : ByteArray) (l : List (Nat × Nat × Nat)) (i : Nat) (x : Nat × Nat × Nat) (hx : l[i]? = some x) (h : ∀ y ∈ l.take i, (scanX s y).2 = 0) (hc : (scanX s x).2 ≠ 0) : (rdS s l).2 = some (x.1, (scanX s x).2) := by
  have hi := (List.getElem?_eq_some_iff.1 hx).1
  have hv : l[i] = x := (List.getElem?_eq_some_iff.1 hx).2
  have : l = l.take i ++ x :: l.drop (i + 1) := by
    rw [← hv, ← List.drop_eq_getElem_cons hi, List.take_append_drop]
  rw [this]
  exact rd_bad s _ _ x h hc

set_option maxRecDepth 100000 in
set_option maxHeartbeats 2000000 in
theorem refRead_any (s : ByteArray) (w : World) (hs : s.size ≤ 1073741824) :
    Calls Tryz.prog 7 #[.string s] w fun e w' => Below w.heap.size w w' ∧
      (((readS s).2 = none ∧ ∃ v, e = .returned (.tuple #[v, .int .i64 0, .int .i64 0]) ∧ LinesAt w' w.heap.size v (readS s).1) ∨
       (∃ no code, (readS s).2 = some (no, code) ∧ e = .returned (.tuple #[.slice none 0 0, .int .i64 (no : Nat), .int .i64 code]))) := by
  obtain ⟨i0, hi0, hz0, hz1, hz2⟩ := info_parts infoLine
  have HPC := hide (fun w => refPieces_any s w (by omega))
  have hll := lines_len s
  obtain ⟨N, hN⟩ : ∃ N, (linesL s).length = N := ⟨_, rfl⟩
  rw [hN] at hll
  go_enter Tryz.func7, Tryz.ntmps7
  go_wp2_with fail
  refine (unhide HPC _).mono ?_
  rintro e w1 ⟨v, rfl, hrow, hb1⟩
  obtain ⟨a, c, rfl, hat⟩ := pi_row hrow
  rw [hN]
  have HPA := hide (fun W (h : Below w1.heap.size w1 W) => hat.below2 h)
  have HN := hide hN
  have HB1 := hide hb1
  have hb1s : w.heap.size ≤ w1.heap.size := hb1.size
  clear hat hrow hN hb1
  go_wp2
  go_loopw [5, 13] (fun v5 v13 wr => ∃ (i : Nat) (ps : List (LineD × Value)), i ≤ N ∧ v13 = .int .i64 (i : Nat) ∧ Hid (ps.map (·.1) = ((linesL s).take i).map (fun x => (scanX s x).1)) ∧ Hid (∀ y ∈ (linesL s).take i, (scanX s y).2 = 0) ∧ RowL wr w1.heap.size v5 ps ∧ Below w1.heap.size w1 wr) (fun _ v13 _ => N - (RowKit.intOf v13).toNat)
  case atStart => exact ⟨0, [], Nat.zero_le _, rfl, by show _ = _; simp, by show ∀ y ∈ _, _; simp, ⟨by simpa [lineCells] using World.ownsRow_nil w1 _ _ _, by simp⟩, Below.refl _ _⟩
  case round =>
    obtain ⟨i, ps, hi, rfl, HPS, HOK, hR, hB⟩ := hrel
    have hpl : ps.length = i := by
      have := congrArg List.length HPS.out
      simp only [List.length_map, List.length_take, unhide HN] at this
      omega
    by_cases hlt : i < N
    · obtain ⟨x, hx⟩ : ∃ x, (linesL s)[i]? = some x := ⟨_, List.getElem?_eq_getElem (by rw [unhide HN]; exact hlt)⟩
      have hno := lines_no s i x hx
      have hm := lines_mem s x (List.mem_of_getElem? hx)
      obtain ⟨g, rfl, p0, p1, p2⟩ := unhide HPA wr hB i x hx
      obtain ⟨D, C, hDC⟩ : ∃ D C, scanX s x = (D, C) := ⟨_, _, rfl⟩
      have hSC := fun W => refScan_any ((i : Int) + 1) (s.extract x.2.1 x.2.2) W (by simp; omega)
      have hSX : scanS ((i : Int) + 1) (s.extract x.2.1 x.2.2) = (D, C) := by
        rw [← hDC]; unfold scanX; rw [hno]; rfl
      rw [hSX] at hSC
      dsimp only at hSC
      have HSC := hide hSC
      have HBAD : Hid (C ≠ 0 → (readS s).2 = some (i + 1, C)) := fun h => by
        have := rd_front s _ i x hx HOK.out (by rw [hDC]; exact h)
        rw [hDC, hno] at this
        exact this
      have HGOOD : Hid (C = 0 → ∀ v : Value, (ps ++ [(D, v)]).map (·.1) = ((linesL s).take (i + 1)).map (fun x => (scanX s x).1) ∧ ∀ y ∈ (linesL s).take (i + 1), (scanX s y).2 = 0) := fun h v => by
        rw [List.take_add_one, hx, Option.toList_some, List.map_append, List.map_append, HPS.out]
        refine ⟨by simp [hDC], fun y hy => ?_⟩
        rcases List.mem_append.1 hy with k | k
        · exact HOK.out y k
        · rw [List.mem_singleton.1 k, hDC]; exact h
      obtain ⟨va, vc, rfl⟩ := row_slice2 hR.1
      rw [hpl]
      have HR := hide hR
      have HB := hide hB
      have HPL := hide hpl
      have hBs : w1.heap.size ≤ wr.heap.size := hB.size
      generalize endNext s x.2.1 = NX at *
      obtain ⟨no, F, T⟩ := x
      simp only [] at hm p0 p1 p2 HSC
      have hFT : (F : Int) ≤ (T : Int) := by omega
      have hTs : (T : Int) ≤ (s.size : Int) := by omega
      clear hSC hSX hR hB hDC hx HPS HOK hno hpl
      obtain ⟨X, hX⟩ : ∃ X, s.extract F T = X := ⟨_, rfl⟩
      rw [hX] at HSC
      obtain ⟨A, hA⟩ : ∃ A, wr.alloc (.cells #[.int .i64 (F : Nat), .int .i64 (T : Nat), .int .i64 (NX : Nat)] 58) = A := ⟨_, rfl⟩
      have hbA : Below wr.heap.size wr A := by rw [← hA]; go_grown
      have hAs : A.heap.size = wr.heap.size + 1 := by rw [← hA]; simp
      have HBA := hide hbA
      have gA : A.heap[wr.heap.size]? = some (.cells #[.int .i64 (F : Nat), .int .i64 (T : Nat), .int .i64 (NX : Nat)] 58) := by rw [← hA]; exact heap_alloc_new wr _
      have q0 : A.cell? ⟨wr.heap.size, 0, none⟩ = some (.int .i64 (F : Nat)) := by simp [World.cell?, gA]
      have q1 : A.cell? ⟨wr.heap.size, 1, none⟩ = some (.int .i64 (T : Nat)) := by simp [World.cell?, gA]
      clear gA
      clear hbA
      go_wp2_with fail
      refine (unhide HSC _).mono ?_
      rintro e w5 ⟨fv, rfl, hfr, hb5⟩
      have hB5 : Below wr.heap.size wr w5 := (unhide HBA).trans (hb5.mono (by omega))
      have hR5 := (unhide HR).below hB5
      have hR5r := hR5.1
      rw [unhide HPL] at hR5r
      have hs5 : wr.heap.size + 1 ≤ w5.heap.size := by have := hb5.size; omega
      obtain ⟨fa, fc, rfl⟩ := row_slice2 hfr
      have HFR := hide hfr
      have HR5 := hide hR5
      have HB5 := hide ((unhide HB).trans (hB5.mono hBs))
      clear hfr hR5 hB5 hb5 hA
      by_cases hC : C = 0
      · subst hC
        go_wp2_with (at_builtin; refine wpList_append_own_at _ rfl _ _ 22 rfl w1.heap.size 41 i0 (.agg #[.int .i64 0, .int .u8 0, .string ⟨#[]⟩, .slice none 0 0, .string ⟨#[]⟩]) 5 72 Tryz.underlying22 hi0 hz0 hz1 hz2 rfl (by decide) _ _ _ rfl ((hR5r.alloc _).alloc _) ⟨w5.heap.size + 1, 0, none⟩ 1 1 [.int .i64 D.no, .int .u8 D.kind, .string (S D.name), .slice fa D.fields.length fc, .string (S D.note)] rfl rfl (by simpa using cell_five_new (w5.alloc (.cells #[.int .i64 D.no, .int .u8 D.kind, .string (S D.name), .slice fa D.fields.length fc, .string (S D.note)] 41)) (.int .i64 D.no) (.int .u8 D.kind) (.string (S D.name)) (.slice fa D.fields.length fc) (.string (S D.note)) 41) (by simp [Value.oneCell']) (by unfold maxLen; omega) (by omega) (by simp; omega) ?_; intro v' w6 hown hgrow _ hat)
        replace hgrow : World.grownBy _ w6 (Value.slice va i vc).ownBlock := hgrow
        have texts : ∀ {b : Nat} {y : Value} {l : List (List UInt8)}, TextsAt w5 b y l → TextsAt w6 b y l := fun h => ((h.alloc _).alloc _).kept hgrow (rows_apart h hR5r (by decide))
        have hB6 : Below w1.heap.size w1 w6 := belowG (((unhide HB5).alloc (by omega) _).alloc (by simp; omega) _) (by simp; omega) ((hR5r.alloc _).alloc _) hgrow
        have HR6 : Hid (RowL w6 w1.heap.size v' (ps ++ [(D, .slice fa D.fields.length fc)])) := by
          refine ⟨?_, ?_⟩
          · rw [lineCells_snoc, List.length_append, unhide HPL]; exact hown
          · intro p hp
            rcases List.mem_append.1 hp with h | h
            · exact texts ((unhide HR5).2 p h)
            · rw [List.mem_singleton.1 h]; exact texts (row_base (unhide HFR) (by omega))
        have HB6 := hide hB6
        clear hown hgrow hat texts hB6
        go_roundw
        case rel => exact ⟨i + 1, _, by omega, by go_num, (HGOOD.out (by trivial) _).1, (HGOOD.out (by trivial) undef).2, unhide HR6, unhide HB6⟩
        case measure => simp [RowKit.intOf]; omega
      · have dC : (C != 0) = true := by simpa using hC
        go_wp2
        go_ret3
        exact ⟨(unhide HB1).trans (((unhide HB5).alloc (by omega) _).mono hb1s), .inr ⟨i + 1, C, HBAD.out hC, rfl⟩⟩
    · obtain rfl : i = N := by omega
      obtain ⟨va, vc, rfl⟩ := row_slice2 hR.1
      have hfin : Hid ((readS s).2 = none ∧ ps.map (·.1) = (readS s).1) := by
        have h1 := HOK.out
        have h2 := HPS.out
        rw [List.take_of_length_le (by rw [unhide HN]; exact Nat.le_refl _)] at h1 h2
        unfold readS
        rw [rd_ok s _ h1]
        exact ⟨rfl, h2⟩
      have HR := hide hR
      have HB := hide hB
      clear hR hB HPS HOK
      go_wp2
      go_ret3
      exact ⟨(unhide HB1).trans ((unhide HB).mono hb1s), .inl ⟨hfin.out.1, _, rfl, ps, hfin.out.2, row_base (unhide HR).1 hb1s, fun p hp => row_base ((unhide HR).2 p hp) hb1s⟩⟩
end Go.Proofs.YtlaennakglhmjaaGreatDoor

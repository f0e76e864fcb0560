/-
  The document's Find; two lists of rows, held against one another.
-/
import Derived.Test.YthjnkagepooeiaaGreatDoorRwA0
namespace Go.Proofs.YthjnkagepooeiaaGreatDoor
open Go.RowKit Go.PlainAid Go.Lib Go.PHexM Go.Shelf
set_option linter.unusedVariables false
set_option linter.unusedSimpArgs false

set_option maxRecDepth 100000 in
theorem refFind_results {tmps : Array Value} {w : World} {b : Nat} {r : RowD} {k : Bool} (h2 : tmps.getD 4 undef = .pointer (some ⟨b, 0, none⟩)) (h3 : tmps.getD 5 undef = .bool k) (h : RowAt w b r) : (results Tryz.f28 tmps).run Tryz.prog w = .ok (.tuple #[rowV r, .bool k]) w := by
  have c0 := h.cell (j := 0) rfl
  have c1 := h.cell (j := 1) rfl
  have c2 := h.cell (j := 2) rfl
  have c3 := h.cell (j := 3) rfl
  have c4 := h.cell (j := 4) rfl
  have c5 := h.cell (j := 5) rfl
  have c6 := h.cell (j := 6) rfl
  have c7 := h.cell (j := 7) rfl
  have c8 := h.cell (j := 8) rfl
  have h2' : tmps[4]?.getD undef = .pointer (some ⟨b, 0, none⟩) := by simpa using h2
  have h3' : tmps[5]?.getD undef = .bool k := by simpa using h3
  simp [results, Tryz.results28, go_sem, h2', h3', c0, c1, c2, c3, c4, c5, c6, c7, c8]

set_option maxRecDepth 100000 in
set_option maxHeartbeats 4000000 in
theorem refFind_any (rs : List RowD) (a : Option Addr) (n c : Nat) (r : Int) (w : World) (hn : rs.length = n) (hnb : n ≤ 1099511627776) (hm : RwMem w a rs) :
    Calls Tryz.prog 28 #[.slice a n c, .int .i32 r] w fun e w' => e = .returned (.tuple #[rowV ((findR rs r).getD zeroR), .bool (findR rs r).isSome]) ∧ Below w.heap.size w w' := by
  have HN := hide hn
  have HM := hide hm
  clear hn hm
  obtain ⟨W0, hW0⟩ : ∃ W0, w.alloc (.cells (rowC zeroR).toArray 29) = W0 := ⟨_, rfl⟩
  have hb0 : Below w.heap.size w W0 := by rw [← hW0]; exact (Below.refl _ w).alloc (Nat.le_refl _) _
  have rb0 : RowAt W0 w.heap.size zeroR := by rw [← hW0]; exact heap_alloc_new w _
  have hs0 : w.heap.size + 1 ≤ W0.heap.size := by rw [← hW0]; simp
  have hW0' : w.alloc (.cells #[.int .i64 0, .int .i32 0, .int .i32 0, .string ⟨#[]⟩, .string ⟨#[]⟩, .int .u8 0, .int .u8 0, .int .i32 0, .bool false] 29) = W0 := hW0
  clear hW0
  go_enter Tryz.func28, Tryz.ntmps28
  go_wp2
  clear hW0'
  go_loopw [6] (fun v6 wr => ∃ i : Nat, v6 = .int .i64 i ∧ i ≤ n ∧ Hid (findR rs r = findR (rs.drop i) r) ∧ wr = W0) (fun v6 _ => n - (RowKit.intOf v6).toNat)
  case atStart => exact ⟨0, rfl, Nat.zero_le _, by show _ = _; simp, rfl⟩
  case round =>
    obtain ⟨i, rfl, hi, HF, rfl⟩ := hrel
    have tc0 := rb0.cell (j := 0) rfl
    have tf0 := rb0.frozen 0
    have tc1 := rb0.cell (j := 1) rfl
    have tf1 := rb0.frozen 1
    have tc2 := rb0.cell (j := 2) rfl
    have tf2 := rb0.frozen 2
    have tc3 := rb0.cell (j := 3) rfl
    have tf3 := rb0.frozen 3
    have tc4 := rb0.cell (j := 4) rfl
    have tf4 := rb0.frozen 4
    have tc5 := rb0.cell (j := 5) rfl
    have tf5 := rb0.frozen 5
    have tc6 := rb0.cell (j := 6) rfl
    have tf6 := rb0.frozen 6
    have tc7 := rb0.cell (j := 7) rfl
    have tf7 := rb0.frozen 7
    have tc8 := rb0.cell (j := 8) rfl
    have tf8 := rb0.frozen 8
    by_cases hlt : i < n
    · obtain ⟨x, hx⟩ : ∃ x, rs[i]? = some x := ⟨_, List.getElem?_eq_getElem (by rw [unhide HN]; exact hlt)⟩
      obtain ⟨g, off, rfl, hc⟩ := ((unhide HM).below hb0) i x hx
      have cx0 := hc 0 _ rfl
      have cx1 := hc 1 _ rfl
      have cx2 := hc 2 _ rfl
      have cx3 := hc 3 _ rfl
      have cx4 := hc 4 _ rfl
      have cx5 := hc 5 _ rfl
      have cx6 := hc 6 _ rfl
      have cx7 := hc 7 _ rfl
      have cx8 := hc 8 _ rfl
      simp only [Nat.add_zero] at cx0
      have hlt' : (i : Int) < (n : Int) := by omega
      have hdr : rs.drop i = x :: rs.drop (i + 1) := by
        have hil : i < rs.length := by rw [unhide HN]; exact hlt
        rw [List.drop_eq_getElem_cons hil]
        congr 1
        exact (List.getElem?_eq_some_iff.1 hx).2
      have hfe : findR (rs.drop i) r = if hasB r x then some x else findR (rs.drop (i + 1)) r := by
        rw [hdr]
        unfold findR
        rw [List.find?_cons]
        cases hasB r x <;> rfl
      have hF' := unhide HF
      rw [hfe] at hF'
      have hq1 : IntKind.i64.wrap ((i : Int) + 1) = (i : Int) + 1 := by rw [IntKind.wrap_i64]; omega
      clear hc hx hdr hfe HF
      by_cases h1 : x.first ≤ r
      · by_cases h2 : r ≤ x.last
        · have hh : hasB r x = true := by simp [hasB, h1, h2]
          rw [hh, if_pos rfl] at hF'
          have HFF := hide hF'
          have HB0 := hide hb0
          have HRB := hide rb0
          clear hF' hh hb0 rb0 hs0
          go_wp2
          refine bodyPost_ret (refFind_results (r := x) rfl rfl (rowAt_copy (unhide HRB) x)) rfl ?_
          rw [unhide HFF]
          exact ⟨rfl, below_copy (unhide HB0) (Nat.le_refl _) x⟩
        · have hh : hasB r x = false := by simp [hasB, h2]
          rw [hh] at hF'
          simp only [Bool.false_eq_true, if_false] at hF'
          have HFF := hide hF'
          clear hF' hh
          go_wp2
          go_roundw
          case rel => exact ⟨i + 1, by go_num, by omega, unhide HFF, trivial⟩
          case measure => simp [RowKit.intOf]; omega
      · have hh : hasB r x = false := by simp [hasB, h1]
        rw [hh] at hF'
        simp only [Bool.false_eq_true, if_false] at hF'
        have HFF := hide hF'
        clear hF' hh
        go_wp2
        go_roundw
        case rel => exact ⟨i + 1, by go_num, by omega, unhide HFF, trivial⟩
        case measure => simp [RowKit.intOf]; omega
    · obtain rfl : i = n := by omega
      have hnil : rs.drop i = [] := List.drop_eq_nil_of_le (by rw [unhide HN]; exact Nat.le_refl _)
      have hF' := unhide HF
      rw [hnil] at hF'
      have HFF : Hid (findR rs r = none) := hF'
      have se0 := set_sameAt (j := 0) (v := Value.int IntKind.i64 0) rb0 rfl
      have se1 := set_sameAt (j := 1) (v := Value.int IntKind.i32 0) rb0 rfl
      have se2 := set_sameAt (j := 2) (v := Value.int IntKind.i32 0) rb0 rfl
      have se3 := set_sameAt (j := 3) (v := Value.string ⟨#[]⟩) rb0 rfl
      have se4 := set_sameAt (j := 4) (v := Value.string ⟨#[]⟩) rb0 rfl
      have se5 := set_sameAt (j := 5) (v := Value.int IntKind.u8 0) rb0 rfl
      have se6 := set_sameAt (j := 6) (v := Value.int IntKind.u8 0) rb0 rfl
      have se7 := set_sameAt (j := 7) (v := Value.int IntKind.i32 0) rb0 rfl
      have se8 := set_sameAt (j := 8) (v := Value.bool false) rb0 rfl
      have HB0 := hide hb0
      have HRB := hide rb0
      clear hF' hnil HF hb0 rb0
      go_wp2
      refine bodyPost_ret (refFind_results (r := zeroR) rfl rfl (unhide HRB)) rfl ?_
      rw [unhide HFF]
      exact ⟨rfl, unhide HB0⟩
end Go.Proofs.YthjnkagepooeiaaGreatDoor

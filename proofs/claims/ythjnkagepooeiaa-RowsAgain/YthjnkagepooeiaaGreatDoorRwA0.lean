/-
  Find of package rows; what every program tells of a small file: the law's function awake answers true.
-/
import Derived.Test.YthjnkagepooeiaaGreatDoorRwR
import Derived.Test.YthjnkagepooeiaaGreatDoorRwA1
namespace Go.Proofs.YthjnkagepooeiaaGreatDoor
open Go.RowKit Go.PlainAid Go.Lib Go.PHexM Go.Shelf
set_option linter.unusedVariables false
set_option linter.unusedSimpArgs false

/-- rows in memory, wherever they lie -/
def RwMem (w : World) (a : Option Addr) (rs : List RowD) : Prop := ∀ (i : Nat) (x : RowD), rs[i]? = some x → ∃ g off, a = some ⟨g, off, none⟩ ∧ ∀ j v, (rowC x)[j]? = some v → w.cell? ⟨g, off + i * 9 + j, none⟩ = some v
theorem RwMem.below {w w' : World} {a : Option Addr} {rs : List RowD} (h : RwMem w a rs) (hb : Below w.heap.size w w') : RwMem w' a rs := fun i x hx => by
  obtain ⟨g, off, rfl, hc⟩ := h i x hx
  exact ⟨g, off, rfl, fun j v hv => (hb.cell (World.block_lt_of_cell? _ _ (hc j v hv))).trans (hc j v hv)⟩
theorem rowsC_at {rs : List RowD} {i : Nat} {x : RowD} (h : rs[i]? = some x) (j : Nat) (hj : j < 9) : (rowsC rs)[i * 9 + j]? = (rowC x)[j]? := by
  induction rs generalizing i with
  | nil => simp at h
  | cons a rs ih =>
    have e : rowsC (a :: rs) = rowC a ++ rowsC rs := rfl
    rw [e]
    cases i with
    | zero =>
      simp at h; subst h
      rw [List.getElem?_append_left (by simp; omega)]
      simp
    | succ i =>
      rw [List.getElem?_append_right (by simp; omega), ← ih (by simpa using h)]
      congr 1
      simp
      omega
theorem rowsAt_mem {w : World} {base : Nat} {v : Value} {rs : List RowD} (h : RowsAt w base v rs) : ∃ a c, v = .slice a rs.length c ∧ rs.length ≤ c ∧ RwMem w a rs := by
  rcases h.2 with ⟨rfl, h0⟩ | ⟨g, cap, cur, rfl, hb, hh, h3, h4, h5, h6⟩
  · exact ⟨none, 0, by rw [h0], by omega, fun i x hx => by rw [List.length_eq_zero_iff.1 h0] at hx; simp at hx⟩
  · refine ⟨_, cap, rfl, h3, fun i x hx => ⟨g, 0, rfl, fun j u hu => ?_⟩⟩
    have hl := (List.getElem?_eq_some_iff.1 hx).1
    have hj : j < 9 := by have := (List.getElem?_eq_some_iff.1 hu).1; simpa using this
    have e := rowsC_at hx j hj
    rw [hu, ← h6, List.getElem?_take, if_pos (by omega)] at e
    rw [Nat.zero_add]
    simpa [World.cell?, hh] using e
theorem rowAt_copy {X : World} {b : Nat} {r0 : RowD} (h : RowAt X b r0) (r : RowD) : RowAt (((((((((X.setCell ⟨b, 0, none⟩ (.int .i64 r.line)).setCell ⟨b, 1, none⟩ (.int .i32 r.first)).setCell ⟨b, 2, none⟩ (.int .i32 r.last)).setCell ⟨b, 3, none⟩ (.string (S r.name))).setCell ⟨b, 4, none⟩ (.string (S r.cat))).setCell ⟨b, 5, none⟩ (.int .u8 r.comb)).setCell ⟨b, 6, none⟩ (.int .u8 r.cls)).setCell ⟨b, 7, none⟩ (.int .i32 r.twin)).setCell ⟨b, 8, none⟩ (.bool r.mir)) b r := (((((((((h.set (r' := { r0 with line := r.line }) 0 _ rfl).set (r' := { r0 with line := r.line, first := r.first }) 1 _ rfl).set (r' := { r0 with line := r.line, first := r.first, last := r.last }) 2 _ rfl).set (r' := { r0 with line := r.line, first := r.first, last := r.last, name := r.name }) 3 _ rfl).set (r' := { r0 with line := r.line, first := r.first, last := r.last, name := r.name, cat := r.cat }) 4 _ rfl).set (r' := { r0 with line := r.line, first := r.first, last := r.last, name := r.name, cat := r.cat, comb := r.comb }) 5 _ rfl).set (r' := { r0 with line := r.line, first := r.first, last := r.last, name := r.name, cat := r.cat, comb := r.comb, cls := r.cls }) 6 _ rfl).set (r' := { r0 with line := r.line, first := r.first, last := r.last, name := r.name, cat := r.cat, comb := r.comb, cls := r.cls, twin := r.twin }) 7 _ rfl).set (r' := { r0 with line := r.line, first := r.first, last := r.last, name := r.name, cat := r.cat, comb := r.comb, cls := r.cls, twin := r.twin, mir := r.mir }) 8 _ rfl)
theorem below_copy {X w : World} {B b : Nat} (h : Below B w X) (hb : B ≤ b) (r : RowD) : Below B w (((((((((X.setCell ⟨b, 0, none⟩ (.int .i64 r.line)).setCell ⟨b, 1, none⟩ (.int .i32 r.first)).setCell ⟨b, 2, none⟩ (.int .i32 r.last)).setCell ⟨b, 3, none⟩ (.string (S r.name))).setCell ⟨b, 4, none⟩ (.string (S r.cat))).setCell ⟨b, 5, none⟩ (.int .u8 r.comb)).setCell ⟨b, 6, none⟩ (.int .u8 r.cls)).setCell ⟨b, 7, none⟩ (.int .i32 r.twin)).setCell ⟨b, 8, none⟩ (.bool r.mir)) := (((((((((h.setCell hb _).setCell hb _).setCell hb _).setCell hb _).setCell hb _).setCell hb _).setCell hb _).setCell hb _).setCell hb _)
set_option maxRecDepth 100000 in
theorem find_results {tmps : Array Value} {w : World} {b : Nat} {r : RowD} {k : Bool} (h2 : tmps.getD 4 undef = .pointer (some ⟨b, 0, none⟩)) (h3 : tmps.getD 5 undef = .bool k) (h : RowAt w b r) : (results Tryz.f27 tmps).run Tryz.prog w = .ok (.tuple #[rowV r, .bool k]) w := by
  have c0 := h.cell (j := 0) rfl
  have c1 := h.cell (j := 1) rfl
  have c2 := h.cell (j := 2) rfl
  have c3 := h.cell (j := 3) rfl
  have c4 := h.cell (j := 4) rfl
  have c5 := h.cell (j := 5) rfl
  have c6 := h.cell (j := 6) rfl
  have c7 := h.cell (j := 7) rfl
  have c8 := h.cell (j := 8) rfl
  have h2' : tmps[4]?.getD undef = .pointer (some ⟨b, 0, none⟩) := by simpa using h2
  have h3' : tmps[5]?.getD undef = .bool k := by simpa using h3
  simp [results, Tryz.results27, go_sem, h2', h3', c0, c1, c2, c3, c4, c5, c6, c7, c8]

set_option maxRecDepth 100000 in
set_option maxHeartbeats 4000000 in
theorem find_any (rs : List RowD) (a : Option Addr) (n c : Nat) (r : Int) (w : World) (hn : rs.length = n) (hnb : n ≤ 1099511627776) (hm : RwMem w a rs) :
    Calls Tryz.prog 27 #[.slice a n c, .int .i32 r] w fun e w' => e = .returned (.tuple #[rowV ((findR rs r).getD zeroR), .bool (findR rs r).isSome]) ∧ Below w.heap.size w w' := by
  have HN := hide hn
  have HM := hide hm
  clear hn hm
  obtain ⟨W0, hW0⟩ : ∃ W0, w.alloc (.cells (rowC zeroR).toArray 29) = W0 := ⟨_, rfl⟩
  have hb0 : Below w.heap.size w W0 := by rw [← hW0]; exact (Below.refl _ w).alloc (Nat.le_refl _) _
  have rb0 : RowAt W0 w.heap.size zeroR := by rw [← hW0]; exact heap_alloc_new w _
  have hs0 : w.heap.size + 1 ≤ W0.heap.size := by rw [← hW0]; simp
  have hW0' : w.alloc (.cells #[.int .i64 0, .int .i32 0, .int .i32 0, .string ⟨#[]⟩, .string ⟨#[]⟩, .int .u8 0, .int .u8 0, .int .i32 0, .bool false] 29) = W0 := hW0
  clear hW0
  go_enter Tryz.func27, Tryz.ntmps27
  go_wp2
  clear hW0'
  go_loopw [10] (fun v10 wr => ∃ i : Nat, v10 = .int .i64 i ∧ i ≤ n ∧ Hid (findR rs r = findR (rs.drop i) r) ∧ Below W0.heap.size W0 wr) (fun v10 _ => n - (RowKit.intOf v10).toNat)
  case atStart => exact ⟨0, rfl, Nat.zero_le _, by show _ = _; simp, Below.refl _ _⟩
  case round =>
    obtain ⟨i, rfl, hi, HF, hb⟩ := hrel
    have hbw : Below w.heap.size w wr := hb0.trans (hb.mono hb0.size)
    have rbw : RowAt wr w.heap.size zeroR := rb0.below hb
    have tc0 := rbw.cell (j := 0) rfl
    have tf0 := rbw.frozen 0
    have tc1 := rbw.cell (j := 1) rfl
    have tf1 := rbw.frozen 1
    have tc2 := rbw.cell (j := 2) rfl
    have tf2 := rbw.frozen 2
    have tc3 := rbw.cell (j := 3) rfl
    have tf3 := rbw.frozen 3
    have tc4 := rbw.cell (j := 4) rfl
    have tf4 := rbw.frozen 4
    have tc5 := rbw.cell (j := 5) rfl
    have tf5 := rbw.frozen 5
    have tc6 := rbw.cell (j := 6) rfl
    have tf6 := rbw.frozen 6
    have tc7 := rbw.cell (j := 7) rfl
    have tf7 := rbw.frozen 7
    have tc8 := rbw.cell (j := 8) rfl
    have tf8 := rbw.frozen 8
    by_cases hlt : i < n
    · obtain ⟨x, hx⟩ : ∃ x, rs[i]? = some x := ⟨_, List.getElem?_eq_getElem (by rw [unhide HN]; exact hlt)⟩
      obtain ⟨g, off, rfl, hc⟩ := ((unhide HM).below hbw) i x hx
      have cx0 := hc 0 _ rfl
      have cx1 := hc 1 _ rfl
      have cx2 := hc 2 _ rfl
      have cx3 := hc 3 _ rfl
      have cx4 := hc 4 _ rfl
      have cx5 := hc 5 _ rfl
      have cx6 := hc 6 _ rfl
      have cx7 := hc 7 _ rfl
      have cx8 := hc 8 _ rfl
      simp only [Nat.add_zero] at cx0
      have hlt' : (i : Int) < (n : Int) := by omega
      have hdr : rs.drop i = x :: rs.drop (i + 1) := by
        have hil : i < rs.length := by rw [unhide HN]; exact hlt
        rw [List.drop_eq_getElem_cons hil]
        congr 1
        exact (List.getElem?_eq_some_iff.1 hx).2
      have hfe : findR (rs.drop i) r = if hasB r x then some x else findR (rs.drop (i + 1)) r := by
        rw [hdr]
        unfold findR
        rw [List.find?_cons]
        cases hasB r x <;> rfl
      have hF' := unhide HF
      rw [hfe] at hF'
      have hq1 : IntKind.i64.wrap ((i : Int) + 1) = (i : Int) + 1 := by rw [IntKind.wrap_i64]; omega
      clear hc hx hdr hfe HF
      by_cases h1 : x.first ≤ r
      · by_cases h2 : r ≤ x.last
        · have hh : hasB r x = true := by simp [hasB, h1, h2]
          rw [hh, if_pos rfl] at hF'
          have HFF := hide hF'
          have HBW := hide hbw
          obtain ⟨V, hV⟩ : ∃ V, wr.alloc (.cells #[.int .i64 x.line, .int .i32 x.first, .int .i32 x.last, .string (S x.name), .string (S x.cat), .int .u8 x.comb, .int .u8 x.cls, .int .i32 x.twin, .bool x.mir] 29) = V := ⟨_, rfl⟩
          have hVb : Below wr.heap.size wr V := by rw [← hV]; exact (Below.refl _ wr).alloc (Nat.le_refl _) _
          have xV : RowAt V wr.heap.size x := by rw [← hV]; exact heap_alloc_new wr _
          have rV := rbw.below hVb
          have vc0 := rV.cell (j := 0) rfl
          have vf0 := rV.frozen 0
          have xc0 := xV.cell (j := 0) rfl
          have vc1 := rV.cell (j := 1) rfl
          have vf1 := rV.frozen 1
          have xc1 := xV.cell (j := 1) rfl
          have vc2 := rV.cell (j := 2) rfl
          have vf2 := rV.frozen 2
          have xc2 := xV.cell (j := 2) rfl
          have vc3 := rV.cell (j := 3) rfl
          have vf3 := rV.frozen 3
          have xc3 := xV.cell (j := 3) rfl
          have vc4 := rV.cell (j := 4) rfl
          have vf4 := rV.frozen 4
          have xc4 := xV.cell (j := 4) rfl
          have vc5 := rV.cell (j := 5) rfl
          have vf5 := rV.frozen 5
          have xc5 := xV.cell (j := 5) rfl
          have vc6 := rV.cell (j := 6) rfl
          have vf6 := rV.frozen 6
          have xc6 := xV.cell (j := 6) rfl
          have vc7 := rV.cell (j := 7) rfl
          have vf7 := rV.frozen 7
          have xc7 := xV.cell (j := 7) rfl
          have vc8 := rV.cell (j := 8) rfl
          have vf8 := rV.frozen 8
          have xc8 := xV.cell (j := 8) rfl
          have HRV := hide rV
          have HBV := hide (Below.trans (unhide HBW) (hVb.mono (unhide HBW).size))
          clear hF' hh hbw rbw hb hb0 rb0 hs0 hVb xV rV tc0 tf0 tc1 tf1 tc2 tf2 tc3 tf3 tc4 tf4 tc5 tf5 tc6 tf6 tc7 tf7 tc8 tf8
          go_wp2
          refine bodyPost_ret (find_results (r := x) rfl rfl (rowAt_copy (unhide HRV) x)) rfl ?_
          rw [unhide HFF]
          exact ⟨rfl, below_copy (unhide HBV) (Nat.le_refl _) x⟩
        · have hh : hasB r x = false := by simp [hasB, h2]
          rw [hh] at hF'
          simp only [Bool.false_eq_true, if_false] at hF'
          have HFF := hide hF'
          clear hF' hh
          go_wp2
          go_roundw
          case rel => exact ⟨i + 1, by go_num, by omega, unhide HFF, hb.trans (((Below.refl _ wr).alloc (Nat.le_refl _) _).mono hb.size)⟩
          case measure => simp [RowKit.intOf]; omega
      · have hh : hasB r x = false := by simp [hasB, h1]
        rw [hh] at hF'
        simp only [Bool.false_eq_true, if_false] at hF'
        have HFF := hide hF'
        clear hF' hh
        go_wp2
        go_roundw
        case rel => exact ⟨i + 1, by go_num, by omega, unhide HFF, hb.trans (((Below.refl _ wr).alloc (Nat.le_refl _) _).mono hb.size)⟩
        case measure => simp [RowKit.intOf]; omega
    · obtain rfl : i = n := by omega
      have hnil : rs.drop i = [] := List.drop_eq_nil_of_le (by rw [unhide HN]; exact Nat.le_refl _)
      have hF' := unhide HF
      rw [hnil] at hF'
      have HFF : Hid (findR rs r = none) := hF'
      have se0 := set_sameAt (j := 0) (v := Value.int IntKind.i64 0) rbw rfl
      have se1 := set_sameAt (j := 1) (v := Value.int IntKind.i32 0) rbw rfl
      have se2 := set_sameAt (j := 2) (v := Value.int IntKind.i32 0) rbw rfl
      have se3 := set_sameAt (j := 3) (v := Value.string ⟨#[]⟩) rbw rfl
      have se4 := set_sameAt (j := 4) (v := Value.string ⟨#[]⟩) rbw rfl
      have se5 := set_sameAt (j := 5) (v := Value.int IntKind.u8 0) rbw rfl
      have se6 := set_sameAt (j := 6) (v := Value.int IntKind.u8 0) rbw rfl
      have se7 := set_sameAt (j := 7) (v := Value.int IntKind.i32 0) rbw rfl
      have se8 := set_sameAt (j := 8) (v := Value.bool false) rbw rfl
      have HBW := hide hbw
      have HRB := hide rbw
      clear hF' hnil HF hbw rbw hb
      go_wp2
      refine bodyPost_ret (find_results (r := zeroR) rfl rfl (unhide HRB)) rfl ?_
      rw [unhide HFF]
      exact ⟨rfl, unhide HBW⟩

end Go.Proofs.YthjnkagepooeiaaGreatDoor

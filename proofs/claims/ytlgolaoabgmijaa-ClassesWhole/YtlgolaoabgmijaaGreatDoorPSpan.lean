/-
  The program's Span, of every text shorter than the library's search bears.
-/
import Derived.Test.YtlgolaoabgmijaaGreatDoorHx
import Derived.Test.YtlgolaoabgmijaaGreatDoorPShelf
namespace Go.Proofs.YtlgolaoabgmijaaGreatDoor
open Go.RowKit Go.PlainAid Go.Lib Go.Shelf Go.PHexM
set_option linter.unusedVariables false

abbrev spanE (x y e : Int) : Value := .tuple #[.agg #[.int .i32 x, .int .i32 y], .int .i64 e]
/-- what Span says of the two texts of the ends -/
def spanV2 (a b : List UInt8) : Value := match hexP a with
  | none => spanE 0 0 40
  | some x => match hexP b with
    | none => spanE 0 0 40
    | some y => if y < x then spanE 0 0 41 else spanE x y 0
def spanV (l : List UInt8) : Value := spanV2 (Lib.cut l [46, 46]).1 (if (Lib.cut l [46, 46]).2.2 then (Lib.cut l [46, 46]).2.1 else (Lib.cut l [46, 46]).1)

theorem spanV2_a {a b : List UInt8} (h : hexP a = none) : spanV2 a b = spanE 0 0 40 := by rw [spanV2, h]
theorem spanV2_b {a b : List UInt8} {x : Nat} (h : hexP a = some x) (h' : hexP b = none) : spanV2 a b = spanE 0 0 40 := by rw [spanV2, h, h']
theorem spanV2_lt {a b : List UInt8} {x y : Nat} (h : hexP a = some x) (h' : hexP b = some y) (hlt : y < x) : spanV2 a b = spanE 0 0 41 := by
  rw [spanV2, h, h']; exact if_pos hlt
theorem spanV2_ok {a b : List UInt8} {x y : Nat} (h : hexP a = some x) (h' : hexP b = some y) (hlt : ¬ y < x) : spanV2 a b = spanE x y 0 := by
  rw [spanV2, h, h']; exact if_neg hlt

theorem hex_is {l : List UInt8} {n : Nat} (h : hexP l = some n) (w : World) :
    Calls Tryz.prog 180 #[.string ⟨l.toArray⟩] w fun e w' => e = .returned (.tuple #[.int .i32 n, .int .i64 0]) ∧ w' = w := by
  have := hex_any ⟨l.toArray⟩ w
  rwa [show (⟨l.toArray⟩ : ByteArray).data.toList = l by simp, hexV_some h] at this
theorem hex_not {l : List UInt8} (h : hexP l = none) (w : World) :
    Calls Tryz.prog 180 #[.string ⟨l.toArray⟩] w fun e w' => e = .returned (.tuple #[.int .i32 0, .int .i64 40]) ∧ w' = w := by
  have := hex_any ⟨l.toArray⟩ w
  rwa [show (⟨l.toArray⟩ : ByteArray).data.toList = l by simp, hexV_none h] at this

/-- the cell of the result, when its two numbers are stored -/
theorem span_box {w W : World} {n : Nat} (a b : Int) (hx : W.heap[n]? = some (.cells #[.int .i32 0, .int .i32 0] 45 (0, 0))) :
    (W.setCell ⟨n, 0, none⟩ (.int .i32 a)).cell? ⟨n, 0, none⟩ = some (.int .i32 a) ∧ ((W.setCell ⟨n, 0, none⟩ (.int .i32 a)).setCell ⟨n, 1, none⟩ (.int .i32 b)).cell? ⟨n, 1, none⟩ = some (.int .i32 b) ∧ ((W.setCell ⟨n, 0, none⟩ (.int .i32 a)).setCell ⟨n, 1, none⟩ (.int .i32 b)).cell? ⟨n, 0, none⟩ = some (.int .i32 a) := by
  have k1 : (W.setCell ⟨n, 0, none⟩ (.int .i32 a)).heap[n]? = some (.cells #[.int .i32 a, .int .i32 0] 45 (0, 0)) := by
    rw [setCell_eq_setRow W n 0 _ _ _ _ hx]
    exact setRow_heap W n _ _ _ _ hx
  have k2 : ((W.setCell ⟨n, 0, none⟩ (.int .i32 a)).setCell ⟨n, 1, none⟩ (.int .i32 b)).heap[n]? = some (.cells #[.int .i32 a, .int .i32 b] 45 (0, 0)) := by
    rw [setCell_eq_setRow _ n 1 _ _ _ _ k1]
    exact setRow_heap _ n _ _ _ _ k1
  exact ⟨by simp [World.cell?, k1], by simp [World.cell?, k2], by simp [World.cell?, k2]⟩

set_option maxRecDepth 100000 in
theorem span_any (m : Int) (s : ByteArray) (w : World) (hs : s.size < 4294967281) (hm : w.cell? ⟨1, 0, none⟩ = some (.int .i64 m)) :
    Calls Tryz.prog 138 #[.string s] w fun e w' => e = .returned (spanV s.data.toList) ∧ Below w.heap.size w w' := by
  have hm1 : (w.alloc (.cells #[.int .i32 0, .int .i32 0] 45)).cell? ⟨1, 0, none⟩ = some (.int .i64 m) := cell_alloc_sl _ hm
  have hC := Tryz.strings_Cut s ⟨#[46, 46]⟩ m (w.alloc (.cells #[.int .i32 0, .int .i32 0] 45)) hs hm1
  have eV : spanV s.data.toList = spanV2 (Lib.cut s.data.toList [46, 46]).1 (if (Lib.cut s.data.toList [46, 46]).2.2 then (Lib.cut s.data.toList [46, 46]).2.1 else (Lib.cut s.data.toList [46, 46]).1) := rfl
  have e1 : (⟨#[46, 46]⟩ : ByteArray).data.toList = [46, 46] := rfl
  rw [e1] at hC
  generalize Lib.cut s.data.toList [46, 46] = c at hC eV
  obtain ⟨fa, sb, two⟩ := c
  simp only at hC eV
  rw [eV]
  have HC := hide hC
  clear hC e1 hm hm1 eV hs
  obtain ⟨sc, hsc⟩ : ∃ sc, sc = if two then sb else fa := ⟨_, rfl⟩
  rw [← hsc]
  obtain ⟨V, hV⟩ : ∃ V, V = spanV2 fa sc := ⟨_, rfl⟩
  rw [← hV]
  have HV := hide hV
  clear hV
  go_enter Tryz.func138, Tryz.ntmps138
  go_wp2_with fail
  refine (unhide HC).mono ?_
  rintro e w1 ⟨rfl, q, rfl⟩
  have hb1 : Below w.heap.size w ((w.alloc (.cells #[.int .i32 0, .int .i32 0] 45)).drewN q) := by
    have h := (Below.refl w.heap.size w).alloc (Nat.le_refl _) (.cells #[.int .i32 0, .int .i32 0] 45)
    exact ⟨h.os, h.tape, h.output, h.size, h.block⟩
  have hx : ((w.alloc (.cells #[.int .i32 0, .int .i32 0] 45)).drewN q).heap[w.heap.size]? = some (.cells #[.int .i32 0, .int .i32 0] 45 (0, 0)) := heap_alloc_new w _
  generalize (w.alloc (.cells #[.int .i32 0, .int .i32 0] 45)).drewN q = W at hb1 hx ⊢
  have HX := hide hx
  have HBE := hide (fun a b => (hb1.setCell (p := ⟨w.heap.size, 0, none⟩) (Nat.le_refl _) (.int .i32 a)).setCell (p := ⟨w.heap.size, 1, none⟩) (Nat.le_refl _) (.int .i32 b))
  have d0 : W.cell? ⟨w.heap.size, 0, none⟩ = some (.int .i32 0) := by simp [World.cell?, hx]
  have d1 : W.cell? ⟨w.heap.size, 1, none⟩ = some (.int .i32 0) := by simp [World.cell?, hx]
  have f0 : W.frozen? ⟨w.heap.size, 0, none⟩ = false := by simp [World.frozen?, hx]
  have f1 : W.frozen? ⟨w.heap.size, 1, none⟩ = false := by simp [World.frozen?, hx]
  clear hx hb1
  clear HC
  cases two with
  | false =>
    have hsc' : fa = sc := by simpa using hsc.symm
    subst hsc'
    clear hsc
    cases hA : hexP fa with
    | none =>
      have eV : spanV2 fa fa = spanE 0 0 40 := spanV2_a hA
      have H1 := hide (hex_not hA)
      clear hA
      go_wp2_with fail
      refine (unhide H1 _).mono ?_
      rintro e w' ⟨rfl, h⟩
      obtain rfl : W = w' := h.symm
      go_wp2
      obtain ⟨k3, k4, k5⟩ := span_box (w := w) 0 0 (unhide HX)
      refine bodyPost_ret (v := spanE 0 0 40) ?_ rfl ⟨congrArg _ ((unhide HV).trans eV).symm, unhide HBE 0 0⟩
      simp [results, Tryz.results138, go_sem, k4, k5]
    | some x =>
      have H1 := hide (hex_is hA)
      cases hB : hexP fa with
      | none =>
        have eV : spanV2 fa fa = spanE 0 0 40 := spanV2_b hA hB
        have H2 := hide (hex_not hB)
        clear hA hB
        go_wp2_with fail
        refine (unhide H1 _).mono ?_
        rintro e w' ⟨rfl, h⟩
        obtain rfl : W = w' := h.symm
        go_wp2_with fail
        refine (unhide H2 _).mono ?_
        rintro e w' ⟨rfl, h⟩
        obtain rfl : W = w' := h.symm
        go_wp2
        obtain ⟨k3, k4, k5⟩ := span_box (w := w) 0 0 (unhide HX)
        refine bodyPost_ret (v := spanE 0 0 40) ?_ rfl ⟨congrArg _ ((unhide HV).trans eV).symm, unhide HBE 0 0⟩
        simp [results, Tryz.results138, go_sem, k4, k5]
      | some y =>
        have H2 := hide (hex_is hB)
        by_cases hlt : y < x
        · have eV : spanV2 fa fa = spanE 0 0 41 := spanV2_lt hA hB hlt
          clear hA hB
          go_wp2_with fail
          refine (unhide H1 _).mono ?_
          rintro e w' ⟨rfl, h⟩
          obtain rfl : W = w' := h.symm
          go_wp2_with fail
          refine (unhide H2 _).mono ?_
          rintro e w' ⟨rfl, h⟩
          obtain rfl : W = w' := h.symm
          go_wp2
          obtain ⟨k3, k4, k5⟩ := span_box (w := w) 0 0 (unhide HX)
          refine bodyPost_ret (v := spanE 0 0 41) ?_ rfl ⟨congrArg _ ((unhide HV).trans eV).symm, unhide HBE 0 0⟩
          simp [results, Tryz.results138, go_sem, k4, k5]
        · have eV : spanV2 fa fa = spanE x y 0 := spanV2_ok hA hB hlt
          clear hA hB
          go_wp2_with fail
          refine (unhide H1 _).mono ?_
          rintro e w' ⟨rfl, h⟩
          obtain rfl : W = w' := h.symm
          go_wp2_with fail
          refine (unhide H2 _).mono ?_
          rintro e w' ⟨rfl, h⟩
          obtain rfl : W = w' := h.symm
          go_wp2
          obtain ⟨k3, k4, k5⟩ := span_box (w := w) x y (unhide HX)
          refine bodyPost_ret (v := spanE x y 0) ?_ rfl ⟨congrArg _ ((unhide HV).trans eV).symm, unhide HBE x y⟩
          simp [results, Tryz.results138, go_sem, k4, k5]
  | true =>
    have hsc' : sb = sc := by simpa using hsc.symm
    subst hsc'
    clear hsc
    cases hA : hexP fa with
    | none =>
      have eV : spanV2 fa sb = spanE 0 0 40 := spanV2_a hA
      have H1 := hide (hex_not hA)
      clear hA
      go_wp2_with fail
      refine (unhide H1 _).mono ?_
      rintro e w' ⟨rfl, h⟩
      obtain rfl : W = w' := h.symm
      go_wp2
      obtain ⟨k3, k4, k5⟩ := span_box (w := w) 0 0 (unhide HX)
      refine bodyPost_ret (v := spanE 0 0 40) ?_ rfl ⟨congrArg _ ((unhide HV).trans eV).symm, unhide HBE 0 0⟩
      simp [results, Tryz.results138, go_sem, k4, k5]
    | some x =>
      have H1 := hide (hex_is hA)
      cases hB : hexP sb with
      | none =>
        have eV : spanV2 fa sb = spanE 0 0 40 := spanV2_b hA hB
        have H2 := hide (hex_not hB)
        clear hA hB
        go_wp2_with fail
        refine (unhide H1 _).mono ?_
        rintro e w' ⟨rfl, h⟩
        obtain rfl : W = w' := h.symm
        go_wp2_with fail
        refine (unhide H2 _).mono ?_
        rintro e w' ⟨rfl, h⟩
        obtain rfl : W = w' := h.symm
        go_wp2
        obtain ⟨k3, k4, k5⟩ := span_box (w := w) 0 0 (unhide HX)
        refine bodyPost_ret (v := spanE 0 0 40) ?_ rfl ⟨congrArg _ ((unhide HV).trans eV).symm, unhide HBE 0 0⟩
        simp [results, Tryz.results138, go_sem, k4, k5]
      | some y =>
        have H2 := hide (hex_is hB)
        by_cases hlt : y < x
        · have eV : spanV2 fa sb = spanE 0 0 41 := spanV2_lt hA hB hlt
          clear hA hB
          go_wp2_with fail
          refine (unhide H1 _).mono ?_
          rintro e w' ⟨rfl, h⟩
          obtain rfl : W = w' := h.symm
          go_wp2_with fail
          refine (unhide H2 _).mono ?_
          rintro e w' ⟨rfl, h⟩
          obtain rfl : W = w' := h.symm
          go_wp2
          obtain ⟨k3, k4, k5⟩ := span_box (w := w) 0 0 (unhide HX)
          refine bodyPost_ret (v := spanE 0 0 41) ?_ rfl ⟨congrArg _ ((unhide HV).trans eV).symm, unhide HBE 0 0⟩
          simp [results, Tryz.results138, go_sem, k4, k5]
        · have eV : spanV2 fa sb = spanE x y 0 := spanV2_ok hA hB hlt
          clear hA hB
          go_wp2_with fail
          refine (unhide H1 _).mono ?_
          rintro e w' ⟨rfl, h⟩
          obtain rfl : W = w' := h.symm
          go_wp2_with fail
          refine (unhide H2 _).mono ?_
          rintro e w' ⟨rfl, h⟩
          obtain rfl : W = w' := h.symm
          go_wp2
          obtain ⟨k3, k4, k5⟩ := span_box (w := w) x y (unhide HX)
          refine bodyPost_ret (v := spanE x y 0) ?_ rfl ⟨congrArg _ ((unhide HV).trans eV).symm, unhide HBE x y⟩
          simp [results, Tryz.results138, go_sem, k4, k5]
end Go.Proofs.YtlgolaoabgmijaaGreatDoor

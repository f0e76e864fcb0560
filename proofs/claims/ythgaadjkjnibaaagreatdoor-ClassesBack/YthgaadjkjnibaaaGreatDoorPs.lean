/-
  These texts, one behind the other: PShelf, PSpan.
-/
import Derived.Shelf.Strings.Cut
import Derived.Shelf.SlSorted.Search
import Derived.Test.YthgaadjkjnibaaaGreatDoorChecked
import Derived.Test.YthgaadjkjnibaaaGreatDoorHx
/-
  DERIVED: THE SHELF's CONTRACTS AT THIS DUMP, IN PLAIN WORDS (tools/lay-plain.mjs out of 'LayPShelf.lean', which tools/lay-shelf.mjs wrote): THE SAME DECLARATIONS UNDER THE SAME NAMES: 'import', 'namespace', 'open', 'def', 'theorem' AND NOTHING ELSE: no command of the shelf's: FOR A HAND-IN. Each laying: the table of numbers ('.._ren') and one theorem, a field a fact of the dump's own or the kernel's comparison; each contract: ONE APPLICATION.
-/
namespace Go.Proofs
open Go.Shelf
def Tryz.lays145_ren : Go.Shelf.Ren := ⟨fun | 145 => 85 | 220 => 120 | 219 => 159 | 217 => 152 | 225 => 193 | 224 => 194 | 267 => 195 | 266 => 186 | 314 => 217 | n => n, fun | 9 => 9 | 4 => 4 | 59 => 156 | 3 => 3 | 5 => 5 | 46 => 173 | 146 => 237 | 51 => 214 | n => n, fun | 1 => 0 | n => n⟩
theorem Tryz.lays145 : Go.Proofs.Lays.n145 Tryz.prog Tryz.lays145_ren := {
  mixed := by kernel_rfl
  f145 := Tryz.func85.trans (congrArg some (by kernel_rfl))
  f217 := Tryz.func152.trans (congrArg some (by kernel_rfl))
  f219 := Tryz.func159.trans (congrArg some (by kernel_rfl))
  f220 := Tryz.func120.trans (congrArg some (by kernel_rfl))
  f224 := Tryz.func194.trans (congrArg some (by kernel_rfl))
  f225 := Tryz.func193.trans (congrArg some (by kernel_rfl))
  f266 := Tryz.func186.trans (congrArg some (by kernel_rfl))
  f267 := Tryz.func195.trans (congrArg some (by kernel_rfl))
  f314 := Tryz.func217.trans (congrArg some (by kernel_rfl))
  t3 := Tryz.underlying3
  a3 := Tryz.isAgg3
  z3 := Tryz.sizeOf3
  v3 := Tryz.zeroValue3
  t4 := Tryz.underlying4
  a4 := Tryz.isAgg4
  z4 := Tryz.sizeOf4
  v4 := Tryz.zeroValue4
  t5 := Tryz.underlying5
  a5 := Tryz.isAgg5
  z5 := Tryz.sizeOf5
  v5 := Tryz.zeroValue5
  t9 := Tryz.underlying9
  a9 := Tryz.isAgg9
  z9 := Tryz.sizeOf9
  v9 := Tryz.zeroValue9
  t46 := Tryz.underlying173
  a46 := Tryz.isAgg173
  z46 := Tryz.sizeOf173
  v46 := Tryz.zeroValue173
  t51 := Tryz.underlying214
  a51 := Tryz.isAgg214
  z51 := Tryz.sizeOf214
  v51 := Tryz.zeroValue214
  t59 := Tryz.underlying156
  a59 := Tryz.isAgg156
  z59 := Tryz.sizeOf156
  v59 := Tryz.zeroValue156
  t146 := Tryz.underlying237
  a146 := Tryz.isAgg237
  z146 := Tryz.sizeOf237
  v146 := Tryz.zeroValue237
  g1 := by kernel_rfl }
open Go.RowKit Go.Lib in
theorem Tryz.strings_Cut (s sep : ByteArray) (m : Int) (w : World) (hs : s.size < 4294967281) (hm : w.cell? ⟨0, 0, none⟩ = some (.int .i64 m)) :
    Calls Tryz.prog 85 #[.string s, .string sep] w fun e w' => e = .returned (.tuple #[.string ⟨(Lib.cut s.data.toList sep.data.toList).1.toArray⟩, .string ⟨(Lib.cut s.data.toList sep.data.toList).2.1.toArray⟩, .bool (Lib.cut s.data.toList sep.data.toList).2.2]) ∧ ∃ n, w' = w.drewN n := Any.strings_Cut Tryz.lays145 s sep m w hs hm
def Tryz.laysSearch_ren : Go.Shelf.Ren := ⟨fun | 16 => 104 | n => n, fun | 3 => 3 | 35 => 175 | 4 => 4 | 38 => 173 | n => n, fun | n => n⟩
theorem Tryz.laysSearch : Go.Proofs.SlLaysO.n16 Tryz.prog Tryz.laysSearch_ren := {
  mixed := by kernel_rfl
  f16 := Tryz.func104.trans (congrArg some (by kernel_rfl))
  t3 := Tryz.underlying3
  a3 := Tryz.isAgg3
  z3 := Tryz.sizeOf3
  v3 := Tryz.zeroValue3
  t4 := Tryz.underlying4
  a4 := Tryz.isAgg4
  z4 := Tryz.sizeOf4
  v4 := Tryz.zeroValue4
  t35 := Tryz.underlying175
  a35 := Tryz.isAgg175
  z35 := Tryz.sizeOf175
  v35 := Tryz.zeroValue175
  t38 := Tryz.underlying173
  a38 := Tryz.isAgg173
  z38 := Tryz.sizeOf173
  v38 := Tryz.zeroValue173 }
end Go.Proofs
/-
  The program's Span, of every text shorter than the library's search bears.
-/
namespace Go.Proofs.YthgaadjkjnibaaaGreatDoor
open Go.RowKit Go.PlainAid Go.Lib Go.Shelf Go.PHexM
set_option linter.unusedVariables false

abbrev spanE (x y e : Int) : Value := .tuple #[.agg #[.int .i32 x, .int .i32 y], .int .i64 e]
/-- what Span says of the two texts of the ends -/
def spanV2 (a b : List UInt8) : Value := match hexP a with
  | none => spanE 0 0 40
  | some x => match hexP b with
    | none => spanE 0 0 40
    | some y => if y < x then spanE 0 0 41 else spanE x y 0
def spanV (l : List UInt8) : Value := spanV2 (Lib.cut l [46, 46]).1 (if (Lib.cut l [46, 46]).2.2 then (Lib.cut l [46, 46]).2.1 else (Lib.cut l [46, 46]).1)

theorem spanV2_a {a b : List UInt8} (h : hexP a = none) : spanV2 a b = spanE 0 0 40 := by rw [spanV2, h]
theorem spanV2_b {a b : List UInt8} {x : Nat} (h : hexP a = some x) (h' : hexP b = none) : spanV2 a b = spanE 0 0 40 := by rw [spanV2, h, h']
theorem spanV2_lt {a b : List UInt8} {x y : Nat} (h : hexP a = some x) (h' : hexP b = some y) (hlt : y < x) : spanV2 a b = spanE 0 0 41 := by
  rw [spanV2, h, h']; exact if_pos hlt
theorem spanV2_ok {a b : List UInt8} {x y : Nat} (h : hexP a = some x) (h' : hexP b = some y) (hlt : ¬ y < x) : spanV2 a b = spanE x y 0 := by
  rw [spanV2, h, h']; exact if_neg hlt

theorem hex_is {l : List UInt8} {n : Nat} (h : hexP l = some n) (w : World) :
    Calls Tryz.prog 126 #[.string ⟨l.toArray⟩] w fun e w' => e = .returned (.tuple #[.int .i32 n, .int .i64 0]) ∧ w' = w := by
  have := hex_any ⟨l.toArray⟩ w
  rwa [show (⟨l.toArray⟩ : ByteArray).data.toList = l by simp, hexV_some h] at this
theorem hex_not {l : List UInt8} (h : hexP l = none) (w : World) :
    Calls Tryz.prog 126 #[.string ⟨l.toArray⟩] w fun e w' => e = .returned (.tuple #[.int .i32 0, .int .i64 40]) ∧ w' = w := by
  have := hex_any ⟨l.toArray⟩ w
  rwa [show (⟨l.toArray⟩ : ByteArray).data.toList = l by simp, hexV_none h] at this

/-- the cell of the result, when its two numbers are stored -/
theorem span_box {w W : World} {n : Nat} (a b : Int) (hx : W.heap[n]? = some (.cells #[.int .i32 0, .int .i32 0] 32 (0, 0))) :
    (W.setCell ⟨n, 0, none⟩ (.int .i32 a)).cell? ⟨n, 0, none⟩ = some (.int .i32 a) ∧ ((W.setCell ⟨n, 0, none⟩ (.int .i32 a)).setCell ⟨n, 1, none⟩ (.int .i32 b)).cell? ⟨n, 1, none⟩ = some (.int .i32 b) ∧ ((W.setCell ⟨n, 0, none⟩ (.int .i32 a)).setCell ⟨n, 1, none⟩ (.int .i32 b)).cell? ⟨n, 0, none⟩ = some (.int .i32 a) := by
  have k1 : (W.setCell ⟨n, 0, none⟩ (.int .i32 a)).heap[n]? = some (.cells #[.int .i32 a, .int .i32 0] 32 (0, 0)) := by
    rw [setCell_eq_setRow W n 0 _ _ _ _ hx]
    exact setRow_heap W n _ _ _ _ hx
  have k2 : ((W.setCell ⟨n, 0, none⟩ (.int .i32 a)).setCell ⟨n, 1, none⟩ (.int .i32 b)).heap[n]? = some (.cells #[.int .i32 a, .int .i32 b] 32 (0, 0)) := by
    rw [setCell_eq_setRow _ n 1 _ _ _ _ k1]
    exact setRow_heap _ n _ _ _ _ k1
  exact ⟨by simp [World.cell?, k1], by simp [World.cell?, k2], by simp [World.cell?, k2]⟩

set_option maxRecDepth 100000 in
theorem span_any (m : Int) (s : ByteArray) (w : World) (hs : s.size < 4294967281) (hm : w.cell? ⟨0, 0, none⟩ = some (.int .i64 m)) :
    Calls Tryz.prog 90 #[.string s] w fun e w' => e = .returned (spanV s.data.toList) ∧ Below w.heap.size w w' := by
  have hm1 : (w.alloc (.cells #[.int .i32 0, .int .i32 0] 32)).cell? ⟨0, 0, none⟩ = some (.int .i64 m) := cell_alloc_sl _ hm
  have hC := Tryz.strings_Cut s ⟨#[46, 46]⟩ m (w.alloc (.cells #[.int .i32 0, .int .i32 0] 32)) hs hm1
  have eV : spanV s.data.toList = spanV2 (Lib.cut s.data.toList [46, 46]).1 (if (Lib.cut s.data.toList [46, 46]).2.2 then (Lib.cut s.data.toList [46, 46]).2.1 else (Lib.cut s.data.toList [46, 46]).1) := rfl
  have e1 : (⟨#[46, 46]⟩ : ByteArray).data.toList = [46, 46] := rfl
  rw [e1] at hC
  generalize Lib.cut s.data.toList [46, 46] = c at hC eV
  obtain ⟨fa, sb, two⟩ := c
  simp only at hC eV
  rw [eV]
  have HC := hide hC
  clear hC e1 hm hm1 eV hs
  obtain ⟨sc, hsc⟩ : ∃ sc, sc = if two then sb else fa := ⟨_, rfl⟩
  rw [← hsc]
  obtain ⟨V, hV⟩ : ∃ V, V = spanV2 fa sc := ⟨_, rfl⟩
  rw [← hV]
  have HV := hide hV
  clear hV
  go_enter Tryz.func90, Tryz.ntmps90
  go_wp2_with fail
  refine (unhide HC).mono ?_
  rintro e w1 ⟨rfl, q, rfl⟩
  have hb1 : Below w.heap.size w ((w.alloc (.cells #[.int .i32 0, .int .i32 0] 32)).drewN q) := by
    have h := (Below.refl w.heap.size w).alloc (Nat.le_refl _) (.cells #[.int .i32 0, .int .i32 0] 32)
    exact ⟨h.os, h.tape, h.output, h.size, h.block⟩
  have hx : ((w.alloc (.cells #[.int .i32 0, .int .i32 0] 32)).drewN q).heap[w.heap.size]? = some (.cells #[.int .i32 0, .int .i32 0] 32 (0, 0)) := heap_alloc_new w _
  generalize (w.alloc (.cells #[.int .i32 0, .int .i32 0] 32)).drewN q = W at hb1 hx ⊢
  have HX := hide hx
  have HBE := hide (fun a b => (hb1.setCell (p := ⟨w.heap.size, 0, none⟩) (Nat.le_refl _) (.int .i32 a)).setCell (p := ⟨w.heap.size, 1, none⟩) (Nat.le_refl _) (.int .i32 b))
  have d0 : W.cell? ⟨w.heap.size, 0, none⟩ = some (.int .i32 0) := by simp [World.cell?, hx]
  have d1 : W.cell? ⟨w.heap.size, 1, none⟩ = some (.int .i32 0) := by simp [World.cell?, hx]
  have f0 : W.frozen? ⟨w.heap.size, 0, none⟩ = false := by simp [World.frozen?, hx]
  have f1 : W.frozen? ⟨w.heap.size, 1, none⟩ = false := by simp [World.frozen?, hx]
  clear hx hb1
  clear HC
  cases two with
  | false =>
    have hsc' : fa = sc := by simpa using hsc.symm
    subst hsc'
    clear hsc
    cases hA : hexP fa with
    | none =>
      have eV : spanV2 fa fa = spanE 0 0 40 := spanV2_a hA
      have H1 := hide (hex_not hA)
      clear hA
      go_wp2_with fail
      refine (unhide H1 _).mono ?_
      rintro e w' ⟨rfl, h⟩
      obtain rfl : W = w' := h.symm
      go_wp2
      obtain ⟨k3, k4, k5⟩ := span_box (w := w) 0 0 (unhide HX)
      refine bodyPost_ret (v := spanE 0 0 40) ?_ rfl ⟨congrArg _ ((unhide HV).trans eV).symm, unhide HBE 0 0⟩
      simp [results, Tryz.results90, go_sem, k4, k5]
    | some x =>
      have H1 := hide (hex_is hA)
      cases hB : hexP fa with
      | none =>
        have eV : spanV2 fa fa = spanE 0 0 40 := spanV2_b hA hB
        have H2 := hide (hex_not hB)
        clear hA hB
        go_wp2_with fail
        refine (unhide H1 _).mono ?_
        rintro e w' ⟨rfl, h⟩
        obtain rfl : W = w' := h.symm
        go_wp2_with fail
        refine (unhide H2 _).mono ?_
        rintro e w' ⟨rfl, h⟩
        obtain rfl : W = w' := h.symm
        go_wp2
        obtain ⟨k3, k4, k5⟩ := span_box (w := w) 0 0 (unhide HX)
        refine bodyPost_ret (v := spanE 0 0 40) ?_ rfl ⟨congrArg _ ((unhide HV).trans eV).symm, unhide HBE 0 0⟩
        simp [results, Tryz.results90, go_sem, k4, k5]
      | some y =>
        have H2 := hide (hex_is hB)
        by_cases hlt : y < x
        · have eV : spanV2 fa fa = spanE 0 0 41 := spanV2_lt hA hB hlt
          clear hA hB
          go_wp2_with fail
          refine (unhide H1 _).mono ?_
          rintro e w' ⟨rfl, h⟩
          obtain rfl : W = w' := h.symm
          go_wp2_with fail
          refine (unhide H2 _).mono ?_
          rintro e w' ⟨rfl, h⟩
          obtain rfl : W = w' := h.symm
          go_wp2
          obtain ⟨k3, k4, k5⟩ := span_box (w := w) 0 0 (unhide HX)
          refine bodyPost_ret (v := spanE 0 0 41) ?_ rfl ⟨congrArg _ ((unhide HV).trans eV).symm, unhide HBE 0 0⟩
          simp [results, Tryz.results90, go_sem, k4, k5]
        · have eV : spanV2 fa fa = spanE x y 0 := spanV2_ok hA hB hlt
          clear hA hB
          go_wp2_with fail
          refine (unhide H1 _).mono ?_
          rintro e w' ⟨rfl, h⟩
          obtain rfl : W = w' := h.symm
          go_wp2_with fail
          refine (unhide H2 _).mono ?_
          rintro e w' ⟨rfl, h⟩
          obtain rfl : W = w' := h.symm
          go_wp2
          obtain ⟨k3, k4, k5⟩ := span_box (w := w) x y (unhide HX)
          refine bodyPost_ret (v := spanE x y 0) ?_ rfl ⟨congrArg _ ((unhide HV).trans eV).symm, unhide HBE x y⟩
          simp [results, Tryz.results90, go_sem, k4, k5]
  | true =>
    have hsc' : sb = sc := by simpa using hsc.symm
    subst hsc'
    clear hsc
    cases hA : hexP fa with
    | none =>
      have eV : spanV2 fa sb = spanE 0 0 40 := spanV2_a hA
      have H1 := hide (hex_not hA)
      clear hA
      go_wp2_with fail
      refine (unhide H1 _).mono ?_
      rintro e w' ⟨rfl, h⟩
      obtain rfl : W = w' := h.symm
      go_wp2
      obtain ⟨k3, k4, k5⟩ := span_box (w := w) 0 0 (unhide HX)
      refine bodyPost_ret (v := spanE 0 0 40) ?_ rfl ⟨congrArg _ ((unhide HV).trans eV).symm, unhide HBE 0 0⟩
      simp [results, Tryz.results90, go_sem, k4, k5]
    | some x =>
      have H1 := hide (hex_is hA)
      cases hB : hexP sb with
      | none =>
        have eV : spanV2 fa sb = spanE 0 0 40 := spanV2_b hA hB
        have H2 := hide (hex_not hB)
        clear hA hB
        go_wp2_with fail
        refine (unhide H1 _).mono ?_
        rintro e w' ⟨rfl, h⟩
        obtain rfl : W = w' := h.symm
        go_wp2_with fail
        refine (unhide H2 _).mono ?_
        rintro e w' ⟨rfl, h⟩
        obtain rfl : W = w' := h.symm
        go_wp2
        obtain ⟨k3, k4, k5⟩ := span_box (w := w) 0 0 (unhide HX)
        refine bodyPost_ret (v := spanE 0 0 40) ?_ rfl ⟨congrArg _ ((unhide HV).trans eV).symm, unhide HBE 0 0⟩
        simp [results, Tryz.results90, go_sem, k4, k5]
      | some y =>
        have H2 := hide (hex_is hB)
        by_cases hlt : y < x
        · have eV : spanV2 fa sb = spanE 0 0 41 := spanV2_lt hA hB hlt
          clear hA hB
          go_wp2_with fail
          refine (unhide H1 _).mono ?_
          rintro e w' ⟨rfl, h⟩
          obtain rfl : W = w' := h.symm
          go_wp2_with fail
          refine (unhide H2 _).mono ?_
          rintro e w' ⟨rfl, h⟩
          obtain rfl : W = w' := h.symm
          go_wp2
          obtain ⟨k3, k4, k5⟩ := span_box (w := w) 0 0 (unhide HX)
          refine bodyPost_ret (v := spanE 0 0 41) ?_ rfl ⟨congrArg _ ((unhide HV).trans eV).symm, unhide HBE 0 0⟩
          simp [results, Tryz.results90, go_sem, k4, k5]
        · have eV : spanV2 fa sb = spanE x y 0 := spanV2_ok hA hB hlt
          clear hA hB
          go_wp2_with fail
          refine (unhide H1 _).mono ?_
          rintro e w' ⟨rfl, h⟩
          obtain rfl : W = w' := h.symm
          go_wp2_with fail
          refine (unhide H2 _).mono ?_
          rintro e w' ⟨rfl, h⟩
          obtain rfl : W = w' := h.symm
          go_wp2
          obtain ⟨k3, k4, k5⟩ := span_box (w := w) x y (unhide HX)
          refine bodyPost_ret (v := spanE x y 0) ?_ rfl ⟨congrArg _ ((unhide HV).trans eV).symm, unhide HBE x y⟩
          simp [results, Tryz.results90, go_sem, k4, k5]
end Go.Proofs.YthgaadjkjnibaaaGreatDoor

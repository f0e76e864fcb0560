/-
  Arguments that are lists of brackets, and of twins.
-/
import Derived.Test.YtijiiapnbeljnaaGreatDoorBrPw
import Derived.Deep.Slices
import Derived.OpenShut
import Derived.WideShapes
namespace Go.Proofs.YtijiiapnbeljnaaGreatDoor
open Go.RowKit Go.PlainAid Go.Lib Go.PHexM Go.Shelf Go.Deep Go.WideShapes
set_option linter.unusedVariables false
set_option linter.unusedSimpArgs false

set_option maxRecDepth 100000 in
set_option linter.constructorNameAsVariable false in
theorem slice_block {W : World} {r : Reach} {b0 : Nat} {t e : TypeId} {a : Option Addr} {len cap : Nat} (ht : Tryz.prog.underlying t = some (.slice e)) (h : Value.okWide Tryz.prog W r b0 t (.slice a len cap)) : ∀ k off, a = some ⟨k, off, none⟩ → k < W.heap.size := by
  rintro k off rfl
  simp only [Value.okWide, ht, Cell.okWide, Cell.ok] at h
  obtain ⟨_, _, _, _, row, cells, hs, _⟩ := h
  unfold World.shape? at hs
  cases hk : W.heap[k]? with
  | none => simp [hk] at hs
  | some o => exact (Array.getElem?_eq_some_iff.1 hk).1
theorem i32_range {n : Int} (h : (Lit.int .i32 n).wf = true) : i32Ok n := by
  simp [Lit.wf] at h
  have h1 : IntKind.i32.min = -2147483648 := by decide
  have h2 : IntKind.i32.max = 2147483647 := by decide
  unfold i32Ok
  omega
theorem u8_rangeB {n : Int} (h : (Lit.int .u8 n).wf = true) : u8Ok n := by
  simp [Lit.wf] at h
  have h1 : IntKind.u8.min = 0 := by decide
  have h2 : IntKind.u8.max = 255 := by decide
  unfold u8Ok
  omega
theorem brFields : ∃ f0 f1 f2 : Field, Tryz.prog.underlying 26 = some (.struct #[f0, f1, f2]) ∧ [f0.offset, f1.offset, f2.offset] = [0, 1, 2] ∧ [f0.type, f1.type, f2.type] = [21, 21, 24] :=
  ⟨_, _, _, Tryz.underlying26, rfl, rfl⟩
theorem twFields : ∃ f0 f1 : Field, Tryz.prog.underlying 40 = some (.struct #[f0, f1]) ∧ [f0.offset, f1.offset] = [0, 1] ∧ [f0.type, f1.type] = [21, 21] :=
  ⟨_, _, Tryz.underlying40, rfl, rfl⟩
theorem brCells : Tryz.prog.cellsOf 26 = 3 := by kernel_rfl
theorem twCells : Tryz.prog.cellsOf 40 = 2 := by kernel_rfl
theorem list3 {α : Type} {l : List α} (h : l.length = 3) : ∃ a b c : α, l = [a, b, c] := by
  match l, h with
  | [a, b, c], _ => exact ⟨a, b, c, rfl⟩
theorem list2 {α : Type} {l : List α} (h : l.length = 2) : ∃ a b : α, l = [a, b] := by
  match l, h with
  | [a, b], _ => exact ⟨a, b, rfl⟩
instance : Inhabited BrD := ⟨zeroB⟩
theorem br_of_cells {H : Type} {enc : TypeId × Value → H} {W : World} {base : Nat} {sp : Nat → Bool} {held : Bool} {fuel : Nat} {cs : List Value} {x : DataW H × List MemPlace} (h : DataW.trod enc Tryz.prog W base sp held fuel 26 cs = some x) : ∃ r : BrD, cs = brC r ∧ BrOk r := by
  obtain ⟨f0, f1, f2, hu, ho, hty⟩ := brFields
  simp only [List.cons.injEq, and_true] at ho hty
  obtain ⟨o0, o1, o2⟩ := ho
  obtain ⟨t0, t1, t2⟩ := hty
  obtain ⟨xs, k, _, hxy, hl, hxl, hf⟩ := DataW.trod_struct hu h
  rw [brCells] at hl
  have c_side : Tryz.prog.cellsOf 24 = 1 := by kernel_rfl
  have c_int32 : Tryz.prog.cellsOf 21 = 1 := by kernel_rfl
  obtain ⟨v0, v1, v2, rfl⟩ := list3 hl
  obtain ⟨y0, y1, y2, rfl⟩ := list3 (show xs.length = 3 from hxl)
  have g0 := hf 0 f0 rfl
  rw [o0, t0, c_int32] at g0
  obtain ⟨n0, e0, _, w0⟩ := DataW.trod_int Tryz.underlying21 g0
  simp at e0
  subst e0
  have g1 := hf 1 f1 rfl
  rw [o1, t1, c_int32] at g1
  obtain ⟨n1, e1, _, w1⟩ := DataW.trod_int Tryz.underlying21 g1
  simp at e1
  subst e1
  have g2 := hf 2 f2 rfl
  rw [o2, t2, c_side] at g2
  obtain ⟨n2, e2, _, w2⟩ := DataW.trod_int Tryz.underlying24 g2
  simp at e2
  subst e2
  exact ⟨⟨n0, n1, n2⟩, rfl, i32_range w0, i32_range w1, u8_rangeB w2⟩
theorem tw_of_cells {H : Type} {enc : TypeId × Value → H} {W : World} {base : Nat} {sp : Nat → Bool} {held : Bool} {fuel : Nat} {cs : List Value} {x : DataW H × List MemPlace} (h : DataW.trod enc Tryz.prog W base sp held fuel 40 cs = some x) : ∃ r : Int × Int, cs = [.int .i32 r.1, .int .i32 r.2] ∧ i32Ok r.1 ∧ i32Ok r.2 := by
  obtain ⟨f0, f1, hu, ho, hty⟩ := twFields
  simp only [List.cons.injEq, and_true] at ho hty
  obtain ⟨o0, o1⟩ := ho
  obtain ⟨t0, t1⟩ := hty
  obtain ⟨xs, k, _, hxy, hl, hxl, hf⟩ := DataW.trod_struct hu h
  rw [twCells] at hl
  have c_int32 : Tryz.prog.cellsOf 21 = 1 := by kernel_rfl
  obtain ⟨v0, v1, rfl⟩ := list2 hl
  obtain ⟨y0, y1, rfl⟩ := list2 (show xs.length = 2 from hxl)
  have g0 := hf 0 f0 rfl
  rw [o0, t0, c_int32] at g0
  obtain ⟨n0, e0, _, w0⟩ := DataW.trod_int Tryz.underlying21 g0
  simp at e0
  subst e0
  have g1 := hf 1 f1 rfl
  rw [o1, t1, c_int32] at g1
  obtain ⟨n1, e1, _, w1⟩ := DataW.trod_int Tryz.underlying21 g1
  simp at e1
  subst e1
  exact ⟨(n0, n1), rfl, i32_range w0, i32_range w1⟩

theorem open_brs {H : Type} {enc : TypeId × Value → H} {W : World} {base : Nat} {held : Bool} {fuel : Nat} {a : Option Addr} {len cap : Nat} {x : DataW H × List MemPlace}
    (h : DataW.trod enc Tryz.prog W base (fun _ => true) held fuel 22 (Value.slice a len cap).cells.toList = some x) : ∃ rs : List BrD, rs.length = len ∧ len ≤ cap ∧ BrMem W a rs ∧ (∀ x ∈ rs, BrOk x) ∧ ((len = 0 ∧ x.1 = .nil) ∨ ∃ es sp, x.1 = .slice es sp ∧ es.length = len) := by
  rcases open_slice Tryz.underlying22 h with ⟨hcs, hx⟩ | ⟨b, l, c, m, n, D, Pl, hcs, hb, hl, hm, hmm, hx, hcell⟩
  · simp [Value.cells] at hcs
    obtain ⟨rfl, rfl, rfl⟩ := hcs
    exact ⟨[], rfl, Nat.le_refl _, fun i r e => by simp at e, fun x hx => (by cases hx), .inl ⟨rfl, by rw [hx]⟩⟩
  · simp [Value.cells] at hcs
    obtain ⟨rfl, rfl, rfl⟩ := hcs
    have hmm' : m = cap := by simpa using hmm
    subst hmm'
    have each : ∀ i, i < len → ∃ r : BrD, BrOk r ∧ ∀ j v, (brC r)[j]? = some v → W.cell? (b.add (i * 3 + j)) = some v := by
      intro i hi
      obtain ⟨cs', h1, h2⟩ := hcell i (by omega)
      rw [brCells] at h1
      obtain ⟨r, rfl, hr⟩ := br_of_cells h2
      obtain ⟨_, hlen, hce⟩ := World.cells?_some h1
      refine ⟨r, hr, fun j v hv => ?_⟩
      have hj := (List.getElem?_eq_some_iff.1 hv).1
      have := hce j (by simpa using hj)
      rw [add_add] at this
      rw [this, hv]
    obtain ⟨q, hq⟩ := choose_lt each
    obtain ⟨g, off, spot⟩ := b
    refine ⟨(List.range len).map q, by simp, hl, fun i r e => ?_, fun x hx => ?_, .inr ⟨_, _, by rw [hx], by simp⟩⟩
    · rw [List.getElem?_map] at e
      obtain ⟨i', hi', e⟩ := Option.map_eq_some_iff.1 e
      obtain ⟨hil, rfl⟩ := List.getElem?_eq_some_iff.1 hi'
      simp only [List.length_range, List.getElem_range] at hil e
      subst e
      have hspot : spot = none := by simpa [Addr.add] using World.cell?_spot ((hq 0 (by omega)).2 0 _ rfl)
      subst hspot
      refine ⟨g, off, rfl, fun j v hv => ?_⟩
      rw [Nat.add_assoc, ← Go.WideShapes.add_plain]
      exact (hq i hil).2 j v hv
    · obtain ⟨i, hi, rfl⟩ := List.mem_map.1 hx
      exact (hq i (List.mem_range.1 hi)).1
theorem open_tws {H : Type} {enc : TypeId × Value → H} {W : World} {base : Nat} {held : Bool} {fuel : Nat} {a : Option Addr} {len cap : Nat} {x : DataW H × List MemPlace}
    (h : DataW.trod enc Tryz.prog W base (fun _ => true) held fuel 38 (Value.slice a len cap).cells.toList = some x) : ∃ rs : List (Int × Int), rs.length = len ∧ len ≤ cap ∧ TwMem W a rs ∧ (∀ x ∈ rs, i32Ok x.1 ∧ i32Ok x.2) ∧ ((len = 0 ∧ x.1 = .nil) ∨ ∃ es sp, x.1 = .slice es sp ∧ es.length = len) := by
  rcases open_slice Tryz.underlying38 h with ⟨hcs, hx⟩ | ⟨b, l, c, m, n, D, Pl, hcs, hb, hl, hm, hmm, hx, hcell⟩
  · simp [Value.cells] at hcs
    obtain ⟨rfl, rfl, rfl⟩ := hcs
    exact ⟨[], rfl, Nat.le_refl _, fun i r e => by simp at e, fun x hx => (by cases hx), .inl ⟨rfl, by rw [hx]⟩⟩
  · simp [Value.cells] at hcs
    obtain ⟨rfl, rfl, rfl⟩ := hcs
    have hmm' : m = cap := by simpa using hmm
    subst hmm'
    have each : ∀ i, i < len → ∃ r : Int × Int, (i32Ok r.1 ∧ i32Ok r.2) ∧ ∀ j v, ([Value.int .i32 r.1, .int .i32 r.2])[j]? = some v → W.cell? (b.add (i * 2 + j)) = some v := by
      intro i hi
      obtain ⟨cs', h1, h2⟩ := hcell i (by omega)
      rw [twCells] at h1
      obtain ⟨r, rfl, hr⟩ := tw_of_cells h2
      obtain ⟨_, hlen, hce⟩ := World.cells?_some h1
      refine ⟨r, hr, fun j v hv => ?_⟩
      have hj := (List.getElem?_eq_some_iff.1 hv).1
      have := hce j (by simpa using hj)
      rw [add_add] at this
      rw [this, hv]
    obtain ⟨q, hq⟩ := choose_lt each
    obtain ⟨g, off, spot⟩ := b
    refine ⟨(List.range len).map q, by simp, hl, fun i r e => ?_, fun x hx => ?_, .inr ⟨_, _, by rw [hx], by simp⟩⟩
    · rw [List.getElem?_map] at e
      obtain ⟨i', hi', e⟩ := Option.map_eq_some_iff.1 e
      obtain ⟨hil, rfl⟩ := List.getElem?_eq_some_iff.1 hi'
      simp only [List.length_range, List.getElem_range] at hil e
      subst e
      have hspot : spot = none := by simpa [Addr.add] using World.cell?_spot ((hq 0 (by omega)).2 0 _ rfl)
      subst hspot
      have e0 := (hq i hil).2 0 _ rfl
      have e1 := (hq i hil).2 1 _ rfl
      rw [Go.WideShapes.add_plain] at e0 e1
      exact ⟨g, off, rfl, e0, by rw [Nat.add_assoc]; exact e1⟩
    · obtain ⟨i, hi, rfl⟩ := List.mem_map.1 hx
      exact (hq i (List.mem_range.1 hi)).1
end Go.Proofs.YtijiiapnbeljnaaGreatDoor

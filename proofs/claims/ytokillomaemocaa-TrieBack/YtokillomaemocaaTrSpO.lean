/-
  Arguments: a list of spans, a span.
-/
import Derived.Test.YtokillomaemocaaTrQx
import Derived.Deep.Slices
import Derived.OpenShut
import Derived.WideShapes
namespace Go.Proofs.Ytokillomaemocaa
open Go.RowKit Go.PlainAid Go.Lib Go.Deep Go.WideShapes Go.PRow
set_option linter.unusedVariables false
set_option linter.unusedSimpArgs false
theorem wf_u8S {n : Int} (h : (Lit.int .u8 n).wf = true) : 0 ≤ n ∧ n ≤ 255 := by
  unfold Lit.wf at h
  rw [Bool.and_eq_true] at h
  have h1 := of_decide_eq_true h.1
  have h2 := of_decide_eq_true h.2
  exact ⟨h1, h2⟩
theorem spanFields : ∃ f0 f1 f2 : Field, Try.prog.underlying 72 = some (.struct #[f0, f1, f2]) ∧ [f0.offset, f1.offset, f2.offset] = [0, 1, 2] ∧ [f0.type, f1.type, f2.type] = [21, 21, 5] :=
  ⟨_, _, _, Try.underlying72, rfl, rfl⟩
theorem spanCells : Try.prog.cellsOf 72 = 3 := by kernel_rfl
theorem list3S {α : Type} {l : List α} (h : l.length = 3) : ∃ a b c : α, l = [a, b, c] := by
  match l, h with
  | [a, b, c], _ => exact ⟨a, b, c, rfl⟩
theorem span_of_cells {H : Type} {enc : TypeId × Value → H} {W : World} {base : Nat} {sp : Nat → Bool} {held : Bool} {fuel : Nat} {cs : List Value} {x : DataW H × List MemPlace} (h : DataW.trod enc Try.prog W base sp held fuel 72 cs = some x) : ∃ p : Pc Int, cs = [.int .i32 p.lo, .int .i32 p.hi, .int .u8 p.val] ∧ 0 ≤ p.val ∧ p.val < 256 := by
  obtain ⟨f0, f1, f2, hu, ho, hty⟩ := spanFields
  simp only [List.cons.injEq, and_true] at ho hty
  obtain ⟨o0, o1, o2⟩ := ho
  obtain ⟨t0, t1, t2⟩ := hty
  obtain ⟨xs, k, _, hxy, hl, hxl, hf⟩ := DataW.trod_struct hu h
  rw [spanCells] at hl
  have c_int32 : Try.prog.cellsOf 21 = 1 := by kernel_rfl
  have c_u8 : Try.prog.cellsOf 5 = 1 := by kernel_rfl
  obtain ⟨v0, v1, v2, rfl⟩ := list3S hl
  obtain ⟨y0, y1, y2, rfl⟩ := list3S (show xs.length = 3 from hxl)
  have g0 := hf 0 f0 rfl
  rw [o0, t0, c_int32] at g0
  obtain ⟨n0, e0, _, w0⟩ := DataW.trod_int Try.underlying21 g0
  simp at e0
  subst e0
  have g1 := hf 1 f1 rfl
  rw [o1, t1, c_int32] at g1
  obtain ⟨n1, e1, _, w1⟩ := DataW.trod_int Try.underlying21 g1
  simp at e1
  subst e1
  have g2 := hf 2 f2 rfl
  rw [o2, t2, c_u8] at g2
  obtain ⟨n2, e2, _, w2⟩ := DataW.trod_int Try.underlying5 g2
  simp at e2
  subst e2
  have := wf_u8S w2
  exact ⟨⟨n0, n1, n2⟩, rfl, this.1, by show n2 < 256; omega⟩
theorem open_spans {H : Type} {enc : TypeId × Value → H} {W : World} {base : Nat} {held : Bool} {fuel : Nat} {a : Option Addr} {len cap : Nat} {x : DataW H × List MemPlace}
    (h : DataW.trod enc Try.prog W base (fun _ => true) held fuel 22 (Value.slice a len cap).cells.toList = some x) : ∃ ps : List (Pc Int), ps.length = len ∧ len ≤ cap ∧ VK.SpAt W a ps ∧ ∀ p ∈ ps, 0 ≤ p.val ∧ p.val < 256 := by
  rcases open_slice Try.underlying22 h with ⟨hcs, hx⟩ | ⟨b, l, c, m, n, D, Pl, hcs, hb, hl, hm, hmm, hx, hcell⟩
  · simp [Value.cells] at hcs
    obtain ⟨rfl, rfl, rfl⟩ := hcs
    exact ⟨[], rfl, Nat.le_refl _, fun h => absurd rfl h, fun x hx => (by cases hx)⟩
  · simp [Value.cells] at hcs
    obtain ⟨rfl, rfl, rfl⟩ := hcs
    have hmm' : m = cap := by simpa using hmm
    subst hmm'
    have each : ∀ i, i < len → ∃ r : Pc Int, (0 ≤ r.val ∧ r.val < 256) ∧ W.cell? (b.add (i * 3)) = some (.int .i32 r.lo) ∧ W.cell? (b.add (i * 3 + 1)) = some (.int .i32 r.hi) ∧ W.cell? (b.add (i * 3 + 2)) = some (.int .u8 r.val) := by
      intro i hi
      obtain ⟨cs', h1, h2⟩ := hcell i (by omega)
      rw [spanCells] at h1
      obtain ⟨r, rfl, hr⟩ := span_of_cells h2
      obtain ⟨_, hlen, hce⟩ := World.cells?_some h1
      refine ⟨r, hr, ?_, ?_, ?_⟩
      · have := hce 0 (by simp); rw [add_add] at this; simpa using this
      · have := hce 1 (by simp); rw [add_add] at this; simpa using this
      · have := hce 2 (by simp); rw [add_add] at this; simpa using this
    have inh : Inhabited (Pc Int) := ⟨⟨0, 0, 0⟩⟩
    obtain ⟨q, hq⟩ := choose_lt each
    obtain ⟨g, off, spot⟩ := b
    refine ⟨(List.range len).map q, by simp, hl, fun h0 => ?_, fun x hx => ?_⟩
    · have h0l : 0 < len := by
        rcases Nat.eq_zero_or_pos len with e | e
        · exact absurd (by rw [e]; rfl) h0
        · exact e
      have hspot : spot = none := by simpa [Addr.add] using World.cell?_spot (hq 0 h0l).2.1
      subst hspot
      have hg : g < W.heap.size := by
        have hc := (hq 0 h0l).2.1
        rcases Nat.lt_or_ge g W.heap.size with h | h
        · exact h
        · have e : W.heap[g]? = none := Array.getElem?_eq_none h
          simp [World.cell?, Addr.add, e] at hc
      refine ⟨g, off, rfl, hg, fun j u hj => ?_⟩
      have hjl := (List.getElem?_eq_some_iff.1 hj).1
      rw [VK.cellsP_len, List.length_map, List.length_range] at hjl
      have hi : j / 3 < len := by omega
      have hp : ((List.range len).map q)[j / 3]? = some (q (j / 3)) := by rw [List.getElem?_map, List.getElem?_range hi]; rfl
      obtain ⟨k0, k1, k2⟩ := VK.cellsP_at _ (j / 3) _ hp
      obtain ⟨_, z0, z1, z2⟩ := hq (j / 3) hi
      rw [← Go.WideShapes.add_plain]
      rcases (show j % 3 = 0 ∨ j % 3 = 1 ∨ j % 3 = 2 by omega) with e | e | e
      · have ej : j = j / 3 * 3 := by omega
        rw [ej, k0] at hj
        rw [ej, z0]; exact hj
      · have ej : j = j / 3 * 3 + 1 := by omega
        rw [ej, k1] at hj
        rw [ej, z1]; exact hj
      · have ej : j = j / 3 * 3 + 2 := by omega
        rw [ej, k2] at hj
        rw [ej, z2]; exact hj
    · obtain ⟨i, hi, rfl⟩ := List.mem_map.1 hx
      exact (hq i (List.mem_range.1 hi)).1
theorem open_span {H : Type} {enc : TypeId × Value → H} {W : World} {base : Nat} {held : Bool} {fuel : Nat} {cs : Array Value} {x : DataW H × List MemPlace}
    (h : DataW.trod enc Try.prog W base (fun _ => true) held fuel 72 (Value.agg cs).cells.toList = some x) : ∃ p : Pc Int, cs = #[.int .i32 p.lo, .int .i32 p.hi, .int .u8 p.val] ∧ 0 ≤ p.val ∧ p.val < 256 := by
  obtain ⟨p, e, hp⟩ := span_of_cells h
  refine ⟨p, ?_, hp⟩
  have e2 : (Value.agg cs).cells = cs := rfl
  rw [e2] at e
  rw [← Array.toArray_toList (xs := cs), e]
end Go.Proofs.Ytokillomaemocaa

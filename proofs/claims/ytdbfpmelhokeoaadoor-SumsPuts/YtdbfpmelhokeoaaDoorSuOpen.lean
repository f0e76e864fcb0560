/-
  Arguments opened: numbers of 32 and 64 bits, lists of texts and of numbers.
-/
import Derived.Test.YtdbfpmelhokeoaaDoorSuPD
import Derived.OpenShut
import Derived.ShutString
import Derived.SliceStrings
import Derived.Deep.Slices
import Derived.ProofKit
namespace Go.Proofs.YtdbfpmelhokeoaaDoor
open Go.ChangeShapes Go.WideShapes Go.ChangeAt Go.RowKit Go.SuM
set_option linter.unusedVariables false
set_option linter.unusedSimpArgs false
theorem open_u32 {x : Int} (h : (Lit.int .u32 x).wf = true) : ∃ n : Nat, n < 4294967296 ∧ x = (n : Int) := by
  simp only [Lit.wf, Bool.and_eq_true, decide_eq_true_eq, show IntKind.u32.min = 0 by decide, show IntKind.u32.max = 4294967295 by decide] at h
  exact ⟨x.toNat, by omega, by omega⟩
theorem open_i64 {x : Int} (h : (Lit.int .i64 x).wf = true) : -9223372036854775808 ≤ x ∧ x ≤ 9223372036854775807 := by
  simp only [Lit.wf, Bool.and_eq_true, decide_eq_true_eq, show IntKind.i64.min = -9223372036854775808 by decide, show IntKind.i64.max = 9223372036854775807 by decide] at h
  exact h
theorem open_strs {H : Type} {enc : TypeId × Value → H} {W : World} {fuel : Nat} {a : Option Addr} {len cap : Nat} {d : DataW H} {p : List MemPlace} (h : DataW.trod enc Tryd.prog W 0 (fun _ => true) true fuel 22 [.slice a len cap] = some (d, p)) :
    ∃ l : List ByteArray, l.length = len ∧ len ≤ cap ∧ cap ≤ maxLen ∧ TxAt W a l ∧ ((len = 0 ∧ d = .nil) ∨ ∃ es sp, d = .slice es sp ∧ es.length = len) := by
  rcases open_strings Tryd.underlying22 Tryd.underlying9 (by kernel_rfl) h with ⟨e, e2⟩ | ⟨ad, len', cap', ss, e, hb, hl, hm, hlen, e2, hc, hs⟩
  · simp only [List.cons.injEq, Value.slice.injEq, and_true] at e
    obtain ⟨rfl, rfl, rfl⟩ := e
    exact ⟨[], rfl, Nat.le_refl _, by simp [maxLen], ⟨fun h => absurd rfl h, fun s hs => by simp at hs⟩, .inl ⟨rfl, (Prod.mk.inj e2).1⟩⟩
  · simp only [List.cons.injEq, Value.slice.injEq, and_true] at e
    obtain ⟨rfl, rfl, rfl⟩ := e
    simp only [if_true] at hlen
    have hll : (ss.take len).length = len := by rw [List.length_take, hlen]; omega
    refine ⟨ss.take len, hll, hl, hm, ⟨fun h0 => ?_, fun s h => hs s (List.mem_of_mem_take h)⟩, .inr ⟨_, _, (Prod.mk.inj e2).1, by simp [strs]; omega⟩⟩
    have hpos : 0 < len := by rw [← hll]; exact List.length_pos_iff.2 h0
    obtain ⟨b, off, spot⟩ := ad
    have hspot : spot = none := by
      have := hc 0 (by omega)
      simpa [Addr.add] using World.cell?_spot this
    subst hspot
    refine ⟨b, off, rfl, fun i hi => ?_⟩
    rw [hll] at hi
    have := hc i (by omega)
    rw [Go.WideShapes.add_plain] at this
    rw [this, List.getElem_take]
    simp [List.getD, List.getElem?_eq_getElem (show i < ss.length by omega)]
theorem open_nums {H : Type} {enc : TypeId × Value → H} {W : World} {fuel : Nat} {a : Option Addr} {len cap : Nat} {d : DataW H} {p : List MemPlace} (h : DataW.trod enc Tryd.prog W 0 (fun _ => true) true fuel 34 [.slice a len cap] = some (d, p)) :
    ∃ l : List Nat, l.length = len ∧ len ≤ cap ∧ cap ≤ maxLen ∧ ND.NumsAt W a l ∧ ((len = 0 ∧ d = .nil) ∨ ∃ es sp, d = .slice es sp ∧ es.length = len) := by
  rcases Go.Deep.open_slice1 Tryd.underlying34 (by kernel_rfl) h with ⟨e, e2⟩ | ⟨ad, len', cap', m, n, V, D, Pl, e, hb, hl, hm, hmm, e2, hc⟩
  · simp only [List.cons.injEq, Value.slice.injEq, and_true] at e
    obtain ⟨rfl, rfl, rfl⟩ := e
    exact ⟨[], rfl, Nat.le_refl _, by simp [maxLen], ⟨fun h => absurd rfl h, fun s hs => by simp at hs⟩, .inl ⟨rfl, (Prod.mk.inj e2).1⟩⟩
  · simp only [List.cons.injEq, Value.slice.injEq, and_true] at e
    obtain ⟨rfl, rfl, rfl⟩ := e
    simp only [if_true] at hmm
    have hx : ∀ i, i < len → ∃ x : Nat, x < 4294967296 ∧ V i = .int .u32 (x : Int) := fun i hi => by
      obtain ⟨z, e1, _, e3⟩ := DataW.trod_int Tryd.underlying23 (hc i (by omega)).2
      obtain ⟨x, h1, rfl⟩ := open_u32 e3
      exact ⟨x, h1, by simpa using e1⟩
    have hf : ∃ f : Nat → Nat, ∀ i, i < len → f i < 4294967296 ∧ V i = .int .u32 (f i : Int) := by
      refine ⟨fun i => if hi : i < len then Classical.choose (hx i hi) else 0, fun i hi => ?_⟩
      simp only [hi, dif_pos]
      exact Classical.choose_spec (hx i hi)
    obtain ⟨f, hf⟩ := hf
    refine ⟨(List.range len).map f, by simp, hl, hm, ⟨fun h0 => ?_, fun x h => ?_⟩, .inr ⟨_, _, (Prod.mk.inj e2).1, by simp⟩⟩
    · have hpos : 0 < len := by
        have := List.length_pos_iff.2 h0
        simpa using this
      obtain ⟨b, off, spot⟩ := ad
      have hspot : spot = none := by
        have := (hc 0 (by omega)).1
        simpa [Addr.add] using World.cell?_spot this
      subst hspot
      refine ⟨b, off, rfl, ?_, fun i hi => ?_⟩
      · have := (hc 0 (by omega)).1
        rw [Go.WideShapes.add_plain] at this
        exact World.block_lt_of_cell? _ _ this
      · simp only [List.length_map, List.length_range] at hi
        have := (hc i (by omega)).1
        rw [Go.WideShapes.add_plain] at this
        rw [this, (hf i hi).2]
        simp
    · obtain ⟨i, hi, rfl⟩ := List.mem_map.1 h
      exact (hf i (List.mem_range.1 hi)).1
end Go.Proofs.YtdbfpmelhokeoaaDoor

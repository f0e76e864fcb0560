/-
  Rows of texts that a call owns.
-/
import Derived.Test.YtdbfpmelhokeoaaDoorSuR
import Derived.Test.YtdbfpmelhokeoaaDoorSuRf
namespace Go.Proofs.YtdbfpmelhokeoaaDoor
open Go.RowKit Go.PlainAid Go.Lib Go.SuM
set_option linter.unusedVariables false
set_option linter.unusedSimpArgs false
def strV (l : List ByteArray) : List Value := l.map Value.string
theorem strV_one (l : List ByteArray) : ∀ u ∈ strV l, u.oneCell' = true := by
  intro u hu
  obtain ⟨_, _, rfl⟩ := List.mem_map.1 hu
  rfl
def OwnS (w : World) (B : Nat) (v : Value) (l : List ByteArray) : Prop := w.ownsRow B 9 1 v l.length (strV l)
theorem infoS : (Tryd.prog.info? 9).map (fun i => (i.zero, i.size, i.bytes)) = some (some (.string ⟨#[]⟩), 1, 16) := by kernel_rfl
theorem OwnS.form {w : World} {B : Nat} {v : Value} {l : List ByteArray} (h : OwnS w B v l) : ∃ a c, v = .slice a l.length c ∧ l.length ≤ c ∧ c ≤ maxLen := by
  rcases h.2 with ⟨rfl, h0⟩ | ⟨g, cap, cur, rfl, _, _, h1, h2, _⟩
  · exact ⟨none, 0, by rw [h0], by omega, by unfold maxLen; omega⟩
  · exact ⟨_, _, rfl, h1, h2⟩
theorem OwnS.tx {w : World} {B : Nat} {g c : Nat} {l : List ByteArray} {m : Nat} (h : OwnS w B (.slice (some ⟨g, 0, none⟩) l.length c) l) (hs : ∀ s ∈ l, s.size ≤ maxLen) (k : Nat) : TxAt w (some ⟨g, 0, none⟩) (l.take k) := by
  refine ⟨fun h0 => ⟨g, 0, rfl, fun i hi => ?_⟩, fun s hm => hs s (List.mem_of_mem_take hm)⟩
  have hil : i < l.length := by rw [List.length_take] at hi; omega
  rw [Nat.zero_add, World.ownsRow.cellAt h i (by omega)]
  unfold strV
  rw [List.getElem?_map, List.getElem?_eq_getElem hil, List.getElem_take]
  rfl
theorem append_anyS (w : World) (B : Nat) (v : Value) (l : List ByteArray) (c : Nat) (ad : Option Addr) (r : List ByteArray) (hr : TxAt w ad r) (h : OwnS w B v l) (hB : B ≤ w.heap.size) (hbig : (l.length + r.length) * 16 ≤ 140737488355328) (ty : TypeId) :
    ∃ v' w', (Builtin.append_ #[22, 22] ty #[v, .slice ad r.length c]).run Tryd.prog w = .ok v' w' ∧ OwnS w' B v' (l ++ r) ∧ Below B w w' ∧ (r ≠ [] → ∃ g c', v' = .slice (some ⟨g, 0, none⟩) (l.length + r.length) c') := by
  obtain ⟨i0, hi0, hz0, hzs, hzb⟩ := info_parts infoS
  by_cases h0 : r = []
  · subst h0
    obtain ⟨b, c', rfl, hle, _⟩ := h.form
    refine ⟨_, _, run_append_nothing w _ _ ty _ i0 Tryd.underlying22 hi0 b l.length c' hle _ ?_, by rw [List.append_nil]; exact h, Below.refl _ _, fun h => absurd rfl h⟩
    cases ad with
    | none => exact Src.ofNil w Tryd.underlying22 c
    | some a => exact Src.ofSlice w Tryd.underlying22 a 0 c [] (by simp) (fun j u hu => by simp at hu) (by simp)
  · obtain ⟨g, off, rfl, hc⟩ := hr.at_ h0
    have hpos := List.length_pos_iff.2 h0
    obtain ⟨v', w', r1, r2, r3, _⟩ := run_append_own_at (P := Tryd.prog) (w := w) B 22 ty 9 i0 _ 1 16 Tryd.underlying22 hi0 hz0 hzs hzb rfl (by decide) v l.length (strV l) h ⟨g, off, none⟩ r.length c (strV r) (by unfold strV; rw [List.length_map]; omega) (fun j u hj => by
      have hjr : j < r.length := by have := (List.getElem?_eq_some_iff.1 hj).1; unfold strV at this; rwa [List.length_map] at this
      rw [Addr.add_lit, hc j hjr]
      unfold strV at hj
      rw [List.getElem?_map, List.getElem?_eq_getElem hjr] at hj
      exact hj) (strV_one r) (by unfold maxLen; omega) (by omega) hB
    have hO : OwnS w' B v' (l ++ r) := by
      unfold OwnS
      rw [show strV (l ++ r) = strV l ++ strV r by unfold strV; rw [List.map_append], List.length_append]
      exact r2
    refine ⟨v', w', r1, hO, (Below.refl _ _).grown r3 hB (fun k hk => (World.ownsRow.lt h k hk).1), fun _ => ?_⟩
    rcases hO.2 with ⟨rfl, hn⟩ | ⟨g', cap', cur, rfl, _⟩
    · rw [List.length_append] at hn; omega
    · exact ⟨g', cap', by rw [List.length_append]⟩
end Go.Proofs.YtdbfpmelhokeoaaDoor

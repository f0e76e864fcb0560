/-
  TrieKnown: the closed facts.
-/
import Derived.Test.YtokillomaemocaaTrAw
namespace Go.Proofs.Ytokillomaemocaa.VK
open Go.RowKit Go.PlainAid Go.Lib Go.PRow Go.TrM
set_option linter.unusedVariables false
set_option linter.unusedSimpArgs false
theorem known_eq : valsF 0 [⟨65, 90, 1⟩] = oneV (0 : Int) 1 := by
  have f0 : ∀ r : Nat, (r < 65 ∨ 90 < r) → valF 0 [⟨65, 90, 1⟩] r = 0 := fun r h => valF_out (fun p hp => by
    rw [List.mem_singleton.1 hp]
    intro hc
    have h1 : (65 : Int) ≤ (r : Int) := hc.1
    have h2 : (r : Int) ≤ 90 := hc.2
    omega)
  have f1 : ∀ r : Nat, 65 ≤ r → r ≤ 90 → valF 0 [⟨65, 90, 1⟩] r = 1 := fun r h1 h2 => valF_in (p := ⟨65, 90, 1⟩) (List.pairwise_singleton _ _) (List.mem_singleton.2 rfl) (by show (65 : Int) ≤ r; omega) (by show (r : Int) ≤ 90; omega)
  have e1 := range_more (valF 0 [⟨65, 90, 1⟩]) 0 65 0 (fun r _ h => f0 r (by omega))
  have e2 := range_more (valF 0 [⟨65, 90, 1⟩]) 65 26 1 (fun r h1 h2 => f1 r h1 (by omega))
  have e3 := range_more (valF 0 [⟨65, 90, 1⟩]) 91 1114021 0 (fun r h1 h2 => f0 r (by omega))
  rw [Nat.zero_add] at e1
  unfold valsF oneV
  rw [show 1114112 = 91 + 1114021 from rfl, ← e3, show 91 = 65 + 26 from rfl, ← e2, ← e1]
  rfl
theorem tops_one {α : Type} [DecidableEq α] {x y : α} (h : x ≠ y) : (midsV (oneV x y)).2 = [0] ++ List.replicate 271 1 := by
  rw [mids_whole, lows_one h]
  have e : ([0, 1] ++ List.replicate 17406 0 : List Nat) = ([0, 1] ++ List.replicate 62 0) ++ List.replicate (64 * 271) 0 := by
    rw [List.append_assoc, List.replicate_append_replicate]
  simp only
  rw [e]
  have := (put_many (vs := ([0, 1] ++ List.replicate 62 0 : List Nat)) (x := 0) (n := 271) (by simp only [List.length_append, List.length_replicate, List.length_cons, List.length_nil]) (by omega)).1
  rw [this]
  have e2 : whole ([0, 1] ++ List.replicate 62 0 : List Nat) = ([[0, 1] ++ List.replicate 62 0], [0]) := by decide +kernel
  rw [e2]
  have n1 : ¬ (List.replicate 64 0 : List Nat) ∈ [[0, 1] ++ List.replicate 62 0] := by decide
  rw [numS_no n1]
  rfl
theorem parts_are {α : Type} [DecidableEq α] (vs : List α) : (partsV vs).top = (midsV vs).2 ∧ (partsV vs).mid = (midsV vs).1.flatten ∧ (partsV vs).low = (lowsV vs).1.flatten := ⟨rfl, rfl, rfl⟩
theorem known_parts (vs : List Int) (hvs : vs = valsF 0 [⟨65, 90, 1⟩]) : (partsV vs).top = [0] ++ List.replicate 271 1 ∧ (partsV vs).mid = ([0, 1] ++ List.replicate 62 0) ++ List.replicate 64 0 ∧ (partsV vs).low = List.replicate 64 0 ++ ([0] ++ List.replicate 26 1 ++ List.replicate 37 0) := by
  obtain ⟨h1, h2, h3⟩ := parts_are vs
  have hlo : lowsV vs = lowsV (oneV (0 : Int) 1) := congrArg lowsV (hvs.trans known_eq)
  have hmi : midsV vs = midsV (oneV (0 : Int) 1) := congrArg midsV (hvs.trans known_eq)
  rw [h1, h2, h3, hlo, hmi, tops_one (by decide), mids_one (by decide), lows_one (by decide)]
  refine ⟨rfl, ?_, ?_⟩
  · simp only [List.flatten_cons, List.flatten_nil, List.append_nil]
  · simp only [List.flatten_cons, List.flatten_nil, List.append_nil]
theorem known_at (r x : Int) (h : VU.atN r < 1114112) (hv : valF 0 [⟨65, 90, 1⟩] (VU.atN r) = x) : (valsF 0 [⟨65, 90, 1⟩])[VU.atN r]? = some x := by rw [valsF_at 0 _ h, hv]
theorem known_ref : (refP [⟨65, 90, 1⟩]).2 = 0 ∧ refP [⟨5, 4, 1⟩] = (0, 110) ∧ refP [⟨0, 9, 1⟩, ⟨32, 41, 1⟩, ⟨9, 15, 2⟩] = (2, 111) := by decide
theorem sp_three (w : World) (a b c d e f g h i : Int) : SpAt (w.alloc (.cells #[.int .i32 a, .int .i32 b, .int .u8 c, .int .i32 d, .int .i32 e, .int .u8 f, .int .i32 g, .int .i32 h, .int .u8 i] 72)) (some ⟨w.heap.size, 0, none⟩) [⟨a, b, c⟩, ⟨d, e, f⟩, ⟨g, h, i⟩] := fun _ => by
  refine ⟨w.heap.size, 0, rfl, by simp, fun j u hj => ?_⟩
  rw [Nat.zero_add, World.cell?_alloc_mark]
  have e : cellsP [(⟨a, b, c⟩ : Pc Int), ⟨d, e, f⟩, ⟨g, h, i⟩] = [.int .i32 a, .int .i32 b, .int .u8 c, .int .i32 d, .int .i32 e, .int .u8 f, .int .i32 g, .int .i32 h, .int .u8 i] := rfl
  rw [e] at hj
  simpa using hj
end Go.Proofs.Ytokillomaemocaa.VK

/-
  The document's answer for layer 5: Short, Long, Letter.
-/
import Derived.Test.YtkpmcojoiijonaaWoG
namespace Go.Proofs.Ytkpmcojoiijonaa
open Go.RowKit Go.PlainAid Go.Lib
set_option linter.unusedVariables false

abbrev shortVs : List Value := [.string ⟨#[]⟩, .string ⟨#[76]⟩, .string ⟨#[82]⟩, .string ⟨#[65, 76]⟩, .string ⟨#[69, 78]⟩, .string ⟨#[69, 83]⟩, .string ⟨#[69, 84]⟩, .string ⟨#[65, 78]⟩, .string ⟨#[67, 83]⟩, .string ⟨#[78, 83, 77]⟩, .string ⟨#[66, 78]⟩, .string ⟨#[66]⟩, .string ⟨#[83]⟩, .string ⟨#[87, 83]⟩, .string ⟨#[79, 78]⟩, .string ⟨#[76, 82, 69]⟩, .string ⟨#[76, 82, 79]⟩, .string ⟨#[82, 76, 69]⟩, .string ⟨#[82, 76, 79]⟩, .string ⟨#[80, 68, 70]⟩, .string ⟨#[76, 82, 73]⟩, .string ⟨#[82, 76, 73]⟩, .string ⟨#[70, 83, 73]⟩, .string ⟨#[80, 68, 73]⟩]
abbrev longVs : List Value := [.string ⟨#[]⟩, .string ⟨#[76, 101, 102, 116, 95, 84, 111, 95, 82, 105, 103, 104, 116]⟩, .string ⟨#[82, 105, 103, 104, 116, 95, 84, 111, 95, 76, 101, 102, 116]⟩, .string ⟨#[65, 114, 97, 98, 105, 99, 95, 76, 101, 116, 116, 101, 114]⟩, .string ⟨#[69, 117, 114, 111, 112, 101, 97, 110, 95, 78, 117, 109, 98, 101, 114]⟩, .string ⟨#[69, 117, 114, 111, 112, 101, 97, 110, 95, 83, 101, 112, 97, 114, 97, 116, 111, 114]⟩, .string ⟨#[69, 117, 114, 111, 112, 101, 97, 110, 95, 84, 101, 114, 109, 105, 110, 97, 116, 111, 114]⟩, .string ⟨#[65, 114, 97, 98, 105, 99, 95, 78, 117, 109, 98, 101, 114]⟩, .string ⟨#[67, 111, 109, 109, 111, 110, 95, 83, 101, 112, 97, 114, 97, 116, 111, 114]⟩, .string ⟨#[78, 111, 110, 115, 112, 97, 99, 105, 110, 103, 95, 77, 97, 114, 107]⟩, .string ⟨#[66, 111, 117, 110, 100, 97, 114, 121, 95, 78, 101, 117, 116, 114, 97, 108]⟩, .string ⟨#[80, 97, 114, 97, 103, 114, 97, 112, 104, 95, 83, 101, 112, 97, 114, 97, 116, 111, 114]⟩, .string ⟨#[83, 101, 103, 109, 101, 110, 116, 95, 83, 101, 112, 97, 114, 97, 116, 111, 114]⟩, .string ⟨#[87, 104, 105, 116, 101, 95, 83, 112, 97, 99, 101]⟩, .string ⟨#[79, 116, 104, 101, 114, 95, 78, 101, 117, 116, 114, 97, 108]⟩, .string ⟨#[76, 101, 102, 116, 95, 84, 111, 95, 82, 105, 103, 104, 116, 95, 69, 109, 98, 101, 100, 100, 105, 110, 103]⟩, .string ⟨#[76, 101, 102, 116, 95, 84, 111, 95, 82, 105, 103, 104, 116, 95, 79, 118, 101, 114, 114, 105, 100, 101]⟩, .string ⟨#[82, 105, 103, 104, 116, 95, 84, 111, 95, 76, 101, 102, 116, 95, 69, 109, 98, 101, 100, 100, 105, 110, 103]⟩, .string ⟨#[82, 105, 103, 104, 116, 95, 84, 111, 95, 76, 101, 102, 116, 95, 79, 118, 101, 114, 114, 105, 100, 101]⟩, .string ⟨#[80, 111, 112, 95, 68, 105, 114, 101, 99, 116, 105, 111, 110, 97, 108, 95, 70, 111, 114, 109, 97, 116]⟩, .string ⟨#[76, 101, 102, 116, 95, 84, 111, 95, 82, 105, 103, 104, 116, 95, 73, 115, 111, 108, 97, 116, 101]⟩, .string ⟨#[82, 105, 103, 104, 116, 95, 84, 111, 95, 76, 101, 102, 116, 95, 73, 115, 111, 108, 97, 116, 101]⟩, .string ⟨#[70, 105, 114, 115, 116, 95, 83, 116, 114, 111, 110, 103, 95, 73, 115, 111, 108, 97, 116, 101]⟩, .string ⟨#[80, 111, 112, 95, 68, 105, 114, 101, 99, 116, 105, 111, 110, 97, 108, 95, 73, 115, 111, 108, 97, 116, 101]⟩]
theorem short_at (k : Nat) (h : k < 24) : shortVs[k]? = some (.string (shortS (k : Int))) := by
  match k, h with
  | 0, _ => rfl
  | 1, _ => rfl
  | 2, _ => rfl
  | 3, _ => rfl
  | 4, _ => rfl
  | 5, _ => rfl
  | 6, _ => rfl
  | 7, _ => rfl
  | 8, _ => rfl
  | 9, _ => rfl
  | 10, _ => rfl
  | 11, _ => rfl
  | 12, _ => rfl
  | 13, _ => rfl
  | 14, _ => rfl
  | 15, _ => rfl
  | 16, _ => rfl
  | 17, _ => rfl
  | 18, _ => rfl
  | 19, _ => rfl
  | 20, _ => rfl
  | 21, _ => rfl
  | 22, _ => rfl
  | 23, _ => rfl
  | k + 24, h => exact absurd h (by omega)
theorem long_at (k : Nat) (h : k < 24) : longVs[k]? = some (.string (longS (k : Int))) := by
  match k, h with
  | 0, _ => rfl
  | 1, _ => rfl
  | 2, _ => rfl
  | 3, _ => rfl
  | 4, _ => rfl
  | 5, _ => rfl
  | 6, _ => rfl
  | 7, _ => rfl
  | 8, _ => rfl
  | 9, _ => rfl
  | 10, _ => rfl
  | 11, _ => rfl
  | 12, _ => rfl
  | 13, _ => rfl
  | 14, _ => rfl
  | 15, _ => rfl
  | 16, _ => rfl
  | 17, _ => rfl
  | 18, _ => rfl
  | 19, _ => rfl
  | 20, _ => rfl
  | 21, _ => rfl
  | 22, _ => rfl
  | 23, _ => rfl
  | k + 24, h => exact absurd h (by omega)
theorem short_out (c : Int) (h : 24 ≤ c) : shortS c = ⟨#[]⟩ := by
  unfold shortS
  rw [if_neg (by omega), if_neg (by omega), if_neg (by omega), if_neg (by omega), if_neg (by omega), if_neg (by omega), if_neg (by omega), if_neg (by omega), if_neg (by omega), if_neg (by omega), if_neg (by omega), if_neg (by omega), if_neg (by omega), if_neg (by omega), if_neg (by omega), if_neg (by omega), if_neg (by omega), if_neg (by omega), if_neg (by omega), if_neg (by omega), if_neg (by omega), if_neg (by omega), if_neg (by omega)]
theorem long_out (c : Int) (h : 24 ≤ c) : longS c = ⟨#[]⟩ := by
  unfold longS
  rw [if_neg (by omega), if_neg (by omega), if_neg (by omega), if_neg (by omega), if_neg (by omega), if_neg (by omega), if_neg (by omega), if_neg (by omega), if_neg (by omega), if_neg (by omega), if_neg (by omega), if_neg (by omega), if_neg (by omega), if_neg (by omega), if_neg (by omega), if_neg (by omega), if_neg (by omega), if_neg (by omega), if_neg (by omega), if_neg (by omega), if_neg (by omega), if_neg (by omega), if_neg (by omega)]
theorem cell_list (w : World) (vs : List Value) (t : TypeId) (k : Nat) (v : Value) (h : vs[k]? = some v) : (w.alloc (.cells vs.toArray t)).cell? ⟨w.heap.size, k, none⟩ = some v := by
  have e := heap_alloc_new w (.cells vs.toArray t)
  simp only [World.cell?, e]
  simpa using h
set_option maxRecDepth 100000 in
set_option maxHeartbeats 1000000 in
theorem rShort_any (c : Int) (w : World) (h0 : 0 ≤ c) (h1 : c ≤ 255) :
    Calls Try.prog 29 #[.int .u8 c] w fun e w' => e = .returned (.string (shortS c)) ∧ Below w.heap.size w w' := by
  obtain ⟨k, rfl⟩ : ∃ k : Nat, c = k := ⟨c.toNat, by omega⟩
  by_cases hk : k < 24
  · have hc := cell_list w shortVs 9 k _ (short_at k hk)
    have hk' : (k : Int) < 24 := by omega
    generalize shortS (k : Int) = sh at *
    go_enter Try.func29, Try.ntmps29
    go_wp2
    go_ret
    exact ⟨rfl, (Below.refl _ _).alloc (Nat.le_refl _) _⟩
  · have hk' : (24 : Int) ≤ k := by omega
    rw [short_out _ hk']
    go_enter Try.func29, Try.ntmps29
    go_wp2
    go_ret
    exact ⟨rfl, (Below.refl _ _).alloc (Nat.le_refl _) _⟩
set_option maxRecDepth 100000 in
set_option maxHeartbeats 1000000 in
theorem rLong_any (c : Int) (w : World) (h0 : 0 ≤ c) (h1 : c ≤ 255) :
    Calls Try.prog 30 #[.int .u8 c] w fun e w' => e = .returned (.string (longS c)) ∧ Below w.heap.size w w' := by
  obtain ⟨k, rfl⟩ : ∃ k : Nat, c = k := ⟨c.toNat, by omega⟩
  by_cases hk : k < 24
  · have hc := cell_list w longVs 9 k _ (long_at k hk)
    have hk' : (k : Int) < 24 := by omega
    generalize longS (k : Int) = sh at *
    go_enter Try.func30, Try.ntmps30
    go_wp2
    go_ret
    exact ⟨rfl, (Below.refl _ _).alloc (Nat.le_refl _) _⟩
  · have hk' : (24 : Int) ≤ k := by omega
    rw [long_out _ hk']
    go_enter Try.func30, Try.ntmps30
    go_wp2
    go_ret
    exact ⟨rfl, (Below.refl _ _).alloc (Nat.le_refl _) _⟩
set_option maxRecDepth 100000 in
set_option maxHeartbeats 1000000 in
theorem rLetter_any (s : Int) (w : World) (h0 : 0 ≤ s) (h1 : s ≤ 255) :
    Calls Try.prog 28 #[.int .u8 s] w fun e w' => e = .returned (.tuple #[.string (letterS s), .int .i64 (letterE s)]) ∧ Below w.heap.size w w' := by
  by_cases h2 : 2 < s
  · have e1 : letterS s = ⟨#[]⟩ := by unfold letterS; rw [if_neg (by omega), if_neg (by omega), if_neg (by omega)]
    have e2 : letterE s = 2 := by unfold letterE; rw [if_neg (by omega)]
    rw [e1, e2]
    clear e1 e2
    go_enter Try.func28, Try.ntmps28
    go_wp2
    go_ret2
    exact ⟨rfl, Below.refl _ _⟩
  · obtain rfl | rfl | rfl : s = 0 ∨ s = 1 ∨ s = 2 := by omega
    all_goals
      have hcv : ∀ b : Int, (convert 55 9 (.slice (some ⟨w.heap.size, 0, none⟩) 1 1)).run Try.prog (w.alloc (.cells #[.int .u8 b] 5)) = .ok (.string (byte1 b)) (w.alloc (.cells #[.int .u8 b] 5)) := by
        intro b
        rw [run_convert_bytes_string (P := Try.prog) _ 55 9 5 _ _ _ Try.underlying55 Try.underlying5 Try.underlying9]
        rw [run_bytesToString (P := Try.prog) (w.alloc (.cells #[.int .u8 b] 5)) ⟨w.heap.size, 0, none⟩ 1 1 [b] (by simp [loadCells, go_sem])]
        rfl
      go_enter Try.func28, Try.ntmps28
      go_wp2
      go_ret2
      exact ⟨rfl, by go_grown⟩
end Go.Proofs.Ytkpmcojoiijonaa

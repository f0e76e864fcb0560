/-
  The document's linear map.
-/
import Derived.Test.YtdbfpmelhokeoaaDoorSuC
import Derived.Test.YtdbfpmelhokeoaaDoorSuO2
namespace Go.Proofs.YtdbfpmelhokeoaaDoor
open Go.RowKit Go.PlainAid Go.Lib Go.SuM
set_option linter.unusedVariables false
set_option linter.unusedSimpArgs false
/-- what becomes of each bit in M steps -/
def linA (M : Nat) : Array Value := ((List.range 32).map fun (i : Nat) => Value.int .u32 ((stn M (2 ^ i) : Nat) : Int)).toArray
theorem linA_get (M i : Nat) (h : i < 32) : (linA M)[i]? = some (.int .u32 ((stn M (2 ^ i) : Nat) : Int)) := by
  unfold linA
  simp [h]
theorem linA_size (M : Nat) : (linA M).size = 32 := by simp [linA]
theorem pow_lt32 {i : Nat} (h : i < 32) : 2 ^ i < 4294967296 := Nat.pow_lt_pow_right (a := 2) (m := i) (n := 32) (by decide) h
set_option maxHeartbeats 1000000 in
theorem by_any (M a : Nat) (ha : a < 4294967296) (w : World) : Calls Tryd.prog 51 #[.agg (linA M), .int .u32 (a : Int)] w fun e w' => e = .returned (.int .u32 ((stn M a : Nat) : Int)) ∧ Below w.heap.size w w' := by
  have hcell : ∀ i, i < 32 → (w.alloc (.cells (linA M) 73)).cell? ⟨w.heap.size, i, none⟩ = some (.int .u32 ((stn M (2 ^ i) : Nat) : Int)) := fun i hi => by
    rw [World.cell?_alloc_mark]
    exact linA_get M i hi
  have HC := hide hcell
  have HB : Hid (Below w.heap.size w (w.alloc (.cells (linA M) 73))) := (Below.refl _ _).alloc (Nat.le_refl _) _
  clear hcell
  go_enter Tryd.func51, Tryd.ntmps51
  go_wp2
  generalize w.alloc (.cells (linA M) 73) = W at *
  go_loop [5, 6] (fun v5 v6 => ∃ i : Nat, i ≤ 32 ∧ v6 = .int .i64 (i : Int) ∧ v5 = .int .u32 ((stn M (a % 2 ^ i) : Nat) : Int)) (fun _ v6 => 32 - (intOf v6).toNat)
  case atStart => exact ⟨0, by decide, rfl, int_eq (by rw [Nat.pow_zero, Nat.mod_one, stn_zero]; rfl)⟩
  case round =>
    obtain ⟨i, hi, rfl, rfl⟩ := hrel
    have hml : a % 2 ^ i < 4294967296 := Nat.lt_of_le_of_lt (Nat.mod_le _ _) ha
    have hol := stn_lt M hml
    by_cases hlt : i < 32
    · obtain ⟨d, hd⟩ : ∃ d, d = a / 2 ^ i := ⟨_, rfl⟩
      have hsh : ((a : Int) / 2 ^ i) = (d : Int) := by rw [hd, Int.natCast_ediv, Int.natCast_pow]; rfl
      have hdl : d < 4294967296 := by rw [hd]; exact Nat.lt_of_le_of_lt (Nat.div_le_self _ _) ha
      have ha1 := u32and1 d hdl
      have hcl := unhide HC i hlt
      have hpl := stn_lt M (pow_lt32 hlt)
      by_cases hbit : d % 2 = 1
      · have hb' : ((d : Int) % 2 == 1) = true := by rw [beq_iff_eq]; omega
        have HN := hide (by_one M a i (by rw [← hd]; exact hbit))
        have hx := u32x _ _ hol hpl
        generalize stn M (a % 2 ^ i) = o at *
        generalize stn M (2 ^ i) = p at *
        clear hbit hd hml
        go_wp2
        go_round
        case rel => exact ⟨i + 1, by omega, by go_num, int_eq (by rw [unhide HN])⟩
        case measure => simp [intOf]; omega
      · have hb' : ((d : Int) % 2 == 1) = false := by rw [beq_eq_false_iff_ne]; omega
        have HN := hide (by_nil M a i (by rw [← hd]; exact hbit))
        generalize stn M (a % 2 ^ i) = o at *
        clear hbit hd hml
        go_wp2
        go_round
        case rel => exact ⟨i + 1, by omega, by go_num, int_eq (by rw [unhide HN])⟩
        case measure => simp [intOf]; omega
    · have hi32 : i = 32 := by omega
      have HE : Hid (stn M (a % 2 ^ i) = stn M a) := by show _ = _; rw [hi32, Nat.mod_eq_of_lt ha]
      generalize stn M (a % 2 ^ i) = o at *
      clear hml hi32
      go_wp2
      go_ret
      exact ⟨ret_int (by rw [unhide HE]), unhide HB⟩
/-- the array at g -/
def Arr (w : World) (g : Nat) (cur : Array Value) : Prop := w.heap[g]? = some (.cells cur 73 (0, 0)) ∧ cur.size = 32 ∧ ∀ j, j < 32 → ∃ x : Nat, cur[j]? = some (.int .u32 (x : Int))
theorem Arr.cell {w : World} {g : Nat} {cur : Array Value} (h : Arr w g cur) (j : Nat) {v : Value} (hv : cur[j]? = some v) : w.cell? ⟨g, j, none⟩ = some v := by simp [World.cell?, h.1, hv]
theorem Arr.frozen {w : World} {g : Nat} {cur : Array Value} (h : Arr w g cur) (j : Nat) : w.frozen? ⟨g, j, none⟩ = false := by simp [World.frozen?, h.1]
theorem Arr.set {w : World} {g : Nat} {cur : Array Value} (h : Arr w g cur) (j : Nat) (x : Nat) : Arr (w.setCell ⟨g, j, none⟩ (.int .u32 (x : Int))) g (cur.setIfInBounds j (.int .u32 (x : Int))) := by
  refine ⟨?_, by rw [Array.size_setIfInBounds]; exact h.2.1, fun k hk => ?_⟩
  · simp only [World.setCell, Array.getElem?_modify, if_true, h.1, Option.map_some]
    simp
  · rw [Array.getElem?_setIfInBounds]
    split
    · rw [if_pos (by rw [h.2.1]; omega)]; exact ⟨x, rfl⟩
    · exact h.2.2 k hk
theorem Arr.keep {w w' : World} {g : Nat} {cur : Array Value} (h : Arr w g cur) (hb : w'.heap[g]? = w.heap[g]?) : Arr w' g cur := ⟨hb.trans h.1, h.2⟩
theorem Arr.lt {w : World} {g : Nat} {cur : Array Value} (h : Arr w g cur) : g < w.heap.size := (Array.getElem?_eq_some_iff.1 h.1).1
theorem Arr.one {w : World} {g : Nat} {cur : Array Value} (h : Arr w g cur) : cur.all (·.oneCell') = true := by
  rw [Array.all_eq_true]
  intro j hj
  obtain ⟨x, hx⟩ := h.2.2 j (by rw [h.2.1] at hj; exact hj)
  rw [Array.getElem?_eq_getElem hj] at hx
  rw [Option.some.inj hx]
  rfl
theorem Arr.load {w : World} {g : Nat} {cur : Array Value} (h : Arr w g cur) : (Instr.loadAt 73 (.pointer (some ⟨g, 0, none⟩))).run Tryd.prog w = .ok (.agg cur) w := by
  have := run_loadCells_list (P := Tryd.prog) w ⟨g, 0, none⟩ cur.toList (fun j v hv => by
    rw [Addr.add_lit, Nat.zero_add]
    exact h.cell j (by simpa using hv))
  rw [Array.length_toList, h.2.1] at this
  have hag : (isAgg 73).run Tryd.prog w = .ok true w := by kernel_rfl
  have hso : (sizeOf 73).run Tryd.prog w = .ok 32 w := by kernel_rfl
  simp only [Instr.loadAt, Instr.sureAddr, Sem.run_bind, Sem.run_pure, Result.andThen, loadVar, hag, hso, this, if_true, Array.toArray_toList]
end Go.Proofs.YtdbfpmelhokeoaaDoor

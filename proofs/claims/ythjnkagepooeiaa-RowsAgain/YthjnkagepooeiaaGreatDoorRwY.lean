/-
  The walk over the lines: whether a Last says what its First says.
-/
import Derived.Test.YthjnkagepooeiaaGreatDoorRwW
import Derived.Lib.QuietBelow
namespace Go.Proofs.YthjnkagepooeiaaGreatDoor
open Go.RowKit Go.PlainAid Go.Lib Go.PHexM Go.Shelf Go.Sort
set_option linter.unusedVariables false
set_option linter.unusedSimpArgs false

theorem texts_eq (l l' : List (List UInt8)) : (l.map S = l'.map S) ↔ l = l' := by
  constructor
  · intro h
    have := congrArg (List.map L) h
    simp only [List.map_map] at this
    have e : (L ∘ S) = id := by funext x; exact L_S x
    rwa [e, List.map_id, List.map_id] at this
  · rintro rfl; rfl
theorem tx_some {w : World} {a : Option Addr} {f : List (List UInt8)} (h : TxG w a f) (h15 : f.length = 15) : ∃ g o, a = some ⟨g, o, none⟩ := by
  obtain ⟨x0, hx0⟩ : ∃ x, f[0]? = some x := ⟨_, List.getElem?_eq_getElem (by omega)⟩
  obtain ⟨g, o, rfl, _⟩ := h 0 x0 hx0
  exact ⟨g, o, rfl⟩
theorem equal_at (g o g' o' c c' : Nat) (f f' : List (List UInt8)) (w : World) (h15 : f.length = 15) (h15' : f'.length = 15) (hT : TxG w (some ⟨g, o, none⟩) f) (hT' : TxG w (some ⟨g', o', none⟩) f') :
    Calls Tryz.prog 102 #[.slice (some ⟨g, o + 2, none⟩) 13 c, .slice (some ⟨g', o' + 2, none⟩) 13 c'] w fun e w' => e = .returned (.bool (decide (f.drop 2 = f'.drop 2))) ∧ Below w.heap.size w w' := by
  have key : ∀ (g o : Nat) (f : List (List UInt8)), TxG w (some ⟨g, o, none⟩) f → ∀ j, j < ((f.drop 2).map S).length → w.cell? ⟨g, o + 2 + j, none⟩ = some (.string (((f.drop 2).map S).getD j ByteArray.empty)) := by
    intro g o f h j hj
    simp only [List.length_map, List.length_drop] at hj
    obtain ⟨x, hx⟩ : ∃ x, f[j + 2]? = some x := ⟨_, List.getElem?_eq_getElem (by omega)⟩
    obtain ⟨g2, o2, e, hc⟩ := h (j + 2) x hx
    injection e with e
    injection e with e1 e2
    subst e1; subst e2
    rw [show o + 2 + j = o + (j + 2) by omega, hc, List.getD_eq_getElem?_getD, List.getElem?_map, List.getElem?_drop, Nat.add_comm 2 j, hx]
    rfl
  have hl : ((f.drop 2).map S).length = 13 := by simp [h15]
  have hl' : ((f'.drop 2).map S).length = 13 := by simp [h15']
  refine (Tryz.slices_Equal_string g (o + 2) 13 c g' (o' + 2) 13 c' ((f.drop 2).map S) ((f'.drop 2).map S) w (by omega) (by omega) (by omega) (by omega) (key g o f hT) (key g' o' f' hT')).mono ?_
  rintro e w' ⟨rfl, q, rfl⟩
  refine ⟨?_, below_drewN (Below.refl _ _) q⟩
  rw [List.take_of_length_le (by omega), List.take_of_length_le (by omega)]
  congr 2
  exact decide_eq_decide.2 (texts_eq _ _)

set_option maxRecDepth 100000 in
set_option maxHeartbeats 2000000 in
theorem askPair_any (wb eb : Nat) (a : Int) (d d' : LineD) (x x' : Option Addr) (n n' c c' : Nat) (r r' : RowD) (k k' : Int) (w : World) (hw : Blk w wb (walkC a d' (.slice x' n' c') r' k') 135) (he : Blk w eb (entC d (.slice x n c) r k) 133)
    (hk : k = 2 → n = 15 ∧ n' = 15 ∧ 15 ≤ c ∧ 15 ≤ c' ∧ d.fields.length = 15 ∧ d'.fields.length = 15 ∧ TxG w x d.fields ∧ TxG w x' d'.fields) :
    Calls Tryz.prog 72 #[.pointer (some ⟨wb, 0, none⟩), .pointer (some ⟨eb, 0, none⟩)] w fun e w' => e = .returned (.int .i64 (if k = 2 ∧ d.fields.drop 2 ≠ d'.fields.drop 2 then 67 else 0)) ∧ Below w.heap.size w w' := by
  have c3 := he.cell (j := 3) rfl
  have c14 := he.cell (j := 14) rfl
  have c4 := hw.cell (j := 4) rfl
  clear hw he
  by_cases h2 : k = 2
  · obtain ⟨rfl, rfl, hc, hc', h15, h15', hT, hT'⟩ := hk h2
    subst h2
    clear hk
    obtain ⟨g, o, rfl⟩ := tx_some hT h15
    obtain ⟨g', o', rfl⟩ := tx_some hT' h15'
    have HEQ := hide (fun dq os => equal_at g o g' o' (c - 2) (c' - 2) d.fields d'.fields (Sort.grow (redrawn w dq) os) h15 h15' (hT.below (below_regrown w dq os)) (hT'.below (below_regrown w dq os)))
    have y3 := fun dq os => cell_regrown c3 dq os
    have y14 := fun dq os => cell_regrown c14 dq os
    have y4 := fun dq os => cell_regrown c4 dq os
    have hcI : (15 : Int) ≤ (c : Int) := by omega
    have hcI' : (15 : Int) ≤ (c' : Int) := by omega
    obtain ⟨B, hB⟩ : ∃ B, decide (d.fields.drop 2 = d'.fields.drop 2) = B := ⟨_, rfl⟩
    rw [hB] at HEQ
    have hres : (if (2 : Int) = 2 ∧ d.fields.drop 2 ≠ d'.fields.drop 2 then (67 : Int) else 0) = if B = false then 67 else 0 := by
      rw [← hB]; simp
    rw [hres]
    clear hres hB hT hT' h15 h15'
    cases B
    all_goals (
      simp only [if_true, Bool.true_eq_false, if_false]
      go_enter Tryz.func72, Tryz.ntmps72
      go_wp2_with fail
      refine wp_region_quiet_below (by kernel_rfl) (by kernel_rfl) ?_
      repeat (go_big_quiet_step (first | (go_at_call 102; with_reducible exact Calls.regrown_of (unhide HEQ _ _))))
      refine wpQuiet_nil ?_
      intro _ hw'
      obtain ⟨⟨dq, osq⟩, hw''⟩ := hw'
      subst hw''
      have hb5 : Below w.heap.size w (Sort.grow (redrawn w dq) osq) := below_regrown w dq osq
      generalize Sort.grow (redrawn w dq) osq = W5 at hb5 ⊢
      simp only [Exit.then]
      clear y3 y14 y4
      go_wp2
      go_ret
      exact ⟨rfl, hb5⟩)
  · have h2' : (k == 2) = false := by simpa using h2
    rw [if_neg (by intro h; exact h2 h.1)]
    clear hk h2
    go_enter Tryz.func72, Tryz.ntmps72
    go_wp2
    go_quiet (fail)
    go_wp2
    go_ret
    exact ⟨rfl, below_drewN (Below.refl _ _) _⟩
end Go.Proofs.YthjnkagepooeiaaGreatDoor

/-
  Seal and Open.
-/
import Derived.Test.YteakbnogfnbpkaaGreatDoorSuPD
import Derived.BigQuiet
import Derived.Deep.QuietTactic
import Derived.Lib.BufferRead
namespace Go.Proofs.YteakbnogfnbpkaaGreatDoor
open Go.RowKit Go.PlainAid Go.Lib Go.SuM
set_option linter.unusedVariables false
set_option linter.unusedSimpArgs false
theorem FoursAt.below {w w' : World} (h : FoursAt w) (hb : Below w.heap.size w w') : FoursAt w' := fun i hi =>
  (hb.cell (World.block_lt_of_cell? _ _ (h i hi))).trans (h i hi)
def BA (l : List UInt8) : ByteArray := ⟨l.toArray⟩
theorem LS_BA (l : List UInt8) : LS (BA l) = l := by simp [LS, BA]
theorem BA_LS (s : ByteArray) : BA (LS s) = s := by cases s; simp [LS, BA]
theorem BA_size (l : List UInt8) : (BA l).size = l.length := by rw [← LS_len, LS_BA]
theorem OwnB.str {w : World} {B : Nat} {v : Value} {l : List UInt8} (h : OwnB w B v l) : (convert 223 9 v).run Tryz.prog w = .ok (.string (BA l)) w := by
  rcases h.2 with ⟨rfl, h0⟩ | ⟨g, cap, cur, rfl, hb, hh, hc, hm, hs, ht⟩
  · have : l = [] := List.length_eq_zero_iff.1 h0
    subst this
    exact run_convert_nil_bytes w _ _ _ 0 Tryz.underlying223 Tryz.underlying5 Tryz.underlying9
  · exact run_convert_bytes_back (P := Tryz.prog) w 223 9 5 ⟨g, 0, none⟩ cap l Tryz.underlying223 Tryz.underlying5 Tryz.underlying9 (fun j hj => by
      refine World.ownsRow.cells h (g := g) rfl j _ ?_
      unfold bytesV
      rw [List.getElem?_map, List.getElem?_eq_getElem hj]
      rfl)
theorem crc_one (s : ByteArray) (hs : s.size ≤ maxLen) (w : World) (hf : FoursAt w) : Calls Tryz.prog 135 #[.slice (some ⟨w.heap.size, 0, none⟩) 1 1] (w.alloc (.cells #[.string s] 9)) fun e w' => e = .returned (.int .u32 ((more 0 (LS s) : Nat) : Int)) ∧ w' = w.alloc (.cells #[.string s] 9) := by
  have hb1 : Below w.heap.size w (w.alloc (.cells #[.string s] 9)) := (Below.refl _ _).alloc (Nat.le_refl _) _
  exact crc_any [s] (some ⟨w.heap.size, 0, none⟩) 1 (w.alloc (.cells #[.string s] 9)) (hf.below hb1) ⟨fun _ => ⟨_, _, rfl, fun i hi => by
    obtain rfl : i = 0 := by simp at hi; exact hi
    simp⟩, fun x hx => by rw [List.mem_singleton.1 hx]; exact hs⟩ (by simp [maxLen]) (by simp [maxLen])
theorem put_one (c : Nat) (hc : c < 4294967296) (W : World) : Calls Tryz.prog 134 #[.slice none 0 0, .slice (some ⟨W.heap.size, 0, none⟩) 1 1] (W.alloc (.cells #[.int .u32 (c : Int)] 101)) fun e w' => ∃ s', e = .returned s' ∧ (convert 223 9 s').run Tryz.prog w' = .ok (.string (BA (le 4 c))) w' ∧ Below W.heap.size W w' := by
  refine (ND.put_any [] none 0 [c] (some ⟨W.heap.size, 0, none⟩) 1 (W.alloc (.cells #[.int .u32 (c : Int)] 101)) (fun h => absurd rfl h) (fun a h => by cases h) ⟨fun _ => ⟨_, _, rfl, by simp, fun i hi => by
    obtain rfl : i = 0 := by simp at hi; exact hi
    simp⟩, fun x hx => by rw [List.mem_singleton.1 hx]; exact hc⟩ (by simp)).mono ?_
  rintro e w4 ⟨s4, rfl, hO4, hb4⟩
  refine ⟨s4, rfl, ?_, ((Below.refl _ _).alloc (Nat.le_refl _) _).trans (hb4.mono (by simp))⟩
  have := hO4.str
  rwa [show [] ++ ND.laidL [c] = le 4 c by simp [ND.laidL]] at this
theorem sum_any (s : ByteArray) (hs : s.size ≤ maxLen) (w : World) (hf : FoursAt w) : Calls Tryz.prog 88 #[.string s] w fun e w' => e = .returned (.string (BA (le 4 (more 0 (LS s))))) ∧ Below w.heap.size w w' := by
  have HC := hide (crc_one s hs w hf)
  have hcl := more_lt 0 (LS s)
  have hp := put_one (more 0 (LS s)) hcl (w.alloc (.cells #[.string s] 9))
  rw [show (w.alloc (.cells #[.string s] 9)).heap.size = w.heap.size + 1 by simp] at hp
  have HP := hide hp
  clear hp
  generalize more 0 (LS s) = c at *
  have HB1 : Hid (Below w.heap.size w (w.alloc (.cells #[.string s] 9))) := (Below.refl _ _).alloc (Nat.le_refl _) _
  clear hf
  go_enter Tryz.func88, Tryz.ntmps88
  go_wp2_with (first | (go_at_call 135; with_reducible refine (unhide HC).mono ?_; rintro e w' ⟨rfl, rfl⟩) | (go_at_call 134; with_reducible refine (unhide HP).mono ?_; rintro e w4 ⟨s4, rfl, hcv, hb4⟩))
  go_ret
  exact ⟨rfl, (unhide HB1).trans (hb4.mono (by simp))⟩
end Go.Proofs.YteakbnogfnbpkaaGreatDoor

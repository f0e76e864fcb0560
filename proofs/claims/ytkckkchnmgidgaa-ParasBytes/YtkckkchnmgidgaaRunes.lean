/-
  Runes, Encode of package utf: the conversions between texts and lists of runes.
-/
import Derived.Test.YtkckkchnmgidgaaLast
import Derived.Laws.IdiomStrings
import Derived.Laws.Cover4
namespace Go.Proofs.Ytkckkchnmgidgaa
open Go.RowKit Go.PlainAid Go.Lib

/-- what a text stands for, as values -/
def runeVals (s : ByteArray) : List Value := (chars s 0).map fun p => .int .i32 (p.2 : Nat)
theorem runeVals_len (s : ByteArray) : (runeVals s).length = (chars s 0).length := by simp [runeVals]
theorem runesFrom_chars (s : ByteArray) : ∀ (b i : Nat) (acc : Array Value), Conv.runesFrom s b i acc = acc ++ ((charsF s b i).map fun p => Value.int .i32 (p.2 : Nat)).toArray := by
  intro b
  induction b with
  | zero => intro i acc; simp [Conv.runesFrom, charsF]
  | succ b ih =>
    intro i acc
    unfold Conv.runesFrom charsF
    by_cases h : i < s.size
    · simp only [h, if_true]
      rw [ih]
      simp
    · simp [h]
theorem runesFrom_vals (s : ByteArray) : Conv.runesFrom s s.size 0 #[] = (runeVals s).toArray := by
  rw [runesFrom_chars]; simp [runeVals, chars]

set_option maxRecDepth 100000 in
theorem runes_any (s : ByteArray) (w : World) (hs : s.size ≤ 70368744177664) :
    Calls Try.prog 45 #[.string s] w fun e w' => ∃ cap, e = .returned (.slice (some ⟨w.heap.size, 0, none⟩) (chars s 0).length cap) ∧
      w'.ownsRow w.heap.size 21 1 (.slice (some ⟨w.heap.size, 0, none⟩) (chars s 0).length cap) (chars s 0).length (runeVals s) ∧ Below w.heap.size w w' := by
  have hl := chars_length s 0
  have hsz : (Conv.runesFrom s s.size 0 #[]).size = (chars s 0).length := by rw [runesFrom_vals]; simp [runeVals]
  have hconv := run_runes_of_string (P := Try.prog) w 9 26 21 s Try.underlying9 Try.underlying26 Try.underlying21 (by omega)
  rw [runesFrom_vals] at hconv
  have hrl := runeVals_len s
  have hge := grownCap_ge w (chars s 0).length 0 21
  have hle := grownCap_le_maxLen w (chars s 0).length 0 21 (by unfold maxLen; omega)
  simp only [List.size_toArray, hrl] at hconv
  clear hl hsz
  generalize grownCap w (chars s 0).length 0 21 = cap at *
  generalize (chars s 0).length = n at *
  generalize runeVals s = rv at *
  have HC : Hid (rv.length = n) := hrl
  clear hrl
  go_enter Try.func45, Try.ntmps45
  go_wp2
  go_ret
  refine ⟨cap, rfl, ?_, by go_grown⟩
  refine ⟨by rw [HC.out]; omega, .inr ⟨w.heap.size, cap, _, rfl, Nat.le_refl _, heap_alloc_new w.drew _, hge, hle, ?_, ?_⟩⟩
  · simp [HC.out]; omega
  · simp [← HC.out]

end Go.Proofs.Ytkckkchnmgidgaa

/-
  Runes, Encode of package utf: the conversions between texts and lists of runes.
-/
import Derived.Test.YtkpmcojoiijonaaLast
import Derived.Laws.IdiomStrings
import Derived.Laws.Cover4
namespace Go.Proofs.Ytkpmcojoiijonaa
open Go.RowKit Go.PlainAid Go.Lib

/-- what a text stands for, as values -/
def runeVals (s : ByteArray) : List Value := (chars s 0).map fun p => .int .i32 (p.2 : Nat)
theorem runeVals_len (s : ByteArray) : (runeVals s).length = (chars s 0).length := by simp [runeVals]
theorem runesFrom_chars (s : ByteArray) : ∀ (b i : Nat) (acc : Array Value), Conv.runesFrom s b i acc = acc ++ ((charsF s b i).map fun p => Value.int .i32 (p.2 : Nat)).toArray := by
  intro b
  induction b with
  | zero => intro i acc; simp [Conv.runesFrom, charsF]
  | succ b ih =>
    intro i acc
    unfold Conv.runesFrom charsF
    by_cases h : i < s.size
    · simp only [h, if_true]
      rw [ih]
      simp
    · simp [h]
theorem runesFrom_vals (s : ByteArray) : Conv.runesFrom s s.size 0 #[] = (runeVals s).toArray := by
  rw [runesFrom_chars]; simp [runeVals, chars]

theorem encode_nil (w : World) (l c : Nat) : Calls Try.prog 44 #[.slice none l c] w fun e w' => e = .returned (.string ByteArray.empty) ∧ w' = w := by
  have hconv := run_convert_runes_string (P := Try.prog) w 64 9 21 none l c Try.underlying64 Try.underlying21 Try.underlying9
  have h2 : (Conv.runesToString (.slice none l c)).run Try.prog w = .ok (.string ByteArray.empty) w := by simp [Conv.runesToString, Sem.run_pure]
  rw [h2] at hconv
  clear h2
  go_enter Try.func44, Try.ntmps44
  go_wp2
  go_ret
  exact ⟨rfl, rfl⟩

theorem encode_any (w : World) (a : Addr) (len cap : Nat) (zs : List Int) (hl : zs.length = len) (hc : ∀ j, j < zs.length → w.cell? (a.add j) = some (.int .i32 (zs.getD j 0))) :
    Calls Try.prog 44 #[.slice (some a) len cap] w fun e w' => e = .returned (.string (runesBytes zs)) ∧ w' = w := by
  have hconv := run_convert_runes (P := Try.prog) w 64 9 21 a len cap zs (by omega) Try.underlying64 Try.underlying21 Try.underlying9 hc
  rw [List.take_of_length_le (by omega)] at hconv
  clear hc hl
  go_enter Try.func44, Try.ntmps44
  go_wp2
  go_ret
  exact ⟨rfl, rfl⟩

end Go.Proofs.Ytkpmcojoiijonaa

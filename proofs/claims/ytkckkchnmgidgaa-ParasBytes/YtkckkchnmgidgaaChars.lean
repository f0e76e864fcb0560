/-
  The characters of a text with their places, as a list; Count, First of package utf.
-/
import Derived.Test.YtkckkchnmgidgaaMath
import Derived.Lib.OthersKept
namespace Go.Proofs.Ytkckkchnmgidgaa
open Go.RowKit Go.PlainAid

def charsF (s : ByteArray) : Nat → Nat → List (Nat × Nat)
  | 0, _ => []
  | f + 1, i => if i < s.size then (i, (Utf8.decode s i).1) :: charsF s f (i + (Utf8.decode s i).2) else []
/-- the characters from byte i on, each with its place -/
def chars (s : ByteArray) (i : Nat) : List (Nat × Nat) := charsF s (s.size - i) i

theorem charsF_end (s : ByteArray) (f i : Nat) (h : ¬ i < s.size) : charsF s f i = [] := by
  cases f with
  | zero => rfl
  | succ f => simp [charsF, h]
theorem charsF_any (s : ByteArray) : ∀ (f g i : Nat), s.size - i ≤ f → s.size - i ≤ g → charsF s f i = charsF s g i := by
  intro f
  induction f with
  | zero => intro g i h _; rw [charsF_end s 0 i (by omega), charsF_end s g i (by omega)]
  | succ f ih =>
    intro g i hf hg
    by_cases hi : i < s.size
    · cases g with
      | zero => omega
      | succ g =>
        have hb := dec_bounds s i hi
        simp only [charsF, hi, if_true]
        rw [ih g _ (by omega) (by omega)]
    · rw [charsF_end s _ i hi, charsF_end s g i hi]
theorem chars_end (s : ByteArray) (i : Nat) (h : ¬ i < s.size) : chars s i = [] := charsF_end s _ i h
theorem chars_step (s : ByteArray) (i : Nat) (h : i < s.size) : chars s i = (i, (Utf8.decode s i).1) :: chars s (i + (Utf8.decode s i).2) := by
  have hb := dec_bounds s i h
  obtain ⟨f, hf⟩ : ∃ f, s.size - i = f + 1 := ⟨s.size - i - 1, by omega⟩
  unfold chars
  rw [hf]
  simp only [charsF, h, if_true]
  rw [charsF_any s f (s.size - (i + (Utf8.decode s i).2)) _ (by omega) (by omega)]
theorem chars_len (s : ByteArray) : ∀ (k i : Nat), s.size - i ≤ k → (chars s i).length ≤ s.size - i := by
  intro k
  induction k with
  | zero => intro i h; rw [chars_end s i (by omega)]; simp
  | succ k ih =>
    intro i h
    by_cases hi : i < s.size
    · have hb := dec_bounds s i hi
      rw [chars_step s i hi]
      have := ih (i + (Utf8.decode s i).2) (by omega)
      simp; omega
    · rw [chars_end s i hi]; simp
theorem chars_length (s : ByteArray) (i : Nat) : (chars s i).length ≤ s.size - i := chars_len s _ i (Nat.le_refl _)

set_option maxRecDepth 100000 in
set_option maxHeartbeats 400000 in
theorem count_any (s : ByteArray) (w : World) (hs : s.size ≤ maxLen) :
    Calls Try.prog 57 #[.string s] w fun e w' => e = .returned (.int .i64 (chars s 0).length) ∧ Below w.heap.size w w' := by
  unfold maxLen at hs
  have hcl := chars_length s 0
  generalize hL : (chars s 0).length = L at *
  have HL : Hid ((chars s 0).length = L) := hL
  clear hL
  go_enter Try.func57, Try.ntmps57
  go_wp2
  go_loopw [3] (fun v wr => ∃ pos k : Nat, v = .int .i64 k ∧ wr = w.iter s pos ∧ Hid (k + (chars s pos).length = L)) (fun _ wr => s.size - wr.iterPos w.heap.size)
  case atStart => exact ⟨0, 0, rfl, rfl, show _ = _ by rw [HL.out]; omega⟩
  case round =>
    obtain ⟨pos, k, rfl, rfl, HK⟩ := hrel
    by_cases hlt : pos < s.size
    · have hnx := fun ty => run_next_any (P := Try.prog) w s pos ty hlt
      have hb := dec_bounds s pos hlt
      have hc := chars_step s pos hlt
      have HC : Hid (k + 1 + (chars s (pos + (Utf8.decode s pos).2)).length = L) := by
        show _ = _
        have := HK.out
        rw [hc] at this; simp at this; omega
      have hk1 : k + 1 ≤ L := by have := HC.out; omega
      clear hc
      go_wp2
      go_roundw
      case rel => exact ⟨_, k + 1, by go_num, rfl, HC⟩
      case measure => simp; omega
    · have hnx := fun ty => run_next_end (P := Try.prog) w s pos ty hlt
      have hK : k = L := by have := HK.out; rw [chars_end s pos hlt] at this; simpa using this
      have HE : Hid (k = L) := hK
      clear hK
      go_wp2
      go_ret
      exact ⟨ret_int (by rw [HE.out]), (Below.refl _ _).alloc (Nat.le_refl _) _⟩

end Go.Proofs.Ytkckkchnmgidgaa

/-
  A line of clean fields is scanned as these fields; where the one line of a text lies.
-/
import Derived.Test.YtnabbahdmajfpaaGreatDoorLInvM
import Derived.Test.YtnabbahdmajfpaaGreatDoorLInvC
import Derived.Test.YtnabbahdmajfpaaGreatDoorLs
import Derived.Test.YtnabbahdmajfpaaGreatDoorRPiM
namespace Go.Proofs.YtnabbahdmajfpaaGreatDoor
open Go.RowKit Go.PlainAid Go.Lib Go.Shelf
set_option linter.unusedVariables false

theorem dropWhile_keepI {α : Type} (p : α → Bool) (b : α) (hb : p b = false) : ∀ x : List α, ∃ y, (x ++ [b]).dropWhile p = y ++ [b]
  | [] => ⟨[], by simp [hb]⟩
  | a :: x => by
    rw [List.cons_append, List.dropWhile_cons]
    cases ha : p a
    · exact ⟨a :: x, by simp⟩
    · obtain ⟨y, hy⟩ := dropWhile_keepI p b hb x
      exact ⟨y, by simpa using hy⟩
theorem trim_headI (b : UInt8) (l : List UInt8) (hb : ¬ blk8 b) : ∃ l', trimB (b :: l) = b :: l' := by
  unfold trimB trimS trimLeftS trimRightS
  have hn : b ≠ 32 ∧ b ≠ 9 := ⟨fun h => hb (.inl h), fun h => hb (.inr h)⟩
  have hp : ([32, 9] : List UInt8).contains b = false := by simp [hn.1, hn.2]
  obtain ⟨y, hy⟩ := dropWhile_keepI (fun x => ([32, 9] : List UInt8).contains x) b hp l.reverse
  have e1 : (b :: l).dropWhile (fun x => ([32, 9] : List UInt8).contains x) = b :: l := by rw [List.dropWhile_cons, hp]; rfl
  refine ⟨y.reverse, ?_⟩
  first
  | (rw [e1, List.reverse_cons, hy]; simp)
  | (rw [List.reverse_cons, hy, List.reverse_append, List.reverse_singleton, List.singleton_append, List.dropWhile_cons, hp]; simp)
theorem scan_semi (no : Int) {fs : List (List UInt8)} {b : UInt8} {f0 : List UInt8} {rest : List (List UInt8)} (hf : fs = (b :: f0) :: rest) (hc : ∀ f ∈ fs, Clean f) (h2 : 2 ≤ fs.length) (h64 : b ≠ 64) (hg : (chkS (S (semi fs))).2 = 0) : scanS no (S (semi fs)) = (⟨no, 1, [], fs, []⟩, 0) := by
  have hL : L (S (semi fs)) = semi fs := rfl
  have hm := mach_semi fs 0 hc (.inr h2) (by rw [hf]; simp)
  have hcut : cutS (S (semi fs)) = (fs, []) := by unfold cutS; rw [hL]; exact hm
  obtain ⟨tl, ht⟩ : ∃ tl, semi fs = b :: tl := by
    rw [hf]
    cases rest with
    | nil => exact ⟨f0, rfl⟩
    | cons g l => exact ⟨f0 ++ 59 :: semi (g :: l), rfl⟩
  have hb : ¬ blk8 b := (hc (b :: f0) (by rw [hf]; simp)).head b rfl
  obtain ⟨l', hl'⟩ := trim_headI b tl hb
  unfold scanS
  rw [if_neg (by rw [hg]; simp), hL, ht, hl', if_neg (by simp [hasPrefix, Ne.symm h64]), ← ht]
  unfold plainS
  rw [hcut, if_pos (by rw [hf]; simp)]
theorem bN_SI (l : List UInt8) (i : Nat) (b : UInt8) (h : l[i]? = some b) : bN (S l) i = b.toNat := by
  obtain ⟨hi, e⟩ := List.getElem?_eq_some_iff.1 h
  unfold bN
  have : (S l).get! i = b := by
    show l.toArray[i]! = b
    rw [Array.getElem!_eq_getD, Array.getD_eq_getD_getElem?]
    simp [hi, e]
  rw [this]
/-- where the line of a text of one line lies -/
theorem lines_one {l : List UInt8} {b c : UInt8} (hb : l.head? = some b) (hb7 : b.toNat < 128) (hc : l.getLast? = some c) (hc13 : c ≠ 13) (h10 : ∀ x ∈ l, x ≠ 10) :
    linesL (S (l ++ [10])) = [(1, 0, l.length)] ∧ (S (l ++ [10])).extract 0 l.length = S l := by
  have hn : l ≠ [] := by intro e; rw [e] at hb; cases hb
  have hl0 : 0 < l.length := List.length_pos_iff.2 hn
  have hs : (S (l ++ [10])).size = l.length + 1 := by rw [S_size]; simp
  have at_ : ∀ j x, l[j]? = some x → bN (S (l ++ [10])) j = x.toNat := fun j x hx => bN_SI _ j x (by rw [List.getElem?_append_left (List.getElem?_eq_some_iff.1 hx).1]; exact hx)
  have e0 : bN (S (l ++ [10])) 0 = b.toNat := at_ 0 b (by rw [← List.head?_eq_getElem?]; exact hb)
  have e10 : bN (S (l ++ [10])) l.length = 10 := bN_SI _ _ 10 (by simp)
  have hm : markN (S (l ++ [10])) = 0 := by rw [markN_eq, if_neg (by omega)]
  have hj : ∀ j, 0 ≤ j → j < l.length → bN (S (l ++ [10])) j ≠ 10 := fun j _ hj => by
    have hx : l[j]? = some l[j] := List.getElem?_eq_getElem hj
    rw [at_ j _ hx]
    intro e
    exact h10 l[j] (List.getElem_mem hj) (UInt8.toNat_inj.1 (by rw [e]; rfl))
  obtain ⟨f1, f2, f3⟩ := linesI_found (S (l ++ [10])) 1 0 l.length (Nat.zero_le _) (by omega) e10 hj
  have h13 : ¬ bN (S (l ++ [10])) (l.length - 1) = 13 := by
    have hx : l[l.length - 1]? = some c := by rw [← List.getLast?_eq_getElem?]; exact hc
    rw [at_ _ _ hx]
    intro e
    exact hc13 (UInt8.toNat_inj.1 (by rw [e]; rfl))
  rw [if_neg (fun h => h13 h.2)] at f2
  refine ⟨?_, ?_⟩
  · rw [← linesL_I, hm, f1, f2, show l.length + 1 = (S (l ++ [10])).size by omega, linesI_end]
  · rw [sl_S]
    congr 1
    show ((l ++ [10]).drop 0).take (l.length - 0) = l
    simp
end Go.Proofs.YtnabbahdmajfpaaGreatDoor

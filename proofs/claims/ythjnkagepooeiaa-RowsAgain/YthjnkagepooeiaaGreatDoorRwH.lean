/-
  Halves: a name's plain name, and which half it is.
-/
import Derived.Test.YthjnkagepooeiaaGreatDoorRwS
namespace Go.Proofs.YthjnkagepooeiaaGreatDoor
open Go.RowKit Go.PlainAid Go.Lib Go.PHexM Go.Shelf
set_option linter.unusedVariables false
set_option linter.unusedSimpArgs false

theorem cutSuffix_any (T P : List UInt8) (w : World) (hT : T.length ≤ 1073741824) :
    Calls Tryz.prog 137 #[.string (S T), .string (S P)] w fun e w' => e = .returned (.tuple #[.string (S (Lib.trimSuffix T P)), .bool (Lib.hasSuffix T P)]) ∧ w' = w :=
  Tryz.strings_CutSuffix (S T) (S P) w (by have := S_size T; omega)
theorem cutPrefix_yes (l : List UInt8) (w : World) (h : Lib.hasPrefix l [60] = true) :
    Calls Tryz.prog 97 #[.string (S l), .string ⟨#[60]⟩] w fun e w' => e = .returned (.tuple #[.string (S (l.drop 1)), .bool true]) ∧ w' = w :=
  (Tryz.strings_CutPrefix (S l) ⟨#[60]⟩ w).mono fun e w' ⟨h1, h2⟩ => ⟨by rw [h1]; show Ending.returned (.tuple #[.string (S (Lib.trimPrefix l [60])), .bool (Lib.hasPrefix l [60])]) = _; rw [h]; simp [Lib.trimPrefix, h], h2⟩
theorem cutPrefix_no (l : List UInt8) (w : World) (h : Lib.hasPrefix l [60] = false) :
    Calls Tryz.prog 97 #[.string (S l), .string ⟨#[60]⟩] w fun e w' => e = .returned (.tuple #[.string (S l), .bool false]) ∧ w' = w :=
  (Tryz.strings_CutPrefix (S l) ⟨#[60]⟩ w).mono fun e w' ⟨h1, h2⟩ => ⟨by rw [h1]; show Ending.returned (.tuple #[.string (S (Lib.trimPrefix l [60])), .bool (Lib.hasPrefix l [60])]) = _; rw [h]; simp [Lib.trimPrefix, h], h2⟩
theorem halfName_any (l : List UInt8) (w : World) (hl : l.length ≤ 1073741824) :
    Calls Tryz.prog 101 #[.string (S l)] w fun e w' => e = .returned (.tuple #[.string (S (halfP l).1), .int .u8 (halfP l).2]) ∧ w' = w := by
  cases hp : Lib.hasPrefix l [60] with
  | false =>
    have HC := hide (fun w => cutPrefix_no l w hp)
    have HH : Hid (halfP l = (l, 0)) := by show _ = _; simp [halfP, hp]
    clear hp
    go_enter Tryz.func101, Tryz.ntmps101
    go_wp2_with (go_at_call 97; refine (unhide HC _).mono ?_; rintro e w' ⟨rfl, rfl⟩)
    go_ret2
    exact ⟨by rw [unhide HH]; rfl, rfl⟩
  | true =>
    have HC := hide (fun w => cutPrefix_yes l w hp)
    have hdl : (l.drop 1).length ≤ 1073741824 := by rw [List.length_drop]; omega
    have H1 := hide (fun w => cutSuffix_any (l.drop 1) firstB w hdl)
    have H2 := hide (fun w => cutSuffix_any (l.drop 1) lastB w hdl)
    have hH : halfP l = (if Lib.hasSuffix (l.drop 1) firstB ∧ Lib.trimSuffix (l.drop 1) firstB ≠ [] then (Lib.trimSuffix (l.drop 1) firstB, 1) else if Lib.hasSuffix (l.drop 1) lastB ∧ Lib.trimSuffix (l.drop 1) lastB ≠ [] then (Lib.trimSuffix (l.drop 1) lastB, 2) else (l, 0)) := by simp [halfP, hp]
    clear hp hdl
    generalize l.drop 1 = T at *
    generalize Lib.hasSuffix T firstB = b1 at *
    generalize Lib.trimSuffix T firstB = P1 at *
    generalize Lib.hasSuffix T lastB = b2 at *
    generalize Lib.trimSuffix T lastB = P2 at *
    have key : (b1 = true ∧ P1.isEmpty = false ∧ halfP l = (P1, 1)) ∨ ((b1 = false ∨ (b1 = true ∧ P1 = [])) ∧ ((b2 = true ∧ P2.isEmpty = false ∧ halfP l = (P2, 2)) ∨ ((b2 = false ∨ (b2 = true ∧ P2 = [])) ∧ halfP l = (l, 0)))) := by
      rw [hH]
      cases b1 <;> cases b2 <;> cases P1 <;> cases P2 <;> simp
    clear hH
    rcases key with ⟨rfl, k1, kh⟩ | ⟨ka, (⟨rfl, k2, kh⟩ | ⟨kb, kh⟩)⟩
    · have HH := hide kh
      clear kh
      go_enter Tryz.func101, Tryz.ntmps101
      go_wp2_with (first | (go_at_call 97; refine (unhide HC _).mono ?_; rintro e w' ⟨rfl, rfl⟩) | (go_at_call 137; with_reducible refine Calls.mono (unhide H1 _) ?_; rintro e w' ⟨rfl, rfl⟩))
      go_ret2
      exact ⟨by rw [unhide HH]; rfl, rfl⟩
    · have HH := hide kh
      clear kh
      rcases ka with rfl | ⟨rfl, rfl⟩
      · go_enter Tryz.func101, Tryz.ntmps101
        go_wp2_with (first | (go_at_call 97; refine (unhide HC _).mono ?_; rintro e w' ⟨rfl, rfl⟩) | (go_at_call 137; with_reducible refine Calls.mono (unhide H1 _) ?_; rintro e w' ⟨rfl, rfl⟩) | (go_at_call 137; with_reducible refine Calls.mono (unhide H2 _) ?_; rintro e w' ⟨rfl, rfl⟩))
        go_ret2
        exact ⟨by rw [unhide HH]; rfl, rfl⟩
      · go_enter Tryz.func101, Tryz.ntmps101
        go_wp2_with (first | (go_at_call 97; refine (unhide HC _).mono ?_; rintro e w' ⟨rfl, rfl⟩) | (go_at_call 137; with_reducible refine Calls.mono (unhide H1 _) ?_; rintro e w' ⟨rfl, rfl⟩) | (go_at_call 137; with_reducible refine Calls.mono (unhide H2 _) ?_; rintro e w' ⟨rfl, rfl⟩))
        go_ret2
        exact ⟨by rw [unhide HH]; rfl, rfl⟩
    · have HH := hide kh
      clear kh
      rcases ka with rfl | ⟨rfl, rfl⟩ <;> rcases kb with rfl | ⟨rfl, rfl⟩
      all_goals (
        go_enter Tryz.func101, Tryz.ntmps101
        go_wp2_with (first | (go_at_call 97; refine (unhide HC _).mono ?_; rintro e w' ⟨rfl, rfl⟩) | (go_at_call 137; with_reducible refine Calls.mono (unhide H1 _) ?_; rintro e w' ⟨rfl, rfl⟩) | (go_at_call 137; with_reducible refine Calls.mono (unhide H2 _) ?_; rintro e w' ⟨rfl, rfl⟩))
        go_ret2
        exact ⟨by rw [unhide HH]; rfl, rfl⟩)
end Go.Proofs.YthjnkagepooeiaaGreatDoor

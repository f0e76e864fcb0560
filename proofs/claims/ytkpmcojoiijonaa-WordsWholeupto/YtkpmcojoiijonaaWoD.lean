/-
  Class, Side, Short, Long, Letter of package words.
-/
import Derived.Test.YtkpmcojoiijonaaWoL
namespace Go.Proofs.Ytkpmcojoiijonaa
open Go.RowKit Go.PlainAid Go.Lib
set_option linter.unusedVariables false

/-- the side that has a name of that loose form: the side and the error -/
def sideN (t : ByteArray) : Int := if t = ⟨#[111]⟩ ∨ t = ⟨#[111, 112, 101, 110]⟩ then 1 else if t = ⟨#[99]⟩ ∨ t = ⟨#[99, 108, 111, 115, 101]⟩ then 2 else 0
def sideE (t : ByteArray) : Int := if t = ⟨#[110]⟩ ∨ t = ⟨#[110, 111, 110, 101]⟩ then 0 else if sideN t = 0 then 51 else 0
def letterS (s : Int) : ByteArray := if s = 0 then ⟨#[110]⟩ else if s = 1 then ⟨#[111]⟩ else if s = 2 then ⟨#[99]⟩ else ⟨#[]⟩
def letterE (s : Int) : Int := if s = 0 ∨ s = 1 ∨ s = 2 then 0 else 2
def noneE (c : Int) : Int := if c = 0 then 50 else 0

theorem class_any (s : ByteArray) (w : World) (hs : s.size ≤ 35184372088832) :
    Calls Try.prog 21 #[.string s] w fun e w' => e = .returned (.tuple #[.int .u8 (classN (looseB s)), .int .i64 (noneE (classN (looseB s)))]) ∧ Below w.heap.size w w' := by
  by_cases h : classN (looseB s) = 0
  · have h' : (classN (looseB s) == 0) = true := by simp [h]
    have HE : Hid (noneE (classN (looseB s)) = 50 ∧ classN (looseB s) = 0) := ⟨by unfold noneE; rw [if_pos h], h⟩
    clear h
    go_enter Try.func21, Try.ntmps21
    go_wp2_with fail
    refine (loose_any s w hs).mono ?_
    rintro e w1 ⟨rfl, hb1⟩
    go_wp2_with fail
    refine (classOf_any _ w1).mono ?_
    rintro e w2 ⟨rfl, hw⟩
    obtain rfl : w1 = w2 := hw.symm
    go_wp2
    go_ret2
    exact ⟨ret_int2 HE.out.2.symm HE.out.1.symm, hb1⟩
  · have h' : (classN (looseB s) == 0) = false := by simp [h]
    have HE : Hid (noneE (classN (looseB s)) = 0) := by show _ = _; unfold noneE; rw [if_neg h]
    clear h
    go_enter Try.func21, Try.ntmps21
    go_wp2_with fail
    refine (loose_any s w hs).mono ?_
    rintro e w1 ⟨rfl, hb1⟩
    go_wp2_with fail
    refine (classOf_any _ w1).mono ?_
    rintro e w2 ⟨rfl, hw⟩
    obtain rfl : w1 = w2 := hw.symm
    go_wp2
    go_ret2
    exact ⟨ret_int2 rfl HE.out.symm, hb1⟩

theorem sides (t : ByteArray) : t = ⟨#[110]⟩ ∨ t = ⟨#[110, 111, 110, 101]⟩ ∨ t = ⟨#[111]⟩ ∨ t = ⟨#[111, 112, 101, 110]⟩ ∨ t = ⟨#[99]⟩ ∨ t = ⟨#[99, 108, 111, 115, 101]⟩ ∨ ((t.toList == [110]) = false ∧ (t.toList == [110, 111, 110, 101]) = false ∧ (t.toList == [111]) = false ∧ (t.toList == [111, 112, 101, 110]) = false ∧ (t.toList == [99]) = false ∧ (t.toList == [99, 108, 111, 115, 101]) = false ∧ sideN t = 0 ∧ sideE t = 51) := by
  have hs : ∀ L : List UInt8, t ≠ ⟨L.toArray⟩ → (t.toList == L) = false := fun L h => by
    have := Go.Switch.str_test t ⟨L.toArray⟩
    rw [decide_eq_false h, Go.Lib.toList_data ⟨L.toArray⟩] at this; exact this
  by_cases h0 : t = ⟨#[110]⟩
  · exact .inl h0
  by_cases h1 : t = ⟨#[110, 111, 110, 101]⟩
  · exact .inr (.inl h1)
  by_cases h2 : t = ⟨#[111]⟩
  · exact .inr (.inr (.inl h2))
  by_cases h3 : t = ⟨#[111, 112, 101, 110]⟩
  · exact .inr (.inr (.inr (.inl h3)))
  by_cases h4 : t = ⟨#[99]⟩
  · exact .inr (.inr (.inr (.inr (.inl h4))))
  by_cases h5 : t = ⟨#[99, 108, 111, 115, 101]⟩
  · exact .inr (.inr (.inr (.inr (.inr (.inl h5)))))
  have g : (t.toList == [110]) = false ∧ (t.toList == [110, 111, 110, 101]) = false ∧ (t.toList == [111]) = false ∧ (t.toList == [111, 112, 101, 110]) = false ∧ (t.toList == [99]) = false ∧ (t.toList == [99, 108, 111, 115, 101]) = false := ⟨hs _ h0, hs _ h1, hs _ h2, hs _ h3, hs _ h4, hs _ h5⟩
  have e0 : sideN t = 0 := by unfold sideN; rw [if_neg (not_or.2 ⟨h2, h3⟩), if_neg (not_or.2 ⟨h4, h5⟩)]
  have e1 : sideE t = 51 := by unfold sideE; rw [if_neg (not_or.2 ⟨h0, h1⟩), if_pos e0]
  exact .inr (.inr (.inr (.inr (.inr (.inr ⟨g.1, g.2.1, g.2.2.1, g.2.2.2.1, g.2.2.2.2.1, g.2.2.2.2.2, e0, e1⟩)))))
set_option maxHeartbeats 1000000 in
theorem side_any (s : ByteArray) (w : World) (hs : s.size ≤ 35184372088832) :
    Calls Try.prog 23 #[.string s] w fun e w' => e = .returned (.tuple #[.int .u8 (sideN (looseB s)), .int .i64 (sideE (looseB s))]) ∧ Below w.heap.size w w' := by
  have hl := loose_any s w hs
  generalize looseB s = t at *
  have HL := hide hl
  clear hl
  rcases sides t with rfl | rfl | rfl | rfl | rfl | rfl | ⟨g0, g1, g2, g3, g4, g5, e0, e1⟩
  case inr.inr.inr.inr.inr.inr =>
    rw [e0, e1]
    clear e0 e1
    go_enter Try.func23, Try.ntmps23
    go_wp2_with (go_at_call 18; refine (unhide HL).mono ?_; rintro e w1 ⟨rfl, hb1⟩)
    go_ret2
    exact ⟨rfl, hb1⟩
  all_goals
    go_enter Try.func23, Try.ntmps23
    go_wp2_with (go_at_call 18; refine (unhide HL).mono ?_; rintro e w1 ⟨rfl, hb1⟩)
    go_ret2
    exact ⟨ret_int2 (by decide) (by decide), hb1⟩

def argE (t : ByteArray) : Int := if t = ⟨#[]⟩ then 2 else 0
theorem told_any (t : ByteArray) (w : World) :
    Calls Try.prog 49 #[.string t] w fun e w' => e = .returned (.tuple #[.string t, .int .i64 (argE t)]) ∧ w' = w := by
  by_cases h : t = ⟨#[]⟩
  · subst h
    go_enter Try.func49, Try.ntmps49
    go_wp2
    go_ret2
    exact ⟨rfl, rfl⟩
  · have h1 : (t.toList == []) = false := by
      have := Go.Switch.str_test t ⟨#[]⟩
      rw [decide_eq_false h, Go.Lib.toList_data ⟨#[]⟩] at this; exact this
    have h2 : t.toList.isEmpty = false := by rw [← h1]; cases t.toList <;> rfl
    have HA : Hid (argE t = 0) := by show _ = _; unfold argE; rw [if_neg h]
    clear h
    go_enter Try.func49, Try.ntmps49
    go_wp2
    go_ret2
    exact ⟨ret_str2 rfl HA.out.symm, rfl⟩
theorem shortW_any (c : Int) (w : World) :
    Calls Try.prog 25 #[.int .u8 c] w fun e w' => e = .returned (.tuple #[.string (shortS c), .int .i64 (argE (shortS c))]) ∧ w' = w := by
  go_enter Try.func25, Try.ntmps25
  go_wp2_with (first | (go_at_call 48; refine (namesOf_any _ _).mono ?_; rintro e w' ⟨rfl, rfl⟩) | (go_at_call 49; refine (told_any _ _).mono ?_; rintro e w' ⟨rfl, rfl⟩))
  go_ret2
  exact ⟨rfl, rfl⟩
theorem longW_any (c : Int) (w : World) :
    Calls Try.prog 26 #[.int .u8 c] w fun e w' => e = .returned (.tuple #[.string (longS c), .int .i64 (argE (longS c))]) ∧ w' = w := by
  go_enter Try.func26, Try.ntmps26
  go_wp2_with (first | (go_at_call 48; refine (namesOf_any _ _).mono ?_; rintro e w' ⟨rfl, rfl⟩) | (go_at_call 49; refine (told_any _ _).mono ?_; rintro e w' ⟨rfl, rfl⟩))
  go_ret2
  exact ⟨rfl, rfl⟩
theorem letter_any (s : Int) (w : World) :
    Calls Try.prog 27 #[.int .u8 s] w fun e w' => e = .returned (.tuple #[.string (letterS s), .int .i64 (letterE s)]) ∧ w' = w := by
  by_cases h0 : s = 0
  · subst h0
    go_enter Try.func27, Try.ntmps27
    go_wp2
    go_ret2
    exact ⟨rfl, rfl⟩
  by_cases h1 : s = 1
  · subst h1
    go_enter Try.func27, Try.ntmps27
    go_wp2
    go_ret2
    exact ⟨rfl, rfl⟩
  by_cases h2 : s = 2
  · subst h2
    go_enter Try.func27, Try.ntmps27
    go_wp2
    go_ret2
    exact ⟨rfl, rfl⟩
  have g0 : (s == 0) = false := by simp [h0]
  have g1 : (s == 1) = false := by simp [h1]
  have g2 : (s == 2) = false := by simp [h2]
  have e1 : letterS s = ⟨#[]⟩ := by unfold letterS; rw [if_neg h0, if_neg h1, if_neg h2]
  have e2 : letterE s = 2 := by unfold letterE; rw [if_neg (not_or.2 ⟨h0, not_or.2 ⟨h1, h2⟩⟩)]
  rw [e1, e2]
  clear h0 h1 h2 e1 e2
  go_enter Try.func27, Try.ntmps27
  go_wp2
  go_ret2
  exact ⟨rfl, rfl⟩
end Go.Proofs.Ytkpmcojoiijonaa

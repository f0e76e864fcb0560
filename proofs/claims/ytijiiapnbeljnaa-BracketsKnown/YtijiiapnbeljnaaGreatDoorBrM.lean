/-
  What package brackets speaks of, as mathematics: rows, their look-up, what is refused.
-/
import Derived.Maps.OwnSet
import Derived.WalkKit
namespace Go.Proofs.YtijiiapnbeljnaaGreatDoor
open Go.RowKit
set_option linter.unusedVariables false

theorem hideB {p : Prop} (h : p) : Hid p := h
theorem unhideB {p : Prop} (h : Hid p) : p := h

structure BrD where
  at_ : Int
  oth : Int
  side : Int
instance : DecidableEq BrD := fun a b => decidable_of_iff (a.at_ = b.at_ ∧ a.oth = b.oth ∧ a.side = b.side) (by cases a; cases b; simp)
def zeroB : BrD := ⟨0, 0, 0⟩
abbrev brC (x : BrD) : List Value := [.int .i32 x.at_, .int .i32 x.oth, .int .u8 x.side]
abbrev brV (x : BrD) : Value := .agg #[.int .i32 x.at_, .int .i32 x.oth, .int .u8 x.side]

def isPt (r : Int) : Bool := decide (0 ≤ r) && decide (r ≤ 1114111)
def knownP (r : Int) : Int := if isPt r then r else 65533
def oppP (s : Int) : Int := if s = 1 then 2 else if s = 2 then 1 else 0
def isRowP (x : BrD) : Bool := isPt x.at_ && (isPt x.oth && (decide (x.at_ ≠ x.oth) && decide (oppP x.side ≠ 0)))
/-- the row of a number: the last one that was put -/
def findB (rows : List BrD) (r : Int) : Option BrD := rows.reverse.find? (fun x => decide (x.at_ = r))
theorem findB_nil (r : Int) : findB [] r = none := rfl
theorem findB_snoc (rows : List BrD) (x : BrD) (r : Int) : findB (rows ++ [x]) r = if x.at_ = r then some x else findB rows r := by
  unfold findB
  rw [List.reverse_append, List.reverse_singleton, List.singleton_append, List.find?_cons]
  by_cases h : x.at_ = r <;> simp [h]
theorem findB_at {rows : List BrD} {r : Int} {x : BrD} (h : findB rows r = some x) : x.at_ = r := by
  have := List.find?_some h
  simpa using this
theorem findB_mem {rows : List BrD} {r : Int} {x : BrD} (h : findB rows r = some x) : x ∈ rows := by
  have := List.mem_of_find?_eq_some h
  simpa using this
def brkP (rows : List BrD) (r : Int) : Int × Int := match findB rows (knownP r) with
  | some x => (x.oth, x.side)
  | none => (0, 0)
/-- twins: As by At, the last one that was put -/
def findT (tw : List (Int × Int)) (r : Int) : Option Int := (tw.reverse.find? (fun x => decide (x.1 = r))).map (·.2)
theorem findT_nil (r : Int) : findT [] r = none := rfl
theorem findT_snoc (tw : List (Int × Int)) (x : Int × Int) (r : Int) : findT (tw ++ [x]) r = if x.1 = r then some x.2 else findT tw r := by
  unfold findT
  rw [List.reverse_append, List.reverse_singleton, List.singleton_append, List.find?_cons]
  by_cases h : x.1 = r <;> simp [h]
def twnP (tw : List (Int × Int)) (r : Int) : Int := (findT tw (knownP r)).getD (knownP r)
def matP (rows : List BrD) (tw : List (Int × Int)) (o c : Int) : Bool :=
  decide ((brkP rows o).2 = 1) && (decide ((brkP rows c).2 = 2) && decide (twnP tw (brkP rows o).1 = twnP tw c))

/-- what is told to gather: a number, a row, why it is wrong -/
structure ItD where
  no : Int
  row : BrD
  why : Int
def addE (rows : List BrD) (x : BrD) : Int := if isRowP x then (if (findB rows x.at_).isSome then 81 else 0) else 80
def badOf (rows : List BrD) (t : ItD) : Int := if t.why = 0 then addE rows t.row else t.why
def bad1 : List BrD → List ItD → Option (Int × Int)
  | _, [] => none
  | rows, t :: l => if badOf rows t = 0 then bad1 (rows ++ [t.row]) l else some (t.no, badOf rows t)
def loneP (rows : List BrD) (x : BrD) : Bool := decide ((brkP rows x.oth).1 ≠ x.at_) || decide ((brkP rows x.oth).2 ≠ oppP x.side)
def bad2 (rows : List BrD) (l : List ItD) : Option (Int × Int) := (l.find? (fun t => loneP rows t.row)).map (fun t => (t.no, 82))
def gathP (l : List ItD) : Option (Int × Int) := match bad1 [] l with
  | some e => some e
  | none => bad2 (l.map (·.row)) l
theorem bad1_append (a b : List ItD) : ∀ rows, bad1 rows (a ++ b) = match bad1 rows a with | none => bad1 (rows ++ a.map (·.row)) b | some e => some e := by
  induction a with
  | nil => intro rows; simp [bad1]
  | cons t a ih =>
    intro rows
    rw [List.cons_append, bad1, bad1]
    by_cases h : badOf rows t = 0
    · rw [if_pos h, if_pos h, ih]; simp
    · rw [if_neg h, if_neg h]
theorem bad1_snoc (rows : List BrD) (a : List ItD) (t : ItD) (h : bad1 rows a = none) : bad1 rows (a ++ [t]) = if badOf (rows ++ a.map (·.row)) t = 0 then none else some (t.no, badOf (rows ++ a.map (·.row)) t) := by
  rw [bad1_append, h]
  simp only [bad1]

/-- numbers that the types allow -/
def i32Ok (r : Int) : Prop := -2147483648 ≤ r ∧ r ≤ 2147483647
def u8Ok (r : Int) : Prop := 0 ≤ r ∧ r ≤ 255
def BrOk (x : BrD) : Prop := i32Ok x.at_ ∧ i32Ok x.oth ∧ u8Ok x.side
theorem i32Ok.wf {r : Int} (h : i32Ok r) : (Lit.int .i32 r).wf = true := WalkArith.wf_i32 h
theorem known_ok (r : Int) (h : i32Ok r) : i32Ok (knownP r) := by
  unfold knownP; split
  · exact h
  · unfold i32Ok; omega
theorem isPt_iff (r : Int) : isPt r = true ↔ 0 ≤ r ∧ r ≤ 1114111 := by simp [isPt]
theorem known_pt (r : Int) : 0 ≤ knownP r ∧ knownP r ≤ 1114111 := by
  unfold knownP
  split
  · rename_i h; exact (isPt_iff r).1 h
  · omega
theorem known_of_pt {r : Int} (h : isPt r = true) : knownP r = r := by unfold knownP; rw [if_pos h]
theorem opp_ne (s : Int) : oppP s ≠ 0 ↔ s = 1 ∨ s = 2 := by
  unfold oppP
  split
  · simp_all
  · split <;> simp_all
end Go.Proofs.YtijiiapnbeljnaaGreatDoor

/-
  What package rows speaks of, as mathematics: the fields of a row's line, halves, the rows of lines.
-/
import Derived.Test.YthjnkagepooeiaaGreatDoorLRead
import Derived.Test.YthjnkagepooeiaaGreatDoorWb
import Derived.Test.YthjnkagepooeiaaGreatDoorPHexM
import Derived.Lib.ParseIntB
import Derived.Lib.ItoaNum
import Derived.Lib.Split
import Derived.Lib.RuneCount
namespace Go.Proofs.YthjnkagepooeiaaGreatDoor
open Go.RowKit Go.PlainAid Go.Lib Go.PHexM
set_option linter.unusedVariables false

structure RowD where
  line : Int
  first : Int
  last : Int
  name : List UInt8
  cat : List UInt8
  comb : Int
  cls : Int
  twin : Int
  mir : Bool
instance : DecidableEq RowD := fun a b => decidable_of_iff (a.line = b.line ∧ a.first = b.first ∧ a.last = b.last ∧ a.name = b.name ∧ a.cat = b.cat ∧ a.comb = b.comb ∧ a.cls = b.cls ∧ a.twin = b.twin ∧ a.mir = b.mir) (by cases a; cases b; simp)
def zeroR : RowD := ⟨0, 0, 0, [], [], 0, 0, 0, false⟩
abbrev rowC (r : RowD) : List Value := [.int .i64 r.line, .int .i32 r.first, .int .i32 r.last, .string (S r.name), .string (S r.cat), .int .u8 r.comb, .int .u8 r.cls, .int .i32 r.twin, .bool r.mir]
abbrev rowV (r : RowD) : Value := .agg #[.int .i64 r.line, .int .i32 r.first, .int .i32 r.last, .string (S r.name), .string (S r.cat), .int .u8 r.comb, .int .u8 r.cls, .int .i32 r.twin, .bool r.mir]

/-- a category: a capital letter and a small one -/
def catB (l : List UInt8) : Bool := match l with
  | [a, b] => decide (65 ≤ a.toNat) && decide (a.toNat ≤ 90) && decide (97 ≤ b.toNat) && decide (b.toNat ≤ 122)
  | _ => false
/-- a number from 0 to 254 as it is written -/
def combP (l : List UInt8) : Option Nat := match parseUintB 8 l with
  | .ok u => if u ≤ 254 ∧ decDigits u = l then some u else none
  | _ => none
/-- a class by its short name; 0: none -/
def clsP (l : List UInt8) : Int := if shortS (classN (looseB (S l))) = S l then classN (looseB (S l)) else 0
/-- a text's pieces between its blanks -/
def piecesP (l : List UInt8) : List (List UInt8) := (splitB ⟨#[32]⟩ 0 (countB (S l) ⟨#[32]⟩) (S l)).map (·.data.toList)
def tagB (l : List UInt8) : Bool := Lib.hasPrefix l [60] && Lib.hasSuffix (l.drop 1) [62]
/-- what a character is made of: its twin, or 0; none: it may not be -/
def twinP (t0 : Int) (l : List UInt8) : Option Int :=
  if l = [] then some t0 else
  let ps := piecesP l
  let tag := tagB (ps.headD [])
  let qs := if tag then ps.drop 1 else ps
  if qs = [] then none else
  if qs.all (fun q => (hexP q).isSome) then (if !tag && qs.length == 1 then some ((hexP (qs.headD [])).getD 0 : Nat) else some t0) else none
def flagB (l : List UInt8) : Option Bool := if l = [89] then some true else if l = [78] then some false else none
def nameOk (l : List UInt8) : Bool := decide (1 ≤ runeCount (S l)) && decide (runeCount (S l) ≤ 256)

/-- a field of a row's line is read: the row, and why it is wrong -/
def cellP (a : Nat) (f : List UInt8) (r : RowD) : RowD × Int :=
  if a = 0 then (match hexP f with | some n => ({ r with first := n, last := n }, 0) | none => ({ r with first := 0, last := 0 }, 40)) else
  if a = 1 then (if nameOk f then ({ r with name := f }, 0) else (r, 61)) else
  if a = 2 then (if catB f then ({ r with cat := f }, 0) else (r, 63)) else
  if a = 3 then (match combP f with | some n => ({ r with comb := n }, 0) | none => (r, 64)) else
  if a = 4 then (if clsP f = 0 then (r, 50) else ({ r with cls := clsP f }, 0)) else
  if a = 5 then (match twinP r.twin f with | some n => ({ r with twin := n }, 0) | none => (r, 65)) else
  (match flagB f with | some b => ({ r with mir := b }, 0) | none => (r, 66))
def foldC (fs : List (List UInt8)) : List Nat → RowD → RowD × Int
  | [], r => (r, 0)
  | a :: l, r => if (cellP a (fs.getD a []) r).2 = 0 then foldC fs l (cellP a (fs.getD a []) r).1 else (zeroR, (cellP a (fs.getD a []) r).2)
def cellsL : List Nat := [0, 1, 2, 3, 4, 5, 9]
/-- what Scan says of a line -/
def scanR (d : LineD) : RowD × Int :=
  if d.kind = 2 then (zeroR, 33) else if d.kind ≠ 1 ∨ d.fields.length ≠ 15 then (zeroR, 60) else foldC d.fields cellsL { zeroR with line := d.no }

abbrev firstB : List UInt8 := [44, 32, 70, 105, 114, 115, 116, 62]
abbrev lastB : List UInt8 := [44, 32, 76, 97, 115, 116, 62]
/-- a name's plain name, and which half it is (0: none) -/
def halfP (l : List UInt8) : List UInt8 × Int :=
  if Lib.hasPrefix l [60] then
    (if Lib.hasSuffix (l.drop 1) firstB ∧ Lib.trimSuffix (l.drop 1) firstB ≠ [] then (Lib.trimSuffix (l.drop 1) firstB, 1) else
     if Lib.hasSuffix (l.drop 1) lastB ∧ Lib.trimSuffix (l.drop 1) lastB ≠ [] then (Lib.trimSuffix (l.drop 1) lastB, 2) else (l, 0))
  else (l, 0)

/-- how far the lines have been gone through: the code point ahead, the First that waits -/
structure WalkD where
  above : Int
  held : Option (LineD × RowD)
def plainR (d : LineD) : RowD := { (scanR d).1 with name := (halfP (scanR d).1.name).1 }
def whichR (d : LineD) : Int := (halfP (scanR d).1.name).2
end Go.Proofs.YthjnkagepooeiaaGreatDoor

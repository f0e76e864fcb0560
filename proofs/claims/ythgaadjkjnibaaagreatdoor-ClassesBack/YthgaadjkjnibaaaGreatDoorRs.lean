/-
  These texts, one behind the other: RwShelf2, PBits, PFmt, RHex, RShow, PShelf2, PShow, PShowSp.
-/
import Derived.Shelf.Strings.OnBuilder
import Derived.Shelf.Strings.Repeat
import Derived.Shelf.Strings.Builder1
import Derived.Test.YthgaadjkjnibaaaGreatDoorChecked
import Derived.Test.YthgaadjkjnibaaaGreatDoorHx
import Derived.Laws.BitsLemmas
import Derived.Deep.LoopGhost
/-
  DERIVED: THE SHELF's CONTRACTS AT THIS DUMP, IN PLAIN WORDS (tools/lay-plain.mjs out of 'LayRwShelf2.lean', which tools/lay-shelf.mjs wrote): THE SAME DECLARATIONS UNDER THE SAME NAMES: 'import', 'namespace', 'open', 'def', 'theorem' AND NOTHING ELSE: no command of the shelf's: FOR A HAND-IN. Each laying: the table of numbers ('.._ren') and one theorem, a field a fact of the dump's own or the kernel's comparison; each contract: ONE APPLICATION.
-/
namespace Go.Proofs
open Go.Shelf
def Tryz.lays169_ren : Go.Shelf.Ren := ⟨fun | 169 => 22 | n => n, fun | 70 => 59 | 9 => 9 | 0 => 0 | 72 => 62 | 37 => 60 | 127 => 96 | 3 => 3 | 5 => 5 | n => n, fun | n => n⟩
theorem Tryz.lays169 : Go.Proofs.Lays.n169 Tryz.prog Tryz.lays169_ren := {
  mixed := by kernel_rfl
  f169 := Tryz.func22.trans (congrArg some (by kernel_rfl))
  t0 := Tryz.underlying0
  a0 := Tryz.isAgg0
  z0 := Tryz.sizeOf0
  v0 := Tryz.zeroValue0
  t3 := Tryz.underlying3
  a3 := Tryz.isAgg3
  z3 := Tryz.sizeOf3
  v3 := Tryz.zeroValue3
  t9 := Tryz.underlying9
  a9 := Tryz.isAgg9
  z9 := Tryz.sizeOf9
  v9 := Tryz.zeroValue9
  t37 := Tryz.underlying60
  a37 := Tryz.isAgg60
  z37 := Tryz.sizeOf60
  v37 := Tryz.zeroValue60
  t70 := Tryz.underlying59
  a70 := Tryz.isAgg59
  z70 := Tryz.sizeOf59
  v70 := Tryz.zeroValue59
  t72 := Tryz.underlying62
  a72 := Tryz.isAgg62
  z72 := Tryz.sizeOf62
  v72 := Tryz.zeroValue62
  t127 := Tryz.underlying96
  a127 := Tryz.isAgg96
  z127 := Tryz.sizeOf96
  v127 := Tryz.zeroValue96 }
theorem Tryz.Builder_Extra_169 : Builder.Extra Tryz.prog Tryz.lays169_ren := {
  sizeBuilder := by kernel_rfl
  liesBuilder := by kernel_rfl
  t5 := Tryz.underlying5
  a5 := Tryz.isAgg5
  z5 := Tryz.sizeOf5
  v5 := Tryz.zeroValue5
  infoByte := by kernel_rfl
  cellsByte := by kernel_rfl
  sizeByte := by kernel_rfl
  neB5 := by decide }
open Go.RowKit in
theorem Tryz.Builder_String_any (B b : Nat) (l : List UInt8) (w : World) (h : Lib.IsBuilder 62 5 B b (Lib.byteCells l) w) (hBw : B ≤ w.heap.size) :
    Calls Tryz.prog 22 #[.pointer (some ⟨b, 0, none⟩)] w fun e w' => e = .returned (.string ⟨l.toArray⟩) ∧ Below B w w' := Any.Builder_String_any Tryz.lays169 Tryz.Builder_Extra_169 B b l w h hBw
def Tryz.lays158_ren : Go.Shelf.Ren := ⟨fun | 158 => 94 | 165 => 131 | 166 => 17 | 167 => 132 | 169 => 22 | 230 => 133 | 203 => 134 | 240 => 37 | 241 => 167 | 197 => 156 | 118 => 168 | 168 => 169 | 270 => 170 | 262 => 171 | 276 => 63 | 277 => 202 | 260 => 190 | 242 => 203 | 313 => 204 | 278 => 219 | 274 => 220 | 275 => 221 | n => n, fun | 9 => 9 | 4 => 4 | 3 => 3 | 5 => 5 | 72 => 62 | 0 => 0 | 76 => 68 | 75 => 25 | 107 => 81 | 70 => 59 | 20 => 20 | 37 => 60 | 127 => 96 | 21 => 21 | 105 => 219 | 164 => 130 | 162 => 259 | 203 => 224 | 119 => 269 | 46 => 173 | 139 => 272 | 138 => 271 | 51 => 214 | 160 => 275 | 208 => 282 | 206 => 280 | 80 => 28 | n => n, fun | 13 => 1 | 3 => 3 | 4 => 4 | n => n⟩
theorem Tryz.lays158 : Go.Proofs.Lays.n158 Tryz.prog Tryz.lays158_ren := {
  mixed := by kernel_rfl
  f118 := Tryz.func168.trans (congrArg some (by kernel_rfl))
  f158 := Tryz.func94.trans (congrArg some (by kernel_rfl))
  f165 := Tryz.func131.trans (congrArg some (by kernel_rfl))
  f166 := Tryz.func17.trans (congrArg some (by kernel_rfl))
  f167 := Tryz.func132.trans (congrArg some (by kernel_rfl))
  f168 := Tryz.func169.trans (congrArg some (by kernel_rfl))
  f169 := Tryz.func22.trans (congrArg some (by kernel_rfl))
  f197 := Tryz.func156.trans (congrArg some (by kernel_rfl))
  f203 := Tryz.func134.trans (congrArg some (by kernel_rfl))
  f230 := Tryz.func133.trans (congrArg some (by kernel_rfl))
  f240 := Tryz.func37.trans (congrArg some (by kernel_rfl))
  f241 := Tryz.func167.trans (congrArg some (by kernel_rfl))
  f242 := Tryz.func203.trans (congrArg some (by kernel_rfl))
  f260 := Tryz.func190.trans (congrArg some (by kernel_rfl))
  f262 := Tryz.func171.trans (congrArg some (by kernel_rfl))
  f270 := Tryz.func170.trans (congrArg some (by kernel_rfl))
  f274 := Tryz.func220.trans (congrArg some (by kernel_rfl))
  f275 := Tryz.func221.trans (congrArg some (by kernel_rfl))
  f276 := Tryz.func63.trans (congrArg some (by kernel_rfl))
  f277 := Tryz.func202.trans (congrArg some (by kernel_rfl))
  f278 := Tryz.func219.trans (congrArg some (by kernel_rfl))
  f313 := Tryz.func204.trans (congrArg some (by kernel_rfl))
  t0 := Tryz.underlying0
  a0 := Tryz.isAgg0
  z0 := Tryz.sizeOf0
  v0 := Tryz.zeroValue0
  t3 := Tryz.underlying3
  a3 := Tryz.isAgg3
  z3 := Tryz.sizeOf3
  v3 := Tryz.zeroValue3
  t4 := Tryz.underlying4
  a4 := Tryz.isAgg4
  z4 := Tryz.sizeOf4
  v4 := Tryz.zeroValue4
  t5 := Tryz.underlying5
  a5 := Tryz.isAgg5
  z5 := Tryz.sizeOf5
  v5 := Tryz.zeroValue5
  t9 := Tryz.underlying9
  a9 := Tryz.isAgg9
  z9 := Tryz.sizeOf9
  v9 := Tryz.zeroValue9
  t20 := Tryz.underlying20
  a20 := Tryz.isAgg20
  z20 := Tryz.sizeOf20
  v20 := Tryz.zeroValue20
  t21 := Tryz.underlying21
  a21 := Tryz.isAgg21
  z21 := Tryz.sizeOf21
  v21 := Tryz.zeroValue21
  t37 := Tryz.underlying60
  a37 := Tryz.isAgg60
  z37 := Tryz.sizeOf60
  v37 := Tryz.zeroValue60
  t46 := Tryz.underlying173
  a46 := Tryz.isAgg173
  z46 := Tryz.sizeOf173
  v46 := Tryz.zeroValue173
  t51 := Tryz.underlying214
  a51 := Tryz.isAgg214
  z51 := Tryz.sizeOf214
  v51 := Tryz.zeroValue214
  t70 := Tryz.underlying59
  a70 := Tryz.isAgg59
  z70 := Tryz.sizeOf59
  v70 := Tryz.zeroValue59
  t72 := Tryz.underlying62
  a72 := Tryz.isAgg62
  z72 := Tryz.sizeOf62
  v72 := Tryz.zeroValue62
  t75 := Tryz.underlying25
  a75 := Tryz.isAgg25
  z75 := Tryz.sizeOf25
  v75 := Tryz.zeroValue25
  t76 := Tryz.underlying68
  a76 := Tryz.isAgg68
  z76 := Tryz.sizeOf68
  v76 := Tryz.zeroValue68
  t105 := Tryz.underlying219
  a105 := Tryz.isAgg219
  z105 := Tryz.sizeOf219
  v105 := Tryz.zeroValue219
  t107 := Tryz.underlying81
  a107 := Tryz.isAgg81
  z107 := Tryz.sizeOf81
  v107 := Tryz.zeroValue81
  t119 := Tryz.underlying269
  a119 := Tryz.isAgg269
  z119 := Tryz.sizeOf269
  t127 := Tryz.underlying96
  a127 := Tryz.isAgg96
  z127 := Tryz.sizeOf96
  v127 := Tryz.zeroValue96
  t138 := Tryz.underlying271
  a138 := Tryz.isAgg271
  z138 := Tryz.sizeOf271
  v138 := Tryz.zeroValue271
  t139 := Tryz.underlying272
  a139 := Tryz.isAgg272
  z139 := Tryz.sizeOf272
  v139 := Tryz.zeroValue272
  t160 := Tryz.underlying275
  a160 := Tryz.isAgg275
  z160 := Tryz.sizeOf275
  v160 := Tryz.zeroValue275
  t162 := Tryz.underlying259
  a162 := Tryz.isAgg259
  z162 := Tryz.sizeOf259
  v162 := Tryz.zeroValue259
  t164 := Tryz.underlying130
  a164 := Tryz.isAgg130
  z164 := Tryz.sizeOf130
  v164 := Tryz.zeroValue130
  t203 := Tryz.underlying224
  a203 := Tryz.isAgg224
  z203 := Tryz.sizeOf224
  v203 := Tryz.zeroValue224
  t206 := Tryz.underlying280
  a206 := Tryz.isAgg280
  z206 := Tryz.sizeOf280
  v206 := Tryz.zeroValue280
  t208 := Tryz.underlying282
  a208 := Tryz.isAgg282
  z208 := Tryz.sizeOf282
  v208 := Tryz.zeroValue282
  g3 := by kernel_rfl
  g4 := by kernel_rfl
  g13 := by kernel_rfl }
theorem Tryz.Builder_Extra_158 : Builder.Extra Tryz.prog Tryz.lays158_ren := {
  sizeBuilder := by kernel_rfl
  liesBuilder := by kernel_rfl
  t5 := Tryz.underlying5
  a5 := Tryz.isAgg5
  z5 := Tryz.sizeOf5
  v5 := Tryz.zeroValue5
  infoByte := by kernel_rfl
  cellsByte := by kernel_rfl
  sizeByte := by kernel_rfl
  neB5 := by decide }
open Go.RowKit in
theorem Tryz.strings_ToUpper_ascii (s : ByteArray) (w : World) (hs : s.size ≤ 140737488355328) (hascii : ∀ (j : Nat) (b : UInt8), s.data.toList[j]? = some b → b.toNat < 128) :
    Calls Tryz.prog 94 #[.string s] w fun e w' => e = .returned (.string ⟨(Lib.toUpperA s.data.toList).toArray⟩) ∧ Below w.heap.size w w' := Any.strings_ToUpper_ascii Tryz.lays158 Tryz.Builder_Extra_158 s w hs hascii
def Tryz.lays105_ren : Go.Shelf.Ren := ⟨fun | 105 => 96 | 212 => 136 | 99 => 79 | 165 => 131 | 166 => 17 | 170 => 137 | 169 => 22 | 263 => 176 | 264 => 177 | 206 => 109 | 240 => 37 | 241 => 167 | 276 => 63 | 277 => 202 | n => n, fun | 9 => 9 | 3 => 3 | 4 => 4 | 20 => 20 | 0 => 0 | 46 => 173 | 109 => 198 | 5 => 5 | 72 => 62 | 76 => 68 | 51 => 214 | 146 => 237 | 53 => 216 | 148 => 239 | 70 => 59 | 37 => 60 | 75 => 25 | 127 => 96 | 164 => 130 | 80 => 28 | n => n, fun | n => n⟩
theorem Tryz.lays105 : Go.Proofs.Lays.n105 Tryz.prog Tryz.lays105_ren := {
  mixed := by kernel_rfl
  f99 := Tryz.func79.trans (congrArg some (by kernel_rfl))
  f105 := Tryz.func96.trans (congrArg some (by kernel_rfl))
  f165 := Tryz.func131.trans (congrArg some (by kernel_rfl))
  f166 := Tryz.func17.trans (congrArg some (by kernel_rfl))
  f169 := Tryz.func22.trans (congrArg some (by kernel_rfl))
  f170 := Tryz.func137.trans (congrArg some (by kernel_rfl))
  f206 := Tryz.func109.trans (congrArg some (by kernel_rfl))
  f212 := Tryz.func136.trans (congrArg some (by kernel_rfl))
  f240 := Tryz.func37.trans (congrArg some (by kernel_rfl))
  f241 := Tryz.func167.trans (congrArg some (by kernel_rfl))
  f263 := Tryz.func176.trans (congrArg some (by kernel_rfl))
  f264 := Tryz.func177.trans (congrArg some (by kernel_rfl))
  f276 := Tryz.func63.trans (congrArg some (by kernel_rfl))
  f277 := Tryz.func202.trans (congrArg some (by kernel_rfl))
  t0 := Tryz.underlying0
  a0 := Tryz.isAgg0
  z0 := Tryz.sizeOf0
  v0 := Tryz.zeroValue0
  t3 := Tryz.underlying3
  a3 := Tryz.isAgg3
  z3 := Tryz.sizeOf3
  v3 := Tryz.zeroValue3
  t4 := Tryz.underlying4
  a4 := Tryz.isAgg4
  z4 := Tryz.sizeOf4
  v4 := Tryz.zeroValue4
  t5 := Tryz.underlying5
  a5 := Tryz.isAgg5
  z5 := Tryz.sizeOf5
  v5 := Tryz.zeroValue5
  t9 := Tryz.underlying9
  a9 := Tryz.isAgg9
  z9 := Tryz.sizeOf9
  v9 := Tryz.zeroValue9
  t20 := Tryz.underlying20
  a20 := Tryz.isAgg20
  z20 := Tryz.sizeOf20
  v20 := Tryz.zeroValue20
  t37 := Tryz.underlying60
  a37 := Tryz.isAgg60
  z37 := Tryz.sizeOf60
  v37 := Tryz.zeroValue60
  t46 := Tryz.underlying173
  a46 := Tryz.isAgg173
  z46 := Tryz.sizeOf173
  v46 := Tryz.zeroValue173
  t51 := Tryz.underlying214
  a51 := Tryz.isAgg214
  z51 := Tryz.sizeOf214
  v51 := Tryz.zeroValue214
  t53 := Tryz.underlying216
  a53 := Tryz.isAgg216
  z53 := Tryz.sizeOf216
  v53 := Tryz.zeroValue216
  t70 := Tryz.underlying59
  a70 := Tryz.isAgg59
  z70 := Tryz.sizeOf59
  v70 := Tryz.zeroValue59
  t72 := Tryz.underlying62
  a72 := Tryz.isAgg62
  z72 := Tryz.sizeOf62
  v72 := Tryz.zeroValue62
  t75 := Tryz.underlying25
  a75 := Tryz.isAgg25
  z75 := Tryz.sizeOf25
  v75 := Tryz.zeroValue25
  t76 := Tryz.underlying68
  a76 := Tryz.isAgg68
  z76 := Tryz.sizeOf68
  v76 := Tryz.zeroValue68
  t109 := Tryz.underlying198
  a109 := Tryz.isAgg198
  z109 := Tryz.sizeOf198
  v109 := Tryz.zeroValue198
  t127 := Tryz.underlying96
  a127 := Tryz.isAgg96
  z127 := Tryz.sizeOf96
  v127 := Tryz.zeroValue96
  t146 := Tryz.underlying237
  a146 := Tryz.isAgg237
  z146 := Tryz.sizeOf237
  v146 := Tryz.zeroValue237
  t148 := Tryz.underlying239
  a148 := Tryz.isAgg239
  z148 := Tryz.sizeOf239
  v148 := Tryz.zeroValue239
  t164 := Tryz.underlying130
  a164 := Tryz.isAgg130
  z164 := Tryz.sizeOf130
  v164 := Tryz.zeroValue130 }
theorem Tryz.Builder_Extra_105 : Builder.Extra Tryz.prog Tryz.lays105_ren := {
  sizeBuilder := by kernel_rfl
  liesBuilder := by kernel_rfl
  t5 := Tryz.underlying5
  a5 := Tryz.isAgg5
  z5 := Tryz.sizeOf5
  v5 := Tryz.zeroValue5
  infoByte := by kernel_rfl
  cellsByte := by kernel_rfl
  sizeByte := by kernel_rfl
  neB5 := by decide }
open Go.RowKit Go.Lib in
theorem Tryz.strings_Repeat (s : ByteArray) (c : Nat) (w : World) (hc : c ≤ 9223372036854775807) (hlen : s.size * c ≤ 140737488355328) :
    Calls Tryz.prog 96 #[.string s, .int .i64 c] w fun e w' => e = .returned (.string ⟨(Lib.repeatL s.data.toList c).toArray⟩) ∧ Below w.heap.size w w' := Any.strings_Repeat Tryz.lays105 Tryz.Builder_Extra_105 s c w hc hlen
theorem Tryz.lays166 : Go.Proofs.Lays.n166 Tryz.prog Tryz.lays158_ren := { Tryz.lays158 with }
open Go.RowKit in
theorem Tryz.Builder_WriteString (B b : Nat) (bs : List Value) (s : ByteArray) (w : World) (h : Lib.IsBuilder 62 5 B b bs w) (hlen : bs.length + s.size ≤ 140737488355328) (hBw : B ≤ w.heap.size) :
    Calls Tryz.prog 17 #[.pointer (some ⟨b, 0, none⟩), .string s] w fun e w' => e = .returned (.tuple #[.int .i64 s.size, .nilIface]) ∧ (Lib.BuilderAt 62 5 B b (.pointer (some ⟨b, 0, none⟩)) (bs ++ Lib.strCells s) w' ∧ Below B w w') := Any.Builder_WriteString Tryz.lays166 Tryz.Builder_Extra_158 B b bs s w h hlen hBw
end Go.Proofs
/-
  Go's small roads to the base sixteen: 16 is a power of two, and four zeros stand behind its one.
-/
namespace Go.Proofs.YthgaadjkjnibaaaGreatDoor
open Go.RowKit Go.PlainAid Go.Lib
set_option linter.unusedVariables false

theorem pow2_16 (w : World) : Calls Tryz.prog 207 #[.int .i64 16] w fun e w' => e = .returned (.bool true) ∧ w' = w := by
  have h : bits .and .i64 16 15 = 0 := by decide
  go_enter Tryz.func207, Tryz.ntmps207
  go_wp2
  go_ret
  exact ⟨rfl, rfl⟩
/-- the table of the library tells four for sixteen -/
def tz16At (w : World) : Prop := w.cell? ⟨6, 15, none⟩ = some (.int .u8 4)
theorem tz64_16 (w : World) (hg : tz16At w) : Calls Tryz.prog 223 #[.int .u64 16] w fun e w' => e = .returned (.int .i64 4) ∧ w' = w := by
  have hg' : w.cell? ⟨6, 15, none⟩ = some (.int .u8 4) := hg
  have q0 : bits .and .u64 16 (IntKind.u64.wrap (-16)) = 16 := by decide
  have q1 : IntKind.u64.wrap (16 * 285870213051353865) = 4573923408821661840 := by decide
  clear hg
  go_enter Tryz.func223, Tryz.ntmps223
  go_wp2
  go_ret
  exact ⟨rfl, rfl⟩
theorem tz_16 (w : World) (hg : tz16At w) : Calls Tryz.prog 208 #[.int .u64 16] w fun e w' => e = .returned (.int .i64 4) ∧ w' = w := by
  have H := hide (tz64_16 w hg)
  clear hg
  go_enter Tryz.func208, Tryz.ntmps208
  go_wp2_with (go_at_call 223; refine (unhide H).mono ?_; rintro e w' ⟨rfl, rfl⟩)
  go_ret
  exact ⟨rfl, rfl⟩
end Go.Proofs.YthgaadjkjnibaaaGreatDoor
/-
  Go's digits to the base sixteen (strconv.FormatInt), of a code point.
-/
namespace Go.Proofs.YthgaadjkjnibaaaGreatDoor
open Go.RowKit Go.PlainAid Go.Lib
set_option linter.unusedVariables false

/-- the byte of a small digit -/
def lowAt (d : Nat) : Nat := if d < 10 then 48 + d else 87 + d
def lowDg (d : Nat) : UInt8 := UInt8.ofNat (lowAt d)
/-- the last k digits of n, the highest first -/
def lowUp : Nat → Nat → List UInt8
  | 0, _ => []
  | k + 1, n => lowDg (n / 16 ^ k % 16) :: lowUp k n
theorem lowUp_len (k n : Nat) : (lowUp k n).length = k := by
  induction k with
  | zero => rfl
  | succ k ih => simp [lowUp, ih]
def rowL (p : Nat) (l : List UInt8) : Array Value := (List.replicate p (Value.int .u8 0) ++ l.map fun b => Value.int .u8 (b.toNat : Int)).toArray
theorem rowL_set (p : Nat) (l : List UInt8) (b : UInt8) : (rowL (p + 1) l).set! p (.int .u8 (b.toNat : Int)) = rowL p (b :: l) := by
  apply Array.ext'
  simp only [rowL, Array.set!_eq_setIfInBounds, List.setIfInBounds_toArray]
  rw [List.replicate_succ', List.append_assoc]
  rw [List.set_append_right _ _ (by simp)]
  simp
theorem rowL_at (p : Nat) (l : List UInt8) : (rowL (p + 1) l)[p]? = some (.int .u8 0) := by
  simp only [rowL, List.getElem?_toArray]
  rw [List.getElem?_append_left (by simp)]
  simp

theorem low_lit (d : Nat) (h : d < 16) (h' : d < (⟨#[48, 49, 50, 51, 52, 53, 54, 55, 56, 57, 97, 98, 99, 100, 101, 102, 103, 104, 105, 106, 107, 108, 109, 110, 111, 112, 113, 114, 115, 116, 117, 118, 119, 120, 121, 122]⟩ : ByteArray).size) : ((⟨#[48, 49, 50, 51, 52, 53, 54, 55, 56, 57, 97, 98, 99, 100, 101, 102, 103, 104, 105, 106, 107, 108, 109, 110, 111, 112, 113, 114, 115, 116, 117, 118, 119, 120, 121, 122]⟩ : ByteArray)[d]'h') = lowDg d := by
  have : ∀ i : Fin 16, ((#[48, 49, 50, 51, 52, 53, 54, 55, 56, 57, 97, 98, 99, 100, 101, 102, 103, 104, 105, 106, 107, 108, 109, 110, 111, 112, 113, 114, 115, 116, 117, 118, 119, 120, 121, 122] : Array UInt8)[i.val]'(Nat.lt_of_lt_of_le i.isLt (by decide))) = lowDg i.val := by decide
  exact this ⟨d, h⟩
theorem and15 (q : Nat) (hq : q ≤ 1114111) : bits .and .u64 (q : Int) 15 = ((q % 16 : Nat) : Int) := by
  have h := bits_mask .u64 63 (by decide) (fun n h0 h1 => by rw [IntKind.wrap_u64]; omega) 4 (by decide) (q : Int) (by omega) (by omega)
  exact h.trans (by omega)

set_option maxRecDepth 100000 in
set_option maxHeartbeats 2000000 in
theorem fmtBits_16 (n : Nat) (hn : n ≤ 1114111) (w : World) (hg : tz16At w) :
    Calls Tryz.prog 175 #[.slice none 0 0, .int .u64 (n : Int), .int .i64 16, .bool false, .bool false] w fun e w' => (∃ k, n < 16 ^ (k + 1) ∧ (k = 0 ∨ 16 ^ k ≤ n) ∧ e = .returned (.tuple #[.slice none 0 0, .string ⟨(lowUp (k + 1) n).toArray⟩])) ∧ Below w.heap.size w w' := by
  have H2 := hide pow2_16
  have HG := hide hg
  have hgB : 6 < w.heap.size := World.block_lt_of_cell? _ _ hg
  clear hg
  go_enter Tryz.func175, Tryz.ntmps175
  go_wp2_with fail
  have hb1 : Below w.heap.size w (w.alloc (.cells Tryz.zeroCells262 262)) := (Below.refl w.heap.size w).alloc (Nat.le_refl _) _
  have hx : (w.alloc (.cells Tryz.zeroCells262 262)).heap[w.heap.size]? = some (.cells (rowL 65 []) 262 (0, 0)) :=
    (heap_alloc_new w _).trans (congrArg (fun c => some (Obj.cells c 262 (0, 0))) (by kernel_rfl))
  generalize w.alloc (.cells Tryz.zeroCells262 262) = W at hb1 hx ⊢
  refine (unhide H2 _).mono ?_
  rintro e w' ⟨rfl, h⟩
  obtain rfl : W = w' := h.symm
  have HT := hide (tz_16 W ((hb1.cell hgB).trans (unhide HG)))
  have HX := hide hx
  have HB1 := hide hb1
  clear hx hb1
  go_wp2_with fail
  refine (unhide HT).mono ?_
  rintro e w' ⟨rfl, h⟩
  obtain rfl : W = w' := h.symm
  go_wp2
  obtain ⟨B, hB⟩ : ∃ B, B = w.heap.size := ⟨_, rfl⟩
  go_loopg [1, 13] 7 (fun kx s1 s13 wr => ∃ k p q : Nat, k ≤ 5 ∧ p + k = 65 ∧ Hid (k = 0 ∨ 16 ^ k ≤ n) ∧ Hid (q = n / 16 ^ k) ∧ q ≤ 1114111 ∧ s1 = .int .u64 (q : Int) ∧ s13 = .int .i64 (p : Int) ∧ kx = 7 - k ∧ Hid (Below w.heap.size w wr) ∧ Hid (wr.heap[w.heap.size]? = some (.cells (rowL p (lowUp k n)) 262 (0, 0))))
  case atStart => exact ⟨0, 65, n, by omega, rfl, hide (.inl rfl), hide (by simp), hn, rfl, rfl, rfl, HB1, HX⟩
  case round =>
    obtain ⟨k, p, q, hk, hp, HM, HQ, hq1, rfl, rfl, rfl, HB, HR⟩ := hrel
    obtain ⟨p, rfl⟩ : ∃ p', p = p' + 1 := ⟨p - 1, by omega⟩
    have d0 : wr.cell? ⟨w.heap.size, p, none⟩ = some (.int .u8 0) := by simp [World.cell?, unhide HR, rowL_at]
    have f0 : wr.frozen? ⟨w.heap.size, p, none⟩ = false := by simp [World.frozen?, unhide HR]
    have hp65 : p < 65 := by omega
    have hand := and15 q hq1
    by_cases hc : 16 ≤ q
    · obtain ⟨r, hr⟩ : ∃ r, r = q % 16 := ⟨_, rfl⟩
      rw [← hr] at hand
      have hr16 : r < 16 := by omega
      have hlit := low_lit r hr16 (Nat.lt_of_lt_of_le hr16 (by decide))
      have HRR := hide hr
      clear hr
      have HR2 : Hid ((wr.setCell ⟨w.heap.size, p, none⟩ (.int .u8 ((lowDg r).toNat : Int))).heap[w.heap.size]? = some (.cells (rowL p (lowUp (k + 1) n)) 262 (0, 0))) := by
        show _ = _
        rw [setCell_eq_setRow wr w.heap.size p _ _ _ _ (unhide HR), lowUp, ← unhide HQ, ← unhide HRR, ← rowL_set]
        exact setRow_heap wr w.heap.size _ _ _ _ (unhide HR)
      have HB2 := hide ((unhide HB).setCell (p := ⟨w.heap.size, p, none⟩) (Nat.le_refl _) (.int .u8 ((lowDg r).toNat : Int)))
      have HQ2 : Hid (q / 16 = n / 16 ^ (k + 1)) := by
        show _ = _
        rw [unhide HQ, Nat.div_div_eq_div_mul, Nat.pow_succ]
      have HM2 : Hid (k + 1 = 0 ∨ 16 ^ (k + 1) ≤ n) := by
        right
        have h1 : 16 ≤ n / 16 ^ k := by rw [← unhide HQ]; exact hc
        have h2 := (Nat.le_div_iff_mul_le (Nat.pow_pos (by omega : 0 < 16))).1 h1
        rw [Nat.pow_succ, Nat.mul_comm]; exact h2
      have HK : Hid (k + 1 ≤ 5) := by
        show _ ≤ _
        rcases Nat.lt_or_ge k 5 with h | h
        · omega
        · obtain rfl : k = 5 := by omega
          have h1 : q = n / 1048576 := unhide HQ
          omega
      go_wp2
      go_roundg (7 - (k + 1))
      case measure => omega
      case rel => exact ⟨k + 1, p, q / 16, unhide HK, by omega, HM2, HQ2, by omega, congrArg (Value.int .u64) (by omega), rfl, rfl, HB2, HR2⟩
    · have hq16 : q < 16 := Nat.lt_of_not_le hc
      clear hand
      have hlit := low_lit q hq16 (Nat.lt_of_lt_of_le hq16 (by decide))
      have HR2 : Hid ((wr.setCell ⟨w.heap.size, p, none⟩ (.int .u8 ((lowDg q).toNat : Int))).heap[w.heap.size]? = some (.cells (rowL p (lowUp (k + 1) n)) 262 (0, 0))) := by
        show _ = _
        rw [setCell_eq_setRow wr w.heap.size p _ _ _ _ (unhide HR), lowUp, ← unhide HQ, Nat.mod_eq_of_lt hq16, ← rowL_set]
        exact setRow_heap wr w.heap.size _ _ _ _ (unhide HR)
      have HB2 := hide ((unhide HB).setCell (p := ⟨w.heap.size, p, none⟩) (Nat.le_refl _) (.int .u8 ((lowDg q).toNat : Int)))
      have hsl : ∀ W, (Instr.sliceAt 262 (.pointer (some ⟨w.heap.size, 0, none⟩)) (some (.int .i64 (p : Int))) none none).run Tryz.prog W = .ok (.slice (some ⟨w.heap.size, p, none⟩) (k + 1) (k + 1)) W := fun W => by
        have hal : Tryz.prog.arrayLen 262 = 65 := by kernel_rfl
        rw [run_sliceAt_array_l W 262 ⟨w.heap.size, 0, none⟩ (by kernel_rfl) .i64 (p : Int) (by omega) (by rw [hal]; omega)]
        have hel : Tryz.prog.elem 262 = 5 := by kernel_rfl
        rw [hal, hel]
        have e1 : 65 - p = k + 1 := by omega
        simp [slicedAt, e1, go_sem]
        omega
      have HN := hide (show n < 16 ^ (k + 1) by
        have h1 : n / 16 ^ k < 16 := by rw [← unhide HQ]; exact hq16
        have h2 := (Nat.div_lt_iff_lt_mul (Nat.pow_pos (by omega : 0 < 16))).1 h1
        rw [Nat.pow_succ, Nat.mul_comm]; exact h2)
      generalize hW2 : wr.setCell ⟨w.heap.size, p, none⟩ (.int .u8 ((lowDg q).toNat : Int)) = W2 at HR2 HB2
      have hcv : (convert 60 9 (.slice (some ⟨w.heap.size, p, none⟩) (k + 1) (k + 1))).run Tryz.prog W2 = .ok (.string ⟨(lowUp (k + 1) n).toArray⟩) W2 := by
        have h := run_convert_bytes_back (P := Tryz.prog) W2 60 9 5 ⟨w.heap.size, p, none⟩ (k + 1) (lowUp (k + 1) n) Tryz.underlying60 Tryz.underlying5 Tryz.underlying9 (fun j hj => by
          have h1 : W2.cell? ⟨w.heap.size, p + j, none⟩ = some (.int .u8 ((lowUp (k + 1) n)[j].toNat : Int)) := by
            have h2 : (rowL p (lowUp (k + 1) n))[p + j]? = some (.int .u8 ((lowUp (k + 1) n)[j].toNat : Int)) := by
              simp only [rowL, List.getElem?_toArray]
              rw [List.getElem?_append_right (by simp)]
              simp [hj]
            simp [World.cell?, unhide HR2, h2]
          have e2 : Addr.add ⟨w.heap.size, p, none⟩ j = ⟨w.heap.size, p + j, none⟩ := by simp [Addr.add]
          rw [e2]
          exact h1)
        rwa [lowUp_len] at h
      rw [← hW2] at hcv
      have HW2 := hide hW2
      clear hW2
      go_wp2
      go_ret2
      exact ⟨⟨k, unhide HN, unhide HM, rfl⟩, by rw [unhide HW2]; exact unhide HB2⟩

theorem fmtInt_16i (n : Nat) (hn : n ≤ 1114111) (w : World) (hg : tz16At w) :
    Calls Tryz.prog 135 #[.int .i64 (n : Int), .int .i64 16] w fun e w' => (∃ k, n < 16 ^ (k + 1) ∧ (k = 0 ∨ 16 ^ k ≤ n) ∧ e = .returned (.string ⟨(lowUp (k + 1) n).toArray⟩)) ∧ Below w.heap.size w w' := by
  have H := hide (fmtBits_16 n hn w hg)
  clear hg
  go_enter Tryz.func135, Tryz.ntmps135
  go_wp2_with (go_at_call 175; refine (unhide H).mono ?_; rintro e w' ⟨⟨k, h1, h2, rfl⟩, hb⟩; have H1 := hide h1; have H2 := hide h2; clear h1 h2)
  go_ret
  exact ⟨⟨k, unhide H1, unhide H2, rfl⟩, hb⟩
theorem fmtInt_16 (n : Nat) (hn : n ≤ 1114111) (w : World) (hg : tz16At w) :
    Calls Tryz.prog 95 #[.int .i64 (n : Int), .int .i64 16] w fun e w' => (∃ k, n < 16 ^ (k + 1) ∧ (k = 0 ∨ 16 ^ k ≤ n) ∧ e = .returned (.string ⟨(lowUp (k + 1) n).toArray⟩)) ∧ Below w.heap.size w w' := by
  have H := hide (fmtInt_16i n hn w hg)
  clear hg
  go_enter Tryz.func95, Tryz.ntmps95
  go_wp2_with (go_at_call 135; refine (unhide H).mono ?_; rintro e w' ⟨⟨k, h1, h2, rfl⟩, hb⟩; have H1 := hide h1; have H2 := hide h2; clear h1 h2)
  go_ret
  exact ⟨⟨k, unhide H1, unhide H2, rfl⟩, hb⟩
end Go.Proofs.YthgaadjkjnibaaaGreatDoor
/-
  The document's Digit and Read, of every text: what the program's digit and Hex say.
-/
namespace Go.Proofs.YthgaadjkjnibaaaGreatDoor
open Go.RowKit Go.PlainAid Go.Lib Go.PHexM
set_option linter.unusedVariables false

/-- the byte of a digit -/
def digAt (j : Nat) : Nat := if j < 10 then 48 + j else 55 + j
theorem dig_at {b : UInt8} {i : Nat} (hi : i < 16) (h : digAt i = b.toNat) : dig b = some i := by
  unfold digAt at h
  split at h
  · rw [dig_low (by omega) (by omega)]; exact congrArg some (by omega)
  · rw [dig_high (by omega) (by omega)]; exact congrArg some (by omega)
theorem dig_nowhere {b : UInt8} (h : ∀ j, j < 16 → ¬ digAt j = b.toNat) : dig b = none := by
  apply dig_not
  by_cases c1 : b.toNat < 48
  · exact .inl c1
  by_cases c2 : b.toNat ≤ 57
  · exact absurd (by unfold digAt; rw [if_pos (by omega)]; omega) (h (b.toNat - 48) (by omega))
  by_cases c3 : b.toNat < 65
  · exact .inr (.inl ⟨by omega, c3⟩)
  by_cases c4 : b.toNat ≤ 70
  · exact absurd (by unfold digAt; rw [if_neg (by omega)]; omega) (h (b.toNat - 55) (by omega))
  · exact .inr (.inr (by omega))
theorem lit_at (i : Nat) (h : i < (⟨#[48, 49, 50, 51, 52, 53, 54, 55, 56, 57, 65, 66, 67, 68, 69, 70]⟩ : ByteArray).size) : ((⟨#[48, 49, 50, 51, 52, 53, 54, 55, 56, 57, 65, 66, 67, 68, 69, 70]⟩ : ByteArray)[i]'h).toNat = digAt i := by
  have : ∀ i : Fin 16, ((#[48, 49, 50, 51, 52, 53, 54, 55, 56, 57, 65, 66, 67, 68, 69, 70] : Array UInt8)[i.val]'i.isLt).toNat = digAt i.val := by decide
  exact this ⟨i, h⟩

def refDigV (b : UInt8) : Int := match dig b with
  | some d => d
  | none => -1
end Go.Proofs.YthgaadjkjnibaaaGreatDoor
/-
  The document's Show, of every number.
-/
namespace Go.Proofs.YthgaadjkjnibaaaGreatDoor
open Go.RowKit Go.PlainAid Go.Lib Go.PHexM
set_option linter.unusedVariables false

/-- the byte of a digit -/
def dgt (d : Nat) : UInt8 := UInt8.ofNat (digAt d)
/-- the last i digits of n, the highest first -/
def hexUp : Nat → Nat → List UInt8
  | 0, _ => []
  | i + 1, n => dgt (n / 16 ^ i % 16) :: hexUp i n
def showLen (n : Nat) : Nat := if n < 65536 then 4 else if n < 1048576 then 5 else 6
def showP (n : Nat) : List UInt8 := hexUp (showLen n) n
theorem hexUp_len (i n : Nat) : (hexUp i n).length = i := by
  induction i with
  | zero => rfl
  | succ i ih => simp [hexUp, ih]
def hexS (i n : Nat) : ByteArray := ⟨(hexUp i n).toArray⟩
theorem hexS_size (i n : Nat) : (hexS i n).size = i := by
  show (hexUp i n).toArray.size = i
  simp [hexUp_len]
theorem hexS_succ (i n : Nat) : (⟨#[dgt (n / 16 ^ i % 16)]⟩ : ByteArray) ++ hexS i n = hexS (i + 1) n := by
  apply ByteArray.ext
  rw [ByteArray.data_append]
  simp [hexS, hexUp]
theorem dgt_lit (d : Nat) (h : d < (⟨#[48, 49, 50, 51, 52, 53, 54, 55, 56, 57, 65, 66, 67, 68, 69, 70]⟩ : ByteArray).size) : ((⟨#[48, 49, 50, 51, 52, 53, 54, 55, 56, 57, 65, 66, 67, 68, 69, 70]⟩ : ByteArray)[d]'h) = dgt d := by
  apply UInt8.toNat_inj.1
  rw [lit_at d h, dgt]
  have h' : d < 16 := h
  have : digAt d < 256 := by unfold digAt; split <;> omega
  simp [Nat.mod_eq_of_lt this]

theorem one_conv (w : World) (b : UInt8) :
    (convert 60 9 (.slice (some ⟨w.heap.size, 0, none⟩) 1 1)).run Tryz.prog (w.alloc (.cells #[.int .u8 (b.toNat : Int)] 5)) = .ok (.string ⟨#[b]⟩) (w.alloc (.cells #[.int .u8 (b.toNat : Int)] 5)) := by
  refine run_convert_bytes_back (P := Tryz.prog) _ 60 9 5 ⟨w.heap.size, 0, none⟩ 1 [b] Tryz.underlying60 Tryz.underlying5 Tryz.underlying9 (fun j hj => ?_)
  have : j = 0 := by simp at hj; omega
  subst this
  have h := heap_alloc_new w (.cells #[.int .u8 (b.toNat : Int)] 5)
  have hc : (w.alloc (.cells #[.int .u8 (b.toNat : Int)] 5)).cell? ⟨w.heap.size, 0, none⟩ = some (.int .u8 (b.toNat : Int)) := by
    generalize w.alloc (.cells #[.int .u8 (b.toNat : Int)] 5) = W at h
    simp [World.cell?, h]
  exact hc
/-- a number below 16^6 has fallen to nothing behind its digits -/
theorem show_done {n i : Nat} (hn : n ≤ 1114111) (hp : i ≤ 4 ∨ 0 < n / 16 ^ (i - 1)) (h0 : n / 16 ^ i = 0) (h4 : 4 ≤ i) (h6 : i ≤ 6) : i = showLen n := by
  unfold showLen
  have : i = 4 ∨ i = 5 ∨ i = 6 := by omega
  rcases this with rfl | rfl | rfl
  · rw [if_pos (by have : n / 65536 = 0 := h0; omega)]
  · have h1 : 0 < n / 65536 := by rcases hp with h | h; omega; exact h
    have h2 : n / 1048576 = 0 := h0
    rw [if_neg (by omega), if_pos (by omega)]
  · have h1 : 0 < n / 1048576 := by rcases hp with h | h; omega; exact h
    rw [if_neg (by omega), if_neg (by omega)]
theorem show_room {n i : Nat} (hn : n ≤ 1114111) (h6 : i ≤ 6) (h : 0 < n / 16 ^ i ∨ i < 4) : i + 1 ≤ 6 := by
  rcases Nat.lt_or_ge i 6 with h' | h'
  · omega
  · obtain rfl : i = 6 := by omega
    rcases h with h | h
    · have : 0 < n / 16777216 := h
      omega
    · omega

end Go.Proofs.YthgaadjkjnibaaaGreatDoor
/-
  (Of this seat: these contracts stand in RwShelf2.)
-/
/-
  The program's Show, of every number that has one.
-/
namespace Go.Proofs.YthgaadjkjnibaaaGreatDoor
open Go.RowKit Go.PlainAid Go.Lib Go.Shelf Go.PHexM
set_option linter.unusedVariables false

theorem hexUp_pad (m c n : Nat) (h : n < 16 ^ m) : hexUp (m + c) n = List.replicate c 48 ++ hexUp m n := by
  induction c with
  | zero => simp
  | succ c ih =>
    have h1 : n / 16 ^ (m + c) = 0 := Nat.div_eq_of_lt (Nat.lt_of_lt_of_le h (Nat.pow_le_pow_right (by omega) (by omega)))
    show hexUp (m + c + 1) n = _
    rw [hexUp, ih, h1, List.replicate_succ]
    rfl
theorem showLen_of {n k : Nat} (hn : n ≤ 1114111) (h1 : n < 16 ^ (k + 1)) (h2 : k = 0 ∨ 16 ^ k ≤ n) : showLen n = (k + 1) + (4 - (k + 1)) ∧ k ≤ 5 := by
  have hk : k ≤ 5 := by
    rcases Nat.lt_or_ge k 6 with h | h
    · omega
    · rcases h2 with h2 | h2
      · omega
      · have : 16 ^ 6 ≤ 16 ^ k := Nat.pow_le_pow_right (by omega) h
        omega
  refine ⟨?_, hk⟩
  unfold showLen
  have : k = 0 ∨ k = 1 ∨ k = 2 ∨ k = 3 ∨ k = 4 ∨ k = 5 := by omega
  rcases this with rfl | rfl | rfl | rfl | rfl | rfl <;> simp only [Nat.reducePow, Nat.reduceAdd] at h1 h2
  · rw [if_pos (by omega)]
  · rw [if_pos (by omega)]
  · rw [if_pos (by omega)]
  · rw [if_pos (by omega)]
  · rw [if_neg (by omega), if_pos (by omega)]
  · rw [if_neg (by omega), if_neg (by omega)]
theorem lowDg_up : ∀ d : Fin 16, Lib.toUpperA [lowDg d.val] = [dgt d.val] ∧ (lowDg d.val).toNat < 128 := by decide
theorem lowUp_up (k n : Nat) : Lib.toUpperA (lowUp k n) = hexUp k n := by
  induction k with
  | zero => rfl
  | succ k ih =>
    have h := (lowDg_up ⟨n / 16 ^ k % 16, Nat.mod_lt _ (by omega)⟩).1
    have e : ∀ (b : UInt8) l, Lib.toUpperA (b :: l) = Lib.toUpperA [b] ++ Lib.toUpperA l := fun b l => rfl
    rw [lowUp, hexUp, e, ih, h]
    rfl
theorem lowUp_ascii (k n : Nat) : ∀ (j : Nat) (b : UInt8), (lowUp k n)[j]? = some b → b.toNat < 128 := by
  induction k with
  | zero => intro j b h; simp [lowUp] at h
  | succ k ih =>
    intro j b h
    cases j with
    | zero =>
      have h' := (lowDg_up ⟨n / 16 ^ k % 16, Nat.mod_lt _ (by omega)⟩).2
      simp [lowUp] at h
      rw [← h]; exact h'
    | succ j => exact ih j b (by simpa [lowUp] using h)
theorem toUp_any (k n : Nat) (hk : k ≤ 5) (w : World) :
    Calls Tryz.prog 94 #[.string ⟨(lowUp (k + 1) n).toArray⟩] w fun e w' => e = .returned (.string (hexS (k + 1) n)) ∧ Below w.heap.size w w' := by
  have h := Tryz.strings_ToUpper_ascii ⟨(lowUp (k + 1) n).toArray⟩ w (by show (lowUp (k + 1) n).toArray.size ≤ _; simp [lowUp_len]; omega) (fun j b hb => lowUp_ascii (k + 1) n j b (by simpa using hb))
  have e : (⟨(lowUp (k + 1) n).toArray⟩ : ByteArray).data.toList = lowUp (k + 1) n := by simp
  rw [e, lowUp_up] at h
  exact h
theorem rep_any (c : Nat) (hc : c ≤ 4) (w : World) :
    Calls Tryz.prog 96 #[.string ⟨#[48]⟩, .int .i64 (c : Int)] w fun e w' => e = .returned (.string ⟨(List.replicate c 48).toArray⟩) ∧ Below w.heap.size w w' := by
  have h := Tryz.strings_Repeat ⟨#[48]⟩ c w (by omega) (by show 1 * c ≤ _; omega)
  have e : Lib.repeatL (⟨#[48]⟩ : ByteArray).data.toList c = List.replicate c 48 := by
    clear h hc
    induction c with
    | zero => rfl
    | succ c ih => rw [Lib.repeatL, ih, List.replicate_succ]; rfl
  rw [e] at h
  exact h

set_option maxRecDepth 100000 in
set_option maxHeartbeats 2000000 in
theorem show_any (n : Nat) (hn : n ≤ 1114111) (w : World) (hg : tz16At w) :
    Calls Tryz.prog 65 #[.int .i32 (n : Int)] w fun e w' => e = .returned (.tuple #[.string (hexS (showLen n) n), .int .i64 0]) ∧ Below w.heap.size w w' := by
  obtain ⟨S0, hS0⟩ : ∃ S0, S0 = hexS (showLen n) n := ⟨_, rfl⟩
  rw [← hS0]
  have HS0 := hide hS0
  clear hS0
  have HF := hide (fmtInt_16 n hn w hg)
  clear hg
  go_enter Tryz.func65, Tryz.ntmps65
  go_wp2_with fail
  refine (unhide HF).mono ?_
  rintro e w1 ⟨⟨k, h1, h2, rfl⟩, hb1⟩
  have hL := showLen_of hn h1 h2
  have hk := hL.2
  have HU := hide (toUp_any k n hk w1)
  have HP := hide (hexUp_pad (k + 1) (4 - (k + 1)) n h1)
  have HL := hide hL.1
  have HB1 := hide hb1
  clear h1 h2 hL hb1
  go_wp2_with fail
  refine (unhide HU).mono ?_
  rintro e w2 ⟨rfl, hb2⟩
  have HB2 := hide ((unhide HB1).trans (hb2.mono (unhide HB1).size))
  clear hb2
  have hsz := hexS_size (k + 1) n
  obtain ⟨S, hS⟩ : ∃ S, S = hexS (k + 1) n := ⟨_, rfl⟩
  rw [← hS] at hsz ⊢
  have HS := hide hS
  clear hS
  obtain ⟨c, hc⟩ : ∃ c, c = 4 - (k + 1) := ⟨_, rfl⟩
  have hc4 : c ≤ 4 := by omega
  have HR := hide (rep_any c hc4)
  have emax : max 0 (4 - ((k : Int) + 1)) = (c : Int) := by omega
  have HC := hide hc
  clear hc
  go_wp2_with fail
  refine (unhide HR w2).mono ?_
  rintro e w3 ⟨rfl, hb3⟩
  have HB3 := hide ((unhide HB2).trans (hb3.mono (unhide HB2).size))
  clear hb3
  obtain ⟨R, hR⟩ : ∃ R, R = (⟨(List.replicate c 48).toArray⟩ : ByteArray) := ⟨_, rfl⟩
  have hRz : R.size = c := by rw [hR]; show (List.replicate c (48 : UInt8)).toArray.size = c; simp
  rw [← hR]
  have HE : Hid (R ++ S = S0) := by
    show R ++ S = S0
    rw [unhide HS0, unhide HL, unhide HS, hR, unhide HC]
    apply ByteArray.ext
    rw [ByteArray.data_append]
    show _ = (hexUp (k + 1 + (4 - (k + 1))) n).toArray
    rw [unhide HP]
    simp [hexS]
  clear hR
  go_wp2
  go_ret2
  exact ⟨by rw [← unhide HE]; rfl, unhide HB3⟩
theorem show_no (r : Int) (hr : r < 0 ∨ 1114111 < r) (w : World) :
    Calls Tryz.prog 65 #[.int .i32 r] w fun e w' => e = .returned (.tuple #[.string ⟨#[]⟩, .int .i64 40]) ∧ w' = w := by
  rcases hr with h | h
  · go_enter Tryz.func65, Tryz.ntmps65
    go_wp2
    go_ret2
    exact ⟨rfl, rfl⟩
  · have h0 : 0 ≤ r := by omega
    go_enter Tryz.func65, Tryz.ntmps65
    go_wp2
    go_ret2
    exact ⟨rfl, rfl⟩
end Go.Proofs.YthgaadjkjnibaaaGreatDoor
/-
  ShowSpan of every range: the program's.
-/
namespace Go.Proofs.YthgaadjkjnibaaaGreatDoor
open Go.RowKit Go.PlainAid Go.Lib Go.Shelf Go.PHexM
set_option linter.unusedVariables false

/-- the text of a range that may be -/
def spanS (a b : Nat) : ByteArray := if a = b then hexS (showLen a) a else hexS (showLen a) a ++ ⟨#[46, 46]⟩ ++ hexS (showLen b) b

set_option maxRecDepth 100000 in
theorem showSpan_no (lo hi : Int) (hm : mayB lo hi = false) (w : World) :
    Calls Tryz.prog 38 #[.agg #[.int .i32 lo, .int .i32 hi]] w fun e w' => e = .returned (.tuple #[.string ⟨#[]⟩, .int .i64 41]) ∧ Below w.heap.size w w' := by
  have HM : Hid (∀ W, Calls Tryz.prog 64 #[.agg #[.int .i32 lo, .int .i32 hi]] W fun e w' => e = .returned (.bool false) ∧ w' = W.alloc (.cells #[.int .i32 lo, .int .i32 hi] 32)) := fun W => by
    have := may_any lo hi W
    rwa [hm] at this
  clear hm
  go_enter Tryz.func38, Tryz.ntmps38
  go_wp2_with (go_at_call 64; refine (unhide HM _).mono ?_; rintro e w' ⟨rfl, rfl⟩)
  go_ret2
  exact ⟨rfl, ((Below.refl w.heap.size w).alloc (Nat.le_refl _) _).alloc (by simp) _⟩

set_option maxRecDepth 100000 in
set_option maxHeartbeats 1000000 in
theorem showSpan_yes (a b : Nat) (hab : a ≤ b) (hb : b ≤ 1114111) (w : World) (hg : tz16At w) :
    Calls Tryz.prog 38 #[.agg #[.int .i32 (a : Int), .int .i32 (b : Int)]] w fun e w' => e = .returned (.tuple #[.string (spanS a b), .int .i64 0]) ∧ Below w.heap.size w w' := by
  obtain ⟨S0, hS0⟩ : ∃ S0, S0 = spanS a b := ⟨_, rfl⟩
  rw [← hS0]
  have HS0 := hide hS0
  clear hS0
  have hgB : 6 < w.heap.size := World.block_lt_of_cell? _ _ hg
  have HM : Hid (∀ W, Calls Tryz.prog 64 #[.agg #[.int .i32 (a : Int), .int .i32 (b : Int)]] W fun e w' => e = .returned (.bool true) ∧ w' = W.alloc (.cells #[.int .i32 (a : Int), .int .i32 (b : Int)] 32)) := fun W => by
    have := may_any a b W
    rwa [show mayB a b = true from mayB_iff.2 ⟨by omega, by omega, by omega⟩] at this
  have HG := hide hg
  clear hg
  have b1 := ((Below.refl w.heap.size w).alloc (Nat.le_refl _) (.cells #[.int .i32 (a : Int), .int .i32 (b : Int)] 32)).alloc (by simp) (.cells #[.int .i32 (a : Int), .int .i32 (b : Int)] 32)
  have x1 : ((w.alloc (.cells #[.int .i32 (a : Int), .int .i32 (b : Int)] 32)).alloc (.cells #[.int .i32 (a : Int), .int .i32 (b : Int)] 32)).heap[w.heap.size]? = some (.cells #[.int .i32 (a : Int), .int .i32 (b : Int)] 32 (0, 0)) := by
    rw [Below.heap_alloc _ _ _ (by simp)]
    exact heap_alloc_new w _
  have HB1 := hide b1
  have HX1 := hide x1
  clear b1 x1
  go_enter Tryz.func38, Tryz.ntmps38
  go_wp2_with fail
  refine (unhide HM _).mono ?_
  rintro e w' ⟨rfl, h⟩
  subst h
  generalize (w.alloc (.cells #[.int .i32 (a : Int), .int .i32 (b : Int)] 32)).alloc (.cells #[.int .i32 (a : Int), .int .i32 (b : Int)] 32) = W at HB1 HX1 ⊢
  have d0 : W.cell? ⟨w.heap.size, 0, none⟩ = some (.int .i32 (a : Int)) := by simp [World.cell?, unhide HX1]
  have HS := hide (show_any a (by omega) W (((unhide HB1).cell hgB).trans (unhide HG)))
  go_wp2_with fail
  refine (unhide HS).mono ?_
  rintro e W2 ⟨rfl, hb2⟩
  have hlt : w.heap.size < W.heap.size := (Array.getElem?_eq_some_iff.1 (unhide HX1)).1
  have HX2 := hide ((hb2.block w.heap.size hlt).trans (unhide HX1))
  have HB2 := hide ((unhide HB1).trans (hb2.mono (unhide HB1).size))
  clear hb2 d0
  have d0 : W2.cell? ⟨w.heap.size, 0, none⟩ = some (.int .i32 (a : Int)) := by simp [World.cell?, unhide HX2]
  have d1 : W2.cell? ⟨w.heap.size, 1, none⟩ = some (.int .i32 (b : Int)) := by simp [World.cell?, unhide HX2]
  have hAz := hexS_size (showLen a) a
  have hA6 : showLen a ≤ 6 := by unfold showLen; split; omega; split <;> omega
  obtain ⟨A, hA⟩ : ∃ A, A = hexS (showLen a) a := ⟨_, rfl⟩
  rw [← hA] at hAz ⊢
  have HA := hide hA
  clear hA
  by_cases hq : a = b
  · have HE : Hid (S0 = A) := by show _ = _; rw [unhide HS0, unhide HA, spanS, if_pos hq]
    subst hq
    go_wp2
    go_ret2
    exact ⟨by rw [unhide HE]; rfl, unhide HB2⟩
  · have hq' : ¬ (a : Int) = (b : Int) := by omega
    have HSb := hide (show_any b hb W2 (((unhide HB2).cell hgB).trans (unhide HG)))
    go_wp2_with fail
    refine (unhide HSb).mono ?_
    rintro e W3 ⟨rfl, hb3⟩
    have HB3 := hide ((unhide HB2).trans (hb3.mono (unhide HB2).size))
    clear hb3
    have hBz := hexS_size (showLen b) b
    have hB6 : showLen b ≤ 6 := by unfold showLen; split; omega; split <;> omega
    obtain ⟨Bs, hBs⟩ : ∃ Bs, Bs = hexS (showLen b) b := ⟨_, rfl⟩
    rw [← hBs] at hBz ⊢
    have HE : Hid (S0 = A ++ ⟨#[46, 46]⟩ ++ Bs) := by show _ = _; rw [unhide HS0, unhide HA, hBs, spanS, if_neg hq]
    clear hBs
    have hAB : (A ++ (⟨#[46, 46]⟩ : ByteArray)).size ≤ 8 := by
      rw [ByteArray.size_append, hAz]; show showLen a + 2 ≤ 8; omega
    go_wp2
    go_ret2
    exact ⟨by rw [unhide HE]; rfl, unhide HB3⟩
end Go.Proofs.YthgaadjkjnibaaaGreatDoor

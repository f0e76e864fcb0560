/-
  These texts, one behind the other: RwShelf2, PBits, PFmt, RHex, RShow, PShelf2, PShow, PShowSp.
-/
import Derived.Shelf.Strings.OnBuilder
import Derived.Shelf.Strings.Repeat
import Derived.Shelf.Strings.Builder1
import Derived.Test.YtlgolaoabgmijaaGreatDoorChecked
import Derived.Test.YtlgolaoabgmijaaGreatDoorHx
import Derived.Laws.BitsLemmas
import Derived.Deep.LoopGhost
/-
  DERIVED: THE SHELF's CONTRACTS AT THIS DUMP, IN PLAIN WORDS (tools/lay-plain.mjs out of 'LayRwShelf2.lean', which tools/lay-shelf.mjs wrote): THE SAME DECLARATIONS UNDER THE SAME NAMES: 'import', 'namespace', 'open', 'def', 'theorem' AND NOTHING ELSE: no command of the shelf's: FOR A HAND-IN. Each laying: the table of numbers ('.._ren') and one theorem, a field a fact of the dump's own or the kernel's comparison; each contract: ONE APPLICATION.
-/
namespace Go.Proofs
open Go.Shelf
def Tryz.lays169_ren : Go.Shelf.Ren := ⟨fun | 169 => 47 | n => n, fun | 70 => 99 | 9 => 9 | 0 => 0 | 72 => 102 | 37 => 100 | 127 => 157 | 3 => 3 | 5 => 5 | n => n, fun | n => n⟩
theorem Tryz.lays169 : Go.Proofs.Lays.n169 Tryz.prog Tryz.lays169_ren := {
  mixed := by kernel_rfl
  f169 := Tryz.func47.trans (congrArg some (by kernel_rfl))
  t0 := Tryz.underlying0
  a0 := Tryz.isAgg0
  z0 := Tryz.sizeOf0
  v0 := Tryz.zeroValue0
  t3 := Tryz.underlying3
  a3 := Tryz.isAgg3
  z3 := Tryz.sizeOf3
  v3 := Tryz.zeroValue3
  t9 := Tryz.underlying9
  a9 := Tryz.isAgg9
  z9 := Tryz.sizeOf9
  v9 := Tryz.zeroValue9
  t37 := Tryz.underlying100
  a37 := Tryz.isAgg100
  z37 := Tryz.sizeOf100
  v37 := Tryz.zeroValue100
  t70 := Tryz.underlying99
  a70 := Tryz.isAgg99
  z70 := Tryz.sizeOf99
  v70 := Tryz.zeroValue99
  t72 := Tryz.underlying102
  a72 := Tryz.isAgg102
  z72 := Tryz.sizeOf102
  v72 := Tryz.zeroValue102
  t127 := Tryz.underlying157
  a127 := Tryz.isAgg157
  z127 := Tryz.sizeOf157
  v127 := Tryz.zeroValue157 }
theorem Tryz.Builder_Extra_169 : Builder.Extra Tryz.prog Tryz.lays169_ren := {
  sizeBuilder := by kernel_rfl
  liesBuilder := by kernel_rfl
  t5 := Tryz.underlying5
  a5 := Tryz.isAgg5
  z5 := Tryz.sizeOf5
  v5 := Tryz.zeroValue5
  infoByte := by kernel_rfl
  cellsByte := by kernel_rfl
  sizeByte := by kernel_rfl
  neB5 := by decide }
open Go.RowKit in
theorem Tryz.Builder_String_any (B b : Nat) (l : List UInt8) (w : World) (h : Lib.IsBuilder 102 5 B b (Lib.byteCells l) w) (hBw : B ≤ w.heap.size) :
    Calls Tryz.prog 47 #[.pointer (some ⟨b, 0, none⟩)] w fun e w' => e = .returned (.string ⟨l.toArray⟩) ∧ Below B w w' := Any.Builder_String_any Tryz.lays169 Tryz.Builder_Extra_169 B b l w h hBw
def Tryz.lays158_ren : Go.Shelf.Ren := ⟨fun | 158 => 160 | 165 => 201 | 166 => 43 | 167 => 202 | 169 => 47 | 230 => 203 | 203 => 204 | 240 => 80 | 241 => 234 | 197 => 212 | 118 => 235 | 168 => 236 | 270 => 237 | 262 => 238 | 276 => 123 | 277 => 265 | 260 => 249 | 242 => 266 | 313 => 267 | 278 => 281 | 274 => 282 | 275 => 283 | n => n, fun | 9 => 9 | 4 => 4 | 3 => 3 | 5 => 5 | 72 => 102 | 0 => 0 | 76 => 103 | 75 => 27 | 107 => 93 | 70 => 99 | 20 => 20 | 37 => 100 | 127 => 157 | 21 => 21 | 105 => 296 | 164 => 127 | 162 => 339 | 203 => 301 | 119 => 346 | 46 => 250 | 139 => 349 | 138 => 348 | 51 => 285 | 160 => 352 | 208 => 359 | 206 => 357 | 80 => 52 | n => n, fun | 13 => 2 | 3 => 4 | 4 => 5 | n => n⟩
theorem Tryz.lays158 : Go.Proofs.Lays.n158 Tryz.prog Tryz.lays158_ren := {
  mixed := by kernel_rfl
  f118 := Tryz.func235.trans (congrArg some (by kernel_rfl))
  f158 := Tryz.func160.trans (congrArg some (by kernel_rfl))
  f165 := Tryz.func201.trans (congrArg some (by kernel_rfl))
  f166 := Tryz.func43.trans (congrArg some (by kernel_rfl))
  f167 := Tryz.func202.trans (congrArg some (by kernel_rfl))
  f168 := Tryz.func236.trans (congrArg some (by kernel_rfl))
  f169 := Tryz.func47.trans (congrArg some (by kernel_rfl))
  f197 := Tryz.func212.trans (congrArg some (by kernel_rfl))
  f203 := Tryz.func204.trans (congrArg some (by kernel_rfl))
  f230 := Tryz.func203.trans (congrArg some (by kernel_rfl))
  f240 := Tryz.func80.trans (congrArg some (by kernel_rfl))
  f241 := Tryz.func234.trans (congrArg some (by kernel_rfl))
  f242 := Tryz.func266.trans (congrArg some (by kernel_rfl))
  f260 := Tryz.func249.trans (congrArg some (by kernel_rfl))
  f262 := Tryz.func238.trans (congrArg some (by kernel_rfl))
  f270 := Tryz.func237.trans (congrArg some (by kernel_rfl))
  f274 := Tryz.func282.trans (congrArg some (by kernel_rfl))
  f275 := Tryz.func283.trans (congrArg some (by kernel_rfl))
  f276 := Tryz.func123.trans (congrArg some (by kernel_rfl))
  f277 := Tryz.func265.trans (congrArg some (by kernel_rfl))
  f278 := Tryz.func281.trans (congrArg some (by kernel_rfl))
  f313 := Tryz.func267.trans (congrArg some (by kernel_rfl))
  t0 := Tryz.underlying0
  a0 := Tryz.isAgg0
  z0 := Tryz.sizeOf0
  v0 := Tryz.zeroValue0
  t3 := Tryz.underlying3
  a3 := Tryz.isAgg3
  z3 := Tryz.sizeOf3
  v3 := Tryz.zeroValue3
  t4 := Tryz.underlying4
  a4 := Tryz.isAgg4
  z4 := Tryz.sizeOf4
  v4 := Tryz.zeroValue4
  t5 := Tryz.underlying5
  a5 := Tryz.isAgg5
  z5 := Tryz.sizeOf5
  v5 := Tryz.zeroValue5
  t9 := Tryz.underlying9
  a9 := Tryz.isAgg9
  z9 := Tryz.sizeOf9
  v9 := Tryz.zeroValue9
  t20 := Tryz.underlying20
  a20 := Tryz.isAgg20
  z20 := Tryz.sizeOf20
  v20 := Tryz.zeroValue20
  t21 := Tryz.underlying21
  a21 := Tryz.isAgg21
  z21 := Tryz.sizeOf21
  v21 := Tryz.zeroValue21
  t37 := Tryz.underlying100
  a37 := Tryz.isAgg100
  z37 := Tryz.sizeOf100
  v37 := Tryz.zeroValue100
  t46 := Tryz.underlying250
  a46 := Tryz.isAgg250
  z46 := Tryz.sizeOf250
  v46 := Tryz.zeroValue250
  t51 := Tryz.underlying285
  a51 := Tryz.isAgg285
  z51 := Tryz.sizeOf285
  v51 := Tryz.zeroValue285
  t70 := Tryz.underlying99
  a70 := Tryz.isAgg99
  z70 := Tryz.sizeOf99
  v70 := Tryz.zeroValue99
  t72 := Tryz.underlying102
  a72 := Tryz.isAgg102
  z72 := Tryz.sizeOf102
  v72 := Tryz.zeroValue102
  t75 := Tryz.underlying27
  a75 := Tryz.isAgg27
  z75 := Tryz.sizeOf27
  v75 := Tryz.zeroValue27
  t76 := Tryz.underlying103
  a76 := Tryz.isAgg103
  z76 := Tryz.sizeOf103
  v76 := Tryz.zeroValue103
  t105 := Tryz.underlying296
  a105 := Tryz.isAgg296
  z105 := Tryz.sizeOf296
  v105 := Tryz.zeroValue296
  t107 := Tryz.underlying93
  a107 := Tryz.isAgg93
  z107 := Tryz.sizeOf93
  v107 := Tryz.zeroValue93
  t119 := Tryz.underlying346
  a119 := Tryz.isAgg346
  z119 := Tryz.sizeOf346
  t127 := Tryz.underlying157
  a127 := Tryz.isAgg157
  z127 := Tryz.sizeOf157
  v127 := Tryz.zeroValue157
  t138 := Tryz.underlying348
  a138 := Tryz.isAgg348
  z138 := Tryz.sizeOf348
  v138 := Tryz.zeroValue348
  t139 := Tryz.underlying349
  a139 := Tryz.isAgg349
  z139 := Tryz.sizeOf349
  v139 := Tryz.zeroValue349
  t160 := Tryz.underlying352
  a160 := Tryz.isAgg352
  z160 := Tryz.sizeOf352
  v160 := Tryz.zeroValue352
  t162 := Tryz.underlying339
  a162 := Tryz.isAgg339
  z162 := Tryz.sizeOf339
  v162 := Tryz.zeroValue339
  t164 := Tryz.underlying127
  a164 := Tryz.isAgg127
  z164 := Tryz.sizeOf127
  v164 := Tryz.zeroValue127
  t203 := Tryz.underlying301
  a203 := Tryz.isAgg301
  z203 := Tryz.sizeOf301
  v203 := Tryz.zeroValue301
  t206 := Tryz.underlying357
  a206 := Tryz.isAgg357
  z206 := Tryz.sizeOf357
  v206 := Tryz.zeroValue357
  t208 := Tryz.underlying359
  a208 := Tryz.isAgg359
  z208 := Tryz.sizeOf359
  v208 := Tryz.zeroValue359
  g3 := by kernel_rfl
  g4 := by kernel_rfl
  g13 := by kernel_rfl }
theorem Tryz.Builder_Extra_158 : Builder.Extra Tryz.prog Tryz.lays158_ren := {
  sizeBuilder := by kernel_rfl
  liesBuilder := by kernel_rfl
  t5 := Tryz.underlying5
  a5 := Tryz.isAgg5
  z5 := Tryz.sizeOf5
  v5 := Tryz.zeroValue5
  infoByte := by kernel_rfl
  cellsByte := by kernel_rfl
  sizeByte := by kernel_rfl
  neB5 := by decide }
open Go.RowKit in
theorem Tryz.strings_ToUpper_ascii (s : ByteArray) (w : World) (hs : s.size ≤ 140737488355328) (hascii : ∀ (j : Nat) (b : UInt8), s.data.toList[j]? = some b → b.toNat < 128) :
    Calls Tryz.prog 160 #[.string s] w fun e w' => e = .returned (.string ⟨(Lib.toUpperA s.data.toList).toArray⟩) ∧ Below w.heap.size w w' := Any.strings_ToUpper_ascii Tryz.lays158 Tryz.Builder_Extra_158 s w hs hascii
def Tryz.lays105_ren : Go.Shelf.Ren := ⟨fun | 105 => 162 | 212 => 206 | 99 => 127 | 165 => 201 | 166 => 43 | 170 => 207 | 169 => 47 | 263 => 243 | 264 => 244 | 206 => 163 | 240 => 80 | 241 => 234 | 276 => 123 | 277 => 265 | n => n, fun | 9 => 9 | 3 => 3 | 4 => 4 | 20 => 20 | 0 => 0 | 46 => 250 | 109 => 291 | 5 => 5 | 72 => 102 | 76 => 103 | 51 => 285 | 146 => 320 | 53 => 287 | 148 => 322 | 70 => 99 | 37 => 100 | 75 => 27 | 127 => 157 | 164 => 127 | 80 => 52 | n => n, fun | n => n⟩
theorem Tryz.lays105 : Go.Proofs.Lays.n105 Tryz.prog Tryz.lays105_ren := {
  mixed := by kernel_rfl
  f99 := Tryz.func127.trans (congrArg some (by kernel_rfl))
  f105 := Tryz.func162.trans (congrArg some (by kernel_rfl))
  f165 := Tryz.func201.trans (congrArg some (by kernel_rfl))
  f166 := Tryz.func43.trans (congrArg some (by kernel_rfl))
  f169 := Tryz.func47.trans (congrArg some (by kernel_rfl))
  f170 := Tryz.func207.trans (congrArg some (by kernel_rfl))
  f206 := Tryz.func163.trans (congrArg some (by kernel_rfl))
  f212 := Tryz.func206.trans (congrArg some (by kernel_rfl))
  f240 := Tryz.func80.trans (congrArg some (by kernel_rfl))
  f241 := Tryz.func234.trans (congrArg some (by kernel_rfl))
  f263 := Tryz.func243.trans (congrArg some (by kernel_rfl))
  f264 := Tryz.func244.trans (congrArg some (by kernel_rfl))
  f276 := Tryz.func123.trans (congrArg some (by kernel_rfl))
  f277 := Tryz.func265.trans (congrArg some (by kernel_rfl))
  t0 := Tryz.underlying0
  a0 := Tryz.isAgg0
  z0 := Tryz.sizeOf0
  v0 := Tryz.zeroValue0
  t3 := Tryz.underlying3
  a3 := Tryz.isAgg3
  z3 := Tryz.sizeOf3
  v3 := Tryz.zeroValue3
  t4 := Tryz.underlying4
  a4 := Tryz.isAgg4
  z4 := Tryz.sizeOf4
  v4 := Tryz.zeroValue4
  t5 := Tryz.underlying5
  a5 := Tryz.isAgg5
  z5 := Tryz.sizeOf5
  v5 := Tryz.zeroValue5
  t9 := Tryz.underlying9
  a9 := Tryz.isAgg9
  z9 := Tryz.sizeOf9
  v9 := Tryz.zeroValue9
  t20 := Tryz.underlying20
  a20 := Tryz.isAgg20
  z20 := Tryz.sizeOf20
  v20 := Tryz.zeroValue20
  t37 := Tryz.underlying100
  a37 := Tryz.isAgg100
  z37 := Tryz.sizeOf100
  v37 := Tryz.zeroValue100
  t46 := Tryz.underlying250
  a46 := Tryz.isAgg250
  z46 := Tryz.sizeOf250
  v46 := Tryz.zeroValue250
  t51 := Tryz.underlying285
  a51 := Tryz.isAgg285
  z51 := Tryz.sizeOf285
  v51 := Tryz.zeroValue285
  t53 := Tryz.underlying287
  a53 := Tryz.isAgg287
  z53 := Tryz.sizeOf287
  v53 := Tryz.zeroValue287
  t70 := Tryz.underlying99
  a70 := Tryz.isAgg99
  z70 := Tryz.sizeOf99
  v70 := Tryz.zeroValue99
  t72 := Tryz.underlying102
  a72 := Tryz.isAgg102
  z72 := Tryz.sizeOf102
  v72 := Tryz.zeroValue102
  t75 := Tryz.underlying27
  a75 := Tryz.isAgg27
  z75 := Tryz.sizeOf27
  v75 := Tryz.zeroValue27
  t76 := Tryz.underlying103
  a76 := Tryz.isAgg103
  z76 := Tryz.sizeOf103
  v76 := Tryz.zeroValue103
  t109 := Tryz.underlying291
  a109 := Tryz.isAgg291
  z109 := Tryz.sizeOf291
  v109 := Tryz.zeroValue291
  t127 := Tryz.underlying157
  a127 := Tryz.isAgg157
  z127 := Tryz.sizeOf157
  v127 := Tryz.zeroValue157
  t146 := Tryz.underlying320
  a146 := Tryz.isAgg320
  z146 := Tryz.sizeOf320
  v146 := Tryz.zeroValue320
  t148 := Tryz.underlying322
  a148 := Tryz.isAgg322
  z148 := Tryz.sizeOf322
  v148 := Tryz.zeroValue322
  t164 := Tryz.underlying127
  a164 := Tryz.isAgg127
  z164 := Tryz.sizeOf127
  v164 := Tryz.zeroValue127 }
theorem Tryz.Builder_Extra_105 : Builder.Extra Tryz.prog Tryz.lays105_ren := {
  sizeBuilder := by kernel_rfl
  liesBuilder := by kernel_rfl
  t5 := Tryz.underlying5
  a5 := Tryz.isAgg5
  z5 := Tryz.sizeOf5
  v5 := Tryz.zeroValue5
  infoByte := by kernel_rfl
  cellsByte := by kernel_rfl
  sizeByte := by kernel_rfl
  neB5 := by decide }
open Go.RowKit Go.Lib in
theorem Tryz.strings_Repeat (s : ByteArray) (c : Nat) (w : World) (hc : c ≤ 9223372036854775807) (hlen : s.size * c ≤ 140737488355328) :
    Calls Tryz.prog 162 #[.string s, .int .i64 c] w fun e w' => e = .returned (.string ⟨(Lib.repeatL s.data.toList c).toArray⟩) ∧ Below w.heap.size w w' := Any.strings_Repeat Tryz.lays105 Tryz.Builder_Extra_105 s c w hc hlen
theorem Tryz.lays166 : Go.Proofs.Lays.n166 Tryz.prog Tryz.lays158_ren := { Tryz.lays158 with }
open Go.RowKit in
theorem Tryz.Builder_WriteString (B b : Nat) (bs : List Value) (s : ByteArray) (w : World) (h : Lib.IsBuilder 102 5 B b bs w) (hlen : bs.length + s.size ≤ 140737488355328) (hBw : B ≤ w.heap.size) :
    Calls Tryz.prog 43 #[.pointer (some ⟨b, 0, none⟩), .string s] w fun e w' => e = .returned (.tuple #[.int .i64 s.size, .nilIface]) ∧ (Lib.BuilderAt 102 5 B b (.pointer (some ⟨b, 0, none⟩)) (bs ++ Lib.strCells s) w' ∧ Below B w w') := Any.Builder_WriteString Tryz.lays166 Tryz.Builder_Extra_158 B b bs s w h hlen hBw
end Go.Proofs
/-
  Go's small roads to the base sixteen: 16 is a power of two, and four zeros stand behind its one.
-/
namespace Go.Proofs.YtlgolaoabgmijaaGreatDoor
open Go.RowKit Go.PlainAid Go.Lib
set_option linter.unusedVariables false

theorem pow2_16 (w : World) : Calls Tryz.prog 270 #[.int .i64 16] w fun e w' => e = .returned (.bool true) ∧ w' = w := by
  have h : bits .and .i64 16 15 = 0 := by decide
  go_enter Tryz.func270, Tryz.ntmps270
  go_wp2
  go_ret
  exact ⟨rfl, rfl⟩
/-- the table of the library tells four for sixteen -/
def tz16At (w : World) : Prop := w.cell? ⟨7, 15, none⟩ = some (.int .u8 4)
theorem tz64_16 (w : World) (hg : tz16At w) : Calls Tryz.prog 285 #[.int .u64 16] w fun e w' => e = .returned (.int .i64 4) ∧ w' = w := by
  have hg' : w.cell? ⟨7, 15, none⟩ = some (.int .u8 4) := hg
  have q0 : bits .and .u64 16 (IntKind.u64.wrap (-16)) = 16 := by decide
  have q1 : IntKind.u64.wrap (16 * 285870213051353865) = 4573923408821661840 := by decide
  clear hg
  go_enter Tryz.func285, Tryz.ntmps285
  go_wp2
  go_ret
  exact ⟨rfl, rfl⟩
theorem tz_16 (w : World) (hg : tz16At w) : Calls Tryz.prog 271 #[.int .u64 16] w fun e w' => e = .returned (.int .i64 4) ∧ w' = w := by
  have H := hide (tz64_16 w hg)
  clear hg
  go_enter Tryz.func271, Tryz.ntmps271
  go_wp2_with (go_at_call 285; refine (unhide H).mono ?_; rintro e w' ⟨rfl, rfl⟩)
  go_ret
  exact ⟨rfl, rfl⟩
end Go.Proofs.YtlgolaoabgmijaaGreatDoor
/-
  Go's digits to the base sixteen (strconv.FormatInt), of a code point.
-/
namespace Go.Proofs.YtlgolaoabgmijaaGreatDoor
open Go.RowKit Go.PlainAid Go.Lib
set_option linter.unusedVariables false

/-- the byte of a small digit -/
def lowAt (d : Nat) : Nat := if d < 10 then 48 + d else 87 + d
def lowDg (d : Nat) : UInt8 := UInt8.ofNat (lowAt d)
/-- the last k digits of n, the highest first -/
def lowUp : Nat → Nat → List UInt8
  | 0, _ => []
  | k + 1, n => lowDg (n / 16 ^ k % 16) :: lowUp k n
theorem lowUp_len (k n : Nat) : (lowUp k n).length = k := by
  induction k with
  | zero => rfl
  | succ k ih => simp [lowUp, ih]
def rowL (p : Nat) (l : List UInt8) : Array Value := (List.replicate p (Value.int .u8 0) ++ l.map fun b => Value.int .u8 (b.toNat : Int)).toArray
theorem rowL_set (p : Nat) (l : List UInt8) (b : UInt8) : (rowL (p + 1) l).set! p (.int .u8 (b.toNat : Int)) = rowL p (b :: l) := by
  apply Array.ext'
  simp only [rowL, Array.set!_eq_setIfInBounds, List.setIfInBounds_toArray]
  rw [List.replicate_succ', List.append_assoc]
  rw [List.set_append_right _ _ (by simp)]
  simp
theorem rowL_at (p : Nat) (l : List UInt8) : (rowL (p + 1) l)[p]? = some (.int .u8 0) := by
  simp only [rowL, List.getElem?_toArray]
  rw [List.getElem?_append_left (by simp)]
  simp

theorem low_lit (d : Nat) (h : d < 16) (h' : d < (⟨#[48, 49, 50, 51, 52, 53, 54, 55, 56, 57, 97, 98, 99, 100, 101, 102, 103, 104, 105, 106, 107, 108, 109, 110, 111, 112, 113, 114, 115, 116, 117, 118, 119, 120, 121, 122]⟩ : ByteArray).size) : ((⟨#[48, 49, 50, 51, 52, 53, 54, 55, 56, 57, 97, 98, 99, 100, 101, 102, 103, 104, 105, 106, 107, 108, 109, 110, 111, 112, 113, 114, 115, 116, 117, 118, 119, 120, 121, 122]⟩ : ByteArray)[d]'h') = lowDg d := by
  have : ∀ i : Fin 16, ((#[48, 49, 50, 51, 52, 53, 54, 55, 56, 57, 97, 98, 99, 100, 101, 102, 103, 104, 105, 106, 107, 108, 109, 110, 111, 112, 113, 114, 115, 116, 117, 118, 119, 120, 121, 122] : Array UInt8)[i.val]'(Nat.lt_of_lt_of_le i.isLt (by decide))) = lowDg i.val := by decide
  exact this ⟨d, h⟩
theorem and15 (q : Nat) (hq : q ≤ 1114111) : bits .and .u64 (q : Int) 15 = ((q % 16 : Nat) : Int) := by
  have h := bits_mask .u64 63 (by decide) (fun n h0 h1 => by rw [IntKind.wrap_u64]; omega) 4 (by decide) (q : Int) (by omega) (by omega)
  exact h.trans (by omega)

set_option maxRecDepth 100000 in
set_option maxHeartbeats 2000000 in
theorem fmtBits_16 (n : Nat) (hn : n ≤ 1114111) (w : World) (hg : tz16At w) :
    Calls Tryz.prog 242 #[.slice none 0 0, .int .u64 (n : Int), .int .i64 16, .bool false, .bool false] w fun e w' => (∃ k, n < 16 ^ (k + 1) ∧ (k = 0 ∨ 16 ^ k ≤ n) ∧ e = .returned (.tuple #[.slice none 0 0, .string ⟨(lowUp (k + 1) n).toArray⟩])) ∧ Below w.heap.size w w' := by
  have H2 := hide pow2_16
  have HG := hide hg
  have hgB : 7 < w.heap.size := World.block_lt_of_cell? _ _ hg
  clear hg
  go_enter Tryz.func242, Tryz.ntmps242
  go_wp2_with fail
  have hb1 : Below w.heap.size w (w.alloc (.cells Tryz.zeroCells342 342)) := (Below.refl w.heap.size w).alloc (Nat.le_refl _) _
  have hx : (w.alloc (.cells Tryz.zeroCells342 342)).heap[w.heap.size]? = some (.cells (rowL 65 []) 342 (0, 0)) :=
    (heap_alloc_new w _).trans (congrArg (fun c => some (Obj.cells c 342 (0, 0))) (by kernel_rfl))
  generalize w.alloc (.cells Tryz.zeroCells342 342) = W at hb1 hx ⊢
  refine (unhide H2 _).mono ?_
  rintro e w' ⟨rfl, h⟩
  obtain rfl : W = w' := h.symm
  have HT := hide (tz_16 W ((hb1.cell hgB).trans (unhide HG)))
  have HX := hide hx
  have HB1 := hide hb1
  clear hx hb1
  go_wp2_with fail
  refine (unhide HT).mono ?_
  rintro e w' ⟨rfl, h⟩
  obtain rfl : W = w' := h.symm
  go_wp2
  obtain ⟨B, hB⟩ : ∃ B, B = w.heap.size := ⟨_, rfl⟩
  go_loopg [1, 13] 7 (fun kx s1 s13 wr => ∃ k p q : Nat, k ≤ 5 ∧ p + k = 65 ∧ Hid (k = 0 ∨ 16 ^ k ≤ n) ∧ Hid (q = n / 16 ^ k) ∧ q ≤ 1114111 ∧ s1 = .int .u64 (q : Int) ∧ s13 = .int .i64 (p : Int) ∧ kx = 7 - k ∧ Hid (Below w.heap.size w wr) ∧ Hid (wr.heap[w.heap.size]? = some (.cells (rowL p (lowUp k n)) 342 (0, 0))))
  case atStart => exact ⟨0, 65, n, by omega, rfl, hide (.inl rfl), hide (by simp), hn, rfl, rfl, rfl, HB1, HX⟩
  case round =>
    obtain ⟨k, p, q, hk, hp, HM, HQ, hq1, rfl, rfl, rfl, HB, HR⟩ := hrel
    obtain ⟨p, rfl⟩ : ∃ p', p = p' + 1 := ⟨p - 1, by omega⟩
    have d0 : wr.cell? ⟨w.heap.size, p, none⟩ = some (.int .u8 0) := by simp [World.cell?, unhide HR, rowL_at]
    have f0 : wr.frozen? ⟨w.heap.size, p, none⟩ = false := by simp [World.frozen?, unhide HR]
    have hp65 : p < 65 := by omega
    have hand := and15 q hq1
    by_cases hc : 16 ≤ q
    · obtain ⟨r, hr⟩ : ∃ r, r = q % 16 := ⟨_, rfl⟩
      rw [← hr] at hand
      have hr16 : r < 16 := by omega
      have hlit := low_lit r hr16 (Nat.lt_of_lt_of_le hr16 (by decide))
      have HRR := hide hr
      clear hr
      have HR2 : Hid ((wr.setCell ⟨w.heap.size, p, none⟩ (.int .u8 ((lowDg r).toNat : Int))).heap[w.heap.size]? = some (.cells (rowL p (lowUp (k + 1) n)) 342 (0, 0))) := by
        show _ = _
        rw [setCell_eq_setRow wr w.heap.size p _ _ _ _ (unhide HR), lowUp, ← unhide HQ, ← unhide HRR, ← rowL_set]
        exact setRow_heap wr w.heap.size _ _ _ _ (unhide HR)
      have HB2 := hide ((unhide HB).setCell (p := ⟨w.heap.size, p, none⟩) (Nat.le_refl _) (.int .u8 ((lowDg r).toNat : Int)))
      have HQ2 : Hid (q / 16 = n / 16 ^ (k + 1)) := by
        show _ = _
        rw [unhide HQ, Nat.div_div_eq_div_mul, Nat.pow_succ]
      have HM2 : Hid (k + 1 = 0 ∨ 16 ^ (k + 1) ≤ n) := by
        right
        have h1 : 16 ≤ n / 16 ^ k := by rw [← unhide HQ]; exact hc
        have h2 := (Nat.le_div_iff_mul_le (Nat.pow_pos (by omega : 0 < 16))).1 h1
        rw [Nat.pow_succ, Nat.mul_comm]; exact h2
      have HK : Hid (k + 1 ≤ 5) := by
        show _ ≤ _
        rcases Nat.lt_or_ge k 5 with h | h
        · omega
        · obtain rfl : k = 5 := by omega
          have h1 : q = n / 1048576 := unhide HQ
          omega
      go_wp2
      go_roundg (7 - (k + 1))
      case measure => omega
      case rel => exact ⟨k + 1, p, q / 16, unhide HK, by omega, HM2, HQ2, by omega, congrArg (Value.int .u64) (by omega), rfl, rfl, HB2, HR2⟩
    · have hq16 : q < 16 := Nat.lt_of_not_le hc
      clear hand
      have hlit := low_lit q hq16 (Nat.lt_of_lt_of_le hq16 (by decide))
      have HR2 : Hid ((wr.setCell ⟨w.heap.size, p, none⟩ (.int .u8 ((lowDg q).toNat : Int))).heap[w.heap.size]? = some (.cells (rowL p (lowUp (k + 1) n)) 342 (0, 0))) := by
        show _ = _
        rw [setCell_eq_setRow wr w.heap.size p _ _ _ _ (unhide HR), lowUp, ← unhide HQ, Nat.mod_eq_of_lt hq16, ← rowL_set]
        exact setRow_heap wr w.heap.size _ _ _ _ (unhide HR)
      have HB2 := hide ((unhide HB).setCell (p := ⟨w.heap.size, p, none⟩) (Nat.le_refl _) (.int .u8 ((lowDg q).toNat : Int)))
      have hsl : ∀ W, (Instr.sliceAt 342 (.pointer (some ⟨w.heap.size, 0, none⟩)) (some (.int .i64 (p : Int))) none none).run Tryz.prog W = .ok (.slice (some ⟨w.heap.size, p, none⟩) (k + 1) (k + 1)) W := fun W => by
        have hal : Tryz.prog.arrayLen 342 = 65 := by kernel_rfl
        rw [run_sliceAt_array_l W 342 ⟨w.heap.size, 0, none⟩ (by kernel_rfl) .i64 (p : Int) (by omega) (by rw [hal]; omega)]
        have hel : Tryz.prog.elem 342 = 5 := by kernel_rfl
        rw [hal, hel]
        have e1 : 65 - p = k + 1 := by omega
        simp [slicedAt, e1, go_sem]
        omega
      have HN := hide (show n < 16 ^ (k + 1) by
        have h1 : n / 16 ^ k < 16 := by rw [← unhide HQ]; exact hq16
        have h2 := (Nat.div_lt_iff_lt_mul (Nat.pow_pos (by omega : 0 < 16))).1 h1
        rw [Nat.pow_succ, Nat.mul_comm]; exact h2)
      generalize hW2 : wr.setCell ⟨w.heap.size, p, none⟩ (.int .u8 ((lowDg q).toNat : Int)) = W2 at HR2 HB2
      have hcv : (convert 100 9 (.slice (some ⟨w.heap.size, p, none⟩) (k + 1) (k + 1))).run Tryz.prog W2 = .ok (.string ⟨(lowUp (k + 1) n).toArray⟩) W2 := by
        have h := run_convert_bytes_back (P := Tryz.prog) W2 100 9 5 ⟨w.heap.size, p, none⟩ (k + 1) (lowUp (k + 1) n) Tryz.underlying100 Tryz.underlying5 Tryz.underlying9 (fun j hj => by
          have h1 : W2.cell? ⟨w.heap.size, p + j, none⟩ = some (.int .u8 ((lowUp (k + 1) n)[j].toNat : Int)) := by
            have h2 : (rowL p (lowUp (k + 1) n))[p + j]? = some (.int .u8 ((lowUp (k + 1) n)[j].toNat : Int)) := by
              simp only [rowL, List.getElem?_toArray]
              rw [List.getElem?_append_right (by simp)]
              simp [hj]
            simp [World.cell?, unhide HR2, h2]
          have e2 : Addr.add ⟨w.heap.size, p, none⟩ j = ⟨w.heap.size, p + j, none⟩ := by simp [Addr.add]
          rw [e2]
          exact h1)
        rwa [lowUp_len] at h
      rw [← hW2] at hcv
      have HW2 := hide hW2
      clear hW2
      go_wp2
      go_ret2
      exact ⟨⟨k, unhide HN, unhide HM, rfl⟩, by rw [unhide HW2]; exact unhide HB2⟩

theorem fmtInt_16i (n : Nat) (hn : n ≤ 1114111) (w : World) (hg : tz16At w) :
    Calls Tryz.prog 205 #[.int .i64 (n : Int), .int .i64 16] w fun e w' => (∃ k, n < 16 ^ (k + 1) ∧ (k = 0 ∨ 16 ^ k ≤ n) ∧ e = .returned (.string ⟨(lowUp (k + 1) n).toArray⟩)) ∧ Below w.heap.size w w' := by
  have H := hide (fmtBits_16 n hn w hg)
  clear hg
  go_enter Tryz.func205, Tryz.ntmps205
  go_wp2_with (go_at_call 242; refine (unhide H).mono ?_; rintro e w' ⟨⟨k, h1, h2, rfl⟩, hb⟩; have H1 := hide h1; have H2 := hide h2; clear h1 h2)
  go_ret
  exact ⟨⟨k, unhide H1, unhide H2, rfl⟩, hb⟩
theorem fmtInt_16 (n : Nat) (hn : n ≤ 1114111) (w : World) (hg : tz16At w) :
    Calls Tryz.prog 161 #[.int .i64 (n : Int), .int .i64 16] w fun e w' => (∃ k, n < 16 ^ (k + 1) ∧ (k = 0 ∨ 16 ^ k ≤ n) ∧ e = .returned (.string ⟨(lowUp (k + 1) n).toArray⟩)) ∧ Below w.heap.size w w' := by
  have H := hide (fmtInt_16i n hn w hg)
  clear hg
  go_enter Tryz.func161, Tryz.ntmps161
  go_wp2_with (go_at_call 205; refine (unhide H).mono ?_; rintro e w' ⟨⟨k, h1, h2, rfl⟩, hb⟩; have H1 := hide h1; have H2 := hide h2; clear h1 h2)
  go_ret
  exact ⟨⟨k, unhide H1, unhide H2, rfl⟩, hb⟩
end Go.Proofs.YtlgolaoabgmijaaGreatDoor
/-
  The document's Digit and Read, of every text: what the program's digit and Hex say.
-/
namespace Go.Proofs.YtlgolaoabgmijaaGreatDoor
open Go.RowKit Go.PlainAid Go.Lib Go.PHexM
set_option linter.unusedVariables false

/-- the byte of a digit -/
def digAt (j : Nat) : Nat := if j < 10 then 48 + j else 55 + j
theorem dig_at {b : UInt8} {i : Nat} (hi : i < 16) (h : digAt i = b.toNat) : dig b = some i := by
  unfold digAt at h
  split at h
  · rw [dig_low (by omega) (by omega)]; exact congrArg some (by omega)
  · rw [dig_high (by omega) (by omega)]; exact congrArg some (by omega)
theorem dig_nowhere {b : UInt8} (h : ∀ j, j < 16 → ¬ digAt j = b.toNat) : dig b = none := by
  apply dig_not
  by_cases c1 : b.toNat < 48
  · exact .inl c1
  by_cases c2 : b.toNat ≤ 57
  · exact absurd (by unfold digAt; rw [if_pos (by omega)]; omega) (h (b.toNat - 48) (by omega))
  by_cases c3 : b.toNat < 65
  · exact .inr (.inl ⟨by omega, c3⟩)
  by_cases c4 : b.toNat ≤ 70
  · exact absurd (by unfold digAt; rw [if_neg (by omega)]; omega) (h (b.toNat - 55) (by omega))
  · exact .inr (.inr (by omega))
theorem lit_at (i : Nat) (h : i < (⟨#[48, 49, 50, 51, 52, 53, 54, 55, 56, 57, 65, 66, 67, 68, 69, 70]⟩ : ByteArray).size) : ((⟨#[48, 49, 50, 51, 52, 53, 54, 55, 56, 57, 65, 66, 67, 68, 69, 70]⟩ : ByteArray)[i]'h).toNat = digAt i := by
  have : ∀ i : Fin 16, ((#[48, 49, 50, 51, 52, 53, 54, 55, 56, 57, 65, 66, 67, 68, 69, 70] : Array UInt8)[i.val]'i.isLt).toNat = digAt i.val := by decide
  exact this ⟨i, h⟩

def refDigV (b : UInt8) : Int := match dig b with
  | some d => d
  | none => -1
theorem refDigit_any (b : UInt8) (w : World) :
    Calls Tryz.prog 144 #[.int .u8 (b.toNat : Int)] w fun e w' => e = .returned (.int .i64 (refDigV b)) ∧ w' = w := by
  go_enter Tryz.func144, Tryz.ntmps144
  go_wp2
  go_loopg [3] 16 (fun kx s3 wr => ∃ i : Nat, i ≤ 16 ∧ s3 = .int .i64 i ∧ kx = 16 - i ∧ wr = w ∧ ∀ j, j < i → ¬ digAt j = b.toNat)
  case atStart => exact ⟨0, by omega, rfl, rfl, rfl, fun j hj => by omega⟩
  case round =>
    obtain ⟨i, hi, rfl, rfl, rfl, hno⟩ := hrel
    have HNO := hide hno
    clear hno
    by_cases hlt : i < 16
    · have hat := lit_at i hlt
      by_cases heq : digAt i = b.toNat
      · have HV : Hid (refDigV b = (i : Int)) := by
          show refDigV b = _
          rw [refDigV, dig_at hlt heq]
        rw [heq] at hat
        go_wp2
        go_ret
        exact ⟨by rw [unhide HV]; rfl, rfl⟩
      · have heq' : (((digAt i : Nat) : Int) == (b.toNat : Int)) = false := by
          rw [beq_eq_false_iff_ne]
          omega
        have HEQ := hide heq
        clear heq
        go_wp2
        go_roundg (16 - (i + 1))
        case measure => omega
        case rel =>
          refine ⟨i + 1, by omega, rfl, rfl, rfl, fun j hj => ?_⟩
          rcases Nat.lt_succ_iff_lt_or_eq.1 hj with h | rfl
          · exact unhide HNO j h
          · exact unhide HEQ
    · obtain rfl : i = 16 := by omega
      have HV : Hid (refDigV b = -1) := by
        show refDigV b = _
        rw [refDigV, dig_nowhere (unhide HNO)]
      go_wp2
      go_ret
      exact ⟨by rw [unhide HV]; rfl, rfl⟩

theorem refDigit_some {b : UInt8} {d : Nat} (h : dig b = some d) (w : World) :
    Calls Tryz.prog 144 #[.int .u8 (b.toNat : Int)] w fun e w' => e = .returned (.int .i64 d) ∧ w' = w := by
  have := refDigit_any b w
  rwa [refDigV, h] at this
theorem refDigit_none {b : UInt8} (h : dig b = none) (w : World) :
    Calls Tryz.prog 144 #[.int .u8 (b.toNat : Int)] w fun e w' => e = .returned (.int .i64 (-1)) ∧ w' = w := by
  have := refDigit_any b w
  rwa [refDigV, h] at this

theorem refRead_any4 (s : ByteArray) (w : World) :
    Calls Tryz.prog 106 #[.string s] w fun e w' => e = .returned (hexV s.data.toList) ∧ w' = w := by
  have hsz : s.data.toList.length = s.size := by simp
  by_cases a : s.size < 4
  · have HV := hide (hexV_none (hexP_short (l := s.data.toList) (by unfold longOk; rw [hsz]; simp; omega)))
    clear hsz
    go_enter Tryz.func106, Tryz.ntmps106
    go_wp2
    go_ret2
    exact ⟨congrArg _ (unhide HV).symm, rfl⟩
  by_cases b : 6 < s.size
  · have HV := hide (hexV_none (hexP_short (l := s.data.toList) (by unfold longOk; rw [hsz]; simp; omega)))
    clear hsz
    go_enter Tryz.func106, Tryz.ntmps106
    go_wp2
    go_ret2
    exact ⟨congrArg _ (unhide HV).symm, rfl⟩
  have h0 : 0 < s.size := by omega
  have h4 : 4 ≤ s.size := by omega
  have h6 : s.size ≤ 6 := by omega
  have hh : s.data.toList.head? = some s[0] := by
    rw [List.head?_eq_getElem?, Array.getElem?_toList]
    exact Array.getElem?_eq_getElem (by simpa using h0)
  have HH := hide (⟨hsz, hh⟩ : _ ∧ _)
  clear hsz hh a b
  go_enter Tryz.func106, Tryz.ntmps106
  go_wp2
  go_loopg [4, 5] s.size (fun kx s4 s5 wr => ∃ (i n : Nat), i ≤ s.size ∧ s5 = .int .i64 i ∧ digs (s.data.toList.take i) 0 = some n ∧ s4 = .int .i64 n ∧ kx = s.size - i ∧ wr = w)
  case atStart => exact ⟨0, 0, by omega, rfl, rfl, rfl, by omega, rfl⟩
  case round =>
    obtain ⟨i, n, hi, rfl, hn, rfl, rfl, rfl⟩ := hrel
    by_cases hlt : i < s.size
    · have hb : s.data.toList[i]? = some s[i] := by
        rw [Array.getElem?_toList]
        exact Array.getElem?_eq_getElem (by simpa using hlt)
      cases hd : dig s[i] with
      | none =>
        have HD := hide (refDigit_none hd)
        have HV := hide (hexV_none (hexP_stop hb hd))
        clear hb hd hn
        go_wp2_with (go_at_call 144; refine (unhide HD _).mono ?_; rintro e w' ⟨rfl, rfl⟩)
        go_ret2
        exact ⟨congrArg _ (unhide HV).symm, rfl⟩
      | some d =>
        have HD := hide (refDigit_some hd)
        have HN := hide (digs_next hb hd hn)
        have hnl := hexN_lt hn (by omega : i < 6)
        have hdl := dig_lt hd
        clear hb hd hn
        go_wp2_with (go_at_call 144; refine (unhide HD _).mono ?_; rintro e w' ⟨rfl, rfl⟩)
        go_roundg (s.size - (i + 1))
        case measure => omega
        case rel => exact ⟨i + 1, n * 16 + d, by omega, rfl, unhide HN, congrArg (Value.int .i64) (by omega), rfl, rfl⟩
    · have hn' : digs s.data.toList 0 = some n := by rwa [List.take_of_length_le (by simpa using Nat.le_of_not_lt hlt)] at hn
      clear hn
      by_cases hb : 1114111 < n
      · have HV := hide (hexV_none (hexP_far hn' hb))
        clear hn'
        go_wp2
        go_ret2
        exact ⟨congrArg _ (unhide HV).symm, rfl⟩
      · have hnl : n ≤ 1114111 := by omega
        have q : IntKind.i32.wrap (n : Int) = (n : Int) := by rw [IntKind.wrap_i32]; omega
        by_cases c : 4 < s.size
        · by_cases c0 : s[0].toNat = 48
          · have e0 : s[0] = 48 := UInt8.toNat_inj.1 c0
            have HV := hide (hexV_none (hexP_short (l := s.data.toList) (by unfold longOk; rw [(unhide HH).1, (unhide HH).2, e0]; simp; omega)))
            have c2 : ((s[0].toNat : Int) == 48) = true := by rw [c0]; rfl
            clear hn' e0 c0 hb
            go_wp2
            go_ret2
            exact ⟨congrArg _ (unhide HV).symm, rfl⟩
          · have hl : longOk s.data.toList = true := by
              unfold longOk
              rw [(unhide HH).1, (unhide HH).2]
              have : ¬ s[0] = 48 := fun h => c0 (by rw [h]; rfl)
              simp [this]; omega
            have HV := hide (hexV_some (hexP_is hl hn' hb))
            have c2 : ((s[0].toNat : Int) == 48) = false := by rw [beq_eq_false_iff_ne]; omega
            clear hn' c0 hb hl
            go_wp2
            go_ret2
            exact ⟨congrArg _ (unhide HV).symm, rfl⟩
        · have hl : longOk s.data.toList = true := by
            unfold longOk
            rw [(unhide HH).1, (unhide HH).2]
            simp [c]; omega
          have HV := hide (hexV_some (hexP_is hl hn' hb))
          clear hn' hb hl
          go_wp2
          go_ret2
          exact ⟨congrArg _ (unhide HV).symm, rfl⟩
end Go.Proofs.YtlgolaoabgmijaaGreatDoor
/-
  The document's Show, of every number.
-/
namespace Go.Proofs.YtlgolaoabgmijaaGreatDoor
open Go.RowKit Go.PlainAid Go.Lib Go.PHexM
set_option linter.unusedVariables false

/-- the byte of a digit -/
def dgt (d : Nat) : UInt8 := UInt8.ofNat (digAt d)
/-- the last i digits of n, the highest first -/
def hexUp : Nat → Nat → List UInt8
  | 0, _ => []
  | i + 1, n => dgt (n / 16 ^ i % 16) :: hexUp i n
def showLen (n : Nat) : Nat := if n < 65536 then 4 else if n < 1048576 then 5 else 6
def showP (n : Nat) : List UInt8 := hexUp (showLen n) n
theorem hexUp_len (i n : Nat) : (hexUp i n).length = i := by
  induction i with
  | zero => rfl
  | succ i ih => simp [hexUp, ih]
def hexS (i n : Nat) : ByteArray := ⟨(hexUp i n).toArray⟩
theorem hexS_size (i n : Nat) : (hexS i n).size = i := by
  show (hexUp i n).toArray.size = i
  simp [hexUp_len]
theorem hexS_succ (i n : Nat) : (⟨#[dgt (n / 16 ^ i % 16)]⟩ : ByteArray) ++ hexS i n = hexS (i + 1) n := by
  apply ByteArray.ext
  rw [ByteArray.data_append]
  simp [hexS, hexUp]
theorem dgt_lit (d : Nat) (h : d < (⟨#[48, 49, 50, 51, 52, 53, 54, 55, 56, 57, 65, 66, 67, 68, 69, 70]⟩ : ByteArray).size) : ((⟨#[48, 49, 50, 51, 52, 53, 54, 55, 56, 57, 65, 66, 67, 68, 69, 70]⟩ : ByteArray)[d]'h) = dgt d := by
  apply UInt8.toNat_inj.1
  rw [lit_at d h, dgt]
  have h' : d < 16 := h
  have : digAt d < 256 := by unfold digAt; split <;> omega
  simp [Nat.mod_eq_of_lt this]

theorem one_conv (w : World) (b : UInt8) :
    (convert 100 9 (.slice (some ⟨w.heap.size, 0, none⟩) 1 1)).run Tryz.prog (w.alloc (.cells #[.int .u8 (b.toNat : Int)] 5)) = .ok (.string ⟨#[b]⟩) (w.alloc (.cells #[.int .u8 (b.toNat : Int)] 5)) := by
  refine run_convert_bytes_back (P := Tryz.prog) _ 100 9 5 ⟨w.heap.size, 0, none⟩ 1 [b] Tryz.underlying100 Tryz.underlying5 Tryz.underlying9 (fun j hj => ?_)
  have : j = 0 := by simp at hj; omega
  subst this
  have h := heap_alloc_new w (.cells #[.int .u8 (b.toNat : Int)] 5)
  have hc : (w.alloc (.cells #[.int .u8 (b.toNat : Int)] 5)).cell? ⟨w.heap.size, 0, none⟩ = some (.int .u8 (b.toNat : Int)) := by
    generalize w.alloc (.cells #[.int .u8 (b.toNat : Int)] 5) = W at h
    simp [World.cell?, h]
  exact hc
/-- a number below 16^6 has fallen to nothing behind its digits -/
theorem show_done {n i : Nat} (hn : n ≤ 1114111) (hp : i ≤ 4 ∨ 0 < n / 16 ^ (i - 1)) (h0 : n / 16 ^ i = 0) (h4 : 4 ≤ i) (h6 : i ≤ 6) : i = showLen n := by
  unfold showLen
  have : i = 4 ∨ i = 5 ∨ i = 6 := by omega
  rcases this with rfl | rfl | rfl
  · rw [if_pos (by have : n / 65536 = 0 := h0; omega)]
  · have h1 : 0 < n / 65536 := by rcases hp with h | h; omega; exact h
    have h2 : n / 1048576 = 0 := h0
    rw [if_neg (by omega), if_pos (by omega)]
  · have h1 : 0 < n / 1048576 := by rcases hp with h | h; omega; exact h
    rw [if_neg (by omega), if_neg (by omega)]
theorem show_room {n i : Nat} (hn : n ≤ 1114111) (h6 : i ≤ 6) (h : 0 < n / 16 ^ i ∨ i < 4) : i + 1 ≤ 6 := by
  rcases Nat.lt_or_ge i 6 with h' | h'
  · omega
  · obtain rfl : i = 6 := by omega
    rcases h with h | h
    · have : 0 < n / 16777216 := h
      omega
    · omega

set_option maxRecDepth 100000 in
set_option maxHeartbeats 2000000 in
theorem refShow_any (n : Nat) (hn : n ≤ 1114111) (w : World) :
    Calls Tryz.prog 85 #[.int .i32 (n : Int)] w fun e w' => e = .returned (.tuple #[.string (hexS (showLen n) n), .int .i64 0]) ∧ Below w.heap.size w w' := by
  obtain ⟨S0, hS0⟩ : ∃ S0, S0 = hexS (showLen n) n := ⟨_, rfl⟩
  rw [← hS0]
  have HS0 := hide hS0
  clear hS0
  go_enter Tryz.func85, Tryz.ntmps85
  go_wp2
  go_loopg [4, 5] 7 (fun kx s4 s5 wr => ∃ (i q : Nat) (S : ByteArray), i ≤ 6 ∧ Hid (i ≤ 4 ∨ 0 < n / 16 ^ (i - 1)) ∧ Hid (q = n / 16 ^ i) ∧ q ≤ 1114111 ∧ S.size = i ∧ Hid (S = hexS i n) ∧ s4 = .string S ∧ s5 = .int .i64 (q : Int) ∧ kx = 7 - i ∧ Below w.heap.size w wr)
  case atStart => exact ⟨0, n, ⟨#[]⟩, by omega, hide (.inl (by omega)), hide (by simp), hn, rfl, hide rfl, rfl, rfl, rfl, Below.refl _ _⟩
  case round =>
    obtain ⟨i, q, S, hi, HP, HQ, hq1, hsz, HSS, rfl, rfl, rfl, hb⟩ := hrel
    have HB := hide hb
    clear hb
    by_cases hc : 0 < q ∨ i < 4
    · have HR := hide (show_room hn hi (by rw [← unhide HQ]; exact hc))
      obtain ⟨r, hr⟩ : ∃ r, r = q % 16 := ⟨_, rfl⟩
      obtain ⟨q2, hq2⟩ : ∃ q2, q2 = q / 16 := ⟨_, rfl⟩
      have hr16 : r < 16 := by omega
      have ht : (q : Int).tmod 16 = (r : Int) := by rw [Int.tmod_eq_emod_of_nonneg (by omega)]; omega
      have htd : (q : Int).tdiv 16 = (q2 : Int) := by rw [Int.tdiv_eq_ediv_of_nonneg (by omega)]; omega
      have hlit := dgt_lit r (show r < 16 by omega)
      have hcv := one_conv wr (dgt r)
      have hq2' : q2 ≤ 1114111 := by omega
      have HS2 : Hid ((⟨#[dgt r]⟩ : ByteArray) ++ S = hexS (i + 1) n) := by
        show _ = _
        rw [unhide HSS, hr, unhide HQ, hexS_succ]
      have HQ2 : Hid (q2 = n / 16 ^ (i + 1)) := by
        show _ = _
        rw [hq2, unhide HQ, Nat.div_div_eq_div_mul, Nat.pow_succ]
      have HP2 : Hid (i + 1 ≤ 4 ∨ 0 < n / 16 ^ (i + 1 - 1)) := by
        show _ ∨ _
        rcases hc with h | h
        · right; rw [Nat.add_sub_cancel, ← unhide HQ]; exact h
        · left; omega
      have HB2 := hide ((unhide HB).alloc (unhide HB).size (.cells #[.int .u8 ((dgt r).toNat : Int)] 5))
      by_cases hz : q = 0
      · obtain rfl : r = 0 := by omega
        obtain rfl : q2 = 0 := by omega
        have hl0 : ((⟨#[48, 49, 50, 51, 52, 53, 54, 55, 56, 57, 65, 66, 67, 68, 69, 70]⟩ : ByteArray)[0]'(by decide)).toNat = (dgt 0).toNat := by rw [dgt_lit 0 (by decide)]
        have hi4 : i < 4 := by omega
        clear hr hq2 ht htd hlit hc
        subst hz
        go_wp2
        go_roundg (7 - (i + 1))
        case measure => omega
        case rel => exact ⟨i + 1, 0, _, unhide HR, HP2, HQ2, by omega, by rw [ByteArray.size_append, hsz]; show 1 + i = i + 1; omega, HS2, rfl, rfl, rfl, unhide HB2⟩
      · have hq0 : 0 < q := by omega
        clear hr hq2 hc
        go_wp2
        go_roundg (7 - (i + 1))
        case measure => omega
        case rel => exact ⟨i + 1, q2, _, unhide HR, HP2, HQ2, by omega, by rw [ByteArray.size_append, hsz]; show 1 + i = i + 1; omega, HS2, rfl, rfl, rfl, unhide HB2⟩
    · have HD := hide (show_done hn (unhide HP) (by rw [← unhide HQ]; omega) (by omega) hi)
      go_wp2
      go_ret2
      exact ⟨by rw [unhide HS0, ← unhide HD, ← unhide HSS]; rfl, unhide HB⟩
end Go.Proofs.YtlgolaoabgmijaaGreatDoor
/-
  (Of this seat: these contracts stand in RwShelf2.)
-/
/-
  The program's Show, of every number that has one.
-/
namespace Go.Proofs.YtlgolaoabgmijaaGreatDoor
open Go.RowKit Go.PlainAid Go.Lib Go.Shelf Go.PHexM
set_option linter.unusedVariables false

theorem hexUp_pad (m c n : Nat) (h : n < 16 ^ m) : hexUp (m + c) n = List.replicate c 48 ++ hexUp m n := by
  induction c with
  | zero => simp
  | succ c ih =>
    have h1 : n / 16 ^ (m + c) = 0 := Nat.div_eq_of_lt (Nat.lt_of_lt_of_le h (Nat.pow_le_pow_right (by omega) (by omega)))
    show hexUp (m + c + 1) n = _
    rw [hexUp, ih, h1, List.replicate_succ]
    rfl
theorem showLen_of {n k : Nat} (hn : n ≤ 1114111) (h1 : n < 16 ^ (k + 1)) (h2 : k = 0 ∨ 16 ^ k ≤ n) : showLen n = (k + 1) + (4 - (k + 1)) ∧ k ≤ 5 := by
  have hk : k ≤ 5 := by
    rcases Nat.lt_or_ge k 6 with h | h
    · omega
    · rcases h2 with h2 | h2
      · omega
      · have : 16 ^ 6 ≤ 16 ^ k := Nat.pow_le_pow_right (by omega) h
        omega
  refine ⟨?_, hk⟩
  unfold showLen
  have : k = 0 ∨ k = 1 ∨ k = 2 ∨ k = 3 ∨ k = 4 ∨ k = 5 := by omega
  rcases this with rfl | rfl | rfl | rfl | rfl | rfl <;> simp only [Nat.reducePow, Nat.reduceAdd] at h1 h2
  · rw [if_pos (by omega)]
  · rw [if_pos (by omega)]
  · rw [if_pos (by omega)]
  · rw [if_pos (by omega)]
  · rw [if_neg (by omega), if_pos (by omega)]
  · rw [if_neg (by omega), if_neg (by omega)]
theorem lowDg_up : ∀ d : Fin 16, Lib.toUpperA [lowDg d.val] = [dgt d.val] ∧ (lowDg d.val).toNat < 128 := by decide
theorem lowUp_up (k n : Nat) : Lib.toUpperA (lowUp k n) = hexUp k n := by
  induction k with
  | zero => rfl
  | succ k ih =>
    have h := (lowDg_up ⟨n / 16 ^ k % 16, Nat.mod_lt _ (by omega)⟩).1
    have e : ∀ (b : UInt8) l, Lib.toUpperA (b :: l) = Lib.toUpperA [b] ++ Lib.toUpperA l := fun b l => rfl
    rw [lowUp, hexUp, e, ih, h]
    rfl
theorem lowUp_ascii (k n : Nat) : ∀ (j : Nat) (b : UInt8), (lowUp k n)[j]? = some b → b.toNat < 128 := by
  induction k with
  | zero => intro j b h; simp [lowUp] at h
  | succ k ih =>
    intro j b h
    cases j with
    | zero =>
      have h' := (lowDg_up ⟨n / 16 ^ k % 16, Nat.mod_lt _ (by omega)⟩).2
      simp [lowUp] at h
      rw [← h]; exact h'
    | succ j => exact ih j b (by simpa [lowUp] using h)
theorem toUp_any (k n : Nat) (hk : k ≤ 5) (w : World) :
    Calls Tryz.prog 160 #[.string ⟨(lowUp (k + 1) n).toArray⟩] w fun e w' => e = .returned (.string (hexS (k + 1) n)) ∧ Below w.heap.size w w' := by
  have h := Tryz.strings_ToUpper_ascii ⟨(lowUp (k + 1) n).toArray⟩ w (by show (lowUp (k + 1) n).toArray.size ≤ _; simp [lowUp_len]; omega) (fun j b hb => lowUp_ascii (k + 1) n j b (by simpa using hb))
  have e : (⟨(lowUp (k + 1) n).toArray⟩ : ByteArray).data.toList = lowUp (k + 1) n := by simp
  rw [e, lowUp_up] at h
  exact h
theorem rep_any (c : Nat) (hc : c ≤ 4) (w : World) :
    Calls Tryz.prog 162 #[.string ⟨#[48]⟩, .int .i64 (c : Int)] w fun e w' => e = .returned (.string ⟨(List.replicate c 48).toArray⟩) ∧ Below w.heap.size w w' := by
  have h := Tryz.strings_Repeat ⟨#[48]⟩ c w (by omega) (by show 1 * c ≤ _; omega)
  have e : Lib.repeatL (⟨#[48]⟩ : ByteArray).data.toList c = List.replicate c 48 := by
    clear h hc
    induction c with
    | zero => rfl
    | succ c ih => rw [Lib.repeatL, ih, List.replicate_succ]; rfl
  rw [e] at h
  exact h

set_option maxRecDepth 100000 in
set_option maxHeartbeats 2000000 in
theorem show_any (n : Nat) (hn : n ≤ 1114111) (w : World) (hg : tz16At w) :
    Calls Tryz.prog 125 #[.int .i32 (n : Int)] w fun e w' => e = .returned (.tuple #[.string (hexS (showLen n) n), .int .i64 0]) ∧ Below w.heap.size w w' := by
  obtain ⟨S0, hS0⟩ : ∃ S0, S0 = hexS (showLen n) n := ⟨_, rfl⟩
  rw [← hS0]
  have HS0 := hide hS0
  clear hS0
  have HF := hide (fmtInt_16 n hn w hg)
  clear hg
  go_enter Tryz.func125, Tryz.ntmps125
  go_wp2_with fail
  refine (unhide HF).mono ?_
  rintro e w1 ⟨⟨k, h1, h2, rfl⟩, hb1⟩
  have hL := showLen_of hn h1 h2
  have hk := hL.2
  have HU := hide (toUp_any k n hk w1)
  have HP := hide (hexUp_pad (k + 1) (4 - (k + 1)) n h1)
  have HL := hide hL.1
  have HB1 := hide hb1
  clear h1 h2 hL hb1
  go_wp2_with fail
  refine (unhide HU).mono ?_
  rintro e w2 ⟨rfl, hb2⟩
  have HB2 := hide ((unhide HB1).trans (hb2.mono (unhide HB1).size))
  clear hb2
  have hsz := hexS_size (k + 1) n
  obtain ⟨S, hS⟩ : ∃ S, S = hexS (k + 1) n := ⟨_, rfl⟩
  rw [← hS] at hsz ⊢
  have HS := hide hS
  clear hS
  obtain ⟨c, hc⟩ : ∃ c, c = 4 - (k + 1) := ⟨_, rfl⟩
  have hc4 : c ≤ 4 := by omega
  have HR := hide (rep_any c hc4)
  have emax : max 0 (4 - ((k : Int) + 1)) = (c : Int) := by omega
  have HC := hide hc
  clear hc
  go_wp2_with fail
  refine (unhide HR w2).mono ?_
  rintro e w3 ⟨rfl, hb3⟩
  have HB3 := hide ((unhide HB2).trans (hb3.mono (unhide HB2).size))
  clear hb3
  obtain ⟨R, hR⟩ : ∃ R, R = (⟨(List.replicate c 48).toArray⟩ : ByteArray) := ⟨_, rfl⟩
  have hRz : R.size = c := by rw [hR]; show (List.replicate c (48 : UInt8)).toArray.size = c; simp
  rw [← hR]
  have HE : Hid (R ++ S = S0) := by
    show R ++ S = S0
    rw [unhide HS0, unhide HL, unhide HS, hR, unhide HC]
    apply ByteArray.ext
    rw [ByteArray.data_append]
    show _ = (hexUp (k + 1 + (4 - (k + 1))) n).toArray
    rw [unhide HP]
    simp [hexS]
  clear hR
  go_wp2
  go_ret2
  exact ⟨by rw [← unhide HE]; rfl, unhide HB3⟩
theorem show_no (r : Int) (hr : r < 0 ∨ 1114111 < r) (w : World) :
    Calls Tryz.prog 125 #[.int .i32 r] w fun e w' => e = .returned (.tuple #[.string ⟨#[]⟩, .int .i64 40]) ∧ w' = w := by
  rcases hr with h | h
  · go_enter Tryz.func125, Tryz.ntmps125
    go_wp2
    go_ret2
    exact ⟨rfl, rfl⟩
  · have h0 : 0 ≤ r := by omega
    go_enter Tryz.func125, Tryz.ntmps125
    go_wp2
    go_ret2
    exact ⟨rfl, rfl⟩
theorem refShow_no (r : Int) (hr : r < 0 ∨ 1114111 < r) (w : World) :
    Calls Tryz.prog 85 #[.int .i32 r] w fun e w' => e = .returned (.tuple #[.string ⟨#[]⟩, .int .i64 40]) ∧ w' = w := by
  rcases hr with h | h
  · go_enter Tryz.func85, Tryz.ntmps85
    go_wp2
    go_ret2
    exact ⟨rfl, rfl⟩
  · have h0 : 0 ≤ r := by omega
    go_enter Tryz.func85, Tryz.ntmps85
    go_wp2
    go_ret2
    exact ⟨rfl, rfl⟩
end Go.Proofs.YtlgolaoabgmijaaGreatDoor
/-
  ShowSpan of every range: the program's.
-/
namespace Go.Proofs.YtlgolaoabgmijaaGreatDoor
open Go.RowKit Go.PlainAid Go.Lib Go.Shelf Go.PHexM
set_option linter.unusedVariables false

/-- the text of a range that may be -/
def spanS (a b : Nat) : ByteArray := if a = b then hexS (showLen a) a else hexS (showLen a) a ++ ⟨#[46, 46]⟩ ++ hexS (showLen b) b

set_option maxRecDepth 100000 in
theorem showSpan_no (lo hi : Int) (hm : mayB lo hi = false) (w : World) :
    Calls Tryz.prog 81 #[.agg #[.int .i32 lo, .int .i32 hi]] w fun e w' => e = .returned (.tuple #[.string ⟨#[]⟩, .int .i64 41]) ∧ Below w.heap.size w w' := by
  have HM : Hid (∀ W, Calls Tryz.prog 124 #[.agg #[.int .i32 lo, .int .i32 hi]] W fun e w' => e = .returned (.bool false) ∧ w' = W.alloc (.cells #[.int .i32 lo, .int .i32 hi] 45)) := fun W => by
    have := may_any lo hi W
    rwa [hm] at this
  clear hm
  go_enter Tryz.func81, Tryz.ntmps81
  go_wp2_with (go_at_call 124; refine (unhide HM _).mono ?_; rintro e w' ⟨rfl, rfl⟩)
  go_ret2
  exact ⟨rfl, ((Below.refl w.heap.size w).alloc (Nat.le_refl _) _).alloc (by simp) _⟩

set_option maxRecDepth 100000 in
set_option maxHeartbeats 1000000 in
theorem showSpan_yes (a b : Nat) (hab : a ≤ b) (hb : b ≤ 1114111) (w : World) (hg : tz16At w) :
    Calls Tryz.prog 81 #[.agg #[.int .i32 (a : Int), .int .i32 (b : Int)]] w fun e w' => e = .returned (.tuple #[.string (spanS a b), .int .i64 0]) ∧ Below w.heap.size w w' := by
  obtain ⟨S0, hS0⟩ : ∃ S0, S0 = spanS a b := ⟨_, rfl⟩
  rw [← hS0]
  have HS0 := hide hS0
  clear hS0
  have hgB : 7 < w.heap.size := World.block_lt_of_cell? _ _ hg
  have HM : Hid (∀ W, Calls Tryz.prog 124 #[.agg #[.int .i32 (a : Int), .int .i32 (b : Int)]] W fun e w' => e = .returned (.bool true) ∧ w' = W.alloc (.cells #[.int .i32 (a : Int), .int .i32 (b : Int)] 45)) := fun W => by
    have := may_any a b W
    rwa [show mayB a b = true from mayB_iff.2 ⟨by omega, by omega, by omega⟩] at this
  have HG := hide hg
  clear hg
  have b1 := ((Below.refl w.heap.size w).alloc (Nat.le_refl _) (.cells #[.int .i32 (a : Int), .int .i32 (b : Int)] 45)).alloc (by simp) (.cells #[.int .i32 (a : Int), .int .i32 (b : Int)] 45)
  have x1 : ((w.alloc (.cells #[.int .i32 (a : Int), .int .i32 (b : Int)] 45)).alloc (.cells #[.int .i32 (a : Int), .int .i32 (b : Int)] 45)).heap[w.heap.size]? = some (.cells #[.int .i32 (a : Int), .int .i32 (b : Int)] 45 (0, 0)) := by
    rw [Below.heap_alloc _ _ _ (by simp)]
    exact heap_alloc_new w _
  have HB1 := hide b1
  have HX1 := hide x1
  clear b1 x1
  go_enter Tryz.func81, Tryz.ntmps81
  go_wp2_with fail
  refine (unhide HM _).mono ?_
  rintro e w' ⟨rfl, h⟩
  subst h
  generalize (w.alloc (.cells #[.int .i32 (a : Int), .int .i32 (b : Int)] 45)).alloc (.cells #[.int .i32 (a : Int), .int .i32 (b : Int)] 45) = W at HB1 HX1 ⊢
  have d0 : W.cell? ⟨w.heap.size, 0, none⟩ = some (.int .i32 (a : Int)) := by simp [World.cell?, unhide HX1]
  have HS := hide (show_any a (by omega) W (((unhide HB1).cell hgB).trans (unhide HG)))
  go_wp2_with fail
  refine (unhide HS).mono ?_
  rintro e W2 ⟨rfl, hb2⟩
  have hlt : w.heap.size < W.heap.size := (Array.getElem?_eq_some_iff.1 (unhide HX1)).1
  have HX2 := hide ((hb2.block w.heap.size hlt).trans (unhide HX1))
  have HB2 := hide ((unhide HB1).trans (hb2.mono (unhide HB1).size))
  clear hb2 d0
  have d0 : W2.cell? ⟨w.heap.size, 0, none⟩ = some (.int .i32 (a : Int)) := by simp [World.cell?, unhide HX2]
  have d1 : W2.cell? ⟨w.heap.size, 1, none⟩ = some (.int .i32 (b : Int)) := by simp [World.cell?, unhide HX2]
  have hAz := hexS_size (showLen a) a
  have hA6 : showLen a ≤ 6 := by unfold showLen; split; omega; split <;> omega
  obtain ⟨A, hA⟩ : ∃ A, A = hexS (showLen a) a := ⟨_, rfl⟩
  rw [← hA] at hAz ⊢
  have HA := hide hA
  clear hA
  by_cases hq : a = b
  · have HE : Hid (S0 = A) := by show _ = _; rw [unhide HS0, unhide HA, spanS, if_pos hq]
    subst hq
    go_wp2
    go_ret2
    exact ⟨by rw [unhide HE]; rfl, unhide HB2⟩
  · have hq' : ¬ (a : Int) = (b : Int) := by omega
    have HSb := hide (show_any b hb W2 (((unhide HB2).cell hgB).trans (unhide HG)))
    go_wp2_with fail
    refine (unhide HSb).mono ?_
    rintro e W3 ⟨rfl, hb3⟩
    have HB3 := hide ((unhide HB2).trans (hb3.mono (unhide HB2).size))
    clear hb3
    have hBz := hexS_size (showLen b) b
    have hB6 : showLen b ≤ 6 := by unfold showLen; split; omega; split <;> omega
    obtain ⟨Bs, hBs⟩ : ∃ Bs, Bs = hexS (showLen b) b := ⟨_, rfl⟩
    rw [← hBs] at hBz ⊢
    have HE : Hid (S0 = A ++ ⟨#[46, 46]⟩ ++ Bs) := by show _ = _; rw [unhide HS0, unhide HA, hBs, spanS, if_neg hq]
    clear hBs
    have hAB : (A ++ (⟨#[46, 46]⟩ : ByteArray)).size ≤ 8 := by
      rw [ByteArray.size_append, hAz]; show showLen a + 2 ≤ 8; omega
    go_wp2
    go_ret2
    exact ⟨by rw [unhide HE]; rfl, unhide HB3⟩
end Go.Proofs.YtlgolaoabgmijaaGreatDoor

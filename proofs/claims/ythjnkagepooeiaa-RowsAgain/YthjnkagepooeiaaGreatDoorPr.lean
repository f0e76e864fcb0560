/-
  These texts, one behind the other: RwShelf2, RwShA, RwShC, RwShB, RwShD, RwPr1, RwPr2, RwPr3, RwPr4, RwPr5, RwPr6, RwPr7, RwPr8, RwFi, RwKe, RwPr9.
-/
import Derived.Shelf.Strings.OnBuilder
import Derived.Shelf.Strings.Repeat
import Derived.Shelf.Strings.Builder1
import Derived.Shelf.Strconv.Itoa4
import Derived.Test.YthjnkagepooeiaaGreatDoorChecked
import Derived.Test.YthjnkagepooeiaaGreatDoorRd
import Derived.Laws.BitsLemmas
import Derived.Deep.LoopGhost
import Derived.Test.YthjnkagepooeiaaGreatDoorRwA
import Derived.Test.YthjnkagepooeiaaGreatDoorRx
import Derived.BigQuiet
import Derived.Laws.StructEq
import Derived.Lib.QuietBelow
import Derived.Test.YthjnkagepooeiaaGreatDoorWc
import Derived.Test.YthjnkagepooeiaaGreatDoorRwRe
import Derived.Test.YthjnkagepooeiaaGreatDoorRwA0
/-
  Contracts of the library (strings, strconv) over this seat: each one application of a theorem of the library.
-/
namespace Go.Proofs
open Go.Shelf
def Tryz.lays169_ren : Go.Shelf.Ren := ⟨fun | 169 => 50 | n => n, fun | 70 => 107 | 9 => 9 | 0 => 0 | 72 => 110 | 37 => 108 | 127 => 161 | 3 => 3 | 5 => 5 | n => n, fun | n => n⟩
theorem Tryz.lays169 : Go.Proofs.Lays.n169 Tryz.prog Tryz.lays169_ren := {
  mixed := by kernel_rfl
  f169 := Tryz.func50.trans (congrArg some (by kernel_rfl))
  t0 := Tryz.underlying0
  a0 := Tryz.isAgg0
  z0 := Tryz.sizeOf0
  v0 := Tryz.zeroValue0
  t3 := Tryz.underlying3
  a3 := Tryz.isAgg3
  z3 := Tryz.sizeOf3
  v3 := Tryz.zeroValue3
  t9 := Tryz.underlying9
  a9 := Tryz.isAgg9
  z9 := Tryz.sizeOf9
  v9 := Tryz.zeroValue9
  t37 := Tryz.underlying108
  a37 := Tryz.isAgg108
  z37 := Tryz.sizeOf108
  v37 := Tryz.zeroValue108
  t70 := Tryz.underlying107
  a70 := Tryz.isAgg107
  z70 := Tryz.sizeOf107
  v70 := Tryz.zeroValue107
  t72 := Tryz.underlying110
  a72 := Tryz.isAgg110
  z72 := Tryz.sizeOf110
  v72 := Tryz.zeroValue110
  t127 := Tryz.underlying161
  a127 := Tryz.isAgg161
  z127 := Tryz.sizeOf161
  v127 := Tryz.zeroValue161 }
theorem Tryz.Builder_Extra_169 : Builder.Extra Tryz.prog Tryz.lays169_ren := {
  sizeBuilder := by kernel_rfl
  liesBuilder := by kernel_rfl
  t5 := Tryz.underlying5
  a5 := Tryz.isAgg5
  z5 := Tryz.sizeOf5
  v5 := Tryz.zeroValue5
  infoByte := by kernel_rfl
  cellsByte := by kernel_rfl
  sizeByte := by kernel_rfl
  neB5 := by decide }
open Go.RowKit in
/-- (*strings.Builder).String: "String returns the accumulated string.": WHATEVER THE BUILDER HOLDS. (LAID: no walk: one application.) -/
theorem Tryz.Builder_String_any (B b : Nat) (l : List UInt8) (w : World) (h : Lib.IsBuilder 110 5 B b (Lib.byteCells l) w) (hBw : B ≤ w.heap.size) :
    Calls Tryz.prog 50 #[.pointer (some ⟨b, 0, none⟩)] w fun e w' => e = .returned (.string ⟨l.toArray⟩) ∧ Below B w w' := Any.Builder_String_any Tryz.lays169 Tryz.Builder_Extra_169 B b l w h hBw
def Tryz.lays158_ren : Go.Shelf.Ren := ⟨fun | 158 => 139 | 165 => 143 | 166 => 49 | 167 => 179 | 169 => 50 | 230 => 180 | 203 => 181 | 240 => 80 | 241 => 185 | 197 => 194 | 118 => 205 | 168 => 206 | 270 => 207 | 262 => 208 | 276 => 113 | 277 => 211 | 260 => 214 | 242 => 223 | 313 => 224 | 278 => 232 | 274 => 233 | 275 => 234 | n => n, fun | 9 => 9 | 4 => 4 | 3 => 3 | 5 => 5 | 72 => 110 | 0 => 0 | 76 => 113 | 75 => 39 | 107 => 233 | 70 => 107 | 20 => 20 | 37 => 108 | 127 => 161 | 21 => 21 | 105 => 263 | 164 => 95 | 162 => 282 | 203 => 83 | 119 => 285 | 46 => 202 | 139 => 288 | 138 => 287 | 51 => 259 | 160 => 293 | 208 => 299 | 206 => 297 | 80 => 115 | n => n, fun | 13 => 5 | 3 => 8 | 4 => 9 | n => n⟩
theorem Tryz.lays158 : Go.Proofs.Lays.n158 Tryz.prog Tryz.lays158_ren := {
  mixed := by kernel_rfl
  f118 := Tryz.func205.trans (congrArg some (by kernel_rfl))
  f158 := Tryz.func139.trans (congrArg some (by kernel_rfl))
  f165 := Tryz.func143.trans (congrArg some (by kernel_rfl))
  f166 := Tryz.func49.trans (congrArg some (by kernel_rfl))
  f167 := Tryz.func179.trans (congrArg some (by kernel_rfl))
  f168 := Tryz.func206.trans (congrArg some (by kernel_rfl))
  f169 := Tryz.func50.trans (congrArg some (by kernel_rfl))
  f197 := Tryz.func194.trans (congrArg some (by kernel_rfl))
  f203 := Tryz.func181.trans (congrArg some (by kernel_rfl))
  f230 := Tryz.func180.trans (congrArg some (by kernel_rfl))
  f240 := Tryz.func80.trans (congrArg some (by kernel_rfl))
  f241 := Tryz.func185.trans (congrArg some (by kernel_rfl))
  f242 := Tryz.func223.trans (congrArg some (by kernel_rfl))
  f260 := Tryz.func214.trans (congrArg some (by kernel_rfl))
  f262 := Tryz.func208.trans (congrArg some (by kernel_rfl))
  f270 := Tryz.func207.trans (congrArg some (by kernel_rfl))
  f274 := Tryz.func233.trans (congrArg some (by kernel_rfl))
  f275 := Tryz.func234.trans (congrArg some (by kernel_rfl))
  f276 := Tryz.func113.trans (congrArg some (by kernel_rfl))
  f277 := Tryz.func211.trans (congrArg some (by kernel_rfl))
  f278 := Tryz.func232.trans (congrArg some (by kernel_rfl))
  f313 := Tryz.func224.trans (congrArg some (by kernel_rfl))
  t0 := Tryz.underlying0
  a0 := Tryz.isAgg0
  z0 := Tryz.sizeOf0
  v0 := Tryz.zeroValue0
  t3 := Tryz.underlying3
  a3 := Tryz.isAgg3
  z3 := Tryz.sizeOf3
  v3 := Tryz.zeroValue3
  t4 := Tryz.underlying4
  a4 := Tryz.isAgg4
  z4 := Tryz.sizeOf4
  v4 := Tryz.zeroValue4
  t5 := Tryz.underlying5
  a5 := Tryz.isAgg5
  z5 := Tryz.sizeOf5
  v5 := Tryz.zeroValue5
  t9 := Tryz.underlying9
  a9 := Tryz.isAgg9
  z9 := Tryz.sizeOf9
  v9 := Tryz.zeroValue9
  t20 := Tryz.underlying20
  a20 := Tryz.isAgg20
  z20 := Tryz.sizeOf20
  v20 := Tryz.zeroValue20
  t21 := Tryz.underlying21
  a21 := Tryz.isAgg21
  z21 := Tryz.sizeOf21
  v21 := Tryz.zeroValue21
  t37 := Tryz.underlying108
  a37 := Tryz.isAgg108
  z37 := Tryz.sizeOf108
  v37 := Tryz.zeroValue108
  t46 := Tryz.underlying202
  a46 := Tryz.isAgg202
  z46 := Tryz.sizeOf202
  v46 := Tryz.zeroValue202
  t51 := Tryz.underlying259
  a51 := Tryz.isAgg259
  z51 := Tryz.sizeOf259
  v51 := Tryz.zeroValue259
  t70 := Tryz.underlying107
  a70 := Tryz.isAgg107
  z70 := Tryz.sizeOf107
  v70 := Tryz.zeroValue107
  t72 := Tryz.underlying110
  a72 := Tryz.isAgg110
  z72 := Tryz.sizeOf110
  v72 := Tryz.zeroValue110
  t75 := Tryz.underlying39
  a75 := Tryz.isAgg39
  z75 := Tryz.sizeOf39
  v75 := Tryz.zeroValue39
  t76 := Tryz.underlying113
  a76 := Tryz.isAgg113
  z76 := Tryz.sizeOf113
  v76 := Tryz.zeroValue113
  t105 := Tryz.underlying263
  a105 := Tryz.isAgg263
  z105 := Tryz.sizeOf263
  v105 := Tryz.zeroValue263
  t107 := Tryz.underlying233
  a107 := Tryz.isAgg233
  z107 := Tryz.sizeOf233
  v107 := Tryz.zeroValue233
  t119 := Tryz.underlying285
  a119 := Tryz.isAgg285
  z119 := Tryz.sizeOf285
  t127 := Tryz.underlying161
  a127 := Tryz.isAgg161
  z127 := Tryz.sizeOf161
  v127 := Tryz.zeroValue161
  t138 := Tryz.underlying287
  a138 := Tryz.isAgg287
  z138 := Tryz.sizeOf287
  v138 := Tryz.zeroValue287
  t139 := Tryz.underlying288
  a139 := Tryz.isAgg288
  z139 := Tryz.sizeOf288
  v139 := Tryz.zeroValue288
  t160 := Tryz.underlying293
  a160 := Tryz.isAgg293
  z160 := Tryz.sizeOf293
  v160 := Tryz.zeroValue293
  t162 := Tryz.underlying282
  a162 := Tryz.isAgg282
  z162 := Tryz.sizeOf282
  v162 := Tryz.zeroValue282
  t164 := Tryz.underlying95
  a164 := Tryz.isAgg95
  z164 := Tryz.sizeOf95
  v164 := Tryz.zeroValue95
  t203 := Tryz.underlying83
  a203 := Tryz.isAgg83
  z203 := Tryz.sizeOf83
  v203 := Tryz.zeroValue83
  t206 := Tryz.underlying297
  a206 := Tryz.isAgg297
  z206 := Tryz.sizeOf297
  v206 := Tryz.zeroValue297
  t208 := Tryz.underlying299
  a208 := Tryz.isAgg299
  z208 := Tryz.sizeOf299
  v208 := Tryz.zeroValue299
  g3 := by kernel_rfl
  g4 := by kernel_rfl
  g13 := by kernel_rfl }
theorem Tryz.Builder_Extra_158 : Builder.Extra Tryz.prog Tryz.lays158_ren := {
  sizeBuilder := by kernel_rfl
  liesBuilder := by kernel_rfl
  t5 := Tryz.underlying5
  a5 := Tryz.isAgg5
  z5 := Tryz.sizeOf5
  v5 := Tryz.zeroValue5
  infoByte := by kernel_rfl
  cellsByte := by kernel_rfl
  sizeByte := by kernel_rfl
  neB5 := by decide }
open Go.RowKit in
/-- strings.ToUpper: "ToUpper returns s with all Unicode letters mapped to their upper case.": ON ASCII TEXT OF AT MOST 2^47 BYTES. Below the heap's end the world is as it was: where a letter turns, the call makes a builder and its buffer. (LAID: no walk: one application.) -/
theorem Tryz.strings_ToUpper_ascii (s : ByteArray) (w : World) (hs : s.size ≤ 140737488355328) (hascii : ∀ (j : Nat) (b : UInt8), s.data.toList[j]? = some b → b.toNat < 128) :
    Calls Tryz.prog 139 #[.string s] w fun e w' => e = .returned (.string ⟨(Lib.toUpperA s.data.toList).toArray⟩) ∧ Below w.heap.size w w' := Any.strings_ToUpper_ascii Tryz.lays158 Tryz.Builder_Extra_158 s w hs hascii
def Tryz.lays156_ren : Go.Shelf.Ren := ⟨fun | 156 => 112 | 165 => 143 | 166 => 49 | 169 => 50 | 240 => 80 | 241 => 185 | 276 => 113 | 277 => 211 | n => n, fun | 31 => 23 | 9 => 9 | 3 => 3 | 4 => 4 | 0 => 0 | 20 => 20 | 72 => 110 | 76 => 113 | 70 => 107 | 37 => 108 | 75 => 39 | 127 => 161 | 164 => 95 | 5 => 5 | 80 => 115 | n => n, fun | n => n⟩
theorem Tryz.lays156 : Go.Proofs.Lays.n156 Tryz.prog Tryz.lays156_ren := {
  mixed := by kernel_rfl
  f156 := Tryz.func112.trans (congrArg some (by kernel_rfl))
  f165 := Tryz.func143.trans (congrArg some (by kernel_rfl))
  f166 := Tryz.func49.trans (congrArg some (by kernel_rfl))
  f169 := Tryz.func50.trans (congrArg some (by kernel_rfl))
  f240 := Tryz.func80.trans (congrArg some (by kernel_rfl))
  f241 := Tryz.func185.trans (congrArg some (by kernel_rfl))
  f276 := Tryz.func113.trans (congrArg some (by kernel_rfl))
  f277 := Tryz.func211.trans (congrArg some (by kernel_rfl))
  t0 := Tryz.underlying0
  a0 := Tryz.isAgg0
  z0 := Tryz.sizeOf0
  v0 := Tryz.zeroValue0
  t3 := Tryz.underlying3
  a3 := Tryz.isAgg3
  z3 := Tryz.sizeOf3
  v3 := Tryz.zeroValue3
  t4 := Tryz.underlying4
  a4 := Tryz.isAgg4
  z4 := Tryz.sizeOf4
  v4 := Tryz.zeroValue4
  t9 := Tryz.underlying9
  a9 := Tryz.isAgg9
  z9 := Tryz.sizeOf9
  v9 := Tryz.zeroValue9
  t20 := Tryz.underlying20
  a20 := Tryz.isAgg20
  z20 := Tryz.sizeOf20
  v20 := Tryz.zeroValue20
  t31 := Tryz.underlying23
  a31 := Tryz.isAgg23
  z31 := Tryz.sizeOf23
  v31 := Tryz.zeroValue23
  t37 := Tryz.underlying108
  a37 := Tryz.isAgg108
  z37 := Tryz.sizeOf108
  v37 := Tryz.zeroValue108
  t70 := Tryz.underlying107
  a70 := Tryz.isAgg107
  z70 := Tryz.sizeOf107
  v70 := Tryz.zeroValue107
  t72 := Tryz.underlying110
  a72 := Tryz.isAgg110
  z72 := Tryz.sizeOf110
  v72 := Tryz.zeroValue110
  t75 := Tryz.underlying39
  a75 := Tryz.isAgg39
  z75 := Tryz.sizeOf39
  v75 := Tryz.zeroValue39
  t76 := Tryz.underlying113
  a76 := Tryz.isAgg113
  z76 := Tryz.sizeOf113
  v76 := Tryz.zeroValue113
  t127 := Tryz.underlying161
  a127 := Tryz.isAgg161
  z127 := Tryz.sizeOf161
  v127 := Tryz.zeroValue161
  t164 := Tryz.underlying95
  a164 := Tryz.isAgg95
  z164 := Tryz.sizeOf95
  v164 := Tryz.zeroValue95 }
theorem Tryz.Builder_Extra_156 : Builder.Extra Tryz.prog Tryz.lays156_ren := {
  sizeBuilder := by kernel_rfl
  liesBuilder := by kernel_rfl
  t5 := Tryz.underlying5
  a5 := Tryz.isAgg5
  z5 := Tryz.sizeOf5
  v5 := Tryz.zeroValue5
  infoByte := by kernel_rfl
  cellsByte := by kernel_rfl
  sizeByte := by kernel_rfl
  neB5 := by decide }
open Go.RowKit in
/-- strings.Join: "Join concatenates the elements of its first argument to create a single string. The separator string sep is placed between elements in the resulting string.": HOWEVER MANY ELEMENTS. Below the heap's end the world is as it was. (LAID: no walk: one application.) -/
theorem Tryz.strings_Join (bk o c : Nat) (xs : List ByteArray) (sep : ByteArray) (w : World) (hcells : ∀ (j : Nat) x, xs[j]? = some x → w.cell? ⟨bk, o + j, none⟩ = some (.string x)) (hbk : bk < w.heap.size) (hN : xs.length ≤ 140737488355328) (hcap : xs.length ≤ c) (hlen : (Lib.join (xs.map (·.data.toList)) sep.data.toList).length ≤ 140737488355328) :
    Calls Tryz.prog 112 #[.slice (some ⟨bk, o, none⟩) xs.length c, .string sep] w fun e w' => e = .returned (.string ⟨(Lib.join (xs.map (·.data.toList)) sep.data.toList).toArray⟩) ∧ Below w.heap.size w w' := Any.strings_Join Tryz.lays156 Tryz.Builder_Extra_156 bk o c xs sep w hcells hbk hN hcap hlen
def Tryz.laysM171_ren : Go.Shelf.Ren := ⟨fun | 171 => 111 | 243 => 142 | 246 => 182 | 283 => 150 | 284 => 151 | 285 => 152 | 286 => 153 | 129 => 189 | 317 => 188 | 318 => 190 | 319 => 191 | 320 => 192 | 337 => 212 | 338 => 213 | n => n, fun | 3 => 3 | 9 => 9 | 2 => 2 | 4 => 4 | 171 => 228 | 0 => 0 | 53 => 164 | 37 => 108 | 5 => 5 | 173 => 231 | 212 => 258 | 51 => 259 | 20 => 20 | 213 => 260 | 46 => 202 | 232 => 283 | 233 => 284 | n => n, fun | 17 => 3 | 18 => 6 | 19 => 7 | n => n⟩
theorem Tryz.laysM171 : Go.Proofs.LaysM.n171 Tryz.prog Tryz.laysM171_ren := {
  mixed := by kernel_rfl
  f129 := Tryz.func189.trans (congrArg some (by kernel_rfl))
  f171 := Tryz.func111.trans (congrArg some (by kernel_rfl))
  f243 := Tryz.func142.trans (congrArg some (by kernel_rfl))
  f246 := Tryz.func182.trans (congrArg some (by kernel_rfl))
  f283 := Tryz.func150.trans (congrArg some (by kernel_rfl))
  f284 := Tryz.func151.trans (congrArg some (by kernel_rfl))
  f285 := Tryz.func152.trans (congrArg some (by kernel_rfl))
  f286 := Tryz.func153.trans (congrArg some (by kernel_rfl))
  f317 := Tryz.func188.trans (congrArg some (by kernel_rfl))
  f318 := Tryz.func190.trans (congrArg some (by kernel_rfl))
  f319 := Tryz.func191.trans (congrArg some (by kernel_rfl))
  f320 := Tryz.func192.trans (congrArg some (by kernel_rfl))
  f337 := Tryz.func212.trans (congrArg some (by kernel_rfl))
  f338 := Tryz.func213.trans (congrArg some (by kernel_rfl))
  t0 := Tryz.underlying0
  a0 := Tryz.isAgg0
  z0 := Tryz.sizeOf0
  v0 := Tryz.zeroValue0
  t2 := Tryz.underlying2
  a2 := Tryz.isAgg2
  z2 := Tryz.sizeOf2
  v2 := Tryz.zeroValue2
  t3 := Tryz.underlying3
  a3 := Tryz.isAgg3
  z3 := Tryz.sizeOf3
  v3 := Tryz.zeroValue3
  t4 := Tryz.underlying4
  a4 := Tryz.isAgg4
  z4 := Tryz.sizeOf4
  v4 := Tryz.zeroValue4
  t5 := Tryz.underlying5
  a5 := Tryz.isAgg5
  z5 := Tryz.sizeOf5
  v5 := Tryz.zeroValue5
  t9 := Tryz.underlying9
  a9 := Tryz.isAgg9
  z9 := Tryz.sizeOf9
  v9 := Tryz.zeroValue9
  t20 := Tryz.underlying20
  a20 := Tryz.isAgg20
  z20 := Tryz.sizeOf20
  v20 := Tryz.zeroValue20
  t37 := Tryz.underlying108
  a37 := Tryz.isAgg108
  z37 := Tryz.sizeOf108
  v37 := Tryz.zeroValue108
  t46 := Tryz.underlying202
  a46 := Tryz.isAgg202
  z46 := Tryz.sizeOf202
  v46 := Tryz.zeroValue202
  t51 := Tryz.underlying259
  a51 := Tryz.isAgg259
  z51 := Tryz.sizeOf259
  v51 := Tryz.zeroValue259
  t53 := Tryz.underlying164
  a53 := Tryz.isAgg164
  z53 := Tryz.sizeOf164
  v53 := Tryz.zeroValue164
  t171 := Tryz.underlying228
  a171 := Tryz.isAgg228
  z171 := Tryz.sizeOf228
  v171 := Tryz.zeroValue228
  t173 := Tryz.underlying231
  a173 := Tryz.isAgg231
  z173 := Tryz.sizeOf231
  v173 := Tryz.zeroValue231
  t212 := Tryz.underlying258
  a212 := Tryz.isAgg258
  z212 := Tryz.sizeOf258
  v212 := Tryz.zeroValue258
  t213 := Tryz.underlying260
  a213 := Tryz.isAgg260
  z213 := Tryz.sizeOf260
  t232 := Tryz.underlying283
  a232 := Tryz.isAgg283
  z232 := Tryz.sizeOf283
  v232 := Tryz.zeroValue283
  t233 := Tryz.underlying284
  a233 := Tryz.isAgg284
  z233 := Tryz.sizeOf284
  v233 := Tryz.zeroValue284
  g17 := by kernel_rfl
  g18 := by kernel_rfl
  g19 := by kernel_rfl
  i0 := by kernel_rfl
  i2 := by kernel_rfl
  i3 := by kernel_rfl
  i4 := by kernel_rfl
  i5 := by kernel_rfl
  i9 := by kernel_rfl
  i20 := by kernel_rfl
  i37 := by kernel_rfl
  i46 := by kernel_rfl
  i51 := by kernel_rfl
  i53 := by kernel_rfl
  i171 := by kernel_rfl
  i173 := by kernel_rfl
  i212 := by kernel_rfl
  i232 := by kernel_rfl
  i233 := by kernel_rfl
  m17 := by kernel_rfl
  m18 := by kernel_rfl
  m19 := by kernel_rfl }
open Go.RowKit Go.Sort Go.Lib in
/-- strconv.Itoa: "Itoa is equivalent to FormatInt(int64(i), 10).": i's DECIMAL NUMERAL ('Lib.itoa': a '-' where i is negative, then the digits), FOR EVERY int. The world behind the call: the world before it, new blocks behind the heap (the library's 'var a [24]byte'), draws. (LAID: no walk: one application.) -/
theorem Tryz.strconv_Itoa (n : Int) (h0 : -9223372036854775808 ≤ n) (h1 : n ≤ 9223372036854775807) (w : World) (htab : Lib.TabIs Tryz.prog w "internal/strconv.uint64pow10" .u64 Lib.pow10Tab) :
    Calls Tryz.prog 111 #[.int .i64 n] w fun e w' => e = .returned (.string ⟨(Lib.itoa n).toArray⟩) ∧ ∃ k os, w' = grow (w.drewN k) os := Any.strconv_Itoa Tryz.laysM171 n h0 h1 w htab
def Tryz.lays105_ren : Go.Shelf.Ren := ⟨fun | 105 => 141 | 212 => 183 | 99 => 128 | 165 => 143 | 166 => 49 | 170 => 184 | 169 => 50 | 263 => 209 | 264 => 210 | 206 => 165 | 240 => 80 | 241 => 185 | 276 => 113 | 277 => 211 | n => n, fun | 9 => 9 | 3 => 3 | 4 => 4 | 20 => 20 | 0 => 0 | 46 => 202 | 109 => 250 | 5 => 5 | 72 => 110 | 76 => 113 | 51 => 259 | 146 => 270 | 53 => 164 | 148 => 272 | 70 => 107 | 37 => 108 | 75 => 39 | 127 => 161 | 164 => 95 | 80 => 115 | n => n, fun | n => n⟩
theorem Tryz.lays105 : Go.Proofs.Lays.n105 Tryz.prog Tryz.lays105_ren := {
  mixed := by kernel_rfl
  f99 := Tryz.func128.trans (congrArg some (by kernel_rfl))
  f105 := Tryz.func141.trans (congrArg some (by kernel_rfl))
  f165 := Tryz.func143.trans (congrArg some (by kernel_rfl))
  f166 := Tryz.func49.trans (congrArg some (by kernel_rfl))
  f169 := Tryz.func50.trans (congrArg some (by kernel_rfl))
  f170 := Tryz.func184.trans (congrArg some (by kernel_rfl))
  f206 := Tryz.func165.trans (congrArg some (by kernel_rfl))
  f212 := Tryz.func183.trans (congrArg some (by kernel_rfl))
  f240 := Tryz.func80.trans (congrArg some (by kernel_rfl))
  f241 := Tryz.func185.trans (congrArg some (by kernel_rfl))
  f263 := Tryz.func209.trans (congrArg some (by kernel_rfl))
  f264 := Tryz.func210.trans (congrArg some (by kernel_rfl))
  f276 := Tryz.func113.trans (congrArg some (by kernel_rfl))
  f277 := Tryz.func211.trans (congrArg some (by kernel_rfl))
  t0 := Tryz.underlying0
  a0 := Tryz.isAgg0
  z0 := Tryz.sizeOf0
  v0 := Tryz.zeroValue0
  t3 := Tryz.underlying3
  a3 := Tryz.isAgg3
  z3 := Tryz.sizeOf3
  v3 := Tryz.zeroValue3
  t4 := Tryz.underlying4
  a4 := Tryz.isAgg4
  z4 := Tryz.sizeOf4
  v4 := Tryz.zeroValue4
  t5 := Tryz.underlying5
  a5 := Tryz.isAgg5
  z5 := Tryz.sizeOf5
  v5 := Tryz.zeroValue5
  t9 := Tryz.underlying9
  a9 := Tryz.isAgg9
  z9 := Tryz.sizeOf9
  v9 := Tryz.zeroValue9
  t20 := Tryz.underlying20
  a20 := Tryz.isAgg20
  z20 := Tryz.sizeOf20
  v20 := Tryz.zeroValue20
  t37 := Tryz.underlying108
  a37 := Tryz.isAgg108
  z37 := Tryz.sizeOf108
  v37 := Tryz.zeroValue108
  t46 := Tryz.underlying202
  a46 := Tryz.isAgg202
  z46 := Tryz.sizeOf202
  v46 := Tryz.zeroValue202
  t51 := Tryz.underlying259
  a51 := Tryz.isAgg259
  z51 := Tryz.sizeOf259
  v51 := Tryz.zeroValue259
  t53 := Tryz.underlying164
  a53 := Tryz.isAgg164
  z53 := Tryz.sizeOf164
  v53 := Tryz.zeroValue164
  t70 := Tryz.underlying107
  a70 := Tryz.isAgg107
  z70 := Tryz.sizeOf107
  v70 := Tryz.zeroValue107
  t72 := Tryz.underlying110
  a72 := Tryz.isAgg110
  z72 := Tryz.sizeOf110
  v72 := Tryz.zeroValue110
  t75 := Tryz.underlying39
  a75 := Tryz.isAgg39
  z75 := Tryz.sizeOf39
  v75 := Tryz.zeroValue39
  t76 := Tryz.underlying113
  a76 := Tryz.isAgg113
  z76 := Tryz.sizeOf113
  v76 := Tryz.zeroValue113
  t109 := Tryz.underlying250
  a109 := Tryz.isAgg250
  z109 := Tryz.sizeOf250
  v109 := Tryz.zeroValue250
  t127 := Tryz.underlying161
  a127 := Tryz.isAgg161
  z127 := Tryz.sizeOf161
  v127 := Tryz.zeroValue161
  t146 := Tryz.underlying270
  a146 := Tryz.isAgg270
  z146 := Tryz.sizeOf270
  v146 := Tryz.zeroValue270
  t148 := Tryz.underlying272
  a148 := Tryz.isAgg272
  z148 := Tryz.sizeOf272
  v148 := Tryz.zeroValue272
  t164 := Tryz.underlying95
  a164 := Tryz.isAgg95
  z164 := Tryz.sizeOf95
  v164 := Tryz.zeroValue95 }
theorem Tryz.Builder_Extra_105 : Builder.Extra Tryz.prog Tryz.lays105_ren := {
  sizeBuilder := by kernel_rfl
  liesBuilder := by kernel_rfl
  t5 := Tryz.underlying5
  a5 := Tryz.isAgg5
  z5 := Tryz.sizeOf5
  v5 := Tryz.zeroValue5
  infoByte := by kernel_rfl
  cellsByte := by kernel_rfl
  sizeByte := by kernel_rfl
  neB5 := by decide }
open Go.RowKit Go.Lib in
/-- **strings.Repeat: count ≥ 0, the result within one allocation: count copies of s.** (LAID: no walk: one application.) -/
theorem Tryz.strings_Repeat (s : ByteArray) (c : Nat) (w : World) (hc : c ≤ 9223372036854775807) (hlen : s.size * c ≤ 140737488355328) :
    Calls Tryz.prog 141 #[.string s, .int .i64 c] w fun e w' => e = .returned (.string ⟨(Lib.repeatL s.data.toList c).toArray⟩) ∧ Below w.heap.size w w' := Any.strings_Repeat Tryz.lays105 Tryz.Builder_Extra_105 s c w hc hlen
theorem Tryz.lays166 : Go.Proofs.Lays.n166 Tryz.prog Tryz.lays156_ren := { Tryz.lays156 with }
open Go.RowKit in
/-- (*strings.Builder).WriteString appends the contents of s to the buffer: what lays156 holds is enough for it. -/
theorem Tryz.Builder_WriteString (B b : Nat) (bs : List Value) (s : ByteArray) (w : World) (h : Lib.IsBuilder 110 5 B b bs w) (hlen : bs.length + s.size ≤ 140737488355328) (hBw : B ≤ w.heap.size) :
    Calls Tryz.prog 49 #[.pointer (some ⟨b, 0, none⟩), .string s] w fun e w' => e = .returned (.tuple #[.int .i64 s.size, .nilIface]) ∧ (Lib.BuilderAt 110 5 B b (.pointer (some ⟨b, 0, none⟩)) (bs ++ Lib.strCells s) w' ∧ Below B w w') := Any.Builder_WriteString Tryz.lays166 Tryz.Builder_Extra_156 B b bs s w h hlen hBw
end Go.Proofs
/-
  Go's small roads to the base sixteen: 16 is a power of two, and four zeros stand behind its one.
-/
namespace Go.Proofs.YthjnkagepooeiaaGreatDoor
open Go.RowKit Go.PlainAid Go.Lib
set_option linter.unusedVariables false

theorem pow2_16 (w : World) : Calls Tryz.prog 191 #[.int .i64 16] w fun e w' => e = .returned (.bool true) ∧ w' = w := by
  have h : bits .and .i64 16 15 = 0 := by decide
  go_enter Tryz.func191, Tryz.ntmps191
  go_wp2
  go_ret
  exact ⟨rfl, rfl⟩
/-- the table of the library tells four for sixteen -/
def tz16At (w : World) : Prop := w.cell? ⟨7, 15, none⟩ = some (.int .u8 4)
theorem tz64_16 (w : World) (hg : tz16At w) : Calls Tryz.prog 213 #[.int .u64 16] w fun e w' => e = .returned (.int .i64 4) ∧ w' = w := by
  have hg' : w.cell? ⟨7, 15, none⟩ = some (.int .u8 4) := hg
  have q0 : bits .and .u64 16 (IntKind.u64.wrap (-16)) = 16 := by decide
  have q1 : IntKind.u64.wrap (16 * 285870213051353865) = 4573923408821661840 := by decide
  clear hg
  go_enter Tryz.func213, Tryz.ntmps213
  go_wp2
  go_ret
  exact ⟨rfl, rfl⟩
theorem tz_16 (w : World) (hg : tz16At w) : Calls Tryz.prog 192 #[.int .u64 16] w fun e w' => e = .returned (.int .i64 4) ∧ w' = w := by
  have H := hide (tz64_16 w hg)
  clear hg
  go_enter Tryz.func192, Tryz.ntmps192
  go_wp2_with (go_at_call 213; refine (unhide H).mono ?_; rintro e w' ⟨rfl, rfl⟩)
  go_ret
  exact ⟨rfl, rfl⟩
end Go.Proofs.YthjnkagepooeiaaGreatDoor
/-
  The document's Show, of every number.
-/
namespace Go.Proofs.YthjnkagepooeiaaGreatDoor
open Go.RowKit Go.PlainAid Go.Lib Go.PHexM
set_option linter.unusedVariables false

/-- the byte of a digit -/
def dgt (d : Nat) : UInt8 := UInt8.ofNat (digAt d)
/-- the last i digits of n, the highest first -/
def hexUp : Nat → Nat → List UInt8
  | 0, _ => []
  | i + 1, n => dgt (n / 16 ^ i % 16) :: hexUp i n
def showLen (n : Nat) : Nat := if n < 65536 then 4 else if n < 1048576 then 5 else 6
def showP (n : Nat) : List UInt8 := hexUp (showLen n) n
theorem hexUp_len (i n : Nat) : (hexUp i n).length = i := by
  induction i with
  | zero => rfl
  | succ i ih => simp [hexUp, ih]
def hexS (i n : Nat) : ByteArray := ⟨(hexUp i n).toArray⟩
theorem hexS_size (i n : Nat) : (hexS i n).size = i := by
  show (hexUp i n).toArray.size = i
  simp [hexUp_len]
theorem hexS_succ (i n : Nat) : (⟨#[dgt (n / 16 ^ i % 16)]⟩ : ByteArray) ++ hexS i n = hexS (i + 1) n := by
  apply ByteArray.ext
  rw [ByteArray.data_append]
  simp [hexS, hexUp]
theorem dgt_lit (d : Nat) (h : d < (⟨#[48, 49, 50, 51, 52, 53, 54, 55, 56, 57, 65, 66, 67, 68, 69, 70]⟩ : ByteArray).size) : ((⟨#[48, 49, 50, 51, 52, 53, 54, 55, 56, 57, 65, 66, 67, 68, 69, 70]⟩ : ByteArray)[d]'h) = dgt d := by
  apply UInt8.toNat_inj.1
  rw [lit_at d h, dgt]
  have h' : d < 16 := h
  have : digAt d < 256 := by unfold digAt; split <;> omega
  simp [Nat.mod_eq_of_lt this]

theorem one_conv (w : World) (b : UInt8) :
    (convert 108 9 (.slice (some ⟨w.heap.size, 0, none⟩) 1 1)).run Tryz.prog (w.alloc (.cells #[.int .u8 (b.toNat : Int)] 5)) = .ok (.string ⟨#[b]⟩) (w.alloc (.cells #[.int .u8 (b.toNat : Int)] 5)) := by
  refine run_convert_bytes_back (P := Tryz.prog) _ 108 9 5 ⟨w.heap.size, 0, none⟩ 1 [b] Tryz.underlying108 Tryz.underlying5 Tryz.underlying9 (fun j hj => ?_)
  have : j = 0 := by simp at hj; omega
  subst this
  have h := heap_alloc_new w (.cells #[.int .u8 (b.toNat : Int)] 5)
  have hc : (w.alloc (.cells #[.int .u8 (b.toNat : Int)] 5)).cell? ⟨w.heap.size, 0, none⟩ = some (.int .u8 (b.toNat : Int)) := by
    generalize w.alloc (.cells #[.int .u8 (b.toNat : Int)] 5) = W at h
    simp [World.cell?, h]
  exact hc
/-- a number below 16^6 has fallen to nothing behind its digits -/
theorem show_done {n i : Nat} (hn : n ≤ 1114111) (hp : i ≤ 4 ∨ 0 < n / 16 ^ (i - 1)) (h0 : n / 16 ^ i = 0) (h4 : 4 ≤ i) (h6 : i ≤ 6) : i = showLen n := by
  unfold showLen
  have : i = 4 ∨ i = 5 ∨ i = 6 := by omega
  rcases this with rfl | rfl | rfl
  · rw [if_pos (by have : n / 65536 = 0 := h0; omega)]
  · have h1 : 0 < n / 65536 := by rcases hp with h | h; omega; exact h
    have h2 : n / 1048576 = 0 := h0
    rw [if_neg (by omega), if_pos (by omega)]
  · have h1 : 0 < n / 1048576 := by rcases hp with h | h; omega; exact h
    rw [if_neg (by omega), if_neg (by omega)]
theorem show_room {n i : Nat} (hn : n ≤ 1114111) (h6 : i ≤ 6) (h : 0 < n / 16 ^ i ∨ i < 4) : i + 1 ≤ 6 := by
  rcases Nat.lt_or_ge i 6 with h' | h'
  · omega
  · obtain rfl : i = 6 := by omega
    rcases h with h | h
    · have : 0 < n / 16777216 := h
      omega
    · omega

set_option maxRecDepth 100000 in
set_option maxHeartbeats 2000000 in
theorem refShow_any (n : Nat) (hn : n ≤ 1114111) (w : World) :
    Calls Tryz.prog 114 #[.int .i32 (n : Int)] w fun e w' => e = .returned (.tuple #[.string (hexS (showLen n) n), .int .i64 0]) ∧ Below w.heap.size w w' := by
  obtain ⟨S0, hS0⟩ : ∃ S0, S0 = hexS (showLen n) n := ⟨_, rfl⟩
  rw [← hS0]
  have HS0 := hide hS0
  clear hS0
  go_enter Tryz.func114, Tryz.ntmps114
  go_wp2
  go_loopg [4, 5] 7 (fun kx s4 s5 wr => ∃ (i q : Nat) (S : ByteArray), i ≤ 6 ∧ Hid (i ≤ 4 ∨ 0 < n / 16 ^ (i - 1)) ∧ Hid (q = n / 16 ^ i) ∧ q ≤ 1114111 ∧ S.size = i ∧ Hid (S = hexS i n) ∧ s4 = .string S ∧ s5 = .int .i64 (q : Int) ∧ kx = 7 - i ∧ Below w.heap.size w wr)
  case atStart => exact ⟨0, n, ⟨#[]⟩, by omega, hide (.inl (by omega)), hide (by simp), hn, rfl, hide rfl, rfl, rfl, rfl, Below.refl _ _⟩
  case round =>
    obtain ⟨i, q, S, hi, HP, HQ, hq1, hsz, HSS, rfl, rfl, rfl, hb⟩ := hrel
    have HB := hide hb
    clear hb
    by_cases hc : 0 < q ∨ i < 4
    · have HR := hide (show_room hn hi (by rw [← unhide HQ]; exact hc))
      obtain ⟨r, hr⟩ : ∃ r, r = q % 16 := ⟨_, rfl⟩
      obtain ⟨q2, hq2⟩ : ∃ q2, q2 = q / 16 := ⟨_, rfl⟩
      have hr16 : r < 16 := by omega
      have ht : (q : Int).tmod 16 = (r : Int) := by rw [Int.tmod_eq_emod_of_nonneg (by omega)]; omega
      have htd : (q : Int).tdiv 16 = (q2 : Int) := by rw [Int.tdiv_eq_ediv_of_nonneg (by omega)]; omega
      have hlit := dgt_lit r (show r < 16 by omega)
      have hcv := one_conv wr (dgt r)
      have hq2' : q2 ≤ 1114111 := by omega
      have HS2 : Hid ((⟨#[dgt r]⟩ : ByteArray) ++ S = hexS (i + 1) n) := by
        show _ = _
        rw [unhide HSS, hr, unhide HQ, hexS_succ]
      have HQ2 : Hid (q2 = n / 16 ^ (i + 1)) := by
        show _ = _
        rw [hq2, unhide HQ, Nat.div_div_eq_div_mul, Nat.pow_succ]
      have HP2 : Hid (i + 1 ≤ 4 ∨ 0 < n / 16 ^ (i + 1 - 1)) := by
        show _ ∨ _
        rcases hc with h | h
        · right; rw [Nat.add_sub_cancel, ← unhide HQ]; exact h
        · left; omega
      have HB2 := hide ((unhide HB).alloc (unhide HB).size (.cells #[.int .u8 ((dgt r).toNat : Int)] 5))
      by_cases hz : q = 0
      · obtain rfl : r = 0 := by omega
        obtain rfl : q2 = 0 := by omega
        have hl0 : ((⟨#[48, 49, 50, 51, 52, 53, 54, 55, 56, 57, 65, 66, 67, 68, 69, 70]⟩ : ByteArray)[0]'(by decide)).toNat = (dgt 0).toNat := by rw [dgt_lit 0 (by decide)]
        have hi4 : i < 4 := by omega
        clear hr hq2 ht htd hlit hc
        subst hz
        go_wp2
        go_roundg (7 - (i + 1))
        case measure => omega
        case rel => exact ⟨i + 1, 0, _, unhide HR, HP2, HQ2, by omega, by rw [ByteArray.size_append, hsz]; show 1 + i = i + 1; omega, HS2, rfl, rfl, rfl, unhide HB2⟩
      · have hq0 : 0 < q := by omega
        clear hr hq2 hc
        go_wp2
        go_roundg (7 - (i + 1))
        case measure => omega
        case rel => exact ⟨i + 1, q2, _, unhide HR, HP2, HQ2, by omega, by rw [ByteArray.size_append, hsz]; show 1 + i = i + 1; omega, HS2, rfl, rfl, rfl, unhide HB2⟩
    · have HD := hide (show_done hn (unhide HP) (by rw [← unhide HQ]; omega) (by omega) hi)
      go_wp2
      go_ret2
      exact ⟨by rw [unhide HS0, ← unhide HD, ← unhide HSS]; rfl, unhide HB⟩
end Go.Proofs.YthjnkagepooeiaaGreatDoor
/-
  Go's digits to the base sixteen (strconv.FormatInt), of a code point.
-/
namespace Go.Proofs.YthjnkagepooeiaaGreatDoor
open Go.RowKit Go.PlainAid Go.Lib
set_option linter.unusedVariables false

/-- the byte of a small digit -/
def lowAt (d : Nat) : Nat := if d < 10 then 48 + d else 87 + d
def lowDg (d : Nat) : UInt8 := UInt8.ofNat (lowAt d)
/-- the last k digits of n, the highest first -/
def lowUp : Nat → Nat → List UInt8
  | 0, _ => []
  | k + 1, n => lowDg (n / 16 ^ k % 16) :: lowUp k n
theorem lowUp_len (k n : Nat) : (lowUp k n).length = k := by
  induction k with
  | zero => rfl
  | succ k ih => simp [lowUp, ih]
def rowL (p : Nat) (l : List UInt8) : Array Value := (List.replicate p (Value.int .u8 0) ++ l.map fun b => Value.int .u8 (b.toNat : Int)).toArray
theorem rowL_set (p : Nat) (l : List UInt8) (b : UInt8) : (rowL (p + 1) l).set! p (.int .u8 (b.toNat : Int)) = rowL p (b :: l) := by
  apply Array.ext'
  simp only [rowL, Array.set!_eq_setIfInBounds, List.setIfInBounds_toArray]
  rw [List.replicate_succ', List.append_assoc]
  rw [List.set_append_right _ _ (by simp)]
  simp
theorem rowLF_at (p : Nat) (l : List UInt8) : (rowL (p + 1) l)[p]? = some (.int .u8 0) := by
  simp only [rowL, List.getElem?_toArray]
  rw [List.getElem?_append_left (by simp)]
  simp

theorem low_lit (d : Nat) (h : d < 16) (h' : d < (⟨#[48, 49, 50, 51, 52, 53, 54, 55, 56, 57, 97, 98, 99, 100, 101, 102, 103, 104, 105, 106, 107, 108, 109, 110, 111, 112, 113, 114, 115, 116, 117, 118, 119, 120, 121, 122]⟩ : ByteArray).size) : ((⟨#[48, 49, 50, 51, 52, 53, 54, 55, 56, 57, 97, 98, 99, 100, 101, 102, 103, 104, 105, 106, 107, 108, 109, 110, 111, 112, 113, 114, 115, 116, 117, 118, 119, 120, 121, 122]⟩ : ByteArray)[d]'h') = lowDg d := by
  have : ∀ i : Fin 16, ((#[48, 49, 50, 51, 52, 53, 54, 55, 56, 57, 97, 98, 99, 100, 101, 102, 103, 104, 105, 106, 107, 108, 109, 110, 111, 112, 113, 114, 115, 116, 117, 118, 119, 120, 121, 122] : Array UInt8)[i.val]'(Nat.lt_of_lt_of_le i.isLt (by decide))) = lowDg i.val := by decide
  exact this ⟨d, h⟩
theorem and15 (q : Nat) (hq : q ≤ 1114111) : bits .and .u64 (q : Int) 15 = ((q % 16 : Nat) : Int) := by
  have h := bits_mask .u64 63 (by decide) (fun n h0 h1 => by rw [IntKind.wrap_u64]; omega) 4 (by decide) (q : Int) (by omega) (by omega)
  exact h.trans (by omega)

set_option maxRecDepth 100000 in
set_option maxHeartbeats 2000000 in
theorem fmtBits_16 (n : Nat) (hn : n ≤ 1114111) (w : World) (hg : tz16At w) :
    Calls Tryz.prog 153 #[.slice none 0 0, .int .u64 (n : Int), .int .i64 16, .bool false, .bool false] w fun e w' => (∃ k, n < 16 ^ (k + 1) ∧ (k = 0 ∨ 16 ^ k ≤ n) ∧ e = .returned (.tuple #[.slice none 0 0, .string ⟨(lowUp (k + 1) n).toArray⟩])) ∧ Below w.heap.size w w' := by
  have H2 := hide pow2_16
  have HG := hide hg
  have hgB : 7 < w.heap.size := World.block_lt_of_cell? _ _ hg
  clear hg
  go_enter Tryz.func153, Tryz.ntmps153
  go_wp2_with fail
  have hb1 : Below w.heap.size w (w.alloc (.cells Tryz.zeroCells260 260)) := (Below.refl w.heap.size w).alloc (Nat.le_refl _) _
  have hx : (w.alloc (.cells Tryz.zeroCells260 260)).heap[w.heap.size]? = some (.cells (rowL 65 []) 260 (0, 0)) :=
    (heap_alloc_new w _).trans (congrArg (fun c => some (Obj.cells c 260 (0, 0))) (by kernel_rfl))
  generalize w.alloc (.cells Tryz.zeroCells260 260) = W at hb1 hx ⊢
  refine (unhide H2 _).mono ?_
  rintro e w' ⟨rfl, h⟩
  obtain rfl : W = w' := h.symm
  have HT := hide (tz_16 W ((hb1.cell hgB).trans (unhide HG)))
  have HX := hide hx
  have HB1 := hide hb1
  clear hx hb1
  go_wp2_with fail
  refine (unhide HT).mono ?_
  rintro e w' ⟨rfl, h⟩
  obtain rfl : W = w' := h.symm
  go_wp2
  obtain ⟨B, hB⟩ : ∃ B, B = w.heap.size := ⟨_, rfl⟩
  go_loopg [1, 13] 7 (fun kx s1 s13 wr => ∃ k p q : Nat, k ≤ 5 ∧ p + k = 65 ∧ Hid (k = 0 ∨ 16 ^ k ≤ n) ∧ Hid (q = n / 16 ^ k) ∧ q ≤ 1114111 ∧ s1 = .int .u64 (q : Int) ∧ s13 = .int .i64 (p : Int) ∧ kx = 7 - k ∧ Hid (Below w.heap.size w wr) ∧ Hid (wr.heap[w.heap.size]? = some (.cells (rowL p (lowUp k n)) 260 (0, 0))))
  case atStart => exact ⟨0, 65, n, by omega, rfl, hide (.inl rfl), hide (by simp), hn, rfl, rfl, rfl, HB1, HX⟩
  case round =>
    obtain ⟨k, p, q, hk, hp, HM, HQ, hq1, rfl, rfl, rfl, HB, HR⟩ := hrel
    obtain ⟨p, rfl⟩ : ∃ p', p = p' + 1 := ⟨p - 1, by omega⟩
    have d0 : wr.cell? ⟨w.heap.size, p, none⟩ = some (.int .u8 0) := by simp [World.cell?, unhide HR, rowLF_at]
    have f0 : wr.frozen? ⟨w.heap.size, p, none⟩ = false := by simp [World.frozen?, unhide HR]
    have hp65 : p < 65 := by omega
    have hand := and15 q hq1
    by_cases hc : 16 ≤ q
    · obtain ⟨r, hr⟩ : ∃ r, r = q % 16 := ⟨_, rfl⟩
      rw [← hr] at hand
      have hr16 : r < 16 := by omega
      have hlit := low_lit r hr16 (Nat.lt_of_lt_of_le hr16 (by decide))
      have HRR := hide hr
      clear hr
      have HR2 : Hid ((wr.setCell ⟨w.heap.size, p, none⟩ (.int .u8 ((lowDg r).toNat : Int))).heap[w.heap.size]? = some (.cells (rowL p (lowUp (k + 1) n)) 260 (0, 0))) := by
        show _ = _
        rw [setCell_eq_setRow wr w.heap.size p _ _ _ _ (unhide HR), lowUp, ← unhide HQ, ← unhide HRR, ← rowL_set]
        exact setRow_heap wr w.heap.size _ _ _ _ (unhide HR)
      have HB2 := hide ((unhide HB).setCell (p := ⟨w.heap.size, p, none⟩) (Nat.le_refl _) (.int .u8 ((lowDg r).toNat : Int)))
      have HQ2 : Hid (q / 16 = n / 16 ^ (k + 1)) := by
        show _ = _
        rw [unhide HQ, Nat.div_div_eq_div_mul, Nat.pow_succ]
      have HM2 : Hid (k + 1 = 0 ∨ 16 ^ (k + 1) ≤ n) := by
        right
        have h1 : 16 ≤ n / 16 ^ k := by rw [← unhide HQ]; exact hc
        have h2 := (Nat.le_div_iff_mul_le (Nat.pow_pos (by omega : 0 < 16))).1 h1
        rw [Nat.pow_succ, Nat.mul_comm]; exact h2
      have HK : Hid (k + 1 ≤ 5) := by
        show _ ≤ _
        rcases Nat.lt_or_ge k 5 with h | h
        · omega
        · obtain rfl : k = 5 := by omega
          have h1 : q = n / 1048576 := unhide HQ
          omega
      go_wp2
      go_roundg (7 - (k + 1))
      case measure => omega
      case rel => exact ⟨k + 1, p, q / 16, unhide HK, by omega, HM2, HQ2, by omega, congrArg (Value.int .u64) (by omega), rfl, rfl, HB2, HR2⟩
    · have hq16 : q < 16 := Nat.lt_of_not_le hc
      clear hand
      have hlit := low_lit q hq16 (Nat.lt_of_lt_of_le hq16 (by decide))
      have HR2 : Hid ((wr.setCell ⟨w.heap.size, p, none⟩ (.int .u8 ((lowDg q).toNat : Int))).heap[w.heap.size]? = some (.cells (rowL p (lowUp (k + 1) n)) 260 (0, 0))) := by
        show _ = _
        rw [setCell_eq_setRow wr w.heap.size p _ _ _ _ (unhide HR), lowUp, ← unhide HQ, Nat.mod_eq_of_lt hq16, ← rowL_set]
        exact setRow_heap wr w.heap.size _ _ _ _ (unhide HR)
      have HB2 := hide ((unhide HB).setCell (p := ⟨w.heap.size, p, none⟩) (Nat.le_refl _) (.int .u8 ((lowDg q).toNat : Int)))
      have hsl : ∀ W, (Instr.sliceAt 260 (.pointer (some ⟨w.heap.size, 0, none⟩)) (some (.int .i64 (p : Int))) none none).run Tryz.prog W = .ok (.slice (some ⟨w.heap.size, p, none⟩) (k + 1) (k + 1)) W := fun W => by
        have hal : Tryz.prog.arrayLen 260 = 65 := by kernel_rfl
        rw [run_sliceAt_array_l W 260 ⟨w.heap.size, 0, none⟩ (by kernel_rfl) .i64 (p : Int) (by omega) (by rw [hal]; omega)]
        have hel : Tryz.prog.elem 260 = 5 := by kernel_rfl
        rw [hal, hel]
        have e1 : 65 - p = k + 1 := by omega
        simp [slicedAt, e1, go_sem]
        omega
      have HN := hide (show n < 16 ^ (k + 1) by
        have h1 : n / 16 ^ k < 16 := by rw [← unhide HQ]; exact hq16
        have h2 := (Nat.div_lt_iff_lt_mul (Nat.pow_pos (by omega : 0 < 16))).1 h1
        rw [Nat.pow_succ, Nat.mul_comm]; exact h2)
      generalize hW2 : wr.setCell ⟨w.heap.size, p, none⟩ (.int .u8 ((lowDg q).toNat : Int)) = W2 at HR2 HB2
      have hcv : (convert 108 9 (.slice (some ⟨w.heap.size, p, none⟩) (k + 1) (k + 1))).run Tryz.prog W2 = .ok (.string ⟨(lowUp (k + 1) n).toArray⟩) W2 := by
        have h := run_convert_bytes_back (P := Tryz.prog) W2 108 9 5 ⟨w.heap.size, p, none⟩ (k + 1) (lowUp (k + 1) n) Tryz.underlying108 Tryz.underlying5 Tryz.underlying9 (fun j hj => by
          have h1 : W2.cell? ⟨w.heap.size, p + j, none⟩ = some (.int .u8 ((lowUp (k + 1) n)[j].toNat : Int)) := by
            have h2 : (rowL p (lowUp (k + 1) n))[p + j]? = some (.int .u8 ((lowUp (k + 1) n)[j].toNat : Int)) := by
              simp only [rowL, List.getElem?_toArray]
              rw [List.getElem?_append_right (by simp)]
              simp [hj]
            simp [World.cell?, unhide HR2, h2]
          have e2 : Addr.add ⟨w.heap.size, p, none⟩ j = ⟨w.heap.size, p + j, none⟩ := by simp [Addr.add]
          rw [e2]
          exact h1)
        rwa [lowUp_len] at h
      rw [← hW2] at hcv
      have HW2 := hide hW2
      clear hW2
      go_wp2
      go_ret2
      exact ⟨⟨k, unhide HN, unhide HM, rfl⟩, by rw [unhide HW2]; exact unhide HB2⟩

theorem fmtInt_16i (n : Nat) (hn : n ≤ 1114111) (w : World) (hg : tz16At w) :
    Calls Tryz.prog 182 #[.int .i64 (n : Int), .int .i64 16] w fun e w' => (∃ k, n < 16 ^ (k + 1) ∧ (k = 0 ∨ 16 ^ k ≤ n) ∧ e = .returned (.string ⟨(lowUp (k + 1) n).toArray⟩)) ∧ Below w.heap.size w w' := by
  have H := hide (fmtBits_16 n hn w hg)
  clear hg
  go_enter Tryz.func182, Tryz.ntmps182
  go_wp2_with (go_at_call 153; refine (unhide H).mono ?_; rintro e w' ⟨⟨k, h1, h2, rfl⟩, hb⟩; have H1 := hide h1; have H2 := hide h2; clear h1 h2)
  go_ret
  exact ⟨⟨k, unhide H1, unhide H2, rfl⟩, hb⟩
theorem fmtInt_16 (n : Nat) (hn : n ≤ 1114111) (w : World) (hg : tz16At w) :
    Calls Tryz.prog 140 #[.int .i64 (n : Int), .int .i64 16] w fun e w' => (∃ k, n < 16 ^ (k + 1) ∧ (k = 0 ∨ 16 ^ k ≤ n) ∧ e = .returned (.string ⟨(lowUp (k + 1) n).toArray⟩)) ∧ Below w.heap.size w w' := by
  have H := hide (fmtInt_16i n hn w hg)
  clear hg
  go_enter Tryz.func140, Tryz.ntmps140
  go_wp2_with (go_at_call 182; refine (unhide H).mono ?_; rintro e w' ⟨⟨k, h1, h2, rfl⟩, hb⟩; have H1 := hide h1; have H2 := hide h2; clear h1 h2)
  go_ret
  exact ⟨⟨k, unhide H1, unhide H2, rfl⟩, hb⟩
end Go.Proofs.YthjnkagepooeiaaGreatDoor
/-
  The program's Show, of every number that has one.
-/
namespace Go.Proofs.YthjnkagepooeiaaGreatDoor
open Go.RowKit Go.PlainAid Go.Lib Go.Shelf Go.PHexM
set_option linter.unusedVariables false

theorem hexUp_pad (m c n : Nat) (h : n < 16 ^ m) : hexUp (m + c) n = List.replicate c 48 ++ hexUp m n := by
  induction c with
  | zero => simp
  | succ c ih =>
    have h1 : n / 16 ^ (m + c) = 0 := Nat.div_eq_of_lt (Nat.lt_of_lt_of_le h (Nat.pow_le_pow_right (by omega) (by omega)))
    show hexUp (m + c + 1) n = _
    rw [hexUp, ih, h1, List.replicate_succ]
    rfl
theorem showLen_of {n k : Nat} (hn : n ≤ 1114111) (h1 : n < 16 ^ (k + 1)) (h2 : k = 0 ∨ 16 ^ k ≤ n) : showLen n = (k + 1) + (4 - (k + 1)) ∧ k ≤ 5 := by
  have hk : k ≤ 5 := by
    rcases Nat.lt_or_ge k 6 with h | h
    · omega
    · rcases h2 with h2 | h2
      · omega
      · have : 16 ^ 6 ≤ 16 ^ k := Nat.pow_le_pow_right (by omega) h
        omega
  refine ⟨?_, hk⟩
  unfold showLen
  have : k = 0 ∨ k = 1 ∨ k = 2 ∨ k = 3 ∨ k = 4 ∨ k = 5 := by omega
  rcases this with rfl | rfl | rfl | rfl | rfl | rfl <;> simp only [Nat.reducePow, Nat.reduceAdd] at h1 h2
  · rw [if_pos (by omega)]
  · rw [if_pos (by omega)]
  · rw [if_pos (by omega)]
  · rw [if_pos (by omega)]
  · rw [if_neg (by omega), if_pos (by omega)]
  · rw [if_neg (by omega), if_neg (by omega)]
theorem lowDg_up : ∀ d : Fin 16, Lib.toUpperA [lowDg d.val] = [dgt d.val] ∧ (lowDg d.val).toNat < 128 := by decide
theorem lowUp_up (k n : Nat) : Lib.toUpperA (lowUp k n) = hexUp k n := by
  induction k with
  | zero => rfl
  | succ k ih =>
    have h := (lowDg_up ⟨n / 16 ^ k % 16, Nat.mod_lt _ (by omega)⟩).1
    have e : ∀ (b : UInt8) l, Lib.toUpperA (b :: l) = Lib.toUpperA [b] ++ Lib.toUpperA l := fun b l => rfl
    rw [lowUp, hexUp, e, ih, h]
    rfl
theorem lowUp_ascii (k n : Nat) : ∀ (j : Nat) (b : UInt8), (lowUp k n)[j]? = some b → b.toNat < 128 := by
  induction k with
  | zero => intro j b h; simp [lowUp] at h
  | succ k ih =>
    intro j b h
    cases j with
    | zero =>
      have h' := (lowDg_up ⟨n / 16 ^ k % 16, Nat.mod_lt _ (by omega)⟩).2
      simp [lowUp] at h
      rw [← h]; exact h'
    | succ j => exact ih j b (by simpa [lowUp] using h)
theorem toUp_any (k n : Nat) (hk : k ≤ 5) (w : World) :
    Calls Tryz.prog 139 #[.string ⟨(lowUp (k + 1) n).toArray⟩] w fun e w' => e = .returned (.string (hexS (k + 1) n)) ∧ Below w.heap.size w w' := by
  have h := Tryz.strings_ToUpper_ascii ⟨(lowUp (k + 1) n).toArray⟩ w (by show (lowUp (k + 1) n).toArray.size ≤ _; simp [lowUp_len]; omega) (fun j b hb => lowUp_ascii (k + 1) n j b (by simpa using hb))
  have e : (⟨(lowUp (k + 1) n).toArray⟩ : ByteArray).data.toList = lowUp (k + 1) n := by simp
  rw [e, lowUp_up] at h
  exact h
theorem rep_any (c : Nat) (hc : c ≤ 4) (w : World) :
    Calls Tryz.prog 141 #[.string ⟨#[48]⟩, .int .i64 (c : Int)] w fun e w' => e = .returned (.string ⟨(List.replicate c 48).toArray⟩) ∧ Below w.heap.size w w' := by
  have h := Tryz.strings_Repeat ⟨#[48]⟩ c w (by omega) (by show 1 * c ≤ _; omega)
  have e : Lib.repeatL (⟨#[48]⟩ : ByteArray).data.toList c = List.replicate c 48 := by
    clear h hc
    induction c with
    | zero => rfl
    | succ c ih => rw [Lib.repeatL, ih, List.replicate_succ]; rfl
  rw [e] at h
  exact h

set_option maxRecDepth 100000 in
set_option maxHeartbeats 2000000 in
theorem show_any (n : Nat) (hn : n ≤ 1114111) (w : World) (hg : tz16At w) :
    Calls Tryz.prog 110 #[.int .i32 (n : Int)] w fun e w' => e = .returned (.tuple #[.string (hexS (showLen n) n), .int .i64 0]) ∧ Below w.heap.size w w' := by
  obtain ⟨S0, hS0⟩ : ∃ S0, S0 = hexS (showLen n) n := ⟨_, rfl⟩
  rw [← hS0]
  have HS0 := hide hS0
  clear hS0
  have HF := hide (fmtInt_16 n hn w hg)
  clear hg
  go_enter Tryz.func110, Tryz.ntmps110
  go_wp2_with fail
  refine (unhide HF).mono ?_
  rintro e w1 ⟨⟨k, h1, h2, rfl⟩, hb1⟩
  have hL := showLen_of hn h1 h2
  have hk := hL.2
  have HU := hide (toUp_any k n hk w1)
  have HP := hide (hexUp_pad (k + 1) (4 - (k + 1)) n h1)
  have HL := hide hL.1
  have HB1 := hide hb1
  clear h1 h2 hL hb1
  go_wp2_with fail
  refine (unhide HU).mono ?_
  rintro e w2 ⟨rfl, hb2⟩
  have HB2 := hide ((unhide HB1).trans (hb2.mono (unhide HB1).size))
  clear hb2
  have hsz := hexS_size (k + 1) n
  obtain ⟨S, hS⟩ : ∃ S, S = hexS (k + 1) n := ⟨_, rfl⟩
  rw [← hS] at hsz ⊢
  have HS := hide hS
  clear hS
  obtain ⟨c, hc⟩ : ∃ c, c = 4 - (k + 1) := ⟨_, rfl⟩
  have hc4 : c ≤ 4 := by omega
  have HR := hide (rep_any c hc4)
  have emax : max 0 (4 - ((k : Int) + 1)) = (c : Int) := by omega
  have HC := hide hc
  clear hc
  go_wp2_with fail
  refine (unhide HR w2).mono ?_
  rintro e w3 ⟨rfl, hb3⟩
  have HB3 := hide ((unhide HB2).trans (hb3.mono (unhide HB2).size))
  clear hb3
  obtain ⟨R, hR⟩ : ∃ R, R = (⟨(List.replicate c 48).toArray⟩ : ByteArray) := ⟨_, rfl⟩
  have hRz : R.size = c := by rw [hR]; show (List.replicate c (48 : UInt8)).toArray.size = c; simp
  rw [← hR]
  have HE : Hid (R ++ S = S0) := by
    show R ++ S = S0
    rw [unhide HS0, unhide HL, unhide HS, hR, unhide HC]
    apply ByteArray.ext
    rw [ByteArray.data_append]
    show _ = (hexUp (k + 1 + (4 - (k + 1))) n).toArray
    rw [unhide HP]
    simp [hexS]
  clear hR
  go_wp2
  go_ret2
  exact ⟨by rw [← unhide HE]; rfl, unhide HB3⟩
theorem show_no (r : Int) (hr : r < 0 ∨ 1114111 < r) (w : World) :
    Calls Tryz.prog 110 #[.int .i32 r] w fun e w' => e = .returned (.tuple #[.string ⟨#[]⟩, .int .i64 40]) ∧ w' = w := by
  rcases hr with h | h
  · go_enter Tryz.func110, Tryz.ntmps110
    go_wp2
    go_ret2
    exact ⟨rfl, rfl⟩
  · have h0 : 0 ≤ r := by omega
    go_enter Tryz.func110, Tryz.ntmps110
    go_wp2
    go_ret2
    exact ⟨rfl, rfl⟩
theorem refShow_no (r : Int) (hr : r < 0 ∨ 1114111 < r) (w : World) :
    Calls Tryz.prog 114 #[.int .i32 r] w fun e w' => e = .returned (.tuple #[.string ⟨#[]⟩, .int .i64 40]) ∧ w' = w := by
  rcases hr with h | h
  · go_enter Tryz.func114, Tryz.ntmps114
    go_wp2
    go_ret2
    exact ⟨rfl, rfl⟩
  · have h0 : 0 ≤ r := by omega
    go_enter Tryz.func114, Tryz.ntmps114
    go_wp2
    go_ret2
    exact ⟨rfl, rfl⟩
end Go.Proofs.YthjnkagepooeiaaGreatDoor
/-
  The lines of a row: what the program's writtenLine and written answer.
-/
namespace Go.Proofs.YthjnkagepooeiaaGreatDoor
open Go.RowKit Go.PlainAid Go.Lib Go.PHexM Go.Shelf Go.Sort
set_option linter.unusedVariables false
set_option linter.unusedSimpArgs false

theorem tz16_below {w w' : World} (h : tz16At w) (hb : Below w.heap.size w w') : tz16At w' := (hb.cell (World.block_lt_of_cell? _ _ h)).trans h
/-- a number's digits; none, if it is no code point -/
def shT (x : Int) : ByteArray := if 0 ≤ x ∧ x ≤ 1114111 then hexS (showLen x.toNat) x.toNat else ⟨#[]⟩
def shE (x : Int) : Int := if 0 ≤ x ∧ x ≤ 1114111 then 0 else 40
theorem show6_any (x : Int) (w : World) (hg : tz16At w) : Calls Tryz.prog 110 #[.int .i32 x] w fun e w' => e = .returned (.tuple #[.string (shT x), .int .i64 (shE x)]) ∧ Below w.heap.size w w' := by
  unfold shT shE
  by_cases h : 0 ≤ x ∧ x ≤ 1114111
  · rw [if_pos h, if_pos h]
    obtain ⟨n, rfl⟩ : ∃ n : Nat, x = n := ⟨x.toNat, by omega⟩
    exact show_any n (by omega) w hg
  · rw [if_neg h, if_neg h]
    exact (show_no x (by omega) w).mono fun e w' h => ⟨h.1, by rw [h.2]; exact Below.refl _ _⟩
theorem refShow6_any (x : Int) (w : World) : Calls Tryz.prog 114 #[.int .i32 x] w fun e w' => e = .returned (.tuple #[.string (shT x), .int .i64 (shE x)]) ∧ Below w.heap.size w w' := by
  unfold shT shE
  by_cases h : 0 ≤ x ∧ x ≤ 1114111
  · rw [if_pos h, if_pos h]
    obtain ⟨n, rfl⟩ : ∃ n : Nat, x = n := ⟨x.toNat, by omega⟩
    exact refShow_any n (by omega) w
  · rw [if_neg h, if_neg h]
    exact (refShow_no x (by omega) w).mono fun e w' h => ⟨h.1, by rw [h.2]; exact Below.refl _ _⟩
def twinT (t : Int) : ByteArray := if t = 0 then ⟨#[]⟩ else shT t
def combT (c : Int) : ByteArray := ⟨(Lib.itoa c).toArray⟩
def flagT (m : Bool) : ByteArray := if m then ⟨#[89]⟩ else ⟨#[78]⟩
/-- a line of a row -/
def lineT (r : RowD) (nm : ByteArray) (x : Int) : ByteArray :=
  shT x ++ ⟨#[59]⟩ ++ nm ++ ⟨#[59]⟩ ++ S r.cat ++ ⟨#[59]⟩ ++ combT r.comb ++ ⟨#[59]⟩ ++ shortS r.cls ++ ⟨#[59]⟩ ++ twinT r.twin ++ ⟨#[59, 59, 59, 59]⟩ ++ flagT r.mir ++ ⟨#[59, 59, 59, 59, 59, 10]⟩
theorem join_line (a b c d e f g : ByteArray) : (⟨(Lib.join ([a, b, c, d, e, f, ⟨#[]⟩, ⟨#[]⟩, ⟨#[]⟩, g, ⟨#[]⟩, ⟨#[]⟩, ⟨#[]⟩, ⟨#[]⟩, ⟨#[]⟩].map (·.data.toList)) [59]).toArray⟩ : ByteArray) ++ ⟨#[10]⟩ = a ++ ⟨#[59]⟩ ++ b ++ ⟨#[59]⟩ ++ c ++ ⟨#[59]⟩ ++ d ++ ⟨#[59]⟩ ++ e ++ ⟨#[59]⟩ ++ f ++ ⟨#[59, 59, 59, 59]⟩ ++ g ++ ⟨#[59, 59, 59, 59, 59, 10]⟩ := by
  apply ByteArray.ext
  apply Array.toList_inj.1
  simp [Lib.join, ByteArray.data_append]
theorem join6 (W : World) (xs : List ByteArray) (t : TypeId) (hn : xs.length ≤ 100) (hl : (Lib.join (xs.map (·.data.toList)) [59]).length ≤ 140737488355328) :
    Calls Tryz.prog 112 #[.slice (some ⟨W.heap.size, 0, none⟩) xs.length xs.length, .string ⟨#[59]⟩] (W.alloc (.cells (xs.map Value.string).toArray t)) fun e w' => e = .returned (.string ⟨(Lib.join (xs.map (·.data.toList)) [59]).toArray⟩) ∧ Below W.heap.size W w' := by
  refine (Tryz.strings_Join W.heap.size 0 xs.length xs ⟨#[59]⟩ (W.alloc (.cells (xs.map Value.string).toArray t)) (fun j x hx => ?_) (by simp) (by omega) (Nat.le_refl _) hl).mono fun e w' h => ⟨h.1, ?_⟩
  · simp [World.cell?_alloc_new, hx]
  · have b1 : Below W.heap.size W (W.alloc (.cells (xs.map Value.string).toArray t)) := (Below.refl _ W).alloc (Nat.le_refl _) _
    exact b1.trans (h.2.mono b1.size)
theorem itoa6 (c : Int) (h0 : 0 ≤ c) (h1 : c ≤ 255) (w : World) (hg : Glob w) : Calls Tryz.prog 111 #[.int .i64 c] w fun e w' => e = .returned (.string (combT c)) ∧ Below w.heap.size w w' := by
  refine (Tryz.strconv_Itoa c (by omega) (by omega) w hg.tab).mono fun e w' h => ⟨h.1, ?_⟩
  obtain ⟨k, os, rfl⟩ := h.2
  exact ⟨rfl, rfl, rfl, by simp [grow], fun i hi => by simp [grow, Array.getElem?_append, hi]⟩

theorem shT_size (x : Int) : (shT x).size ≤ 8 := by
  unfold shT
  split
  · rw [hexS_size]
    have : showLen x.toNat ≤ 8 := by unfold showLen; (repeat' split) <;> omega
    exact this
  · decide
theorem twinT_size (x : Int) : (twinT x).size ≤ 8 := by
  unfold twinT
  split
  · decide
  · exact shT_size x
theorem combT_size (c : Int) (h0 : 0 ≤ c) (h1 : c ≤ 255) : (combT c).size ≤ 3 := by
  obtain ⟨n, rfl⟩ : ∃ n : Nat, c = n := ⟨c.toNat, by omega⟩
  have hn : n < 256 := by omega
  have key : ∀ m : Nat, m < 256 → (combT (m : Int)).size ≤ 3 := by decide +kernel
  exact key n hn
theorem shortT_size (c : Int) : (shortS c).size ≤ 8 := by
  by_cases h : 0 ≤ c ∧ c < 24
  · obtain ⟨n, rfl⟩ : ∃ n : Nat, c = n := ⟨c.toNat, by omega⟩
    have key : ∀ m : Nat, m < 24 → (shortS (m : Int)).size ≤ 8 := by decide +kernel
    exact key n (by omega)
  · unfold shortS
    repeat rw [if_neg (by omega)]
    decide
theorem flagT_size (m : Bool) : (flagT m).size ≤ 1 := by cases m <;> decide
theorem line_long (r : RowD) (nm : ByteArray) (x : Int) (hc0 : 0 ≤ r.comb) (hc1 : r.comb ≤ 255) (hsz : nm.size + r.cat.length ≤ 1000000000) : (Lib.join ([shT x, nm, S r.cat, combT r.comb, shortS r.cls, twinT r.twin, ⟨#[]⟩, ⟨#[]⟩, ⟨#[]⟩, flagT r.mir, ⟨#[]⟩, ⟨#[]⟩, ⟨#[]⟩, ⟨#[]⟩, ⟨#[]⟩].map (·.data.toList)) [59]).length ≤ 140737488355328 := by
  have h1 := shT_size x
  have h2 := twinT_size r.twin
  have h3 := combT_size r.comb hc0 hc1
  have h4 := shortT_size r.cls
  have h5 := flagT_size r.mir
  simp [Lib.join]
  omega

set_option maxRecDepth 100000 in
set_option maxHeartbeats 4000000 in
theorem wLine_any (x : Int) (nm : ByteArray) (r : RowD) (w : World) (hg : Glob w) (ht : tz16At w) (hc0 : 0 ≤ r.comb) (hc1 : r.comb ≤ 255) (hsz : nm.size + r.cat.length ≤ 1000000000) :
    Calls Tryz.prog 79 #[.int .i32 x, .string nm, rowV r] w fun e w' => e = .returned (.string (lineT r nm x)) ∧ Below w.heap.size w w' := by
  obtain ⟨Wa, hWa⟩ : ∃ Wa, w.alloc (.cells (rowC r).toArray 29) = Wa := ⟨_, rfl⟩
  have hba : Below w.heap.size w Wa := by rw [← hWa]; exact (Below.refl _ w).alloc (Nat.le_refl _) _
  have ra : RowAt Wa w.heap.size r := by rw [← hWa]; exact heap_alloc_new w _
  have hWa' : w.alloc (.cells #[.int .i64 r.line, .int .i32 r.first, .int .i32 r.last, .string (S r.name), .string (S r.cat), .int .u8 r.comb, .int .u8 r.cls, .int .i32 r.twin, .bool r.mir] 29) = Wa := hWa
  have HSH := hide (fun (x : Int) (w' : World) (hb : Below w.heap.size w w') => show6_any x w' (tz16_below ht hb))
  have HIT := hide (fun (w' : World) (hb : Below w.heap.size w w') => itoa6 r.comb hc0 hc1 w' (hg.below hb))
  have HJ := hide (fun (W : World) (T : TypeId) => join6 W [shT x, nm, S r.cat, combT r.comb, shortS r.cls, twinT r.twin, ⟨#[]⟩, ⟨#[]⟩, ⟨#[]⟩, flagT r.mir, ⟨#[]⟩, ⟨#[]⟩, ⟨#[]⟩, ⟨#[]⟩, ⟨#[]⟩] T (by simp) (line_long r nm x hc0 hc1 hsz))
  have HLL := hide (line_long r nm x hc0 hc1 hsz)
  have HE := hide (join_line (shT x) nm (S r.cat) (combT r.comb) (shortS r.cls) (twinT r.twin) (flagT r.mir))
  have hcv : IntKind.i64.wrap r.comb = r.comb := by rw [IntKind.wrap_i64]; omega
  have HRA := hide ra
  have HBA := hide hba
  clear hWa hg ht hc0 hc1 hsz ra hba
  go_enter Tryz.func79, Tryz.ntmps79
  go_wp2_with fail
  refine (unhide HSH x Wa (unhide HBA)).mono ?_
  rintro e w1 ⟨rfl, hb1⟩
  have r1 := (unhide HRA).below hb1
  have B1 := hide ((unhide HBA).trans (hb1.mono (unhide HBA).size))
  have HR1 := hide r1
  have c4 := r1.cell (j := 4) rfl
  have c5 := r1.cell (j := 5) rfl
  have c6 := r1.cell (j := 6) rfl
  have c7 := r1.cell (j := 7) rfl
  have c8 := r1.cell (j := 8) rfl
  clear hb1 r1 hWa'
  go_wp2_with fail
  refine (shortW_any _ _).mono ?_
  rintro e w' ⟨rfl, rfl⟩
  by_cases h0 : r.twin = 0
  · have d0 : (r.twin != 0) = false := by simp [h0]
    have eT : twinT r.twin = ⟨#[]⟩ := by unfold twinT; rw [if_pos h0]
    have HET := hide eT
    clear eT h0
    cases hm : r.mir
    · rw [hm] at c8
      have HEF : Hid (flagT r.mir = ⟨#[78]⟩) := by show _ = _; rw [hm]; rfl
      clear hm
      go_wp2_with fail
      refine (unhide HIT _ (unhide B1)).mono ?_
      rintro e w3 ⟨rfl, hb3⟩
      have r3 := (unhide HR1).below hb3
      have B3 := hide ((unhide B1).trans (hb3.mono (unhide B1).size))
      clear c4 c5 c8
      have c4 := r3.cell (j := 4) rfl
      clear hb3 r3
      have HJ2 := unhide HJ w3 9
      rw [unhide HET, HEF.out] at HJ2
      have HE2 := unhide HE
      rw [unhide HET, HEF.out] at HE2
      have HJ3 := hide HJ2
      have HL2 := unhide HLL
      rw [unhide HET, HEF.out] at HL2
      have HL3 := hide HL2
      clear HL2
      have HE3 := hide HE2
      clear HJ2 HE2 HJ HE
      go_wp2_with fail
      refine (unhide HJ3).mono ?_
      rintro e w4 ⟨rfl, hb4⟩
      have hB4 := (unhide B3).trans (hb4.mono (unhide B3).size)
      obtain ⟨J, hJ⟩ : ∃ J : ByteArray, J = ⟨(Lib.join ([shT x, nm, S r.cat, combT r.comb, shortS r.cls, ⟨#[]⟩, ⟨#[]⟩, ⟨#[]⟩, ⟨#[]⟩, ⟨#[78]⟩, ⟨#[]⟩, ⟨#[]⟩, ⟨#[]⟩, ⟨#[]⟩, ⟨#[]⟩].map (·.data.toList)) [59]).toArray⟩ := ⟨_, rfl⟩
      rw [← hJ]
      have hJs : J.size ≤ 140737488355328 := by rw [hJ]; exact unhide HL3
      have HJJ := hide hJ
      clear hJ
      go_wp2
      go_ret
      refine ⟨?_, hB4⟩
      show Ending.returned (.string (J ++ ⟨#[10]⟩)) = _
      rw [unhide HJJ, unhide HE3]
      unfold lineT
      rw [unhide HET, HEF.out]
    · rw [hm] at c8
      have HEF : Hid (flagT r.mir = ⟨#[89]⟩) := by show _ = _; rw [hm]; rfl
      clear hm
      go_wp2_with fail
      refine (unhide HIT _ (unhide B1)).mono ?_
      rintro e w3 ⟨rfl, hb3⟩
      have r3 := (unhide HR1).below hb3
      have B3 := hide ((unhide B1).trans (hb3.mono (unhide B1).size))
      clear c4 c5 c8
      have c4 := r3.cell (j := 4) rfl
      clear hb3 r3
      have HJ2 := unhide HJ w3 9
      rw [unhide HET, HEF.out] at HJ2
      have HE2 := unhide HE
      rw [unhide HET, HEF.out] at HE2
      have HJ3 := hide HJ2
      have HL2 := unhide HLL
      rw [unhide HET, HEF.out] at HL2
      have HL3 := hide HL2
      clear HL2
      have HE3 := hide HE2
      clear HJ2 HE2 HJ HE
      go_wp2_with fail
      refine (unhide HJ3).mono ?_
      rintro e w4 ⟨rfl, hb4⟩
      have hB4 := (unhide B3).trans (hb4.mono (unhide B3).size)
      obtain ⟨J, hJ⟩ : ∃ J : ByteArray, J = ⟨(Lib.join ([shT x, nm, S r.cat, combT r.comb, shortS r.cls, ⟨#[]⟩, ⟨#[]⟩, ⟨#[]⟩, ⟨#[]⟩, ⟨#[89]⟩, ⟨#[]⟩, ⟨#[]⟩, ⟨#[]⟩, ⟨#[]⟩, ⟨#[]⟩].map (·.data.toList)) [59]).toArray⟩ := ⟨_, rfl⟩
      rw [← hJ]
      have hJs : J.size ≤ 140737488355328 := by rw [hJ]; exact unhide HL3
      have HJJ := hide hJ
      clear hJ
      go_wp2
      go_ret
      refine ⟨?_, hB4⟩
      show Ending.returned (.string (J ++ ⟨#[10]⟩)) = _
      rw [unhide HJJ, unhide HE3]
      unfold lineT
      rw [unhide HET, HEF.out]
  · have d0 : (r.twin != 0) = true := by simp [h0]
    have eT : twinT r.twin = shT r.twin := by unfold twinT; rw [if_neg h0]
    have HET := hide eT
    clear eT h0
    go_wp2_with fail
    refine (unhide HSH r.twin _ (unhide B1)).mono ?_
    rintro e w2 ⟨rfl, hb2⟩
    have r2 := (unhide HR1).below hb2
    have B2 := hide ((unhide B1).trans (hb2.mono (unhide B1).size))
    have HR2 := hide r2
    clear c4 c5 c6 c7 c8
    have c4 := r2.cell (j := 4) rfl
    have c5 := r2.cell (j := 5) rfl
    have c8 := r2.cell (j := 8) rfl
    clear hb2 r2
    cases hm : r.mir
    · rw [hm] at c8
      have HEF : Hid (flagT r.mir = ⟨#[78]⟩) := by show _ = _; rw [hm]; rfl
      clear hm
      go_wp2_with fail
      refine (unhide HIT _ (unhide B2)).mono ?_
      rintro e w3 ⟨rfl, hb3⟩
      have r3 := (unhide HR2).below hb3
      have B3 := hide ((unhide B2).trans (hb3.mono (unhide B2).size))
      clear c4 c5 c8
      have c4 := r3.cell (j := 4) rfl
      clear hb3 r3
      have HJ2 := unhide HJ w3 9
      rw [unhide HET, HEF.out] at HJ2
      have HE2 := unhide HE
      rw [unhide HET, HEF.out] at HE2
      have HJ3 := hide HJ2
      have HL2 := unhide HLL
      rw [unhide HET, HEF.out] at HL2
      have HL3 := hide HL2
      clear HL2
      have HE3 := hide HE2
      clear HJ2 HE2 HJ HE
      go_wp2_with fail
      refine (unhide HJ3).mono ?_
      rintro e w4 ⟨rfl, hb4⟩
      have hB4 := (unhide B3).trans (hb4.mono (unhide B3).size)
      obtain ⟨J, hJ⟩ : ∃ J : ByteArray, J = ⟨(Lib.join ([shT x, nm, S r.cat, combT r.comb, shortS r.cls, shT r.twin, ⟨#[]⟩, ⟨#[]⟩, ⟨#[]⟩, ⟨#[78]⟩, ⟨#[]⟩, ⟨#[]⟩, ⟨#[]⟩, ⟨#[]⟩, ⟨#[]⟩].map (·.data.toList)) [59]).toArray⟩ := ⟨_, rfl⟩
      rw [← hJ]
      have hJs : J.size ≤ 140737488355328 := by rw [hJ]; exact unhide HL3
      have HJJ := hide hJ
      clear hJ
      go_wp2
      go_ret
      refine ⟨?_, hB4⟩
      show Ending.returned (.string (J ++ ⟨#[10]⟩)) = _
      rw [unhide HJJ, unhide HE3]
      unfold lineT
      rw [unhide HET, HEF.out]
    · rw [hm] at c8
      have HEF : Hid (flagT r.mir = ⟨#[89]⟩) := by show _ = _; rw [hm]; rfl
      clear hm
      go_wp2_with fail
      refine (unhide HIT _ (unhide B2)).mono ?_
      rintro e w3 ⟨rfl, hb3⟩
      have r3 := (unhide HR2).below hb3
      have B3 := hide ((unhide B2).trans (hb3.mono (unhide B2).size))
      clear c4 c5 c8
      have c4 := r3.cell (j := 4) rfl
      clear hb3 r3
      have HJ2 := unhide HJ w3 9
      rw [unhide HET, HEF.out] at HJ2
      have HE2 := unhide HE
      rw [unhide HET, HEF.out] at HE2
      have HJ3 := hide HJ2
      have HL2 := unhide HLL
      rw [unhide HET, HEF.out] at HL2
      have HL3 := hide HL2
      clear HL2
      have HE3 := hide HE2
      clear HJ2 HE2 HJ HE
      go_wp2_with fail
      refine (unhide HJ3).mono ?_
      rintro e w4 ⟨rfl, hb4⟩
      have hB4 := (unhide B3).trans (hb4.mono (unhide B3).size)
      obtain ⟨J, hJ⟩ : ∃ J : ByteArray, J = ⟨(Lib.join ([shT x, nm, S r.cat, combT r.comb, shortS r.cls, shT r.twin, ⟨#[]⟩, ⟨#[]⟩, ⟨#[]⟩, ⟨#[89]⟩, ⟨#[]⟩, ⟨#[]⟩, ⟨#[]⟩, ⟨#[]⟩, ⟨#[]⟩].map (·.data.toList)) [59]).toArray⟩ := ⟨_, rfl⟩
      rw [← hJ]
      have hJs : J.size ≤ 140737488355328 := by rw [hJ]; exact unhide HL3
      have HJJ := hide hJ
      clear hJ
      go_wp2
      go_ret
      refine ⟨?_, hB4⟩
      show Ending.returned (.string (J ++ ⟨#[10]⟩)) = _
      rw [unhide HJJ, unhide HE3]
      unfold lineT
      rw [unhide HET, HEF.out]
end Go.Proofs.YthjnkagepooeiaaGreatDoor
/-
  A row's lines read again: written, isRead.
-/
namespace Go.Proofs.YthjnkagepooeiaaGreatDoor
open Go.RowKit Go.PlainAid Go.Lib Go.PHexM Go.Shelf Go.Sort
set_option linter.unusedVariables false
set_option linter.unusedSimpArgs false

set_option maxRecDepth 100000 in
theorem rowEq (a b : RowD) (w : World) : (binOp .eql 29 (rowV a) (rowV b)).run Tryz.prog w = .ok (.bool (decide (a = b))) w := by
  simp [go_sem]
  obtain ⟨a1, a2, a3, a4, a5, a6, a7, a8, a9⟩ := a
  obtain ⟨b1, b2, b3, b4, b5, b6, b7, b8, b9⟩ := b
  simp only [RowD.mk.injEq]
  repeat' split
  all_goals simp_all
/-- a half's name -/
abbrev halfT (nm : List UInt8) (e : ByteArray) : ByteArray := ⟨#[60]⟩ ++ S nm ++ e
abbrev firstE : ByteArray := ⟨#[44, 32, 70, 105, 114, 115, 116, 62]⟩
abbrev lastE : ByteArray := ⟨#[44, 32, 76, 97, 115, 116, 62]⟩
/-- a row's lines -/
def oneT (r : RowD) : ByteArray := if r.first = r.last then lineT r (S r.name) r.first else lineT r (halfT r.name firstE) r.first ++ lineT r (halfT r.name lastE) r.last
theorem lineT_size (r : RowD) (nm : ByteArray) (x : Int) (hc0 : 0 ≤ r.comb) (hc1 : r.comb ≤ 255) : (lineT r nm x).size ≤ nm.size + r.cat.length + 60 := by
  have h1 := shT_size x
  have h2 := twinT_size r.twin
  have h3 := combT_size r.comb hc0 hc1
  have h4 := shortT_size r.cls
  have h5 := flagT_size r.mir
  have h6 : (S r.cat).size = r.cat.length := S_size _
  unfold lineT
  simp only [ByteArray.size_append]
  rw [h6]
  have e1 : (⟨#[59]⟩ : ByteArray).size = 1 := rfl
  have e2 : (⟨#[59, 59, 59, 59]⟩ : ByteArray).size = 4 := rfl
  have e3 : (⟨#[59, 59, 59, 59, 59, 10]⟩ : ByteArray).size = 6 := rfl
  omega
theorem halfT_size (nm : List UInt8) (e : ByteArray) (he : e.size ≤ 8) : (halfT nm e).size ≤ nm.length + 9 := by
  unfold halfT
  rw [ByteArray.size_append, ByteArray.size_append]
  have h6 : (S nm).size = nm.length := S_size _
  have e1 : (⟨#[60]⟩ : ByteArray).size = 1 := rfl
  omega
theorem oneT_size (r : RowD) (hc0 : 0 ≤ r.comb) (hc1 : r.comb ≤ 255) : (oneT r).size ≤ 2 * r.name.length + 2 * r.cat.length + 140 := by
  unfold oneT
  split
  · have := lineT_size r (S r.name) r.first hc0 hc1
    have h6 : (S r.name).size = r.name.length := S_size _
    omega
  · have a1 := lineT_size r (halfT r.name firstE) r.first hc0 hc1
    have a2 := lineT_size r (halfT r.name lastE) r.last hc0 hc1
    have a3 := halfT_size r.name firstE (by decide)
    have a4 := halfT_size r.name lastE (by decide)
    rw [ByteArray.size_append]
    omega

set_option maxRecDepth 100000 in
set_option maxHeartbeats 4000000 in
theorem written_any (r : RowD) (w : World) (hg : Glob w) (ht : tz16At w) (hc0 : 0 ≤ r.comb) (hc1 : r.comb ≤ 255) (hsz : r.name.length + r.cat.length ≤ 100000000) :
    Calls Tryz.prog 47 #[rowV r] w fun e w' => e = .returned (.string (oneT r)) ∧ Below w.heap.size w w' := by
  obtain ⟨Wa, hWa⟩ : ∃ Wa, w.alloc (.cells (rowC r).toArray 29) = Wa := ⟨_, rfl⟩
  have hba : Below w.heap.size w Wa := by rw [← hWa]; exact (Below.refl _ w).alloc (Nat.le_refl _) _
  have ra : RowAt Wa w.heap.size r := by rw [← hWa]; exact heap_alloc_new w _
  have hWa' : w.alloc (.cells #[.int .i64 r.line, .int .i32 r.first, .int .i32 r.last, .string (S r.name), .string (S r.cat), .int .u8 r.comb, .int .u8 r.cls, .int .i32 r.twin, .bool r.mir] 29) = Wa := hWa
  have hsn : (S r.name).size = r.name.length := S_size _
  have a3 := halfT_size r.name firstE (by decide)
  have a4 := halfT_size r.name lastE (by decide)
  have HL0 := hide (wLine_any r.first (S r.name) r Wa (hg.below hba) (tz16_below ht hba) hc0 hc1 (by omega))
  have HLF := hide (fun dq os => wLine_any r.first (halfT r.name firstE) r (Sort.grow (redrawn Wa dq) os) ((hg.below hba).below (below_regrown Wa dq os)) (tz16_below (tz16_below ht hba) (below_regrown Wa dq os)) hc0 hc1 (by omega))
  have HLL := hide (fun dq os => wLine_any r.last (halfT r.name lastE) r (Sort.grow (redrawn Wa dq) os) ((hg.below hba).below (below_regrown Wa dq os)) (tz16_below (tz16_below ht hba) (below_regrown Wa dq os)) hc0 hc1 (by omega))
  have z1 := lineT_size r (halfT r.name firstE) r.first hc0 hc1
  have z2 := lineT_size r (halfT r.name lastE) r.last hc0 hc1
  have c0 := ra.cell (j := 0) rfl
  have c1 := ra.cell (j := 1) rfl
  have c2 := ra.cell (j := 2) rfl
  have c3 := ra.cell (j := 3) rfl
  have c4 := ra.cell (j := 4) rfl
  have c5 := ra.cell (j := 5) rfl
  have c6 := ra.cell (j := 6) rfl
  have c7 := ra.cell (j := 7) rfl
  have c8 := ra.cell (j := 8) rfl
  have HBA := hide hba
  clear hWa hg ht hc0 hc1 ra hba
  go_enter Tryz.func47, Tryz.ntmps47
  by_cases h0 : r.first = r.last
  · have d0 : (r.first == r.last) = true := by simp [h0]
    have HE : Hid (oneT r = lineT r (S r.name) r.first) := by show _ = _; unfold oneT; rw [if_pos h0]
    rw [HE.out]
    have H0 := hide h0
    clear h0 a3 a4 z1 z2 hsz
    go_wp2_with fail
    refine (unhide HL0).mono ?_
    rintro e w1 ⟨rfl, hb1⟩
    go_wp2
    go_ret
    exact ⟨rfl, (unhide HBA).trans (hb1.mono (unhide HBA).size)⟩
  · have d0 : (r.first == r.last) = false := by simp [h0]
    have HE : Hid (oneT r = lineT r (halfT r.name firstE) r.first ++ lineT r (halfT r.name lastE) r.last) := by show _ = _; unfold oneT; rw [if_neg h0]
    rw [HE.out]
    have X0 := fun dq os => cell_regrown c0 dq os
    have X1 := fun dq os => cell_regrown c1 dq os
    have X2 := fun dq os => cell_regrown c2 dq os
    have X3 := fun dq os => cell_regrown c3 dq os
    have X4 := fun dq os => cell_regrown c4 dq os
    have X5 := fun dq os => cell_regrown c5 dq os
    have X6 := fun dq os => cell_regrown c6 dq os
    have X7 := fun dq os => cell_regrown c7 dq os
    have X8 := fun dq os => cell_regrown c8 dq os
    obtain ⟨T1, hT1⟩ : ∃ T1, lineT r (halfT r.name firstE) r.first = T1 := ⟨_, rfl⟩
    obtain ⟨T2, hT2⟩ : ∃ T2, lineT r (halfT r.name lastE) r.last = T2 := ⟨_, rfl⟩
    rw [hT1] at HLF z1
    rw [hT2] at HLL z2
    rw [hT1, hT2]
    have zz1 : T1.size ≤ 1000000000 := by omega
    have zz2 : T2.size ≤ 1000000000 := by omega
    have s1 : ¬ 9223372036854775807 < 1 + r.name.length := by omega
    have s2 : ¬ 9223372036854775807 < 1 + r.name.length + 8 := by omega
    have s3 : ¬ 9223372036854775807 < 1 + r.name.length + 7 := by omega
    have s4 : ¬ 9223372036854775807 < T1.size + T2.size := by omega
    clear h0 a3 a4 hsz hT1 hT2 z1 z2 HE hsn
    go_wp2_with fail
    refine wp_region_quiet_below (by kernel_rfl) (by kernel_rfl) ?_
    repeat (go_big_quiet_step (first | (go_at_call 79; first | with_reducible exact Calls.regrown_of (unhide HLF _ _) | with_reducible exact Calls.regrown_of (unhide HLL _ _))))
    refine wpQuiet_nil ?_
    intro _ hw'
    obtain ⟨⟨dq, osq⟩, hw''⟩ := hw'
    subst hw''
    have hb3 : Below Wa.heap.size Wa (Sort.grow (redrawn Wa dq) osq) := below_regrown Wa dq osq
    generalize Sort.grow (redrawn Wa dq) osq = w3 at hb3 ⊢
    simp only [Exit.then]
    go_wp2
    go_ret
    exact ⟨rfl, (unhide HBA).trans (hb3.mono (unhide HBA).size)⟩
end Go.Proofs.YthjnkagepooeiaaGreatDoor
/-
  Is a row's text read as it is: isRead.
-/
namespace Go.Proofs.YthjnkagepooeiaaGreatDoor
open Go.RowKit Go.PlainAid Go.Lib Go.PHexM Go.Shelf Go.Sort
set_option linter.unusedVariables false
set_option linter.unusedSimpArgs false

/-- is the text read as that one row, but for its number? -/
def okR (r : RowD) (T : ByteArray) : Bool := match rowsS T with
  | ([x], none) => decide (x = { r with line := x.line })
  | _ => false
theorem okR_fault {r : RowD} {T : ByteArray} {z : Int × Int} (h : (rowsS T).2 = some z) : okR r T = false := by
  unfold okR
  split
  · rename_i x e; rw [e] at h; cases h
  · rfl
theorem okR_many {r : RowD} {T : ByteArray} (h : (rowsS T).1.length ≠ 1) : okR r T = false := by
  unfold okR
  split
  · rename_i x e; rw [e] at h; exact absurd rfl h
  · rfl
theorem okR_one {r x : RowD} {T : ByteArray} (h2 : (rowsS T).2 = none) (h1 : (rowsS T).1 = [x]) : okR r T = decide (x = { r with line := x.line }) := by
  have e : rowsS T = ([x], none) := by rw [← h1, ← h2]
  unfold okR
  rw [e]

set_option maxRecDepth 100000 in
set_option maxHeartbeats 4000000 in
theorem isRead_any (T : ByteArray) (r : RowD) (w : World) (hg : Glob w) (hT : T.size ≤ 1073741824) :
    Calls Tryz.prog 48 #[.string T, rowV r] w fun e w' => e = .returned (.bool (okR r T)) ∧ Below w.heap.size w w' := by
  obtain ⟨Wa, hWa⟩ : ∃ Wa, w.alloc (.cells (rowC r).toArray 29) = Wa := ⟨_, rfl⟩
  have hba : Below w.heap.size w Wa := by rw [← hWa]; exact (Below.refl _ w).alloc (Nat.le_refl _) _
  have ra : RowAt Wa w.heap.size r := by rw [← hWa]; exact heap_alloc_new w _
  have hWa' : w.alloc (.cells #[.int .i64 r.line, .int .i32 r.first, .int .i32 r.last, .string (S r.name), .string (S r.cat), .int .u8 r.comb, .int .u8 r.cls, .int .i32 r.twin, .bool r.mir] 29) = Wa := hWa
  have HR := hide (read6_any ⟨#[]⟩ T Wa (hg.below hba) hT)
  have HRA := hide ra
  have HBA := hide hba
  obtain ⟨o, ho⟩ : ∃ o, okR r T = o := ⟨_, rfl⟩
  rw [ho]
  have HO := hide ho
  clear hWa hg ra hba ho
  go_enter Tryz.func48, Tryz.ntmps48
  go_wp2_with fail
  refine (unhide HR).mono ?_
  rintro e w1 ⟨hb1, hr1⟩
  have B1 := hide ((unhide HBA).trans (hb1.mono (unhide HBA).size))
  have RB1 := hide ((unhide HRA).below hb1)
  rcases hr1 with ⟨hn1, v1, rfl, ho1⟩ | ⟨no, code, fb, hf1, rfl, hfb1, hfc1⟩
  · obtain ⟨n, hn⟩ : ∃ n, (rowsS T).1.length = n := ⟨_, rfl⟩
    obtain ⟨oa, oc, rfl, hoc, hom⟩ := rowsAt_mem ho1
    rw [hn] at hoc ⊢
    by_cases h1 : n = 1
    · subst h1
      obtain ⟨x, hx⟩ := List.length_eq_one_iff.1 hn
      have HOD : Hid (o = decide (x = { r with line := x.line })) := (unhide HO).symm.trans (okR_one hn1 hx)
      have hm := hom 0 x (by rw [hx]; rfl)
      obtain ⟨g, off, rfl, hc⟩ := hm
      have x0 := hc 0 _ rfl
      have x1 := hc 1 _ rfl
      have x2 := hc 2 _ rfl
      have x3 := hc 3 _ rfl
      have x4 := hc 4 _ rfl
      have x5 := hc 5 _ rfl
      have x6 := hc 6 _ rfl
      have x7 := hc 7 _ rfl
      have x8 := hc 8 _ rfl
      simp only [Nat.zero_mul, Nat.add_zero] at x0 x1 x2 x3 x4 x5 x6 x7 x8
      have hgw : g ≠ w.heap.size := by
        rcases ho1.2 with ⟨e, _⟩ | ⟨g', cap, cur, e, hb', _⟩
        · cases e
        · simp at e
          obtain ⟨⟨rfl, _⟩, _⟩ := e
          have := (unhide HBA).size
          have h2 : w.heap.size < Wa.heap.size := World.block_lt_of_cell? _ _ ((unhide HRA).cell (j := 0) rfl)
          omega
      have rb := unhide RB1
      have c0 := rb.cell (j := 0) rfl
      have f0 := rb.frozen 0
      have HX := hide (rb.set (r' := { r with line := x.line }) 0 (.int .i64 x.line) rfl)
      have HB2 := hide ((unhide B1).setCell (p := ⟨w.heap.size, 0, none⟩) (Nat.le_refl _) (.int .i64 x.line))
      obtain ⟨W2, hW2⟩ : ∃ W2, w1.setCell ⟨w.heap.size, 0, none⟩ (.int .i64 x.line) = W2 := ⟨_, rfl⟩
      rw [hW2] at HX HB2
      have ky : ∀ j v, w1.cell? ⟨g, off + j, none⟩ = some v → W2.cell? ⟨g, off + j, none⟩ = some v := fun j v h => by
        rw [← hW2]
        exact (World.cell?_of_block (Below.heap_setCell _ ⟨w.heap.size, 0, none⟩ _ _ hgw)).trans h
      have y0 := ky 0 _ x0
      have y1 := ky 1 _ x1
      have y2 := ky 2 _ x2
      have y3 := ky 3 _ x3
      have y4 := ky 4 _ x4
      have y5 := ky 5 _ x5
      have y6 := ky 6 _ x6
      have y7 := ky 7 _ x7
      have y8 := ky 8 _ x8
      have z0 := (unhide HX).cell (j := 0) rfl
      have z1 := (unhide HX).cell (j := 1) rfl
      have z2 := (unhide HX).cell (j := 2) rfl
      have z3 := (unhide HX).cell (j := 3) rfl
      have z4 := (unhide HX).cell (j := 4) rfl
      have z5 := (unhide HX).cell (j := 5) rfl
      have z6 := (unhide HX).cell (j := 6) rfl
      have z7 := (unhide HX).cell (j := 7) rfl
      have z8 := (unhide HX).cell (j := 8) rfl
      simp only [Nat.add_zero] at y0
      have HEQ := hide (fun W => rowEq x { r with line := x.line } W)
      clear hn1 hn hom ho1 hx hc rb ky hgw hb1 hWa'
      go_wp2
      have heq := unhide HEQ
      by_cases hd : x = { r with line := x.line }
      · have HOT : Hid (o = true) := (unhide HOD).trans (decide_eq_true hd)
        have g1 : x.first = r.first := by rw [hd]
        have g2 : x.last = r.last := by rw [hd]
        have g3 : x.name = r.name := by rw [hd]
        have g4 : x.cat = r.cat := by rw [hd]
        have g5 : x.comb = r.comb := by rw [hd]
        have g6 : x.cls = r.cls := by rw [hd]
        have g7 : x.twin = r.twin := by rw [hd]
        have g8 : x.mir = r.mir := by rw [hd]
        rw [g1] at y1
        rw [g2] at y2
        rw [g3] at y3
        rw [g4] at y4
        rw [g5] at y5
        rw [g6] at y6
        rw [g7] at y7
        rw [g8] at y8
        clear hd heq g1 g2 g3 g4 g5 g6 g7 g8 x1 x2 x3 x4 x5 x6 x7 x8
        go_quiet (fail)
        go_wp2
        go_ret
        rw [unhide HOT]
        exact ⟨rfl, below_drewN (unhide HB2) _⟩
      · have HOT : Hid (o = false) := (unhide HOD).trans (decide_eq_false hd)
        rw [decide_eq_false hd] at heq
        go_quiet (fail)
        go_wp2
        go_ret
        rw [unhide HOT]
        exact ⟨rfl, below_drewN (unhide HB2) _⟩
    · have HOT : Hid (o = false) := (unhide HO).symm.trans (okR_many (by rw [hn]; exact h1))
      have d1 : ((n : Int) != 1) = true := by simp; omega
      clear hom ho1 hoc
      go_wp2
      go_ret
      rw [unhide HOT]
      exact ⟨rfl, unhide B1⟩
  · have HOT : Hid (o = false) := (unhide HO).symm.trans (okR_fault hf1)
    go_wp2
    go_ret
    rw [unhide HOT]
    exact ⟨rfl, unhide B1⟩
end Go.Proofs.YthjnkagepooeiaaGreatDoor
/-
  Print and Check of package rows.
-/
namespace Go.Proofs.YthjnkagepooeiaaGreatDoor
open Go.RowKit Go.PlainAid Go.Lib Go.PHexM Go.Shelf Go.Sort
set_option linter.unusedVariables false
set_option linter.unusedSimpArgs false

/-- what a row must keep to that a program can hold it -/
def RowOk (r : RowD) : Prop := 0 ≤ r.comb ∧ r.comb ≤ 255 ∧ 0 ≤ r.cls ∧ r.cls ≤ 255 ∧ r.name.length + r.cat.length ≤ 2097152
/-- may the row at that place stand there? -/
def stR (rs : List RowD) (i : Nat) : Int := match rs[i]? with
  | none => 0
  | some r => if okR r (oneT r) = false then 2 else if 0 < i ∧ r.first ≤ ((rs[i - 1]?).getD zeroR).last then 62 else 0
def chkGo (rs : List RowD) : Nat → Nat → Int
  | 0, _ => 0
  | k + 1, i => if stR rs i ≠ 0 then stR rs i else chkGo rs k (i + 1)
def chkR (rs : List RowD) : Int := chkGo rs rs.length 0
def textR (rs : List RowD) : Nat → ByteArray
  | 0 => ⟨#[]⟩
  | i + 1 => textR rs i ++ oneT ((rs[i]?).getD zeroR)
def printT (rs : List RowD) : ByteArray := if chkR rs = 0 then textR rs rs.length else ⟨#[]⟩
theorem chk_bad {rs : List RowD} {n i : Nat} (h : chkR rs = chkGo rs (n - i) i) (hi : i < n) (hb : stR rs i ≠ 0) : chkR rs = stR rs i := by
  rw [h, show n - i = (n - i - 1) + 1 by omega]
  unfold chkGo
  rw [if_pos hb]
theorem chk_good {rs : List RowD} {n i : Nat} (h : chkR rs = chkGo rs (n - i) i) (hi : i < n) (hb : stR rs i = 0) : chkR rs = chkGo rs (n - (i + 1)) (i + 1) := by
  rw [h, show n - i = (n - (i + 1)) + 1 by omega]
  conv => lhs; unfold chkGo
  rw [if_neg (by simp [hb])]
theorem text_size (rs : List RowD) (hr : ∀ r ∈ rs, RowOk r) : ∀ i, i ≤ rs.length → (textR rs i).size ≤ i * 8388608
  | 0, _ => by rw [Nat.zero_mul]; exact Nat.le_refl 0
  | i + 1, h => by
    have ih := text_size rs hr i (by omega)
    obtain ⟨r, hx⟩ : ∃ r, rs[i]? = some r := ⟨_, List.getElem?_eq_getElem (by omega)⟩
    have ho := hr r (List.mem_of_getElem? hx)
    have := oneT_size r ho.1 ho.2.1
    have h5 := ho.2.2.2.2
    unfold textR
    rw [hx, ByteArray.size_append]
    show (textR rs i).size + (oneT r).size ≤ _
    omega
theorem strCells_app (a b : ByteArray) : Lib.strCells (a ++ b) = Lib.strCells a ++ Lib.strCells b := by
  simp [Lib.strCells, ByteArray.data_append]
theorem isB_below {T e : TypeId} {B b : Nat} {bs : List Value} {W W' : World} (h : Lib.IsBuilder T e B b bs W) (hb : Below W.heap.size W W') : Lib.IsBuilder T e B b bs W' := by
  have k : ∀ p, Lib.BuilderAt T e B b p bs W → Lib.BuilderAt T e B b p bs W' := fun p h => by
    have hlt := h.lt
    obtain ⟨hB, v, hv, hown, hne⟩ := h
    exact ⟨hB, v, (hb.block b hlt).trans hv, hown.kept (row := none) ⟨hb.os, hb.tape, hb.output, hb.size, fun k hk _ => hb.block k hk⟩ (Classical.em _), hne⟩
  exact h.elim (fun x => .inl (k _ x)) (fun x => .inr (k _ x))
theorem st_at {rs : List RowD} {i : Nat} {r : RowD} (h : rs[i]? = some r) : stR rs i = if okR r (oneT r) = false then 2 else if 0 < i ∧ r.first ≤ ((rs[i - 1]?).getD zeroR).last then 62 else 0 := by
  unfold stR; rw [h]

set_option maxRecDepth 100000 in
set_option maxHeartbeats 4000000 in
theorem print6_any (rs : List RowD) (a : Option Addr) (n c : Nat) (w : World) (hg : Glob w) (ht : tz16At w) (hn : rs.length = n) (hnb : n ≤ 1048577) (hr : ∀ r ∈ rs, RowOk r) (hm : RwMem w a rs) :
    Calls Tryz.prog 22 #[.slice a n c] w fun e w' => e = .returned (.tuple #[.string (printT rs), .int .i64 (chkR rs)]) ∧ Below w.heap.size w w' := by
  obtain ⟨Wa, hWa⟩ : ∃ Wa, w.alloc (.cells #[.pointer none, .slice none 0 0] 110) = Wa := ⟨_, rfl⟩
  have hba : Below w.heap.size w Wa := by rw [← hWa]; exact (Below.refl _ w).alloc (Nat.le_refl _) _
  have hB0 : Lib.IsBuilder 110 5 w.heap.size w.heap.size (Lib.strCells ⟨#[]⟩) Wa := .inl ⟨Nat.le_refl _, .slice none 0 0, by rw [← hWa]; exact heap_alloc_new w _, ⟨rfl, .inl ⟨rfl, rfl⟩⟩, by simp [Value.ownBlock]⟩
  have HG := hide hg
  have HT := hide ht
  have HN := hide hn
  have HM := hide hm
  have HRO := hide hr
  have HZ := hide (text_size rs hr)
  have HB0 := hide hB0
  have HBA := hide hba
  clear hg ht hn hm hr hB0 hba
  obtain ⟨PT, hPT⟩ : ∃ PT, printT rs = PT := ⟨_, rfl⟩
  obtain ⟨CT, hCT⟩ : ∃ CT, chkR rs = CT := ⟨_, rfl⟩
  rw [hPT, hCT]
  have HPT := hide hPT
  have HCT := hide hCT
  clear hPT hCT
  go_enter Tryz.func22, Tryz.ntmps22
  go_wp2
  clear hWa
  go_loopw [10] (fun v10 wr => ∃ i : Nat, i ≤ n ∧ v10 = .int .i64 (i : Nat) ∧ Hid (chkR rs = chkGo rs (n - i) i) ∧ Hid (Lib.IsBuilder 110 5 w.heap.size w.heap.size (Lib.strCells (textR rs i)) wr) ∧ Hid (Below w.heap.size w wr)) (fun v10 _ => n - (RowKit.intOf v10).toNat)
  case atStart => exact ⟨0, Nat.zero_le _, rfl, by show _ = _; unfold chkR; rw [unhide HN]; rfl, unhide HB0, unhide HBA⟩
  case round =>
    obtain ⟨i, hi, rfl, HC, HBD, HB⟩ := hrel
    by_cases hlt : i < n
    · obtain ⟨r, hx⟩ : ∃ r, rs[i]? = some r := ⟨_, List.getElem?_eq_getElem (by rw [unhide HN]; exact hlt)⟩
      have hro := unhide HRO r (List.mem_of_getElem? hx)
      obtain ⟨g, off, rfl, hc⟩ := ((unhide HM).below (unhide HB)) i r hx
      have x0 := hc 0 _ rfl
      have x1 := hc 1 _ rfl
      have x2 := hc 2 _ rfl
      have x3 := hc 3 _ rfl
      have x4 := hc 4 _ rfl
      have x5 := hc 5 _ rfl
      have x6 := hc 6 _ rfl
      have x7 := hc 7 _ rfl
      have x8 := hc 8 _ rfl
      simp only [Nat.add_zero] at x0
      have hlt' : (i : Int) < (n : Int) := by omega
      have hq1 : IntKind.i64.wrap ((i : Int) + 1) = (i : Int) + 1 := by rw [IntKind.wrap_i64]; omega
      obtain ⟨V, hV⟩ : ∃ V, wr.alloc (.cells (rowC zeroR).toArray 29) = V := ⟨_, rfl⟩
      have hVb : Below wr.heap.size wr V := by rw [← hV]; exact (Below.refl _ wr).alloc (Nat.le_refl _) _
      have rv : RowAt V wr.heap.size zeroR := by rw [← hV]; exact heap_alloc_new wr _
      have hV' : wr.alloc (.cells #[.int .i64 0, .int .i32 0, .int .i32 0, .string ⟨#[]⟩, .string ⟨#[]⟩, .int .u8 0, .int .u8 0, .int .i32 0, .bool false] 29) = V := hV
      have t0 := rv.cell (j := 0) rfl
      have f0 := rv.frozen 0
      have t1 := rv.cell (j := 1) rfl
      have f1 := rv.frozen 1
      have t2 := rv.cell (j := 2) rfl
      have f2 := rv.frozen 2
      have t3 := rv.cell (j := 3) rfl
      have f3 := rv.frozen 3
      have t4 := rv.cell (j := 4) rfl
      have f4 := rv.frozen 4
      have t5 := rv.cell (j := 5) rfl
      have f5 := rv.frozen 5
      have t6 := rv.cell (j := 6) rfl
      have f6 := rv.frozen 6
      have t7 := rv.cell (j := 7) rfl
      have f7 := rv.frozen 7
      have t8 := rv.cell (j := 8) rfl
      have f8 := rv.frozen 8
      have HRV := hide (rowAt_copy rv r)
      have HVB := hide (below_copy hVb (Nat.le_refl _) r)
      clear hV hVb rv hc
      go_wp2_with fail
      have BV := (unhide HB).trans ((unhide HVB).mono (unhide HB).size)
      refine (written_any r _ ((unhide HG).below BV) (tz16_below (unhide HT) BV) hro.1 hro.2.1 (by have := hro.2.2.2.2; omega)).mono ?_
      rintro e w2 ⟨rfl, hb2⟩
      have r2 := (unhide HRV).below hb2
      have B2 := hide (BV.trans (hb2.mono BV.size))
      have BD2 := hide (isB_below (isB_below (unhide HBD) (unhide HVB)) hb2)
      have HR2 := hide r2
      have c0 := r2.cell (j := 0) rfl
      have c1 := r2.cell (j := 1) rfl
      have c2 := r2.cell (j := 2) rfl
      have c3 := r2.cell (j := 3) rfl
      have c4 := r2.cell (j := 4) rfl
      have c5 := r2.cell (j := 5) rfl
      have c6 := r2.cell (j := 6) rfl
      have c7 := r2.cell (j := 7) rfl
      have c8 := r2.cell (j := 8) rfl
      have hos := oneT_size r hro.1 hro.2.1
      have ho5 := hro.2.2.2.2
      have HST := hide (st_at hx)
      have HTX : Hid (textR rs (i + 1) = textR rs i ++ oneT r) := by show textR rs i ++ oneT ((rs[i]?).getD zeroR) = _; rw [hx]; rfl
      have HZI := hide (unhide HZ i (by rw [unhide HN]; exact hi))
      have HX := hide hx
      obtain ⟨T, hT⟩ : ∃ T, oneT r = T := ⟨_, rfl⟩
      rw [hT] at hos HST HTX ⊢
      have hTs : T.size ≤ 4194500 := by omega
      have HIR := hide (isRead_any T r w2 ((unhide HG).below (unhide B2)) (by omega))
      clear x0 x1 x2 x3 x4 x5 x6 x7 x8 t0 t1 t2 t3 t4 t5 t6 t7 t8 f0 f1 f2 f3 f4 f5 f6 f7 f8 hV' BV hb2 r2 HRV HVB hro hos ho5 HBD hT hx
      go_wp2_with fail
      refine (unhide HIR).mono ?_
      rintro e w3 ⟨rfl, hb3⟩
      have B3 := hide ((unhide B2).trans (hb3.mono (unhide B2).size))
      have BD3 := hide (isB_below (unhide BD2) hb3)
      clear c0 c1 c2 c3 c4 c5 c6 c7 c8
      have c1 := ((unhide HR2).below hb3).cell (j := 1) rfl
      clear hb3 HIR BD2 HR2
      cases ho : okR r T
      · have HE : Hid (CT = 2 ∧ PT = ⟨#[]⟩) := by
          have h1 : stR rs i = 2 := by rw [unhide HST, if_pos ho]
          have h2 := chk_bad (unhide HC) hlt (by rw [h1]; decide)
          rw [h1] at h2
          refine ⟨(unhide HCT).symm.trans h2, ?_⟩
          rw [← unhide HPT]
          unfold printT
          rw [h2]; rfl
        clear ho
        go_wp2
        go_ret2
        rw [(unhide HE).1, (unhide HE).2]
        exact ⟨rfl, unhide B3⟩
      · have HOK := hide ho
        clear ho
        by_cases hz : i = 0
        · subst hz
          have HS0 : Hid (stR rs 0 = 0) := by show _ = _; rw [unhide HST, if_neg (by rw [unhide HOK]; decide), if_neg (by omega)]
          go_wp2
          go_quiet (fail)
          generalize hW3 : w3.drewN _ = W3
          have hb4 : Below w3.heap.size w3 W3 := by rw [← hW3]; exact below_drewN (Below.refl _ _) _
          have B4 := hide ((unhide B3).trans (hb4.mono (unhide B3).size))
          have HWS := hide (Tryz.Builder_WriteString w.heap.size w.heap.size _ T W3 (isB_below (unhide BD3) hb4) (by rw [Lib.strCells_length]; have := unhide HZI; omega) (unhide B4).size)
          clear hb4 hW3
          go_wp2_with fail
          refine (unhide HWS).mono ?_
          rintro e w5 ⟨rfl, hbd, hb5⟩
          have HBD5 : Hid (Lib.IsBuilder 110 5 w.heap.size w.heap.size (Lib.strCells (textR rs (0 + 1))) w5) := by
            rw [unhide HTX, strCells_app]
            exact .inr hbd
          have B5 := hide ((unhide B4).trans hb5)
          have HC5 := hide (chk_good (unhide HC) hlt (unhide HS0))
          clear hbd hb5
          go_wp2
          go_roundw
          case rel => exact ⟨0 + 1, by omega, by go_num, unhide HC5, unhide HBD5, unhide B5⟩
          case measure => simp [RowKit.intOf]; omega
        · obtain ⟨j, rfl⟩ : ∃ j, i = j + 1 := ⟨i - 1, by omega⟩
          obtain ⟨q, hq⟩ : ∃ q, rs[j]? = some q := ⟨_, List.getElem?_eq_getElem (by rw [unhide HN]; omega)⟩
          obtain ⟨g', off', e', hc'⟩ := ((unhide HM).below (unhide B3)) j q hq
          simp only [Option.some.injEq, Addr.mk.injEq, and_true] at e'
          obtain ⟨rfl, rfl⟩ := e'
          have p2 := hc' 2 _ rfl
          have hqs : ((rs[j + 1 - 1]?).getD zeroR).last = q.last := by rw [Nat.add_sub_cancel, hq]; rfl
          rw [hqs] at HST
          have hq2 : IntKind.i64.wrap (j : Int) = (j : Int) := by rw [IntKind.wrap_i64]; omega
          have hq3 : IntKind.i64.wrap (((j + 1 : Nat) : Int) - 1) = (j : Int) := by rw [IntKind.wrap_i64]; omega
          have hg0 : decide ((0 : Int) < ((j + 1 : Nat) : Int)) = true := decide_eq_true (by omega)
          clear hc' hq hqs
          by_cases hle : r.first ≤ q.last
          · have HE : Hid (CT = 62 ∧ PT = ⟨#[]⟩) := by
              have h1 : stR rs (j + 1) = 62 := by rw [unhide HST, if_neg (by rw [unhide HOK]; decide), if_pos ⟨by omega, hle⟩]
              have h2 := chk_bad (unhide HC) hlt (by rw [h1]; decide)
              rw [h1] at h2
              refine ⟨(unhide HCT).symm.trans h2, ?_⟩
              rw [← unhide HPT]
              unfold printT
              rw [h2]; rfl
            have dle : decide (r.first ≤ q.last) = true := decide_eq_true hle
            go_wp2
            go_quiet (fail)
            go_wp2
            go_ret2
            rw [(unhide HE).1, (unhide HE).2]
            exact ⟨rfl, below_drewN (unhide B3) _⟩
          · have dle : decide (r.first ≤ q.last) = false := decide_eq_false hle
            have HS0 : Hid (stR rs (j + 1) = 0) := by show _ = _; rw [unhide HST, if_neg (by rw [unhide HOK]; decide), if_neg (by omega)]
            have HLE := hide hle
            clear hle
            go_wp2
            go_quiet (fail)
            generalize hW3 : w3.drewN _ = W3
            have hb4 : Below w3.heap.size w3 W3 := by rw [← hW3]; exact below_drewN (Below.refl _ _) _
            have B4 := hide ((unhide B3).trans (hb4.mono (unhide B3).size))
            have HWS := hide (Tryz.Builder_WriteString w.heap.size w.heap.size _ T W3 (isB_below (unhide BD3) hb4) (by rw [Lib.strCells_length]; have := unhide HZI; omega) (unhide B4).size)
            clear hb4 hW3
            go_wp2_with fail
            refine (unhide HWS).mono ?_
            rintro e w5 ⟨rfl, hbd, hb5⟩
            have HBD5 : Hid (Lib.IsBuilder 110 5 w.heap.size w.heap.size (Lib.strCells (textR rs (j + 1 + 1))) w5) := by
              rw [unhide HTX, strCells_app]
              exact .inr hbd
            have B5 := hide ((unhide B4).trans hb5)
            have HC5 := hide (chk_good (unhide HC) hlt (unhide HS0))
            clear hbd hb5
            go_wp2
            go_roundw
            case rel => exact ⟨j + 1 + 1, by omega, by go_num, unhide HC5, unhide HBD5, unhide B5⟩
            case measure => simp [RowKit.intOf]; omega
    · obtain rfl : i = n := by omega
      have HE : Hid (CT = 0 ∧ PT = textR rs i) := by
        have h2 := unhide HC
        rw [Nat.sub_self] at h2
        have h3 : chkR rs = 0 := h2
        refine ⟨(unhide HCT).symm.trans h3, ?_⟩
        rw [← unhide HPT]
        unfold printT
        rw [h3, if_pos rfl, unhide HN]
      have HSS := hide (Tryz.Builder_String_any w.heap.size w.heap.size (textR rs i).data.toList wr (unhide HBD) (unhide HB).size)
      go_wp2_with fail
      refine (unhide HSS).mono ?_
      rintro e w5 ⟨rfl, hb5⟩
      go_wp2
      go_ret2
      rw [(unhide HE).1, (unhide HE).2]
      exact ⟨rfl, (unhide HB).trans hb5⟩
end Go.Proofs.YthjnkagepooeiaaGreatDoor
/-
  The document's line of a row.
-/
namespace Go.Proofs.YthjnkagepooeiaaGreatDoor
open Go.RowKit Go.PlainAid Go.Lib Go.PHexM Go.Shelf Go.Sort
set_option linter.unusedVariables false
set_option linter.unusedSimpArgs false

def dd (r : Nat) : UInt8 := UInt8.ofNat (48 + r)
theorem comb_one (q : Nat) (h : q < 10) : combT (q : Int) = ⟨#[dd q]⟩ := by
  have key : ∀ m : Nat, m < 10 → combT (m : Int) = ⟨#[dd m]⟩ := by decide +kernel
  exact key q h
theorem comb_more (q : Nat) (h : q < 256) (h9 : 9 < q) : combT (q : Int) = combT ((q / 10 : Nat) : Int) ++ ⟨#[dd (q % 10)]⟩ := by
  have key : ∀ m : Nat, m < 256 → 9 < m → combT (m : Int) = combT ((m / 10 : Nat) : Int) ++ ⟨#[dd (m % 10)]⟩ := by decide +kernel
  exact key q h h9
theorem dd_int (r : Nat) (h : r < 10) : ((dd r).toNat : Int) = 48 + (r : Int) := by
  have key : ∀ m : Nat, m < 10 → (dd m).toNat = 48 + m := by decide +kernel
  rw [key r h]
  omega
theorem u8_dig (r : Nat) (h : r < 10) : IntKind.u8.wrap (48 + (r : Int)) = 48 + (r : Int) := by
  have key : ∀ m : Nat, m < 10 → IntKind.u8.wrap (48 + (m : Int)) = 48 + (m : Int) := by decide +kernel
  exact key r h
theorem app_none (a : ByteArray) : a ++ (⟨#[]⟩ : ByteArray) = a := by
  apply ByteArray.ext
  simp [ByteArray.data_append]
theorem short_none (c : Int) (h : ¬ (1 ≤ c ∧ c ≤ 23)) : shortS c = ⟨#[]⟩ := by
  unfold shortS
  repeat rw [if_neg (by omega)]

set_option maxRecDepth 100000 in
set_option maxHeartbeats 4000000 in
theorem refLine_any (r : RowD) (nm : ByteArray) (x : Int) (w : World) (hc0 : 0 ≤ r.comb) (hc1 : r.comb ≤ 255) (hk0 : 0 ≤ r.cls) (hk1 : r.cls ≤ 255) (hsz : nm.size + r.cat.length ≤ 1000000000) :
    Calls Tryz.prog 81 #[rowV r, .string nm, .int .i32 x] w fun e w' => e = .returned (.string (lineT r nm x)) ∧ Below w.heap.size w w' := by
  obtain ⟨Wa, hWa⟩ : ∃ Wa, w.alloc (.cells (rowC r).toArray 29) = Wa := ⟨_, rfl⟩
  have hba : Below w.heap.size w Wa := by rw [← hWa]; exact (Below.refl _ w).alloc (Nat.le_refl _) _
  have ra : RowAt Wa w.heap.size r := by rw [← hWa]; exact heap_alloc_new w _
  have hWa' : w.alloc (.cells #[.int .i64 r.line, .int .i32 r.first, .int .i32 r.last, .string (S r.name), .string (S r.cat), .int .u8 r.comb, .int .u8 r.cls, .int .i32 r.twin, .bool r.mir] 29) = Wa := hWa
  have HRA := hide ra
  have HBA := hide hba
  have HSH := hide refShow6_any
  obtain ⟨c0, hc⟩ : ∃ c0 : Nat, r.comb = c0 := ⟨r.comb.toNat, by omega⟩
  have hc256 : c0 < 256 := by omega
  have hcv : IntKind.i64.wrap (c0 : Int) = c0 := by rw [IntKind.wrap_i64]; omega
  have HCB := hide hc
  have HRS := hide (fun W => rShort_any r.cls W hk0 hk1)
  have HXA := hide (shT_size x)
  have HXC := hide (combT_size r.comb hc0 hc1)
  have HXS := hide (shortT_size r.cls)
  have HXT := hide (twinT_size r.twin)
  clear hWa ra hba hc0 hc1 hc
  obtain ⟨LT, hLT⟩ : ∃ LT, lineT r nm x = LT := ⟨_, rfl⟩
  rw [hLT]
  have HLT := hide hLT
  clear hLT
  obtain ⟨A, hA⟩ : ∃ A, shT x = A := ⟨_, rfl⟩
  go_enter Tryz.func81, Tryz.ntmps81
  go_wp2_with fail
  refine (unhide HSH x Wa).mono ?_
  rintro e w1 ⟨rfl, hb1⟩
  rw [hA] at HXA ⊢
  have HA := hide hA
  have r1 := (unhide HRA).below hb1
  have B1 := hide ((unhide HBA).trans (hb1.mono (unhide HBA).size))
  have HR1 := hide r1
  have c5 := r1.cell (j := 5) rfl
  rw [unhide HCB] at c5
  have hA8 := unhide HXA
  clear hb1 r1 hWa' hA
  go_wp2
  go_loopw [9, 10] (fun v9 v10 wr => ∃ (q : Nat) (D : ByteArray), q < 256 ∧ v9 = .int .i64 (q : Nat) ∧ v10 = .string D ∧ D.size ≤ 3 ∧ Hid (combT r.comb = combT (q : Int) ++ D) ∧ Hid (Below w.heap.size w wr) ∧ Hid (RowAt wr w.heap.size r)) (fun v9 _ _ => (RowKit.intOf v9).toNat)
  case atStart => exact ⟨c0, ⟨#[]⟩, hc256, rfl, rfl, by decide, by show _ = _; rw [unhide HCB, app_none], unhide B1, unhide HR1⟩
  case round =>
    obtain ⟨q, D, hq, rfl, rfl, hD, HD, HB, HR⟩ := hrel
    by_cases h9 : 9 < q
    · obtain ⟨m, hm⟩ : ∃ m, m = q % 10 := ⟨_, rfl⟩
      obtain ⟨q2, hq2⟩ : ∃ q2, q2 = q / 10 := ⟨_, rfl⟩
      have hm10 : m < 10 := by omega
      have ht : (q : Int).tmod 10 = (m : Int) := by rw [Int.tmod_eq_emod_of_nonneg (by omega)]; omega
      have htd : (q : Int).tdiv 10 = (q2 : Int) := by rw [Int.tdiv_eq_ediv_of_nonneg (by omega)]; omega
      have hcv2 := one_conv wr (dd m)
      rw [dd_int m hm10] at hcv2
      have HD2 : Hid (combT r.comb = combT (q2 : Int) ++ (⟨#[dd m]⟩ ++ D)) := by
        show _ = _
        rw [unhide HD, comb_more q hq h9, hm, hq2, ByteArray.append_assoc]
      have hDs : ((⟨#[dd m]⟩ : ByteArray) ++ D).size ≤ 3 := by
        have h1 := unhide HXC
        rw [unhide HD2, ByteArray.size_append] at h1
        omega
      have hq2l : q2 < q := by omega
      have h9' : (9 : Int) < (q : Int) := by omega
      have hw1 : IntKind.i64.wrap (48 + (m : Int)) = 48 + (m : Int) := by rw [IntKind.wrap_i64]; omega
      have hw2 : IntKind.u8.wrap (48 + (m : Int)) = 48 + (m : Int) := u8_dig m hm10
      have HB2 := hide ((unhide HB).alloc (unhide HB).size (.cells #[.int .u8 (48 + (m : Int))] 5))
      have HR2 := hide ((unhide HR).below ((Below.refl _ wr).alloc (Nat.le_refl _) (.cells #[.int .u8 (48 + (m : Int))] 5)))
      clear hm hq2
      go_wp2
      go_roundw
      case rel => exact ⟨q2, _, by omega, rfl, rfl, hDs, unhide HD2, unhide HB2, unhide HR2⟩
      case measure => simp [RowKit.intOf]; omega
    · have hq10 : q < 10 := by omega
      have h9' : ¬ (9 : Int) < (q : Int) := by omega
      have hcv2 := one_conv wr (dd q)
      rw [dd_int q hq10] at hcv2
      have hw1 : IntKind.i64.wrap (48 + (q : Int)) = 48 + (q : Int) := by rw [IntKind.wrap_i64]; omega
      have hw2 : IntKind.u8.wrap (48 + (q : Int)) = 48 + (q : Int) := u8_dig q hq10
      obtain ⟨CB, hCB⟩ : ∃ CB : ByteArray, (⟨#[dd q]⟩ : ByteArray) ++ D = CB := ⟨_, rfl⟩
      have HCE : Hid (combT r.comb = CB) := by show _ = _; rw [unhide HD, comb_one q hq10, hCB]
      have hCs : CB.size ≤ 3 := by rw [← unhide HCE]; exact unhide HXC
      obtain ⟨W2, hW2⟩ : ∃ W2, wr.alloc (.cells #[.int .u8 (48 + (q : Int))] 5) = W2 := ⟨_, rfl⟩
      have hb2 : Below wr.heap.size wr W2 := by rw [← hW2]; exact (Below.refl _ wr).alloc (Nat.le_refl _) _
      have B2 := hide ((unhide HB).trans (hb2.mono (unhide HB).size))
      have rr := (unhide HR).below hb2
      have HR2 := hide rr
      rw [hW2] at hcv2
      have c4 := rr.cell (j := 4) rfl
      have c6 := rr.cell (j := 6) rfl
      have c7 := rr.cell (j := 7) rfl
      have c8 := rr.cell (j := 8) rfl
      have hcat : r.cat.length ≤ 1000000000 := by omega
      have hnm : nm.size ≤ 1000000000 := by omega
      have hKs := unhide HXS
      have hTs := unhide HXT
      have hsa : Hid True := trivial
      obtain ⟨K, hK⟩ : ∃ K, shortS r.cls = K := ⟨_, rfl⟩
      obtain ⟨TW, hTW⟩ : ∃ TW, twinT r.twin = TW := ⟨_, rfl⟩
      obtain ⟨CA, hCA⟩ : ∃ CA, S r.cat = CA := ⟨_, rfl⟩
      have hCA2 := hCA
      have hCAs : CA.size ≤ 1000000000 := by rw [← hCA, S_size]; exact hcat
      rw [hCA] at c4
      rw [hK] at hKs HRS
      rw [hTW] at hTs
      have HFIN : ∀ F : ByteArray, flagT r.mir = F → LT = A ++ ⟨#[59]⟩ ++ nm ++ ⟨#[59]⟩ ++ CA ++ ⟨#[59]⟩ ++ CB ++ ⟨#[59]⟩ ++ K ++ ⟨#[59]⟩ ++ TW ++ ⟨#[59, 59, 59, 59]⟩ ++ F ++ ⟨#[59, 59, 59, 59, 59, 10]⟩ := fun F hF => by
        rw [← unhide HLT]
        unfold lineT
        rw [unhide HA, hCA, unhide HCE, hK, hTW, hF]
      have HF := hide HFIN
      have HKE := hide hK
      have HTE := hide hTW
      clear HFIN rr hb2 hCA HD HB HR hsz hcat hK hTW HXA HXC HXS HXT hq
      have HCA2 := hide hCA2
      clear hCA2
      by_cases h0 : r.twin = 0
      · have d0 : (r.twin != 0) = false := by simp [h0]
        obtain rfl : (⟨#[]⟩ : ByteArray) = TW := by rw [← unhide HTE]; unfold twinT; rw [if_pos h0]
        clear h0
        by_cases hk : 1 ≤ r.cls ∧ r.cls ≤ 23
        · have k0 : decide (1 ≤ r.cls) = true := decide_eq_true hk.1
          have k1 : decide (r.cls ≤ 23) = true := decide_eq_true hk.2
          have k0' : (1 : Int) ≤ r.cls := hk.1
          have k1' : r.cls ≤ 23 := hk.2
          clear hk
          cases hm : r.mir
          · have HM2 := hide hm
            have hm : r.mir = false := hm
            rw [hm] at c8
            have hE := unhide HF ⟨#[78]⟩ (by rw [hm]; rfl)
            have HE := hide hE
            clear hE hm HF
            go_wp2_with fail
            refine (unhide HRS _).mono ?_
            rintro e w4 ⟨rfl, hb4⟩
            have B4 := hide ((unhide B2).trans (hb4.mono (unhide B2).size))
            have e4 := ((unhide HR2).below hb4).cell (j := 4) rfl
            rw [unhide HCA2] at e4
            clear c4 c6 c7 c8 hb4
            go_wp2
            go_ret
            rw [unhide HE]
            exact ⟨rfl, unhide B4⟩
          · have HM2 := hide hm
            have hm : r.mir = true := hm
            rw [hm] at c8
            have hE := unhide HF ⟨#[89]⟩ (by rw [hm]; rfl)
            have HE := hide hE
            clear hE hm HF
            go_wp2_with fail
            refine (unhide HRS _).mono ?_
            rintro e w4 ⟨rfl, hb4⟩
            have B4 := hide ((unhide B2).trans (hb4.mono (unhide B2).size))
            have e4 := ((unhide HR2).below hb4).cell (j := 4) rfl
            rw [unhide HCA2] at e4
            clear c4 c6 c7 c8 hb4
            go_wp2
            go_ret
            rw [unhide HE]
            exact ⟨rfl, unhide B4⟩
        · obtain rfl : (⟨#[]⟩ : ByteArray) = K := by rw [← unhide HKE]; exact (short_none _ hk).symm
          by_cases hk0x : 1 ≤ r.cls
          · have k0 : decide (1 ≤ r.cls) = true := decide_eq_true hk0x
            have k1 : decide (r.cls ≤ 23) = false := decide_eq_false (by omega)
            have k1' : ¬ r.cls ≤ 23 := by omega
            clear hk
            cases hm : r.mir
            · have HM2 := hide hm
              have hm : r.mir = false := hm
              rw [hm] at c8
              have hE := unhide HF ⟨#[78]⟩ (by rw [hm]; rfl)
              have HE := hide hE
              clear hE hm HF
              go_wp2
              go_ret
              rw [unhide HE]
              exact ⟨rfl, unhide B2⟩
            · have HM2 := hide hm
              have hm : r.mir = true := hm
              rw [hm] at c8
              have hE := unhide HF ⟨#[89]⟩ (by rw [hm]; rfl)
              have HE := hide hE
              clear hE hm HF
              go_wp2
              go_ret
              rw [unhide HE]
              exact ⟨rfl, unhide B2⟩
          · have k0 : decide (1 ≤ r.cls) = false := decide_eq_false hk0x
            have k1' : ¬ (1 : Int) ≤ r.cls := hk0x
            clear hk hk0x
            cases hm : r.mir
            · have HM2 := hide hm
              have hm : r.mir = false := hm
              rw [hm] at c8
              have hE := unhide HF ⟨#[78]⟩ (by rw [hm]; rfl)
              have HE := hide hE
              clear hE hm HF
              go_wp2
              go_ret
              rw [unhide HE]
              exact ⟨rfl, unhide B2⟩
            · have HM2 := hide hm
              have hm : r.mir = true := hm
              rw [hm] at c8
              have hE := unhide HF ⟨#[89]⟩ (by rw [hm]; rfl)
              have HE := hide hE
              clear hE hm HF
              go_wp2
              go_ret
              rw [unhide HE]
              exact ⟨rfl, unhide B2⟩
      · have d0 : (r.twin != 0) = true := by simp [h0]
        have HT1 : Hid (shT r.twin = TW) := by show _ = _; rw [← unhide HTE]; unfold twinT; rw [if_neg h0]
        clear h0
        by_cases hk : 1 ≤ r.cls ∧ r.cls ≤ 23
        · have k0 : decide (1 ≤ r.cls) = true := decide_eq_true hk.1
          have k1 : decide (r.cls ≤ 23) = true := decide_eq_true hk.2
          have k0' : (1 : Int) ≤ r.cls := hk.1
          have k1' : r.cls ≤ 23 := hk.2
          clear hk
          cases hm : r.mir
          · have HM2 := hide hm
            have hm : r.mir = false := hm
            rw [hm] at c8
            have hE := unhide HF ⟨#[78]⟩ (by rw [hm]; rfl)
            have HE := hide hE
            clear hE hm HF
            go_wp2_with fail
            refine (unhide HSH r.twin W2).mono ?_
            rintro e w3 ⟨rfl, hb3⟩
            rw [unhide HT1]
            have B3 := hide ((unhide B2).trans (hb3.mono (unhide B2).size))
            have rr := (unhide HR2).below hb3
            have HR3 := hide rr
            have d4 := rr.cell (j := 4) rfl
            rw [unhide HCA2] at d4
            have d6 := rr.cell (j := 6) rfl
            have d8 := rr.cell (j := 8) rfl
            rw [unhide HM2] at d8
            clear c4 c6 c7 c8 hb3 rr
            go_wp2_with fail
            refine (unhide HRS _).mono ?_
            rintro e w4 ⟨rfl, hb4⟩
            have B4 := hide ((unhide B3).trans (hb4.mono (unhide B3).size))
            have e4 := ((unhide HR3).below hb4).cell (j := 4) rfl
            rw [unhide HCA2] at e4
            clear d4 d6 d8 hb4
            go_wp2
            go_ret
            rw [unhide HE]
            exact ⟨rfl, unhide B4⟩
          · have HM2 := hide hm
            have hm : r.mir = true := hm
            rw [hm] at c8
            have hE := unhide HF ⟨#[89]⟩ (by rw [hm]; rfl)
            have HE := hide hE
            clear hE hm HF
            go_wp2_with fail
            refine (unhide HSH r.twin W2).mono ?_
            rintro e w3 ⟨rfl, hb3⟩
            rw [unhide HT1]
            have B3 := hide ((unhide B2).trans (hb3.mono (unhide B2).size))
            have rr := (unhide HR2).below hb3
            have HR3 := hide rr
            have d4 := rr.cell (j := 4) rfl
            rw [unhide HCA2] at d4
            have d6 := rr.cell (j := 6) rfl
            have d8 := rr.cell (j := 8) rfl
            rw [unhide HM2] at d8
            clear c4 c6 c7 c8 hb3 rr
            go_wp2_with fail
            refine (unhide HRS _).mono ?_
            rintro e w4 ⟨rfl, hb4⟩
            have B4 := hide ((unhide B3).trans (hb4.mono (unhide B3).size))
            have e4 := ((unhide HR3).below hb4).cell (j := 4) rfl
            rw [unhide HCA2] at e4
            clear d4 d6 d8 hb4
            go_wp2
            go_ret
            rw [unhide HE]
            exact ⟨rfl, unhide B4⟩
        · obtain rfl : (⟨#[]⟩ : ByteArray) = K := by rw [← unhide HKE]; exact (short_none _ hk).symm
          by_cases hk0x : 1 ≤ r.cls
          · have k0 : decide (1 ≤ r.cls) = true := decide_eq_true hk0x
            have k1 : decide (r.cls ≤ 23) = false := decide_eq_false (by omega)
            have k1' : ¬ r.cls ≤ 23 := by omega
            clear hk
            cases hm : r.mir
            · have HM2 := hide hm
              have hm : r.mir = false := hm
              rw [hm] at c8
              have hE := unhide HF ⟨#[78]⟩ (by rw [hm]; rfl)
              have HE := hide hE
              clear hE hm HF
              go_wp2_with fail
              refine (unhide HSH r.twin W2).mono ?_
              rintro e w3 ⟨rfl, hb3⟩
              rw [unhide HT1]
              have B3 := hide ((unhide B2).trans (hb3.mono (unhide B2).size))
              have rr := (unhide HR2).below hb3
              have HR3 := hide rr
              have d4 := rr.cell (j := 4) rfl
              rw [unhide HCA2] at d4
              have d6 := rr.cell (j := 6) rfl
              have d8 := rr.cell (j := 8) rfl
              rw [unhide HM2] at d8
              clear c4 c6 c7 c8 hb3 rr
              go_wp2
              go_ret
              rw [unhide HE]
              exact ⟨rfl, unhide B3⟩
            · have HM2 := hide hm
              have hm : r.mir = true := hm
              rw [hm] at c8
              have hE := unhide HF ⟨#[89]⟩ (by rw [hm]; rfl)
              have HE := hide hE
              clear hE hm HF
              go_wp2_with fail
              refine (unhide HSH r.twin W2).mono ?_
              rintro e w3 ⟨rfl, hb3⟩
              rw [unhide HT1]
              have B3 := hide ((unhide B2).trans (hb3.mono (unhide B2).size))
              have rr := (unhide HR2).below hb3
              have HR3 := hide rr
              have d4 := rr.cell (j := 4) rfl
              rw [unhide HCA2] at d4
              have d6 := rr.cell (j := 6) rfl
              have d8 := rr.cell (j := 8) rfl
              rw [unhide HM2] at d8
              clear c4 c6 c7 c8 hb3 rr
              go_wp2
              go_ret
              rw [unhide HE]
              exact ⟨rfl, unhide B3⟩
          · have k0 : decide (1 ≤ r.cls) = false := decide_eq_false hk0x
            have k1' : ¬ (1 : Int) ≤ r.cls := hk0x
            clear hk hk0x
            cases hm : r.mir
            · have HM2 := hide hm
              have hm : r.mir = false := hm
              rw [hm] at c8
              have hE := unhide HF ⟨#[78]⟩ (by rw [hm]; rfl)
              have HE := hide hE
              clear hE hm HF
              go_wp2_with fail
              refine (unhide HSH r.twin W2).mono ?_
              rintro e w3 ⟨rfl, hb3⟩
              rw [unhide HT1]
              have B3 := hide ((unhide B2).trans (hb3.mono (unhide B2).size))
              have rr := (unhide HR2).below hb3
              have HR3 := hide rr
              have d4 := rr.cell (j := 4) rfl
              rw [unhide HCA2] at d4
              have d6 := rr.cell (j := 6) rfl
              have d8 := rr.cell (j := 8) rfl
              rw [unhide HM2] at d8
              clear c4 c6 c7 c8 hb3 rr
              go_wp2
              go_ret
              rw [unhide HE]
              exact ⟨rfl, unhide B3⟩
            · have HM2 := hide hm
              have hm : r.mir = true := hm
              rw [hm] at c8
              have hE := unhide HF ⟨#[89]⟩ (by rw [hm]; rfl)
              have HE := hide hE
              clear hE hm HF
              go_wp2_with fail
              refine (unhide HSH r.twin W2).mono ?_
              rintro e w3 ⟨rfl, hb3⟩
              rw [unhide HT1]
              have B3 := hide ((unhide B2).trans (hb3.mono (unhide B2).size))
              have rr := (unhide HR2).below hb3
              have HR3 := hide rr
              have d4 := rr.cell (j := 4) rfl
              rw [unhide HCA2] at d4
              have d6 := rr.cell (j := 6) rfl
              have d8 := rr.cell (j := 8) rfl
              rw [unhide HM2] at d8
              clear c4 c6 c7 c8 hb3 rr
              go_wp2
              go_ret
              rw [unhide HE]
              exact ⟨rfl, unhide B3⟩
end Go.Proofs.YthjnkagepooeiaaGreatDoor
/-
  The document's one: a row's lines, if they are read as it; its Same.
-/
namespace Go.Proofs.YthjnkagepooeiaaGreatDoor
open Go.RowKit Go.PlainAid Go.Lib Go.PHexM Go.Shelf Go.Sort
set_option linter.unusedVariables false
set_option linter.unusedSimpArgs false

theorem same_iff (x r : RowD) : ({ x with line := 0 } : RowD) = { r with line := 0 } ↔ x = { r with line := x.line } := by
  cases x; cases r; simp
set_option maxRecDepth 100000 in
set_option maxHeartbeats 4000000 in
theorem refSame6_any (x r : RowD) (w : World) :
    Calls Tryz.prog 54 #[rowV x, rowV r] w fun e w' => e = .returned (.bool (decide (x = { r with line := x.line }))) ∧ Below w.heap.size w w' := by
  obtain ⟨Wa, hWa⟩ : ∃ Wa, w.alloc (.cells (rowC x).toArray 29) = Wa := ⟨_, rfl⟩
  have hba : Below w.heap.size w Wa := by rw [← hWa]; exact (Below.refl _ w).alloc (Nat.le_refl _) _
  have ra : RowAt Wa w.heap.size x := by rw [← hWa]; exact heap_alloc_new w _
  have hWa' : w.alloc (.cells #[.int .i64 x.line, .int .i32 x.first, .int .i32 x.last, .string (S x.name), .string (S x.cat), .int .u8 x.comb, .int .u8 x.cls, .int .i32 x.twin, .bool x.mir] 29) = Wa := hWa
  obtain ⟨Wb, hWb⟩ : ∃ Wb, Wa.alloc (.cells (rowC r).toArray 29) = Wb := ⟨_, rfl⟩
  have hbb : Below Wa.heap.size Wa Wb := by rw [← hWb]; exact (Below.refl _ Wa).alloc (Nat.le_refl _) _
  have rb : RowAt Wb Wa.heap.size r := by rw [← hWb]; exact heap_alloc_new Wa _
  have hWb' : Wa.alloc (.cells #[.int .i64 r.line, .int .i32 r.first, .int .i32 r.last, .string (S r.name), .string (S r.cat), .int .u8 r.comb, .int .u8 r.cls, .int .i32 r.twin, .bool r.mir] 29) = Wb := hWb
  have rab := ra.below hbb
  obtain ⟨k, hk⟩ : ∃ k, Wa.heap.size = k := ⟨_, rfl⟩
  have hkw : w.heap.size < k := by rw [← hk]; exact World.block_lt_of_cell? _ _ (ra.cell (j := 0) rfl)
  rw [hk] at rb
  have a0 := rab.cell (j := 0) rfl
  have af := rab.frozen 0
  obtain ⟨W1, hW1⟩ : ∃ W1, Wb.setCell ⟨w.heap.size, 0, none⟩ (.int .i64 0) = W1 := ⟨_, rfl⟩
  have r1 : RowAt W1 w.heap.size { x with line := 0 } := by rw [← hW1]; exact rab.set (r' := { x with line := 0 }) 0 (.int .i64 0) rfl
  have s1 : RowAt W1 k r := by
    rw [← hW1]
    exact (Below.heap_setCell _ ⟨w.heap.size, 0, none⟩ _ _ (show k ≠ w.heap.size by omega)).trans rb
  have b0 := s1.cell (j := 0) rfl
  have bf := s1.frozen 0
  obtain ⟨W2, hW2⟩ : ∃ W2, W1.setCell ⟨k, 0, none⟩ (.int .i64 0) = W2 := ⟨_, rfl⟩
  have s2 : RowAt W2 k { r with line := 0 } := by rw [← hW2]; exact s1.set (r' := { r with line := 0 }) 0 (.int .i64 0) rfl
  have r2 : RowAt W2 w.heap.size { x with line := 0 } := by
    rw [← hW2]
    exact (Below.heap_setCell _ ⟨k, 0, none⟩ _ _ (show w.heap.size ≠ k by omega)).trans r1
  have hB : Below w.heap.size w W2 := by
    rw [← hW2, ← hW1]
    exact ((hba.trans (hbb.mono hba.size)).setCell (p := ⟨w.heap.size, 0, none⟩) (Nat.le_refl _) _).setCell (p := ⟨k, 0, none⟩) (Nat.le_of_lt hkw) _
  have y0 := r2.cell (j := 0) rfl
  have y1 := r2.cell (j := 1) rfl
  have y2 := r2.cell (j := 2) rfl
  have y3 := r2.cell (j := 3) rfl
  have y4 := r2.cell (j := 4) rfl
  have y5 := r2.cell (j := 5) rfl
  have y6 := r2.cell (j := 6) rfl
  have y7 := r2.cell (j := 7) rfl
  have y8 := r2.cell (j := 8) rfl
  have z0 := s2.cell (j := 0) rfl
  have z1 := s2.cell (j := 1) rfl
  have z2 := s2.cell (j := 2) rfl
  have z3 := s2.cell (j := 3) rfl
  have z4 := s2.cell (j := 4) rfl
  have z5 := s2.cell (j := 5) rfl
  have z6 := s2.cell (j := 6) rfl
  have z7 := s2.cell (j := 7) rfl
  have z8 := s2.cell (j := 8) rfl
  have HB := hide hB
  have heq := fun W => rowEq { x with line := 0 } { r with line := 0 } W
  have hd : decide (({ x with line := 0 } : RowD) = { r with line := 0 }) = decide (x = { r with line := x.line }) := decide_eq_decide.2 (same_iff x r)
  simp only [hd] at heq
  have hkk : Wa.heap.size = k := hk
  clear hWa hWb hba hbb ra rb rab r1 s1 r2 s2 hB hd hk
  by_cases h : x = { r with line := x.line }
  · rw [decide_eq_true h]
    have g1 : x.first = r.first := by rw [h]
    have g2 : x.last = r.last := by rw [h]
    have g3 : x.name = r.name := by rw [h]
    have g4 : x.cat = r.cat := by rw [h]
    have g5 : x.comb = r.comb := by rw [h]
    have g6 : x.cls = r.cls := by rw [h]
    have g7 : x.twin = r.twin := by rw [h]
    have g8 : x.mir = r.mir := by rw [h]
    simp only [g1] at y1
    simp only [g2] at y2
    simp only [g3] at y3
    simp only [g4] at y4
    simp only [g5] at y5
    simp only [g6] at y6
    simp only [g7] at y7
    simp only [g8] at y8
    clear h heq g1 g2 g3 g4 g5 g6 g7 g8
    go_enter Tryz.func54, Tryz.ntmps54
    go_wp2
    go_ret
    exact ⟨rfl, unhide HB⟩
  · rw [decide_eq_false h] at heq ⊢
    clear h
    go_enter Tryz.func54, Tryz.ntmps54
    go_wp2
    go_ret
    exact ⟨rfl, unhide HB⟩
end Go.Proofs.YthjnkagepooeiaaGreatDoor
/-
  The document's one: a row's lines, if they are read as it.
-/
namespace Go.Proofs.YthjnkagepooeiaaGreatDoor
open Go.RowKit Go.PlainAid Go.Lib Go.PHexM Go.Shelf Go.Sort
set_option linter.unusedVariables false
set_option linter.unusedSimpArgs false

set_option maxRecDepth 100000 in
set_option maxHeartbeats 4000000 in
theorem refOne_any (r : RowD) (w : World) (hro : RowOk r) :
    Calls Tryz.prog 51 #[rowV r] w fun e w' => e = .returned (.tuple #[.string (if okR r (oneT r) then oneT r else ⟨#[]⟩), .bool (okR r (oneT r))]) ∧ Below w.heap.size w w' := by
  obtain ⟨hc0, hc1, hk0, hk1, hsz⟩ := hro
  obtain ⟨Wa, hWa⟩ : ∃ Wa, w.alloc (.cells (rowC r).toArray 29) = Wa := ⟨_, rfl⟩
  have hba : Below w.heap.size w Wa := by rw [← hWa]; exact (Below.refl _ w).alloc (Nat.le_refl _) _
  have ra : RowAt Wa w.heap.size r := by rw [← hWa]; exact heap_alloc_new w _
  have hWa' : w.alloc (.cells #[.int .i64 r.line, .int .i32 r.first, .int .i32 r.last, .string (S r.name), .string (S r.cat), .int .u8 r.comb, .int .u8 r.cls, .int .i32 r.twin, .bool r.mir] 29) = Wa := hWa
  have hsn : (S r.name).size = r.name.length := S_size _
  have a3 := halfT_size r.name firstE (by decide)
  have a4 := halfT_size r.name lastE (by decide)
  have HL0 := hide (refLine_any r (S r.name) r.first Wa hc0 hc1 hk0 hk1 (by omega))
  have HLF := hide (fun V => refLine_any r (halfT r.name firstE) r.first V hc0 hc1 hk0 hk1 (by omega))
  have HLL := hide (fun V => refLine_any r (halfT r.name lastE) r.last V hc0 hc1 hk0 hk1 (by omega))
  have z1 := lineT_size r (halfT r.name firstE) r.first hc0 hc1
  have z2 := lineT_size r (halfT r.name lastE) r.last hc0 hc1
  have hos := oneT_size r hc0 hc1
  have c0 := ra.cell (j := 0) rfl
  have c1 := ra.cell (j := 1) rfl
  have c2 := ra.cell (j := 2) rfl
  have c3 := ra.cell (j := 3) rfl
  have c4 := ra.cell (j := 4) rfl
  have c5 := ra.cell (j := 5) rfl
  have c6 := ra.cell (j := 6) rfl
  have c7 := ra.cell (j := 7) rfl
  have c8 := ra.cell (j := 8) rfl
  have HBA := hide hba
  have HRA := hide ra
  obtain ⟨T, hT⟩ : ∃ T, oneT r = T := ⟨_, rfl⟩
  rw [hT] at hos ⊢
  have hTs : T.size ≤ 4194500 := by omega
  obtain ⟨o, ho⟩ : ∃ o, okR r T = o := ⟨_, rfl⟩
  rw [ho]
  have HO := hide ho
  obtain ⟨OT, hOT⟩ : ∃ OT : ByteArray, (if o = true then T else ⟨#[]⟩) = OT := ⟨_, rfl⟩
  rw [hOT]
  have HOT2 := hide hOT
  have HTT := hide hT
  clear hWa hc0 hc1 hk0 hk1 ra hba ho hT hos hOT
  go_enter Tryz.func51, Tryz.ntmps51
  by_cases h0 : r.first = r.last
  · have d0 : (r.first == r.last) = true := by simp [h0]
    have HE : Hid (lineT r (S r.name) r.first = T) := by show _ = _; rw [← unhide HTT]; unfold oneT; rw [if_pos h0]
    rw [HE.out] at HL0
    have H0 := hide h0
    clear h0 a3 a4 z1 z2 hsz hsn
    go_wp2_with fail
    refine (unhide HL0).mono ?_
    rintro e w1 ⟨rfl, hb1⟩
    have B1 := hide ((unhide HBA).trans (hb1.mono (unhide HBA).size))
    have HR1 := hide ((unhide HRA).below hb1)
    clear hb1
    have HRD := hide (refRead6_any T w1 (by omega))
    clear hTs
    go_wp2_with fail
    refine (unhide HRD).mono ?_
    rintro e w5 ⟨hb5, hr5⟩
    have B5 := hide ((unhide B1).trans (hb5.mono (unhide B1).size))
    have rr := (unhide HR1).below hb5
    have v0 := rr.cell (j := 0) rfl
    have v1 := rr.cell (j := 1) rfl
    have v2 := rr.cell (j := 2) rfl
    have v3 := rr.cell (j := 3) rfl
    have v4 := rr.cell (j := 4) rfl
    have v5 := rr.cell (j := 5) rfl
    have v6 := rr.cell (j := 6) rfl
    have v7 := rr.cell (j := 7) rfl
    have v8 := rr.cell (j := 8) rfl
    have HR5 := hide rr
    clear rr c0 c1 c2 c3 c4 c5 c6 c7 c8 HRD
    rcases hr5 with ⟨hn1, v1, rfl, ho1⟩ | ⟨no, code, hf1, hc0, rfl⟩
    · obtain ⟨n, hn⟩ : ∃ n, (rowsS T).1.length = n := ⟨_, rfl⟩
      obtain ⟨oa, oc, rfl, hoc, hom⟩ := rowsAt_mem ho1
      rw [hn] at hoc ⊢
      by_cases h1 : n = 1
      · subst h1
        obtain ⟨x, hx⟩ := List.length_eq_one_iff.1 hn
        have HOD : Hid (o = decide (x = { r with line := x.line })) := (unhide HO).symm.trans (okR_one hn1 hx)
        have hm := hom 0 x (by rw [hx]; rfl)
        obtain ⟨g, off, rfl, hc⟩ := hm
        have x0 := hc 0 _ rfl
        have x1 := hc 1 _ rfl
        have x2 := hc 2 _ rfl
        have x3 := hc 3 _ rfl
        have x4 := hc 4 _ rfl
        have x5 := hc 5 _ rfl
        have x6 := hc 6 _ rfl
        have x7 := hc 7 _ rfl
        have x8 := hc 8 _ rfl
        simp only [Nat.zero_mul, Nat.add_zero] at x0 x1 x2 x3 x4 x5 x6 x7 x8
        have X0 := fun dq os => cell_regrown x0 dq os
        have X1 := fun dq os => cell_regrown x1 dq os
        have X2 := fun dq os => cell_regrown x2 dq os
        have X3 := fun dq os => cell_regrown x3 dq os
        have X4 := fun dq os => cell_regrown x4 dq os
        have X5 := fun dq os => cell_regrown x5 dq os
        have X6 := fun dq os => cell_regrown x6 dq os
        have X7 := fun dq os => cell_regrown x7 dq os
        have X8 := fun dq os => cell_regrown x8 dq os
        have Y0 := fun dq os => cell_regrown v0 dq os
        have Y1 := fun dq os => cell_regrown v1 dq os
        have Y2 := fun dq os => cell_regrown v2 dq os
        have Y3 := fun dq os => cell_regrown v3 dq os
        have Y4 := fun dq os => cell_regrown v4 dq os
        have Y5 := fun dq os => cell_regrown v5 dq os
        have Y6 := fun dq os => cell_regrown v6 dq os
        have Y7 := fun dq os => cell_regrown v7 dq os
        have Y8 := fun dq os => cell_regrown v8 dq os
        have HSM := hide (fun V => refSame6_any x r V)
        clear hn1 hn hom ho1 hx hc hb5
        cases hoo : o
        · have hd := (unhide HOD).symm.trans hoo
          rw [hd] at HSM
          clear hd
          go_wp2_with fail
          refine wp_region_quiet_below (by kernel_rfl) (by kernel_rfl) ?_
          repeat (go_big_quiet_step (first | (go_at_call 54; with_reducible exact Calls.regrown_of (unhide HSM _))))
          refine wpQuiet_nil ?_
          intro _ hw'
          obtain ⟨⟨dq, osq⟩, hw''⟩ := hw'
          subst hw''
          have hb6 : Below w5.heap.size w5 (Sort.grow (redrawn w5 dq) osq) := below_regrown w5 dq osq
          generalize Sort.grow (redrawn w5 dq) osq = w6 at hb6 ⊢
          have HB6 := hide ((unhide B5).trans (hb6.mono (unhide B5).size))
          have HOO := hide hoo
          clear X0 X1 X2 X3 X4 X5 X6 X7 X8 Y0 Y1 Y2 Y3 Y4 Y5 Y6 Y7 Y8 hb6 hoo
          simp only [Exit.then]
          go_wp2
          go_ret2
          rw [← unhide HOT2, unhide HOO]
          exact ⟨rfl, unhide HB6⟩
        · have hd := (unhide HOD).symm.trans hoo
          rw [hd] at HSM
          clear hd
          go_wp2_with fail
          refine wp_region_quiet_below (by kernel_rfl) (by kernel_rfl) ?_
          repeat (go_big_quiet_step (first | (go_at_call 54; with_reducible exact Calls.regrown_of (unhide HSM _))))
          refine wpQuiet_nil ?_
          intro _ hw'
          obtain ⟨⟨dq, osq⟩, hw''⟩ := hw'
          subst hw''
          have hb6 : Below w5.heap.size w5 (Sort.grow (redrawn w5 dq) osq) := below_regrown w5 dq osq
          generalize Sort.grow (redrawn w5 dq) osq = w6 at hb6 ⊢
          have HB6 := hide ((unhide B5).trans (hb6.mono (unhide B5).size))
          have HOO := hide hoo
          clear X0 X1 X2 X3 X4 X5 X6 X7 X8 Y0 Y1 Y2 Y3 Y4 Y5 Y6 Y7 Y8 hb6 hoo
          simp only [Exit.then]
          go_wp2
          go_ret2
          rw [← unhide HOT2, unhide HOO]
          exact ⟨rfl, unhide HB6⟩
      · have HOT : Hid (o = false) := (unhide HO).symm.trans (okR_many (by rw [hn]; exact h1))
        have d1 : ((n : Int) != 1) = true := by simp; omega
        clear hom ho1 hoc hb5
        go_wp2
        go_quiet (fail)
        go_wp2
        go_ret2
        rw [← unhide HOT2, unhide HOT]
        exact ⟨rfl, below_drewN (unhide B5) _⟩
    · have HOT : Hid (o = false) := (unhide HO).symm.trans (okR_fault hf1)
      have dC : (code != 0) = true := by simpa using hc0
      clear hb5
      go_wp2
      go_quiet (fail)
      go_wp2
      go_ret2
      rw [← unhide HOT2, unhide HOT]
      exact ⟨rfl, below_drewN (unhide B5) _⟩
  · have d0 : (r.first == r.last) = false := by simp [h0]
    have HE : Hid (lineT r (halfT r.name firstE) r.first ++ lineT r (halfT r.name lastE) r.last = T) := by show _ = _; rw [← unhide HTT]; unfold oneT; rw [if_neg h0]
    have X0 := fun dq os => cell_regrown c0 dq os
    have X1 := fun dq os => cell_regrown c1 dq os
    have X2 := fun dq os => cell_regrown c2 dq os
    have X3 := fun dq os => cell_regrown c3 dq os
    have X4 := fun dq os => cell_regrown c4 dq os
    have X5 := fun dq os => cell_regrown c5 dq os
    have X6 := fun dq os => cell_regrown c6 dq os
    have X7 := fun dq os => cell_regrown c7 dq os
    have X8 := fun dq os => cell_regrown c8 dq os
    obtain ⟨T1, hT1⟩ : ∃ T1, lineT r (halfT r.name firstE) r.first = T1 := ⟨_, rfl⟩
    obtain ⟨T2, hT2⟩ : ∃ T2, lineT r (halfT r.name lastE) r.last = T2 := ⟨_, rfl⟩
    rw [hT1] at HLF z1 HE
    rw [hT2] at HLL z2 HE
    have zz1 : T1.size ≤ 1000000000 := by omega
    have zz2 : T2.size ≤ 1000000000 := by omega
    have q1 : ¬ 9223372036854775807 < 1 + r.name.length := by omega
    have q2 : ¬ 9223372036854775807 < 1 + r.name.length + 8 := by omega
    have q3 : ¬ 9223372036854775807 < 1 + r.name.length + 7 := by omega
    have q4 : ¬ 9223372036854775807 < T1.size + T2.size := by omega
    clear h0 a3 a4 hsz hT1 hT2 z1 z2 hsn
    go_wp2_with fail
    refine wp_region_quiet_below (by kernel_rfl) (by kernel_rfl) ?_
    repeat (go_big_quiet_step (first | (go_at_call 81; first | with_reducible exact Calls.regrown_of (unhide HLF _) | with_reducible exact Calls.regrown_of (unhide HLL _))))
    refine wpQuiet_nil ?_
    intro _ hw'
    obtain ⟨⟨dq, osq⟩, hw''⟩ := hw'
    subst hw''
    have hb1 : Below Wa.heap.size Wa (Sort.grow (redrawn Wa dq) osq) := below_regrown Wa dq osq
    generalize Sort.grow (redrawn Wa dq) osq = w1 at hb1 ⊢
    simp only [Exit.then]
    rw [HE.out]
    have B1 := hide ((unhide HBA).trans (hb1.mono (unhide HBA).size))
    have HR1 := hide ((unhide HRA).below hb1)
    clear hb1 X0 X1 X2 X3 X4 X5 X6 X7 X8 q1 q2 q3 q4 zz1 zz2
    have HRD := hide (refRead6_any T w1 (by omega))
    clear hTs
    go_wp2_with fail
    refine (unhide HRD).mono ?_
    rintro e w5 ⟨hb5, hr5⟩
    have B5 := hide ((unhide B1).trans (hb5.mono (unhide B1).size))
    have rr := (unhide HR1).below hb5
    have v0 := rr.cell (j := 0) rfl
    have v1 := rr.cell (j := 1) rfl
    have v2 := rr.cell (j := 2) rfl
    have v3 := rr.cell (j := 3) rfl
    have v4 := rr.cell (j := 4) rfl
    have v5 := rr.cell (j := 5) rfl
    have v6 := rr.cell (j := 6) rfl
    have v7 := rr.cell (j := 7) rfl
    have v8 := rr.cell (j := 8) rfl
    have HR5 := hide rr
    clear rr c0 c1 c2 c3 c4 c5 c6 c7 c8 HRD
    rcases hr5 with ⟨hn1, v1, rfl, ho1⟩ | ⟨no, code, hf1, hc0, rfl⟩
    · obtain ⟨n, hn⟩ : ∃ n, (rowsS T).1.length = n := ⟨_, rfl⟩
      obtain ⟨oa, oc, rfl, hoc, hom⟩ := rowsAt_mem ho1
      rw [hn] at hoc ⊢
      by_cases h1 : n = 1
      · subst h1
        obtain ⟨x, hx⟩ := List.length_eq_one_iff.1 hn
        have HOD : Hid (o = decide (x = { r with line := x.line })) := (unhide HO).symm.trans (okR_one hn1 hx)
        have hm := hom 0 x (by rw [hx]; rfl)
        obtain ⟨g, off, rfl, hc⟩ := hm
        have x0 := hc 0 _ rfl
        have x1 := hc 1 _ rfl
        have x2 := hc 2 _ rfl
        have x3 := hc 3 _ rfl
        have x4 := hc 4 _ rfl
        have x5 := hc 5 _ rfl
        have x6 := hc 6 _ rfl
        have x7 := hc 7 _ rfl
        have x8 := hc 8 _ rfl
        simp only [Nat.zero_mul, Nat.add_zero] at x0 x1 x2 x3 x4 x5 x6 x7 x8
        have X0 := fun dq os => cell_regrown x0 dq os
        have X1 := fun dq os => cell_regrown x1 dq os
        have X2 := fun dq os => cell_regrown x2 dq os
        have X3 := fun dq os => cell_regrown x3 dq os
        have X4 := fun dq os => cell_regrown x4 dq os
        have X5 := fun dq os => cell_regrown x5 dq os
        have X6 := fun dq os => cell_regrown x6 dq os
        have X7 := fun dq os => cell_regrown x7 dq os
        have X8 := fun dq os => cell_regrown x8 dq os
        have Y0 := fun dq os => cell_regrown v0 dq os
        have Y1 := fun dq os => cell_regrown v1 dq os
        have Y2 := fun dq os => cell_regrown v2 dq os
        have Y3 := fun dq os => cell_regrown v3 dq os
        have Y4 := fun dq os => cell_regrown v4 dq os
        have Y5 := fun dq os => cell_regrown v5 dq os
        have Y6 := fun dq os => cell_regrown v6 dq os
        have Y7 := fun dq os => cell_regrown v7 dq os
        have Y8 := fun dq os => cell_regrown v8 dq os
        have HSM := hide (fun V => refSame6_any x r V)
        clear hn1 hn hom ho1 hx hc hb5
        cases hoo : o
        · have hd := (unhide HOD).symm.trans hoo
          rw [hd] at HSM
          clear hd
          go_wp2_with fail
          refine wp_region_quiet_below (by kernel_rfl) (by kernel_rfl) ?_
          repeat (go_big_quiet_step (first | (go_at_call 54; with_reducible exact Calls.regrown_of (unhide HSM _))))
          refine wpQuiet_nil ?_
          intro _ hw'
          obtain ⟨⟨dq, osq⟩, hw''⟩ := hw'
          subst hw''
          have hb6 : Below w5.heap.size w5 (Sort.grow (redrawn w5 dq) osq) := below_regrown w5 dq osq
          generalize Sort.grow (redrawn w5 dq) osq = w6 at hb6 ⊢
          have HB6 := hide ((unhide B5).trans (hb6.mono (unhide B5).size))
          have HOO := hide hoo
          clear X0 X1 X2 X3 X4 X5 X6 X7 X8 Y0 Y1 Y2 Y3 Y4 Y5 Y6 Y7 Y8 hb6 hoo
          simp only [Exit.then]
          go_wp2
          go_ret2
          rw [← unhide HOT2, unhide HOO]
          exact ⟨rfl, unhide HB6⟩
        · have hd := (unhide HOD).symm.trans hoo
          rw [hd] at HSM
          clear hd
          go_wp2_with fail
          refine wp_region_quiet_below (by kernel_rfl) (by kernel_rfl) ?_
          repeat (go_big_quiet_step (first | (go_at_call 54; with_reducible exact Calls.regrown_of (unhide HSM _))))
          refine wpQuiet_nil ?_
          intro _ hw'
          obtain ⟨⟨dq, osq⟩, hw''⟩ := hw'
          subst hw''
          have hb6 : Below w5.heap.size w5 (Sort.grow (redrawn w5 dq) osq) := below_regrown w5 dq osq
          generalize Sort.grow (redrawn w5 dq) osq = w6 at hb6 ⊢
          have HB6 := hide ((unhide B5).trans (hb6.mono (unhide B5).size))
          have HOO := hide hoo
          clear X0 X1 X2 X3 X4 X5 X6 X7 X8 Y0 Y1 Y2 Y3 Y4 Y5 Y6 Y7 Y8 hb6 hoo
          simp only [Exit.then]
          go_wp2
          go_ret2
          rw [← unhide HOT2, unhide HOO]
          exact ⟨rfl, unhide HB6⟩
      · have HOT : Hid (o = false) := (unhide HO).symm.trans (okR_many (by rw [hn]; exact h1))
        have d1 : ((n : Int) != 1) = true := by simp; omega
        clear hom ho1 hoc hb5
        go_wp2
        go_quiet (fail)
        go_wp2
        go_ret2
        rw [← unhide HOT2, unhide HOT]
        exact ⟨rfl, below_drewN (unhide B5) _⟩
    · have HOT : Hid (o = false) := (unhide HO).symm.trans (okR_fault hf1)
      have dC : (code != 0) = true := by simpa using hc0
      clear hb5
      go_wp2
      go_quiet (fail)
      go_wp2
      go_ret2
      rw [← unhide HOT2, unhide HOT]
      exact ⟨rfl, below_drewN (unhide B5) _⟩
end Go.Proofs.YthjnkagepooeiaaGreatDoor
/-
  The document's Check and Print; Check of package rows.
-/
namespace Go.Proofs.YthjnkagepooeiaaGreatDoor
open Go.RowKit Go.PlainAid Go.Lib Go.PHexM Go.Shelf Go.Sort
set_option linter.unusedVariables false
set_option linter.unusedSimpArgs false

theorem chkGo_zero (rs : List RowD) : ∀ k i, chkGo rs k i = 0 → ∀ j, i ≤ j → j < i + k → stR rs j = 0
  | 0, i, _, j, h1, h2 => by omega
  | k + 1, i, h, j, h1, h2 => by
    unfold chkGo at h
    by_cases h0 : stR rs i = 0
    · rw [if_neg (by simp [h0])] at h
      by_cases hj : j = i
      · rw [hj]; exact h0
      · exact chkGo_zero rs k (i + 1) h j (by omega) (by omega)
    · rw [if_pos h0] at h
      exact absurd h h0
theorem chk_zero {rs : List RowD} (h : chkR rs = 0) {j : Nat} (hj : j < rs.length) : stR rs j = 0 := chkGo_zero rs _ 0 h j (Nat.zero_le _) (by omega)
theorem st_ok {rs : List RowD} {i : Nat} {r : RowD} (hx : rs[i]? = some r) (h : stR rs i = 0) : okR r (oneT r) = true := by
  rw [st_at hx] at h
  cases ho : okR r (oneT r)
  · rw [ho, if_pos rfl] at h; cases h
  · rfl
set_option maxRecDepth 100000 in
set_option maxHeartbeats 4000000 in
theorem check6_any (rs : List RowD) (a : Option Addr) (n c : Nat) (w : World) (hg : Glob w) (ht : tz16At w) (hn : rs.length = n) (hnb : n ≤ 1048577) (hr : ∀ r ∈ rs, RowOk r) (hm : RwMem w a rs) :
    Calls Tryz.prog 24 #[.slice a n c] w fun e w' => e = .returned (.int .i64 (chkR rs)) ∧ Below w.heap.size w w' := by
  have HP := hide (print6_any rs a n c w hg ht hn hnb hr hm)
  clear hg ht hn hr hm
  go_enter Tryz.func24, Tryz.ntmps24
  go_wp2_with fail
  refine (unhide HP).mono ?_
  rintro e w1 ⟨rfl, hb1⟩
  go_wp2
  go_ret
  exact ⟨rfl, hb1⟩

set_option maxRecDepth 100000 in
set_option maxHeartbeats 4000000 in
theorem refCheck_any6 (rs : List RowD) (a : Option Addr) (n c : Nat) (w : World) (hn : rs.length = n) (hnb : n ≤ 1048577) (hr : ∀ r ∈ rs, RowOk r) (hm : RwMem w a rs) :
    Calls Tryz.prog 25 #[.slice a n c] w fun e w' => e = .returned (.int .i64 (chkR rs)) ∧ Below w.heap.size w w' := by
  have HN := hide hn
  have HM := hide hm
  have HRO := hide hr
  clear hn hm hr
  obtain ⟨CT, hCT⟩ : ∃ CT, chkR rs = CT := ⟨_, rfl⟩
  rw [hCT]
  have HCT := hide hCT
  clear hCT
  go_enter Tryz.func25, Tryz.ntmps25
  go_wp2
  go_loopw [3] (fun v3 wr => ∃ i : Nat, i ≤ n ∧ v3 = .int .i64 (i : Nat) ∧ Hid (chkR rs = chkGo rs (n - i) i) ∧ Hid (Below w.heap.size w wr)) (fun v3 _ => n - (RowKit.intOf v3).toNat)
  case atStart => exact ⟨0, Nat.zero_le _, rfl, by show _ = _; unfold chkR; rw [unhide HN]; rfl, Below.refl _ _⟩
  case round =>
    obtain ⟨i, hi, rfl, HC, HB⟩ := hrel
    by_cases hlt : i < n
    · obtain ⟨r, hx⟩ : ∃ r, rs[i]? = some r := ⟨_, List.getElem?_eq_getElem (by rw [unhide HN]; exact hlt)⟩
      have hro := unhide HRO r (List.mem_of_getElem? hx)
      obtain ⟨g, off, rfl, hc⟩ := ((unhide HM).below (unhide HB)) i r hx
      have x0 := hc 0 _ rfl
      have x1 := hc 1 _ rfl
      have x2 := hc 2 _ rfl
      have x3 := hc 3 _ rfl
      have x4 := hc 4 _ rfl
      have x5 := hc 5 _ rfl
      have x6 := hc 6 _ rfl
      have x7 := hc 7 _ rfl
      have x8 := hc 8 _ rfl
      simp only [Nat.add_zero] at x0
      have hlt' : (i : Int) < (n : Int) := by omega
      have hq1 : IntKind.i64.wrap ((i : Int) + 1) = (i : Int) + 1 := by rw [IntKind.wrap_i64]; omega
      have HST := hide (st_at hx)
      have HONE := hide (refOne_any r wr hro)
      obtain ⟨o, ho⟩ : ∃ o, okR r (oneT r) = o := ⟨_, rfl⟩
      rw [ho] at HONE HST
      obtain ⟨OT, hOT⟩ : ∃ OT : ByteArray, (if o = true then oneT r else ⟨#[]⟩) = OT := ⟨_, rfl⟩
      rw [hOT] at HONE
      clear hc ho hOT hro
      go_wp2_with fail
      refine (unhide HONE).mono ?_
      rintro e w2 ⟨rfl, hb2⟩
      have B2 := hide ((unhide HB).trans (hb2.mono (unhide HB).size))
      clear x0 x1 x2 x3 x4 x5 x6 x7 x8
      obtain ⟨g1, off1, e1, hc1⟩ := ((unhide HM).below (unhide B2)) i r hx
      simp only [Option.some.injEq, Addr.mk.injEq, and_true] at e1
      obtain ⟨rfl, rfl⟩ := e1
      have x1 := hc1 1 _ rfl
      clear hb2 hx hc1 HONE
      cases o
      · have HE : Hid (CT = 2) := by
          have h1 : stR rs i = 2 := by rw [unhide HST, if_pos rfl]
          have h2 := chk_bad (unhide HC) hlt (by rw [h1]; decide)
          rw [h1] at h2
          exact (unhide HCT).symm.trans h2
        go_wp2
        go_ret
        rw [unhide HE]
        exact ⟨rfl, unhide B2⟩
      · by_cases hz : i = 0
        · subst hz
          have HS0 : Hid (stR rs 0 = 0) := by show _ = _; rw [unhide HST, if_neg (by decide), if_neg (by omega)]
          have HC5 := hide (chk_good (unhide HC) hlt (unhide HS0))
          go_wp2
          go_quiet (fail)
          go_wp2
          go_roundw
          case rel => exact ⟨0 + 1, by omega, by go_num, unhide HC5, below_drewN (unhide B2) _⟩
          case measure => simp [RowKit.intOf]; omega
        · obtain ⟨j, rfl⟩ : ∃ j, i = j + 1 := ⟨i - 1, by omega⟩
          obtain ⟨q, hq⟩ : ∃ q, rs[j]? = some q := ⟨_, List.getElem?_eq_getElem (by rw [unhide HN]; omega)⟩
          obtain ⟨g', off', e', hc'⟩ := ((unhide HM).below (unhide B2)) j q hq
          simp only [Option.some.injEq, Addr.mk.injEq, and_true] at e'
          obtain ⟨rfl, rfl⟩ := e'
          have p2 := hc' 2 _ rfl
          have hqs : ((rs[j + 1 - 1]?).getD zeroR).last = q.last := by rw [Nat.add_sub_cancel, hq]; rfl
          rw [hqs] at HST
          have hq2 : IntKind.i64.wrap (j : Int) = (j : Int) := by rw [IntKind.wrap_i64]; omega
          have hq3 : IntKind.i64.wrap (((j + 1 : Nat) : Int) - 1) = (j : Int) := by rw [IntKind.wrap_i64]; omega
          have hg0 : decide ((0 : Int) < ((j + 1 : Nat) : Int)) = true := decide_eq_true (by omega)
          clear hc' hq hqs
          by_cases hle : r.first ≤ q.last
          · have HE : Hid (CT = 62) := by
              have h1 : stR rs (j + 1) = 62 := by rw [unhide HST, if_neg (by decide), if_pos ⟨by omega, hle⟩]
              have h2 := chk_bad (unhide HC) hlt (by rw [h1]; decide)
              rw [h1] at h2
              exact (unhide HCT).symm.trans h2
            have dle : decide (r.first ≤ q.last) = true := decide_eq_true hle
            go_wp2
            go_quiet (fail)
            go_wp2
            go_ret
            rw [unhide HE]
            exact ⟨rfl, below_drewN (unhide B2) _⟩
          · have dle : decide (r.first ≤ q.last) = false := decide_eq_false hle
            have HS0 : Hid (stR rs (j + 1) = 0) := by show _ = _; rw [unhide HST, if_neg (by decide), if_neg (by omega)]
            have HC5 := hide (chk_good (unhide HC) hlt (unhide HS0))
            have HLE := hide hle
            clear hle
            go_wp2
            go_quiet (fail)
            go_wp2
            go_roundw
            case rel => exact ⟨j + 1 + 1, by omega, by go_num, unhide HC5, below_drewN (unhide B2) _⟩
            case measure => simp [RowKit.intOf]; omega
    · obtain rfl : i = n := by omega
      have HE : Hid (CT = 0) := by
        have h2 := unhide HC
        rw [Nat.sub_self] at h2
        exact (unhide HCT).symm.trans h2
      go_wp2
      go_ret
      rw [unhide HE]
      exact ⟨rfl, unhide HB⟩

set_option maxRecDepth 100000 in
set_option maxHeartbeats 4000000 in
theorem refPrint_any6 (rs : List RowD) (a : Option Addr) (n c : Nat) (w : World) (hn : rs.length = n) (hnb : n ≤ 1048577) (hr : ∀ r ∈ rs, RowOk r) (hm : RwMem w a rs) :
    Calls Tryz.prog 23 #[.slice a n c] w fun e w' => e = .returned (.tuple #[.string (printT rs), .int .i64 (chkR rs)]) ∧ Below w.heap.size w w' := by
  have HCK := hide (refCheck_any6 rs a n c w hn hnb hr hm)
  have HN := hide hn
  have HM := hide hm
  have HRO := hide hr
  have HZ := hide (text_size rs hr)
  clear hn hm hr
  obtain ⟨PT, hPT⟩ : ∃ PT, printT rs = PT := ⟨_, rfl⟩
  obtain ⟨CT, hCT⟩ : ∃ CT, chkR rs = CT := ⟨_, rfl⟩
  rw [hCT] at HCK
  rw [hPT, hCT]
  have HPT := hide hPT
  have HCT := hide hCT
  clear hPT hCT
  go_enter Tryz.func23, Tryz.ntmps23
  go_wp2_with fail
  refine (unhide HCK).mono ?_
  rintro e w1 ⟨rfl, hb1⟩
  have B1 := hide hb1
  clear hb1
  by_cases h0 : CT = 0
  · subst h0
    go_wp2
    go_loopw [5, 6] (fun v5 v6 wr => ∃ (i : Nat) (TX : ByteArray), i ≤ n ∧ v6 = .int .i64 (i : Nat) ∧ v5 = .string TX ∧ TX.size ≤ 100000000000000 ∧ Hid (textR rs i = TX) ∧ Hid (Below w.heap.size w wr)) (fun _ v6 _ => n - (RowKit.intOf v6).toNat)
    case atStart => exact ⟨0, ⟨#[]⟩, Nat.zero_le _, rfl, rfl, by decide, rfl, unhide B1⟩
    case round =>
      obtain ⟨i, TX, hi, rfl, rfl, hTX, HTX, HB⟩ := hrel
      by_cases hlt : i < n
      · obtain ⟨r, hx⟩ : ∃ r, rs[i]? = some r := ⟨_, List.getElem?_eq_getElem (by rw [unhide HN]; exact hlt)⟩
        have hro := unhide HRO r (List.mem_of_getElem? hx)
        obtain ⟨g, off, rfl, hc⟩ := ((unhide HM).below (unhide HB)) i r hx
        have x0 := hc 0 _ rfl
        have x1 := hc 1 _ rfl
        have x2 := hc 2 _ rfl
        have x3 := hc 3 _ rfl
        have x4 := hc 4 _ rfl
        have x5 := hc 5 _ rfl
        have x6 := hc 6 _ rfl
        have x7 := hc 7 _ rfl
        have x8 := hc 8 _ rfl
        simp only [Nat.add_zero] at x0
        have hlt' : (i : Int) < (n : Int) := by omega
        have hq1 : IntKind.i64.wrap ((i : Int) + 1) = (i : Int) + 1 := by rw [IntKind.wrap_i64]; omega
        have HONE := hide (refOne_any r wr hro)
        have hok := st_ok hx (chk_zero (unhide HCT) (by rw [unhide HN]; exact hlt))
        rw [hok, if_pos rfl] at HONE
        have HT2 : Hid (textR rs (i + 1) = TX ++ oneT r) := by show textR rs i ++ oneT ((rs[i]?).getD zeroR) = _; rw [unhide HTX, hx]; rfl
        have hos := oneT_size r hro.1 hro.2.1
        have h5 := hro.2.2.2.2
        have hz2 := unhide HZ (i + 1) (by rw [unhide HN]; omega)
        rw [unhide HT2] at hz2
        have hTs : (oneT r).size ≤ 4194500 := by omega
        have hz3 : (TX ++ oneT r).size ≤ 100000000000000 := by omega
        obtain ⟨T, hT⟩ : ∃ T, oneT r = T := ⟨_, rfl⟩
        rw [hT] at HONE HT2 hTs hz3
        clear hc hok hos h5 hz2 hro hx hT
        go_wp2_with fail
        refine (unhide HONE).mono ?_
        rintro e w2 ⟨rfl, hb2⟩
        have B2 := hide ((unhide HB).trans (hb2.mono (unhide HB).size))
        clear x0 x1 x2 x3 x4 x5 x6 x7 x8 hb2
        go_wp2
        go_roundw
        case rel => exact ⟨i + 1, _, by omega, by go_num, rfl, hz3, unhide HT2, unhide B2⟩
        case measure => simp [RowKit.intOf]; omega
      · obtain rfl : i = n := by omega
        have HE : Hid (PT = TX) := by
          show _ = _
          rw [← unhide HPT, ← unhide HTX]
          unfold printT
          rw [unhide HCT, if_pos rfl, unhide HN]
        go_wp2
        go_ret2
        rw [unhide HE]
        exact ⟨rfl, unhide HB⟩
  · have d0 : (CT != 0) = true := by simpa using h0
    have HE : Hid (PT = ⟨#[]⟩) := by
      show _ = _
      rw [← unhide HPT]
      unfold printT
      rw [unhide HCT, if_neg h0]
    clear h0
    go_wp2
    go_ret2
    rw [unhide HE]
    exact ⟨rfl, unhide B1⟩
end Go.Proofs.YthjnkagepooeiaaGreatDoor
/-
  The document's Find; two lists of rows, held against one another.
-/
namespace Go.Proofs.YthjnkagepooeiaaGreatDoor
open Go.RowKit Go.PlainAid Go.Lib Go.PHexM Go.Shelf
set_option linter.unusedVariables false
set_option linter.unusedSimpArgs false

set_option maxRecDepth 100000 in
theorem refFind_results {tmps : Array Value} {w : World} {b : Nat} {r : RowD} {k : Bool} (h2 : tmps.getD 4 undef = .pointer (some ⟨b, 0, none⟩)) (h3 : tmps.getD 5 undef = .bool k) (h : RowAt w b r) : (results Tryz.f28 tmps).run Tryz.prog w = .ok (.tuple #[rowV r, .bool k]) w := by
  have c0 := h.cell (j := 0) rfl
  have c1 := h.cell (j := 1) rfl
  have c2 := h.cell (j := 2) rfl
  have c3 := h.cell (j := 3) rfl
  have c4 := h.cell (j := 4) rfl
  have c5 := h.cell (j := 5) rfl
  have c6 := h.cell (j := 6) rfl
  have c7 := h.cell (j := 7) rfl
  have c8 := h.cell (j := 8) rfl
  have h2' : tmps[4]?.getD undef = .pointer (some ⟨b, 0, none⟩) := by simpa using h2
  have h3' : tmps[5]?.getD undef = .bool k := by simpa using h3
  simp [results, Tryz.results28, go_sem, h2', h3', c0, c1, c2, c3, c4, c5, c6, c7, c8]

set_option maxRecDepth 100000 in
set_option maxHeartbeats 4000000 in
theorem refFind_any (rs : List RowD) (a : Option Addr) (n c : Nat) (r : Int) (w : World) (hn : rs.length = n) (hnb : n ≤ 1099511627776) (hm : RwMem w a rs) :
    Calls Tryz.prog 28 #[.slice a n c, .int .i32 r] w fun e w' => e = .returned (.tuple #[rowV ((findR rs r).getD zeroR), .bool (findR rs r).isSome]) ∧ Below w.heap.size w w' := by
  have HN := hide hn
  have HM := hide hm
  clear hn hm
  obtain ⟨W0, hW0⟩ : ∃ W0, w.alloc (.cells (rowC zeroR).toArray 29) = W0 := ⟨_, rfl⟩
  have hb0 : Below w.heap.size w W0 := by rw [← hW0]; exact (Below.refl _ w).alloc (Nat.le_refl _) _
  have rb0 : RowAt W0 w.heap.size zeroR := by rw [← hW0]; exact heap_alloc_new w _
  have hs0 : w.heap.size + 1 ≤ W0.heap.size := by rw [← hW0]; simp
  have hW0' : w.alloc (.cells #[.int .i64 0, .int .i32 0, .int .i32 0, .string ⟨#[]⟩, .string ⟨#[]⟩, .int .u8 0, .int .u8 0, .int .i32 0, .bool false] 29) = W0 := hW0
  clear hW0
  go_enter Tryz.func28, Tryz.ntmps28
  go_wp2
  clear hW0'
  go_loopw [6] (fun v6 wr => ∃ i : Nat, v6 = .int .i64 i ∧ i ≤ n ∧ Hid (findR rs r = findR (rs.drop i) r) ∧ wr = W0) (fun v6 _ => n - (RowKit.intOf v6).toNat)
  case atStart => exact ⟨0, rfl, Nat.zero_le _, by show _ = _; simp, rfl⟩
  case round =>
    obtain ⟨i, rfl, hi, HF, rfl⟩ := hrel
    have tc0 := rb0.cell (j := 0) rfl
    have tf0 := rb0.frozen 0
    have tc1 := rb0.cell (j := 1) rfl
    have tf1 := rb0.frozen 1
    have tc2 := rb0.cell (j := 2) rfl
    have tf2 := rb0.frozen 2
    have tc3 := rb0.cell (j := 3) rfl
    have tf3 := rb0.frozen 3
    have tc4 := rb0.cell (j := 4) rfl
    have tf4 := rb0.frozen 4
    have tc5 := rb0.cell (j := 5) rfl
    have tf5 := rb0.frozen 5
    have tc6 := rb0.cell (j := 6) rfl
    have tf6 := rb0.frozen 6
    have tc7 := rb0.cell (j := 7) rfl
    have tf7 := rb0.frozen 7
    have tc8 := rb0.cell (j := 8) rfl
    have tf8 := rb0.frozen 8
    by_cases hlt : i < n
    · obtain ⟨x, hx⟩ : ∃ x, rs[i]? = some x := ⟨_, List.getElem?_eq_getElem (by rw [unhide HN]; exact hlt)⟩
      obtain ⟨g, off, rfl, hc⟩ := ((unhide HM).below hb0) i x hx
      have cx0 := hc 0 _ rfl
      have cx1 := hc 1 _ rfl
      have cx2 := hc 2 _ rfl
      have cx3 := hc 3 _ rfl
      have cx4 := hc 4 _ rfl
      have cx5 := hc 5 _ rfl
      have cx6 := hc 6 _ rfl
      have cx7 := hc 7 _ rfl
      have cx8 := hc 8 _ rfl
      simp only [Nat.add_zero] at cx0
      have hlt' : (i : Int) < (n : Int) := by omega
      have hdr : rs.drop i = x :: rs.drop (i + 1) := by
        have hil : i < rs.length := by rw [unhide HN]; exact hlt
        rw [List.drop_eq_getElem_cons hil]
        congr 1
        exact (List.getElem?_eq_some_iff.1 hx).2
      have hfe : findR (rs.drop i) r = if hasB r x then some x else findR (rs.drop (i + 1)) r := by
        rw [hdr]
        unfold findR
        rw [List.find?_cons]
        cases hasB r x <;> rfl
      have hF' := unhide HF
      rw [hfe] at hF'
      have hq1 : IntKind.i64.wrap ((i : Int) + 1) = (i : Int) + 1 := by rw [IntKind.wrap_i64]; omega
      clear hc hx hdr hfe HF
      by_cases h1 : x.first ≤ r
      · by_cases h2 : r ≤ x.last
        · have hh : hasB r x = true := by simp [hasB, h1, h2]
          rw [hh, if_pos rfl] at hF'
          have HFF := hide hF'
          have HB0 := hide hb0
          have HRB := hide rb0
          clear hF' hh hb0 rb0 hs0
          go_wp2
          refine bodyPost_ret (refFind_results (r := x) rfl rfl (rowAt_copy (unhide HRB) x)) rfl ?_
          rw [unhide HFF]
          exact ⟨rfl, below_copy (unhide HB0) (Nat.le_refl _) x⟩
        · have hh : hasB r x = false := by simp [hasB, h2]
          rw [hh] at hF'
          simp only [Bool.false_eq_true, if_false] at hF'
          have HFF := hide hF'
          clear hF' hh
          go_wp2
          go_roundw
          case rel => exact ⟨i + 1, by go_num, by omega, unhide HFF, trivial⟩
          case measure => simp [RowKit.intOf]; omega
      · have hh : hasB r x = false := by simp [hasB, h1]
        rw [hh] at hF'
        simp only [Bool.false_eq_true, if_false] at hF'
        have HFF := hide hF'
        clear hF' hh
        go_wp2
        go_roundw
        case rel => exact ⟨i + 1, by go_num, by omega, unhide HFF, trivial⟩
        case measure => simp [RowKit.intOf]; omega
    · obtain rfl : i = n := by omega
      have hnil : rs.drop i = [] := List.drop_eq_nil_of_le (by rw [unhide HN]; exact Nat.le_refl _)
      have hF' := unhide HF
      rw [hnil] at hF'
      have HFF : Hid (findR rs r = none) := hF'
      have se0 := set_sameAt (j := 0) (v := Value.int IntKind.i64 0) rb0 rfl
      have se1 := set_sameAt (j := 1) (v := Value.int IntKind.i32 0) rb0 rfl
      have se2 := set_sameAt (j := 2) (v := Value.int IntKind.i32 0) rb0 rfl
      have se3 := set_sameAt (j := 3) (v := Value.string ⟨#[]⟩) rb0 rfl
      have se4 := set_sameAt (j := 4) (v := Value.string ⟨#[]⟩) rb0 rfl
      have se5 := set_sameAt (j := 5) (v := Value.int IntKind.u8 0) rb0 rfl
      have se6 := set_sameAt (j := 6) (v := Value.int IntKind.u8 0) rb0 rfl
      have se7 := set_sameAt (j := 7) (v := Value.int IntKind.i32 0) rb0 rfl
      have se8 := set_sameAt (j := 8) (v := Value.bool false) rb0 rfl
      have HB0 := hide hb0
      have HRB := hide rb0
      clear hF' hnil HF hb0 rb0
      go_wp2
      refine bodyPost_ret (refFind_results (r := zeroR) rfl rfl (unhide HRB)) rfl ?_
      rw [unhide HFF]
      exact ⟨rfl, unhide HB0⟩
end Go.Proofs.YthjnkagepooeiaaGreatDoor
/-
  Rows that were lent are kept; the law RowsFinds.
-/
namespace Go.Proofs.YthjnkagepooeiaaGreatDoor
open Go.RowKit Go.PlainAid Go.Lib Go.PHexM Go.Shelf
set_option linter.unusedVariables false
set_option linter.unusedSimpArgs false

theorem RwMem.left {w : World} {a : Option Addr} {rs ts : List RowD} (h : RwMem w a (rs ++ ts)) : RwMem w a rs := fun i x hx =>
  h i x (by rw [List.getElem?_append_left (List.getElem?_eq_some_iff.1 hx).1]; exact hx)

set_option maxRecDepth 100000 in
set_option maxHeartbeats 2000000 in
theorem kept_yes (rs : List RowD) (g cap : Nat) (a : Option Addr) (n c : Nat) (w : World) (hn : rs.length = n) (hnb : n ≤ 1099511627776) (hcap : n + 1 ≤ cap) (hc : cap ≤ 9223372036854775807) (hf : RwMem w (some ⟨g, 0, none⟩) (rs ++ [markR])) (h : RwMem w a rs) :
    Calls Tryz.prog 26 #[.slice (some ⟨g, 0, none⟩) n cap, .slice a n c] w fun e w' => e = .returned (.bool true) ∧ Below w.heap.size w w' := by
  have HS := hide (sameRows_yes rs (some ⟨g, 0, none⟩) a n cap c w hn hnb hf.left h)
  obtain ⟨g', off', e, hcl⟩ := hf n markR (by rw [List.getElem?_append_right (by omega), hn, Nat.sub_self]; rfl)
  simp only [Option.some.injEq, Addr.mk.injEq] at e
  obtain ⟨rfl, rfl, _⟩ := e
  have k0 := hcl 0 _ rfl
  simp only [Nat.zero_add, Nat.add_zero] at k0
  have hlt := World.block_lt_of_cell? _ _ k0
  have hlt' : g < w.heap.size := hlt
  have hq1 : IntKind.i64.wrap ((n : Int) + 1) = (n : Int) + 1 := by rw [IntKind.wrap_i64]; omega
  have K0 := hide k0
  clear hf h hcl hn k0 hlt
  go_enter Tryz.func26, Tryz.ntmps26
  go_wp2_with (go_at_call 20; refine (unhide HS).mono ?_; rintro e w1 ⟨rfl, hb1⟩; have q0 : w1.cell? ⟨g, n * 9, none⟩ = some (.int .i64 (-77)) := (hb1.cell (p := ⟨g, n * 9, none⟩) hlt').trans (unhide K0); clear K0)
  go_ret
  exact ⟨rfl, hb1⟩
end Go.Proofs.YthjnkagepooeiaaGreatDoor
/-
  The law RowsPrints, walked.
-/
namespace Go.Proofs.YthjnkagepooeiaaGreatDoor
open Go.RowKit Go.PlainAid Go.Lib Go.PHexM Go.Shelf Go.Sort
set_option linter.unusedVariables false
set_option linter.unusedSimpArgs false

set_option maxRecDepth 100000 in
set_option maxHeartbeats 4000000 in
theorem prints_walk (rs : List RowD) (a : Option Addr) (n c : Nat) (w : World) (hg : Glob w) (ht : tz16At w) (hn : rs.length = n) (hc : n ≤ c) (hnb : n ≤ 1048576) (hr : ∀ r ∈ rs, RowOk r) (hm : RwMem w a rs) :
    Calls Tryz.prog 5 #[.slice a n c] w fun e w' => e = .returned (.bool true) ∧ Below w.heap.size w w' := by
  have HL := hide (lent_any rs a n c w hn hc (by omega) hm)
  have HG := hide hg
  have HT := hide ht
  have HN := hide hn
  have HM := hide hm
  have HRO := hide hr
  clear hg ht hn hm hr
  go_enter Tryz.func5, Tryz.ntmps5
  go_wp2_with fail
  refine (unhide HL).mono ?_
  rintro e w1 ⟨v, rfl, ⟨g, cap, rfl, hcap, hcm, hgb, hlm⟩, hb1⟩
  have B1 := hide hb1
  have HLM := hide hlm
  have HP := hide (print6_any rs (some ⟨g, 0, none⟩) n cap w1 ((unhide HG).below hb1) (tz16_below (unhide HT) hb1) (unhide HN) (by omega) (unhide HRO) hlm.left)
  obtain ⟨PT, hPT⟩ : ∃ PT, printT rs = PT := ⟨_, rfl⟩
  obtain ⟨CT, hCT⟩ : ∃ CT, chkR rs = CT := ⟨_, rfl⟩
  rw [hPT, hCT] at HP
  have HPT := hide hPT
  have HCT := hide hCT
  clear hb1 hlm hPT hCT HL
  go_wp2_with fail
  refine (unhide HP).mono ?_
  rintro e w2 ⟨rfl, hb2⟩
  have B2 := hide ((unhide B1).trans (hb2.mono (unhide B1).size))
  have HLM2 := hide ((unhide HLM).below hb2)
  have HP2 := hide (refPrint_any6 rs a n c w2 (unhide HN) (by omega) (unhide HRO) ((unhide HM).below (unhide B2)))
  rw [unhide HPT, unhide HCT] at HP2
  clear hb2 HP HLM
  go_wp2_with fail
  refine (unhide HP2).mono ?_
  rintro e w3 ⟨rfl, hb3⟩
  have B3 := hide ((unhide B2).trans (hb3.mono (unhide B2).size))
  have HLM3 := hide ((unhide HLM2).below hb3)
  have HK := hide (check6_any rs (some ⟨g, 0, none⟩) n cap w3 ((unhide HG).below (unhide B3)) (tz16_below (unhide HT) (unhide B3)) (unhide HN) (by omega) (unhide HRO) (unhide HLM3).left)
  rw [unhide HCT] at HK
  clear hb3 HP2 HLM2
  go_wp2_with fail
  refine (unhide HK).mono ?_
  rintro e w4 ⟨rfl, hb4⟩
  have B4 := hide ((unhide B3).trans (hb4.mono (unhide B3).size))
  have HLM4 := hide ((unhide HLM3).below hb4)
  have HK2 := hide (refCheck_any6 rs a n c w4 (unhide HN) (by omega) (unhide HRO) ((unhide HM).below (unhide B4)))
  rw [unhide HCT] at HK2
  clear hb4 HK HLM3
  go_wp2_with fail
  refine (unhide HK2).mono ?_
  rintro e w5 ⟨rfl, hb5⟩
  have B5 := hide ((unhide B4).trans (hb5.mono (unhide B4).size))
  have HLM5 := hide ((unhide HLM4).below hb5)
  have HKE := hide (kept_yes rs g cap a n c w5 (unhide HN) (by omega) hcap hcm (unhide HLM5) ((unhide HM).below (unhide B5)))
  clear hb5 HK2 HLM4
  go_wp2_with fail
  refine (unhide HKE).mono ?_
  rintro e w6 ⟨rfl, hb6⟩
  have hB6 := (unhide B5).trans (hb6.mono (unhide B5).size)
  have HG6 := hide ((unhide HG).below hB6)
  go_wp2_with (go_at_call 16; refine (awake6_any _ (unhide HG6)).mono ?_; rintro e w7 ⟨rfl, hb7⟩)
  go_ret
  exact ⟨rfl, hB6.trans (hb7.mono hB6.size)⟩
end Go.Proofs.YthjnkagepooeiaaGreatDoor

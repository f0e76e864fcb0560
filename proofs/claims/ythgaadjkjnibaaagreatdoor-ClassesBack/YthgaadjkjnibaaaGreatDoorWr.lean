/-
  These texts, one behind the other: MrK, ClWr.
-/
import Derived.Shelf.Strings.BuilderK
import Derived.Test.YthgaadjkjnibaaaGreatDoorRs
import Derived.Test.YthgaadjkjnibaaaGreatDoorCt
import Derived.Lib.OthersKept
/-
  Contracts of the library (strings.Builder) that keep what lies above the builder; each one application of a theorem of the library.
-/
namespace Go.Proofs
open Go.Shelf
open Go.RowKit in
theorem Tryz.Builder_WriteString_k (B b : Nat) (bs : List Value) (s : ByteArray) (w : World) (h : Lib.IsBuilderF 62 5 B b bs w) (hlen : bs.length + s.size ≤ 140737488355328) (hBw : B ≤ w.heap.size) :
    Calls Tryz.prog 17 #[.pointer (some ⟨b, 0, none⟩), .string s] w fun e w' => e = .returned (.tuple #[.int .i64 s.size, .nilIface]) ∧ (Lib.BuilderAtF 62 5 B b (.pointer (some ⟨b, 0, none⟩)) (bs ++ Lib.strCells s) w' ∧ Below B w w' ∧ Lib.OthersKept 5 (some b) w w') := Any.Builder_WriteString_k Tryz.lays166 Tryz.Builder_Extra_158 B b bs s w h hlen hBw
open Go.RowKit in
theorem Tryz.Builder_String_any_k (B b : Nat) (l : List UInt8) (w : World) (h : Lib.IsBuilderF 62 5 B b (Lib.byteCells l) w) (hBw : B ≤ w.heap.size) :
    Calls Tryz.prog 22 #[.pointer (some ⟨b, 0, none⟩)] w fun e w' => e = .returned (.string ⟨l.toArray⟩) ∧ (Lib.IsBuilderF 62 5 B b (Lib.byteCells l) w' ∧ Below B w w' ∧ Lib.OthersKept 5 (some b) w w') := Any.Builder_String_any_k Tryz.lays169 Tryz.Builder_Extra_169 B b l w h hBw
end Go.Proofs
/-
  Write: the lines that a table writes.
-/
namespace Go.Proofs.YthgaadjkjnibaaaGreatDoor
open Go.RowKit Go.PlainAid Go.Lib Go.PHexM Go.Shelf Go.PRow Go.Seq4 Go.Seq6
attribute [local go_sem] Oper.semAt_some
set_option linter.unusedVariables false
set_option linter.unusedSimpArgs false

/-- a line: a range, a name -/
def lineW (nm : ByteArray) (p : Pc Int) : ByteArray := spanS p.lo.toNat p.hi.toNat ++ ⟨#[59, 32]⟩ ++ nm ++ ⟨#[10]⟩
theorem tz16_below7 {w w' : World} (h : tz16At w) (hb : Below w.heap.size w w') : tz16At w' := (hb.cell (World.block_lt_of_cell? _ _ h)).trans h
theorem showLen_le7 (n : Nat) : showLen n ≤ 6 := by unfold showLen; (repeat' split) <;> omega
theorem spanS_le (a b : Nat) : (spanS a b).size ≤ 14 := by
  unfold spanS
  have h1 := showLen_le7 a
  have h2 := showLen_le7 b
  split
  · rw [hexS_size]; omega
  · rw [ByteArray.size_append, ByteArray.size_append, hexS_size, hexS_size]
    show showLen a + 2 + showLen b ≤ 14
    omega
theorem ite_le7 {c : Prop} [Decidable c] {a b : ByteArray} (ha : a.size ≤ 40) (hb : b.size ≤ 40) : (if c then a else b).size ≤ 40 := by split <;> assumption
theorem longS_le (c : Int) : (longS c).size ≤ 40 := by
  unfold longS
  repeat refine ite_le7 (by decide) ?_
  decide
theorem shortS_le (c : Int) : (shortS c).size ≤ 40 := by
  unfold shortS
  repeat refine ite_le7 (by decide) ?_
  decide

set_option maxRecDepth 100000 in
theorem written_at (f : Nat) (nm : ByteArray) (er : Int) (p : Pc Int) (hm : 0 ≤ p.lo ∧ p.lo ≤ p.hi ∧ p.hi ≤ 1114111) (hnm : nm.size ≤ 40) (w : World) (hg : tz16At w) (hf : ∀ V, Calls Tryz.prog f #[.int .u8 p.val] V fun e w' => e = .returned (.tuple #[.string nm, .int .i64 er]) ∧ w' = V) (eg : ∀ args w, (callFunc f args).run Tryz.prog w = .ok (.enter f args) w) :
    Calls Tryz.prog 18 #[.agg #[.int .i32 p.lo, .int .i32 p.hi], .int .u8 p.val, .func (.func f) #[] #[]] w fun e w' => e = .returned (.string (lineW nm p)) ∧ Below w.heap.size w w' := by
  obtain ⟨lo, hi, val⟩ := p
  simp only at hm hf ⊢
  obtain ⟨a, rfl⟩ := Int.eq_ofNat_of_zero_le hm.1
  obtain ⟨b, rfl⟩ := Int.eq_ofNat_of_zero_le (show 0 ≤ hi by omega)
  have hab : a ≤ b ∧ b ≤ 1114111 := by omega
  unfold lineW
  simp only [Int.toNat_natCast]
  have HS := hide (fun V (hV : Below w.heap.size w V) => showSpan_yes a b hab.1 hab.2 V (tz16_below7 hg hV))
  have HF := hide hf
  have hsp := spanS_le a b
  generalize spanS a b = sp at *
  obtain ⟨W1, hW1⟩ : ∃ W1, w.alloc (.cells #[.int .i32 a, .int .i32 b] 32) = W1 := ⟨_, rfl⟩
  have hB1 : Below w.heap.size w W1 := by rw [← hW1]; exact (Below.refl _ w).alloc (Nat.le_refl _) _
  have hx1 : W1.heap[w.heap.size]? = some (.cells #[.int .i32 a, .int .i32 b] 32 (0, 0)) := by rw [← hW1]; exact heap_alloc_new w _
  have c0 : W1.cell? ⟨w.heap.size, 0, none⟩ = some (.int .i32 a) := cellH hx1 rfl
  have c1 : W1.cell? ⟨w.heap.size, 1, none⟩ = some (.int .i32 b) := cellH hx1 rfl
  have q1 : ¬ 9223372036854775807 < sp.size + 2 := by omega
  have q2 : ¬ 9223372036854775807 < sp.size + 2 + nm.size := by omega
  have q3 : ¬ 9223372036854775807 < sp.size + 2 + nm.size + 1 := by omega
  clear hf hg hm hab hx1
  go_enter Tryz.func18, Tryz.ntmps18
  go_wp2_with fail
  refine (unhide HS _ hB1).mono ?_
  rintro e w2 ⟨rfl, hb2⟩
  go_wp2_with fail
  refine (unhide HF _).mono ?_
  rintro e w3 ⟨rfl, hw3⟩
  obtain rfl : w2 = w3 := hw3.symm
  go_wp2
  go_ret
  exact ⟨rfl, hB1.trans (hb2.mono hB1.size)⟩
theorem line_le (nm : ByteArray) (p : Pc Int) (h : nm.size ≤ 40) : (lineW nm p).size ≤ 57 := by
  unfold lineW
  have := spanS_le p.lo.toNat p.hi.toNat
  rw [ByteArray.size_append, ByteArray.size_append, ByteArray.size_append]
  show _ + 2 + _ + 1 ≤ 57
  omega
abbrev missB : ByteArray := ⟨#[35, 32, 64, 109, 105, 115, 115, 105, 110, 103, 58, 32]⟩
def textM (ms : List (Pc Int)) : List UInt8 := ms.flatMap fun p => (missB ++ lineW (longS p.val) p).data.toList
def textN (ns : List (Pc Int)) : List UInt8 := ns.flatMap fun p => (lineW (shortS p.val) p).data.toList
/-- what a table writes -/
def writeT (t : TabD) : List UInt8 := textM t.ms ++ textN (namedP t)
theorem textM_snoc (a : List UInt8) (l : List (Pc Int)) (p : Pc Int) : Lib.byteCells (a ++ textM (l ++ [p])) = Lib.byteCells (a ++ textM l) ++ Lib.strCells (missB ++ lineW (longS p.val) p) := by
  simp [textM, Lib.byteCells, Lib.strCells]
theorem textN_snoc (a : List UInt8) (l : List (Pc Int)) (p : Pc Int) : Lib.byteCells (a ++ textN (l ++ [p])) = Lib.byteCells (a ++ textN l) ++ Lib.strCells (lineW (shortS p.val) p) := by
  simp [textN, Lib.byteCells, Lib.strCells]
theorem textM_len (l : List (Pc Int)) : (textM l).length ≤ l.length * 69 := by
  induction l with
  | nil => simp [textM]
  | cons p l ih =>
    have e : textM (p :: l) = (missB ++ lineW (longS p.val) p).data.toList ++ textM l := rfl
    have h1 := line_le (longS p.val) p (longS_le _)
    have h2 : (missB ++ lineW (longS p.val) p).data.toList.length = 12 + (lineW (longS p.val) p).size := by
      have e2 : (missB ++ lineW (longS p.val) p).data.toList.length = (missB ++ lineW (longS p.val) p).size := Array.length_toList
      rw [e2, ByteArray.size_append]
      rfl
    rw [e, List.length_append, List.length_cons, h2]
    omega
theorem textN_len (l : List (Pc Int)) : (textN l).length ≤ l.length * 69 := by
  induction l with
  | nil => simp [textN]
  | cons p l ih =>
    have e : textN (p :: l) = (lineW (shortS p.val) p).data.toList ++ textN l := rfl
    have h1 := line_le (shortS p.val) p (shortS_le _)
    have h2 : (lineW (shortS p.val) p).data.toList.length = (lineW (shortS p.val) p).size := by simp
    rw [e, List.length_append, List.length_cons, h2]
    omega
theorem isBF_kept7 {T e : TypeId} {B b : Nat} {bs : List Value} {w w' : World} (h : Lib.IsBuilderF T e B b bs w) (hk : ∀ k (o : Obj), w.heap[k]? = some o → o.isCells = true → B ≤ k → w'.heap[k]? = some o) : Lib.IsBuilderF T e B b bs w' := by
  have one : ∀ p, Lib.BuilderAtF T e B b p bs w → Lib.BuilderAtF T e B b p bs w' := by
    rintro p ⟨hB, v, hb, ho, hne⟩
    refine ⟨hB, v, hk b _ hb rfl hB, ⟨ho.1, ho.2.imp id ?_⟩, hne⟩
    rintro ⟨g, cap, cur, fz, rfl, hb', hg, hr⟩
    exact ⟨g, cap, cur, fz, rfl, hb', hk g _ hg rfl hb', hr⟩
  exact h.imp (one _) (one _)
theorem miss_at {W : World} {B : Nat} {v : Value} {ps : List (Pc Int)} (h : VM.RowP W B v ps) {i : Nat} {p : Pc Int} (hp : ps[i]? = some p) :
    ∃ g cap, v = .slice (some ⟨g, 0, none⟩) ps.length cap ∧ W.cell? ⟨g, i * 3, none⟩ = some (.int .i32 p.lo) ∧ W.cell? ⟨g, i * 3 + 1, none⟩ = some (.int .i32 p.hi) ∧ W.cell? ⟨g, i * 3 + 2, none⟩ = some (.int .u8 p.val) := by
  have hi := (List.getElem?_eq_some_iff.1 hp).1
  rcases h.2 with ⟨a, rfl, hn⟩ | ⟨g, cap, cur, rfl, hb, hh, hc, hm, hs, ht⟩
  · omega
  · have hm2 : ps.length * 3 ≤ cur.size := by rw [hs]; exact Nat.mul_le_mul_right _ hc
    obtain ⟨c1, c2, c3⟩ := VM.cellsP_at ps i p hp
    exact ⟨g, cap, rfl, row_cell hh ht hm2 _ _ c1, row_cell hh ht hm2 _ _ c2, row_cell hh ht hm2 _ _ c3⟩

set_option maxRecDepth 100000 in
set_option maxHeartbeats 4000000 in
theorem write7_tab {w : World} {B bt bN bC : Nat} {vN vC vM : Value} {t : TabD} (hT : TabP w B bt bN bC vN vC vM t) (hg : tz16At w) (hms : ∀ p ∈ t.ms, 0 ≤ p.lo ∧ p.lo ≤ p.hi ∧ p.hi ≤ 1114111) (hml : t.ms.length ≤ 1073741825) :
    Calls Tryz.prog 6 #[.pointer (some ⟨bt, 0, none⟩)] w fun e w' => e = .returned (.string ⟨(writeT t).toArray⟩) ∧ Below w.heap.size w w' := by
  have hno := named_ok hT.ok
  have hnl := VC.okP_len hno
  have hrM := hT.rM
  obtain ⟨ms, hmse⟩ : ∃ ms, t.ms = ms := ⟨_, rfl⟩
  rw [hmse] at hms hml hrM
  have HMSE := hide hmse
  clear hmse
  obtain ⟨Wa, hWa⟩ : ∃ Wa, w.alloc (.cells #[.pointer none, .slice none 0 0] 62) = Wa := ⟨_, rfl⟩
  have hba : Below w.heap.size w Wa := by rw [← hWa]; exact (Below.refl _ w).alloc (Nat.le_refl _) _
  have hsa : w.heap.size + 1 ≤ Wa.heap.size := by rw [← hWa]; simp
  have bla : Wa.heap[w.heap.size]? = some (.cells #[.pointer none, .slice none 0 0] 62 (0, 0)) := by rw [← hWa]; exact heap_alloc_new w _
  have hB0 : Lib.IsBuilderF 62 5 w.heap.size w.heap.size (Lib.byteCells ([] ++ textM [])) Wa := .inl ⟨Nat.le_refl _, _, bla, ⟨rfl, .inl ⟨rfl, rfl⟩⟩, by simp [Value.ownBlock]⟩
  have HH := hide (held7_tab (hT.below hba))
  obtain ⟨ma, mc, hvM⟩ : ∃ a c, vM = .slice a ms.length c := by
    obtain ⟨a, c, e, _⟩ := VM.RowP.form hrM
    exact ⟨a, c, e⟩
  have fd := field7_2
  have HT := hide hT
  have HMS := hide hms
  have HRM := hide (fun V (hV : Below w.heap.size w V) => VM.RowP.below hrM hV)
  clear hrM
  subst hvM
  refine (callsIn_wide (n := 12)).1 ?_
  refine callsIn_of_wp_marks Tryz.func6 rfl trivial ?_ rfl
  simp only [Tryz.ntmps6, List.size_toArray, List.length_cons, List.length_nil, Nat.reduceAdd, Nat.reduceSub, Array.replicate_succ, Array.replicate_zero, List.push_toArray, List.append_toArray, List.nil_append, List.cons_append]
  have hF : ∀ f, Fence.wide.fn f := fun _ => trivial
  clear hT hms
  gi_wp2_with fail
  clear hWa
  refine (callsIn_wide.2 (unhide HH)).mono ?_
  rintro e W2 ⟨rfl, hb2⟩
  have hbw2 : Below w.heap.size w W2 := hba.trans (hb2.mono hba.size)
  have hB2 : Lib.IsBuilderF 62 5 w.heap.size w.heap.size (Lib.byteCells ([] ++ textM [])) W2 := isBF_kept7 hB0 fun k o ho _ _ => (hb2.block k (Array.getElem?_eq_some_iff.1 ho).1).trans ho
  gi_wp2_with fail
  refine wpIn_wide.2 ?_
  go_loopg [12] ms.length (fun kx s12 wr => ∃ i : Nat, s12 = .int .i64 i ∧ i ≤ ms.length ∧ kx = ms.length - i ∧ Hid (Lib.IsBuilderF 62 5 w.heap.size w.heap.size (Lib.byteCells ([] ++ textM (ms.take i))) wr) ∧ Below w.heap.size w wr)
  case atStart => exact ⟨0, rfl, Nat.zero_le _, by simp, hide hB2, hbw2⟩
  case round =>
    obtain ⟨i, rfl, hi1, rfl, HBI, hbr⟩ := hrel
    by_cases hlt : i < ms.length
    · obtain ⟨p, hp⟩ : ∃ p, ms[i]? = some p := ⟨_, List.getElem?_eq_getElem hlt⟩
      have hpm := unhide HMS p (List.mem_of_getElem? hp)
      obtain ⟨g, cap, e, c1, c2, c3⟩ := miss_at (unhide HRM wr hbr) hp
      injection e with e1 e2 e3
      subst e1
      subst e3
      have eg : ∀ args w, (callFunc 19 args).run Tryz.prog w = .ok (.enter 19 args) w := enters_of Tryz.func19 (by kernel_rfl) rfl
      have HWR := hide (fun V (hV : Below wr.heap.size wr V) => written_at 19 (longS p.val) (argE (longS p.val)) p hpm (longS_le _) V (tz16_below7 hg (hbr.trans (hV.mono hbr.size))) (fun V => longW_any p.val V) eg)
      have hll := line_le (longS p.val) p (longS_le _)
      have htl := textM_len (ms.take i)
      have hti : (ms.take i).length = i := by rw [List.length_take]; omega
      have hsnoc : ms.take (i + 1) = ms.take i ++ [p] := by rw [List.take_add_one, hp]; rfl
      have hsz : (missB ++ lineW (longS p.val) p).size = 12 + (lineW (longS p.val) p).size := by rw [ByteArray.size_append]; rfl
      have HWS : Hid (∀ V, Below wr.heap.size wr V → Calls Tryz.prog 17 #[.pointer (some ⟨w.heap.size, 0, none⟩), .string (missB ++ lineW (longS p.val) p)] V fun e w2 => e = .returned (.tuple #[.int .i64 (missB ++ lineW (longS p.val) p).size, .nilIface]) ∧ Hid (Lib.IsBuilderF 62 5 w.heap.size w.heap.size (Lib.byteCells ([] ++ textM (ms.take (i + 1)))) w2) ∧ Below w.heap.size w w2) := by
        intro V hV
        have hbV := hbr.trans (hV.mono hbr.size)
        refine (Tryz.Builder_WriteString_k w.heap.size w.heap.size (Lib.byteCells ([] ++ textM (ms.take i))) (missB ++ lineW (longS p.val) p) V (isBF_kept7 (unhide HBI) fun k o ho _ _ => (hV.block k (Array.getElem?_eq_some_iff.1 ho).1).trans ho) ?_ hbV.size).mono ?_
        · have : (Lib.byteCells ([] ++ textM (ms.take i))).length = (textM (ms.take i)).length := by simp [Lib.byteCells]
          omega
        · rintro e w2 ⟨rfl, hA, hB5, hO⟩
          refine ⟨rfl, ?_, hbV.trans hB5⟩
          rw [hsnoc, textM_snoc]
          exact hide (.inr hA)
      have HLW := hide (show (missB ++ lineW (longS p.val) p) = (missB ++ lineW (longS p.val) p) from rfl)
      have hlt' : (i : Int) < (ms.length : Int) := by omega
      have hq1 : IntKind.i64.wrap ((i : Int) + 1) = (i : Int) + 1 := by rw [IntKind.wrap_i64]; omega
      obtain ⟨W3, hW3⟩ : ∃ W3, wr.alloc (.cells #[.int .i32 p.lo, .int .i32 p.hi, .int .u8 p.val] 35) = W3 := ⟨_, rfl⟩
      have hb3 : Below wr.heap.size wr W3 := by rw [← hW3]; exact (Below.refl _ wr).alloc (Nat.le_refl _) _
      have hx3 : W3.heap[wr.heap.size]? = some (.cells #[.int .i32 p.lo, .int .i32 p.hi, .int .u8 p.val] 35 (0, 0)) := by rw [← hW3]; exact heap_alloc_new wr _
      have d0 : W3.cell? ⟨wr.heap.size, 0, none⟩ = some (.int .i32 p.lo) := cellH hx3 rfl
      have d1 : W3.cell? ⟨wr.heap.size, 1, none⟩ = some (.int .i32 p.hi) := cellH hx3 rfl
      have d2 : W3.cell? ⟨wr.heap.size, 2, none⟩ = some (.int .u8 p.val) := cellH hx3 rfl
      generalize lineW (longS p.val) p = ln at *
      have q1 : ¬ 9223372036854775807 < 12 + ln.size := by omega
      clear hsnoc htl hti hpm hp hx3 HLW
      go_wp2_with fail
      refine (unhide HWR _ hb3).mono ?_
      rintro e w4 ⟨rfl, hb4⟩
      have hb34 := hb3.trans (hb4.mono hb3.size)
      go_wp2_with fail
      refine (unhide HWS _ hb34).mono ?_
      rintro e w5 ⟨rfl, HB5, hb5⟩
      go_wp2
      go_roundg (ms.length - (i + 1))
      case measure => omega
      case rel => exact ⟨i + 1, by simp, by omega, rfl, HB5, hb5⟩
    · have hin : i = ms.length := by omega
      have hlt' : ¬ ((i : Int) < (ms.length : Int)) := by omega
      rw [hin, List.take_length] at HBI
      clear hin
      go_wp2
      obtain ⟨am, ham⟩ : ∃ am, [] ++ textM ms = am := ⟨_, rfl⟩
      have haml : am.length ≤ ms.length * 69 := by rw [← ham]; exact textM_len ms
      rw [ham] at HBI
      have HAM := hide ham
      clear ham
      gi_wp2_with (gi_at_call 20; with_reducible refine CallsIn.mono (callsIn_wide.2 (named_in bt _)) ?_; rintro e V7 ⟨rfl, rfl⟩)
      obtain ⟨W0, hW0⟩ : ∃ W0, wr.alloc (.cells #[.pointer (some ⟨bt, 0, none⟩)] 23) = W0 := ⟨_, rfl⟩
      have hb20 : Below wr.heap.size wr W0 := by rw [← hW0]; exact (Below.refl _ wr).alloc (Nat.le_refl _) _
      have bx : W0.heap[wr.heap.size]? = some (.cells #[.pointer (some ⟨bt, 0, none⟩)] 23 (0, 0)) := by rw [← hW0]; exact heap_alloc_new wr _
      have hbw : Below w.heap.size w W0 := hbr.trans (hb20.mono hbr.size)
      have hBd0 : Lib.IsBuilderF 62 5 w.heap.size w.heap.size (Lib.byteCells (am ++ textN [])) W0 := by
        have e : am ++ textN [] = am := by simp [textN]
        rw [e]
        exact isBF_kept7 (unhide HBI) fun k o ho _ _ => (hb20.block k (Array.getElem?_eq_some_iff.1 ho).1).trans ho
      have hgv := named_gives (t := t) 11 wr.heap.size (by omega) W0 bx ((unhide HT).below hbw)
      obtain ⟨ns, hns⟩ : ∃ ns, namedP t = ns := ⟨_, rfl⟩
      rw [hns] at hgv hno hnl
      have HNS := hide hns
      have hwl : w.heap.size < W0.heap.size := by
        have := hb20.size
        rcases unhide HBI with ⟨_, v, hb, _⟩ | ⟨_, v, hb, _⟩ <;> (have := (Array.getElem?_eq_some_iff.1 hb).1; omega)
      rw [hW0]
      clear hW0 hns HBI
      refine range6B (by omega) (gf := 41) (lb := #[.pointer (some ⟨wr.heap.size, 0, none⟩)]) rfl (enters_of Tryz.func41 (by kernel_rfl) rfl)
        hgv (Below.refl _ _) (fun _ => rfl)
        (fun m pre V => Lib.IsBuilderF 62 5 w.heap.size w.heap.size (Lib.byteCells (am ++ textN pre)) V ∧ Below w.heap.size w V ∧ W0.heap.size ≤ V.heap.size) (fun _ _ _ => False)
        (fun m s A C row h hg hr => ⟨isBF_kept7 h.1 fun k o ho hc _ => (grownBy_keeps_cells hg (fun r e => (hr r e).2) ho hc).trans ho, ownFrom_below (β := Unit) (Nat.le_refl _) hbw.size () A C row h.2.1 hg hr, Nat.le_trans h.2.2 hg.size⟩) (fun c _ _ _ _ h _ _ => h) (fun m => ⟨hBd0, hbw, Nat.le_refl _⟩)
        (fun x => .cells #[.int .i32 x.lo, .int .i32 x.hi] 32 (0, 0)) (fun _ => rfl) ?fr ?assign ?body ?done ?stop
      case assign =>
        intro l2 x V K hK
        gi_wp2
        generalize hBx : V.heap.size = Bx
        exact hK Bx hBx.symm
      case body =>
        rintro m l2 pre x Bx V hl hsz2 ⟨r, hr⟩ ⟨hbd, h8, h9⟩ hx1 hx2 hSp
        have hxm : x ∈ ns := hSp.subset (by simp)
        have hxo := hno.2 x hxm
        have hpl : pre.length + 1 ≤ 1114112 := by have := hSp.length_le; simp at this; omega
        have cx0 : V.cell? ⟨Bx, 0, none⟩ = some (.int .i32 x.lo) := cellH hx1 rfl
        have cx1 : V.cell? ⟨Bx, 1, none⟩ = some (.int .i32 x.hi) := cellH hx1 rfl
        have eg : ∀ args w, (callFunc 21 args).run Tryz.prog w = .ok (.enter 21 args) w := enters_of Tryz.func21 (by kernel_rfl) rfl
        have HWR := hide (fun m => (callsIn_wide (n := m) |>.2 (written_at 21 (shortS x.val) (argE (shortS x.val)) x hxo (shortS_le _) V (tz16_below7 hg h8) (fun V => shortW_any x.val V) eg)).inRound l2)
        have hll := line_le (shortS x.val) x (shortS_le _)
        have htl := textN_len pre
        have HWS : Hid (∀ w1, Below V.heap.size V w1 → ∀ m', CallsIn (Fence.wide.inRound l2) m' Tryz.prog 17 #[.pointer (some ⟨w.heap.size, 0, none⟩), .string (lineW (shortS x.val) x)] w1 fun e w2 => e = .returned (.tuple #[.int .i64 (lineW (shortS x.val) x).size, .nilIface]) ∧ KeepsFrom W0.heap.size V w2 ∧ KpR m (fun _ => False) (W0.heap.size + 2) V w2 ∧ Lib.IsBuilderF 62 5 w.heap.size w.heap.size (Lib.byteCells (am ++ textN (pre ++ [x]))) w2 ∧ Below w.heap.size w w2 ∧ W0.heap.size ≤ w2.heap.size) := by
          intro w1 hb1 m'
          have hbd1 : Lib.IsBuilderF 62 5 w.heap.size w.heap.size (Lib.byteCells (am ++ textN pre)) w1 := isBF_kept7 hbd fun k o ho _ _ => (hb1.block k (Array.getElem?_eq_some_iff.1 ho).1).trans ho
          have h81 := h8.trans (hb1.mono h8.size)
          refine (callsIn_wide (n := m') |>.2 ((Tryz.Builder_WriteString_k w.heap.size w.heap.size (Lib.byteCells (am ++ textN pre)) (lineW (shortS x.val) x) w1 hbd1 ?_ h81.size).mono ?_)).inRound l2
          · have : (Lib.byteCells (am ++ textN pre)).length = am.length + (textN pre).length := by simp [Lib.byteCells]
            omega
          · rintro e w2 ⟨rfl, hA, hB2, hO⟩
            have keep : ∀ k o, V.heap[k]? = some o → k ≠ w.heap.size → (∀ c fz, o ≠ .cells c 5 fz) → w2.heap[k]? = some o := fun k o ho hk hc => hO k o ((hb1.block k (Array.getElem?_eq_some_iff.1 ho).1).trans ho) (by simpa using hk) hc
            have hsz : V.heap.size ≤ w2.heap.size := Nat.le_trans hb1.size hB2.size
            refine ⟨rfl, ⟨hsz, fun k o hk ho hc => keep k o ho (by omega) (fun c fz e => by rw [e] at hc; cases hc)⟩, ⟨⟨hsz, fun k o ho hw => keep k o ho (fun e => ?_) (fun c fz e => by rw [e] at hw; cases hw)⟩, fun k o hk hc ho => ?_⟩, ?_, h81.trans hB2, by omega⟩
            · rw [e] at ho
              rcases hbd with ⟨_, v, hb, _⟩ | ⟨_, v, hb, _⟩ <;> rw [hb] at ho <;> cases ho <;> cases hw
            · rcases hk with hk | hk
              · refine keep k o ho (by omega) (fun c fz e => ?_)
                rw [e] at hc
                simp [keepO] at hc
              · exact hk.elim
            · rw [textN_snoc]
              exact .inr hA
        clear hbd htl hxm hxo hSp hx1
        gi_wp2_with (first | (gi_at_call 18; with_reducible refine CallsIn.mono (unhide HWR _) ?_; rintro e w1 ⟨rfl, hb1⟩) | (gi_at_call 17; with_reducible refine CallsIn.mono (unhide HWS _ hb1 _) ?_; rintro e w2 ⟨rfl, k1, k2, k3, k4, k5⟩))
        exact ⟨k1, k2, k3, k4, k5⟩
      case done =>
        rintro D m xs V hD hS ⟨e3, e9, e10⟩ hK
        subst hS
        have HSS := hide (Tryz.Builder_String_any_k w.heap.size w.heap.size (am ++ textN xs) V e3 e9.size)
        have etx : am ++ textN xs = writeT t := by
          unfold writeT
          rw [← unhide HAM, unhide HNS, unhide HMSE]
          rfl
        rw [etx] at HSS
        clear etx
        gi_wp2_with (gi_at_call 22; with_reducible refine CallsIn.mono (callsIn_wide.2 (unhide HSS)) ?_; rintro e w5 ⟨rfl, _, hb5, ho5⟩)
        have hKX : w5.heap[D]? = some (.deferred (some [])) := ho5 D _ hK (by simp; omega) (fun c fz e => by cases e)
        refine ⟨by simp, .inl ⟨_, _, rfl, run_takeDeferred hKX, ?_⟩⟩
        have hbX := e9.trans hb5
        refine ⟨_, results_tmp rfl _ _ _, rfl, below_put hbX (by omega) _⟩
      case stop =>
        rintro D c pre V hD hSp h hK
        exact h.elim
end Go.Proofs.YthgaadjkjnibaaaGreatDoor

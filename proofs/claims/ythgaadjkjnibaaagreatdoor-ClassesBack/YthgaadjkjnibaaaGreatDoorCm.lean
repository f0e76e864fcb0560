/-
  These texts, one behind the other: ClM, ClS.
-/
import Derived.Test.YthgaadjkjnibaaaGreatDoorLRead
import Derived.Test.YthgaadjkjnibaaaGreatDoorPs
import Derived.Test.YthgaadjkjnibaaaGreatDoorWb
import Derived.Test.YthgaadjkjnibaaaGreatDoorPm
import Derived.Test.YthgaadjkjnibaaaGreatDoorHx
/-
  What package classes makes of a text's lines: the named code points, what the others have, the missing lines; the first fault.
-/
namespace Go.Proofs.YthgaadjkjnibaaaGreatDoor
open Go.RowKit Go.PlainAid Go.Lib Go.PHexM Go.Shelf
set_option linter.unusedVariables false
set_option linter.unusedSimpArgs false

theorem lastF_le7 {n : Nat} {cur x : List UInt8} (h : x ∈ lastF n cur) : x.length ≤ cur.length := by
  unfold lastF at h
  split at h
  · simp at h; subst h; exact Nat.le_refl _
  · simp at h
theorem mach_field_le7 : ∀ (l : List UInt8) (n : Nat) (cur pend x : List UInt8), x ∈ (mach n cur pend l).1 → x.length ≤ cur.length + pend.length + l.length
  | [], n, cur, pend, x, h => by have := lastF_le7 (show x ∈ lastF n cur from h); omega
  | b :: l, n, cur, pend, x, h => by
    unfold mach at h
    split at h
    · split at h
      · have := mach_field_le7 l n [] [] x h; simp only [List.length_nil, List.length_cons] at this ⊢; omega
      · have := mach_field_le7 l n cur (pend ++ [b]) x h; simp only [List.length_append, List.length_cons, List.length_nil] at this ⊢; omega
    · split at h
      · rcases List.mem_cons.1 h with rfl | h
        · omega
        · have := mach_field_le7 l (n + 1) [] [] x h; simp only [List.length_nil, List.length_cons] at this ⊢; omega
      · split at h
        · have := lastF_le7 (show x ∈ lastF n cur from h); omega
        · have := mach_field_le7 l n (cur ++ pend ++ [b]) [] x h; simp only [List.length_append, List.length_cons, List.length_nil] at this ⊢; omega
theorem cut_field_le7 {s : ByteArray} {x : List UInt8} (h : x ∈ (cutS s).1) : x.length ≤ s.size := by
  have := mach_field_le7 (L s) 0 [] [] x h
  rw [L_len] at this
  simpa using this
theorem scan_field_le7 {no : Int} {s : ByteArray} {x : List UInt8} (h : x ∈ (scanS no s).1.fields) : x.length ≤ s.size := by
  unfold scanS at h
  split at h
  · simp [zeroD] at h
  · split at h
    · unfold orderS at h
      split at h
      · have h1 := cut_field_le7 h
        have h2 := (until_le 58 ((trimB (L s)).drop 1)).2
        have h3 := trimB_le (L s)
        rw [L_len] at h3
        have e := S_size (untilB 58 ((trimB (L s)).drop 1)).2.1
        rw [List.length_drop] at h2
        omega
      · simp [zeroD] at h
    · unfold plainS at h
      split at h
      · exact cut_field_le7 h
      · split at h
        · have h1 := cut_field_le7 h
          have h2 := mach_note_le (L s) 0 [] []
          have e := S_size ((cutS s).2.drop 9)
          rw [List.length_drop] at e
          have e2 : (cutS s).2.length ≤ (L s).length := h2
          rw [L_len] at e2
          omega
        · simp at h
theorem rd_mem7 (s : ByteArray) : ∀ (l : List (Nat × Nat × Nat)) (d : LineD), d ∈ (rdS s l).1 → ∃ x ∈ l, d = (scanX s x).1
  | [], d, h => by simp [rdS] at h
  | x :: l, d, h => by
    unfold rdS at h
    split at h
    · rcases List.mem_cons.1 h with rfl | h
      · exact ⟨x, by simp, rfl⟩
      · obtain ⟨y, hy, e⟩ := rd_mem7 s l d h
        exact ⟨y, by simp [hy], e⟩
    · simp at h
theorem read_field_le7 {s : ByteArray} {d : LineD} (hd : d ∈ (readS s).1) {x : List UInt8} (hx : x ∈ d.fields) : x.length ≤ s.size := by
  obtain ⟨y, _, rfl⟩ := rd_mem7 s _ d hd
  have h := scan_field_le7 hx
  have hsz : (s.extract y.2.1 y.2.2).size ≤ s.size := by
    rw [← L_len, L_extract, List.length_take, List.length_drop, L_len]; omega
  omega


/-- a line is of one of four kinds -/
theorem scan_kind7 (no : Int) (s : ByteArray) : (scanS no s).1.kind = 0 ∨ (scanS no s).1.kind = 1 ∨ (scanS no s).1.kind = 2 ∨ (scanS no s).1.kind = 3 := by
  unfold scanS
  split
  · exact .inl rfl
  · split
    · unfold orderS
      split
      · exact .inr (.inr (.inl rfl))
      · exact .inl rfl
    · show (plainS no s).kind = 0 ∨ _
      unfold plainS
      split
      · exact .inr (.inl rfl)
      · split
        · exact .inr (.inr (.inr rfl))
        · exact .inl rfl
theorem read_kind7 {s : ByteArray} {d : LineD} (hd : d ∈ (readS s).1) : d.kind = 0 ∨ d.kind = 1 ∨ d.kind = 2 ∨ d.kind = 3 := by
  obtain ⟨y, _, rfl⟩ := rd_mem7 s _ d hd
  exact scan_kind7 _ _
theorem readS_len7 (s : ByteArray) : (readS s).1.length ≤ s.size + 1 := by
  have h3 : ∀ l : List (Nat × Nat × Nat), (rdS s l).1.length ≤ l.length := by
    intro l
    induction l with
    | nil => simp [rdS]
    | cons x l ih => unfold rdS; split <;> simp <;> omega
  have h4 := h3 (linesL s)
  have h5 : (linesL s).length ≤ (extsL s).length := (List.takeWhile_sublist _).length_le
  have h6 := exts_len s
  unfold readS
  omega
theorem hexP_le7 {l : List UInt8} {n : Nat} (h : hexP l = some n) : n ≤ 1114111 := by
  unfold hexP at h
  split at h
  · split at h
    · cases h
    · split at h
      · cases h
      · cases h; omega
  · cases h

/-- a range and the error of Span, as numbers -/
def spanT2 (a b : List UInt8) : Int × Int × Int := match hexP a with
  | none => (0, 0, 40)
  | some x => match hexP b with
    | none => (0, 0, 40)
    | some y => if y < x then (0, 0, 41) else (x, y, 0)
def spanT (l : List UInt8) : Int × Int × Int := spanT2 (Lib.cut l [46, 46]).1 (if (Lib.cut l [46, 46]).2.2 then (Lib.cut l [46, 46]).2.1 else (Lib.cut l [46, 46]).1)
theorem spanV_T2 (a b : List UInt8) : spanV2 a b = spanE (spanT2 a b).1 (spanT2 a b).2.1 (spanT2 a b).2.2 := by
  unfold spanV2 spanT2
  cases hexP a with
  | none => rfl
  | some x =>
    cases hexP b with
    | none => rfl
    | some y =>
      simp only
      split <;> rfl
theorem spanV_T (l : List UInt8) : spanV l = spanE (spanT l).1 (spanT l).2.1 (spanT l).2.2 := spanV_T2 _ _
theorem spanT_may (l : List UInt8) (h : (spanT l).2.2 = 0) : mayB (spanT l).1 (spanT l).2.1 = true := by
  unfold spanT at h ⊢
  generalize (Lib.cut l [46, 46]).1 = a at *
  generalize (if (Lib.cut l [46, 46]).2.2 then (Lib.cut l [46, 46]).2.1 else a) = b at *
  unfold spanT2 at h ⊢
  cases ha : hexP a with
  | none => rw [ha] at h; cases h
  | some x =>
    rw [ha] at h
    cases hb : hexP b with
    | none => rw [hb] at h; cases h
    | some y =>
      rw [hb] at h
      simp only at h ⊢
      by_cases hlt : y < x
      · rw [if_pos hlt] at h; cases h
      · rw [if_neg hlt]
        have := hexP_le7 ha
        have := hexP_le7 hb
        rw [mayB_iff]
        simp only
        omega
/-- what a line's two fields tell: the range, the class, the error -/
def scanT (d : LineD) (un : Int) : Int × Int × Int × Int := match d.fields with
  | [a, b] => if (spanT a).2.2 = 0 then ((spanT a).1, (spanT a).2.1, classN (looseB (S b)), noneE (classN (looseB (S b)))) else (0, 0, 0, (spanT a).2.2)
  | _ => (0, 0, 0, un)
theorem scanT_may (d : LineD) (un : Int) (hun : un ≠ 0) (h : (scanT d un).2.2.2 = 0) : mayB (scanT d un).1 (scanT d un).2.1 = true := by
  unfold scanT at h ⊢
  split at h
  · next a b e =>
    split at h
    · next h0 => rw [if_pos h0]; exact spanT_may a h0
    · next h0 => exact absurd h h0
  · exact absurd h hun

/-- what a table holds -/
structure TabD where
  ns : List (Pc (Int × Int))
  us : List (Pc Int)
  ms : List (Pc Int)
def OkT (t : TabD) : Prop := OkP t.ns ∧ OkP t.us
def emptyT : TabD := ⟨[], [⟨0, 1114111, 1⟩], []⟩
/-- what a line does to a table, and its error -/
def nameT (t : TabD) (d : LineD) (x : Int × Int × Int × Int) : TabD × Int :=
  if x.2.2.2 ≠ 0 then (t, x.2.2.2) else if frI t.ns x.1 < upI t.ns x.2.1 then (t, 42) else ({ t with ns := repP t.ns x.1 x.2.1 [⟨x.1, x.2.1, (x.2.2.1, d.no)⟩] }, 0)
def missT (t : TabD) (x : Int × Int × Int × Int) : TabD × Int :=
  if x.2.2.2 ≠ 0 then (t, x.2.2.2) else ({ t with us := repP t.us x.1 x.2.1 [⟨x.1, x.2.1, x.2.2.1⟩], ms := t.ms ++ [⟨x.1, x.2.1, x.2.2.1⟩] }, 0)
def stepT (t : TabD) (d : LineD) : TabD × Int :=
  if d.kind = 0 then (t, 0) else if d.kind = 1 then nameT t d (scanT d 70) else if d.kind = 2 then (t, 33) else missT t (scanT d 71)
theorem step_ok7 {t : TabD} (o : OkT t) (d : LineD) : OkT (stepT t d).1 := by
  unfold stepT
  split
  · exact o
  split
  · unfold nameT
    split
    · exact o
    split
    · exact o
    · next h h2 =>
      have hm := mayB_iff.1 (scanT_may d 70 (by decide) (by simpa using h))
      exact ⟨rep_ok o.1 hm.1 hm.2.1 hm.2.2 (.inr ⟨_, rfl⟩), o.2⟩
  split
  · exact o
  · unfold missT
    split
    · exact o
    · next h =>
      have hm := mayB_iff.1 (scanT_may d 71 (by decide) (by simpa using h))
      exact ⟨o.1, rep_ok o.2 hm.1 hm.2.1 hm.2.2 (.inr ⟨_, rfl⟩)⟩
theorem step_len7 (t : TabD) (d : LineD) : (stepT t d).1.ms.length ≤ t.ms.length + 1 := by
  unfold stepT nameT missT
  repeat' split
  all_goals simp
/-- what lines do to a table, and the first fault -/
def tellT (t : TabD) : List LineD → TabD × Option (Int × Int)
  | [] => (t, none)
  | d :: ds => if (stepT t d).2 = 0 then tellT (stepT t d).1 ds else ((stepT t d).1, some (d.no, (stepT t d).2))
theorem tellT_yes (t : TabD) (d : LineD) (ds : List LineD) (h : (stepT t d).2 = 0) : tellT t (d :: ds) = tellT (stepT t d).1 ds := by
  show (if _ then _ else _) = _
  rw [if_pos h]
theorem tellT_no (t : TabD) (d : LineD) (ds : List LineD) (h : (stepT t d).2 ≠ 0) : tellT t (d :: ds) = ((stepT t d).1, some (d.no, (stepT t d).2)) := by
  show (if _ then _ else _) = _
  rw [if_neg h]
theorem tell_ok7 (ds : List LineD) : ∀ {t : TabD}, OkT t → OkT (tellT t ds).1 := by
  induction ds with
  | nil => intro t o; exact o
  | cons d ds ih =>
    intro t o
    by_cases h : (stepT t d).2 = 0
    · rw [tellT_yes t d ds h]; exact ih (step_ok7 o d)
    · rw [tellT_no t d ds h]; exact step_ok7 o d
theorem empty_ok7 : OkT emptyT := ⟨OkP.nil, ⟨List.pairwise_singleton _ _, by
  intro p hp
  rcases List.mem_singleton.1 hp with rfl
  exact ⟨by decide, by decide, by decide⟩⟩⟩
/-- what Read says of a text: the table, and the fault -/
def tabS (s : ByteArray) : TabD × Option (Int × Int) := match (readS s).2 with
  | some (no, code) => (emptyT, some ((no : Int), code))
  | none => tellT emptyT (readS s).1
theorem tabS_ok (s : ByteArray) : OkT (tabS s).1 := by
  unfold tabS
  split
  · exact empty_ok7
  · exact tell_ok7 _ empty_ok7
/-- what a number counts as -/
def known7 (x : Int) : Int := if x < 0 ∨ 1114111 < x then 65533 else x
def givenT (t : TabD) (x : Int) : Option (Int × Int) := atP t.ns (known7 x)
def classT (t : TabD) (x : Int) : Int := match givenT t x with
  | some p => p.1
  | none => (atP t.us (known7 x)).getD 0
end Go.Proofs.YthgaadjkjnibaaaGreatDoor
/-
  scan of package classes: the range and the class that a line's fields tell.
-/
namespace Go.Proofs.YthgaadjkjnibaaaGreatDoor
open Go.RowKit Go.PlainAid Go.Lib Go.PHexM Go.Shelf
set_option linter.unusedVariables false
set_option linter.unusedSimpArgs false

/-- texts in memory, by their places -/
def TxT (w : World) (a : Option Addr) (l : List (List UInt8)) : Prop := ∀ (i : Nat) (x : List UInt8), l[i]? = some x → ∃ g off, a = some ⟨g, off, none⟩ ∧ w.cell? ⟨g, off + i, none⟩ = some (.string (S x))
theorem TxT.below {w w' : World} {a : Option Addr} {l : List (List UInt8)} (h : TxT w a l) (hb : Below w.heap.size w w') : TxT w' a l := fun i x hx => by
  obtain ⟨g, off, e, hc⟩ := h i x hx
  exact ⟨g, off, e, (hb.cell (World.block_lt_of_cell? _ _ hc)).trans hc⟩
theorem cellH {W : World} {b k : Nat} {cs : Array Value} {T : TypeId} {v : Value} (h : W.heap[b]? = some (.cells cs T (0, 0))) (hk : cs[k]? = some v) : W.cell? ⟨b, k, none⟩ = some v := by simp [World.cell?, h, hk]
theorem frozH {W : World} {b k : Nat} {cs : Array Value} {T : TypeId} (h : W.heap[b]? = some (.cells cs T (0, 0))) : W.frozen? ⟨b, k, none⟩ = false := by simp [World.frozen?, h]
/-- where internal/bytealg.MaxLen lies: some number -/
def MaxAt (w : World) : Prop := ∃ m : Int, w.cell? ⟨0, 0, none⟩ = some (.int .i64 m)
theorem MaxAt.below {w w' : World} (h : MaxAt w) (hb : Below w.heap.size w w') : MaxAt w' := by
  obtain ⟨m, hm⟩ := h
  exact ⟨m, (hb.cell (World.block_lt_of_cell? _ _ hm)).trans hm⟩
abbrev scanE (x : Int × Int × Int × Int) : Value := .tuple #[.agg #[.int .i32 x.1, .int .i32 x.2.1], .int .u8 x.2.2.1, .int .i64 x.2.2.2]
theorem scanT_un (d : LineD) (un : Int) (h : d.fields.length ≠ 2) : scanT d un = (0, 0, 0, un) := by
  unfold scanT
  split
  · next e => rw [e] at h; exact absurd rfl h
  · rfl
theorem rng_box {W : World} {n : Nat} {T : TypeId} {x y : Value} (a b : Int) (hx : W.heap[n]? = some (.cells #[x, y] T (0, 0))) :
    ((W.setCell ⟨n, 0, none⟩ (.int .i32 a)).setCell ⟨n, 1, none⟩ (.int .i32 b)).cell? ⟨n, 0, none⟩ = some (.int .i32 a) ∧ ((W.setCell ⟨n, 0, none⟩ (.int .i32 a)).setCell ⟨n, 1, none⟩ (.int .i32 b)).cell? ⟨n, 1, none⟩ = some (.int .i32 b) := by
  have k1 : (W.setCell ⟨n, 0, none⟩ (.int .i32 a)).heap[n]? = some (.cells #[.int .i32 a, y] T (0, 0)) := by
    rw [setCell_eq_setRow W n 0 _ _ _ _ hx]
    exact setRow_heap W n _ _ _ _ hx
  have k2 : ((W.setCell ⟨n, 0, none⟩ (.int .i32 a)).setCell ⟨n, 1, none⟩ (.int .i32 b)).heap[n]? = some (.cells #[.int .i32 a, .int .i32 b] T (0, 0)) := by
    rw [setCell_eq_setRow _ n 1 _ _ _ _ k1]
    exact setRow_heap _ n _ _ _ _ k1
  exact ⟨by simp [World.cell?, k2], by simp [World.cell?, k2]⟩

set_option maxRecDepth 100000 in
set_option maxHeartbeats 2000000 in
theorem scan7_any (d : LineD) (un : Int) (fa : Option Addr) (fc : Nat) (w : World) (hm : MaxAt w) (hT : TxT w fa d.fields) (hs : ∀ x ∈ d.fields, x.length ≤ 1073741824) :
    Calls Tryz.prog 61 #[lineV d (.slice fa d.fields.length fc), .int .i64 un] w fun e w' => e = .returned (scanE (scanT d un)) ∧ Below w.heap.size w w' := by
  obtain ⟨W0, hW0⟩ : ∃ W0, (w.alloc (.cells #[.int .i64 d.no, .int .u8 d.kind, .string (S d.name), .slice fa d.fields.length fc, .string (S d.note)] 53)).alloc (.cells #[.int .i32 0, .int .i32 0] 32) = W0 := ⟨_, rfl⟩
  have hB0 : Below w.heap.size w W0 := by rw [← hW0]; go_grown
  have hsz : W0.heap.size = w.heap.size + 1 + 1 := by rw [← hW0]; simp
  have bL : W0.heap[w.heap.size]? = some (.cells #[.int .i64 d.no, .int .u8 d.kind, .string (S d.name), .slice fa d.fields.length fc, .string (S d.note)] 53 (0, 0)) := by
    rw [← hW0]
    exact (Below.heap_alloc _ _ _ (by simp)).trans (heap_alloc_new w _)
  have bR : W0.heap[w.heap.size + 1]? = some (.cells #[.int .i32 0, .int .i32 0] 32 (0, 0)) := by
    rw [← hW0]
    have := heap_alloc_new (w.alloc (.cells #[.int .i64 d.no, .int .u8 d.kind, .string (S d.name), .slice fa d.fields.length fc, .string (S d.note)] 53)) (.cells #[.int .i32 0, .int .i32 0] 32)
    simpa using this
  have c3 : W0.cell? ⟨w.heap.size, 3, none⟩ = some (.slice fa d.fields.length fc) := cellH bL rfl
  have r0 : W0.cell? ⟨w.heap.size + 1, 0, none⟩ = some (.int .i32 0) := cellH bR rfl
  have r1 : W0.cell? ⟨w.heap.size + 1, 1, none⟩ = some (.int .i32 0) := cellH bR rfl
  have f0 : W0.frozen? ⟨w.heap.size + 1, 0, none⟩ = false := frozH bR
  have f1 : W0.frozen? ⟨w.heap.size + 1, 1, none⟩ = false := frozH bR
  have HEND : Hid (∀ (V : World) (a b : Int) (tmps : Array Value) (c e : Int), Below W0.heap.size W0 V → Below w.heap.size w ((V.setCell ⟨w.heap.size + 1, 0, none⟩ (.int .i32 a)).setCell ⟨w.heap.size + 1, 1, none⟩ (.int .i32 b)) ∧ ((V.setCell ⟨w.heap.size + 1, 0, none⟩ (.int .i32 a)).setCell ⟨w.heap.size + 1, 1, none⟩ (.int .i32 b)).cell? ⟨w.heap.size + 1, 0, none⟩ = some (.int .i32 a) ∧ ((V.setCell ⟨w.heap.size + 1, 0, none⟩ (.int .i32 a)).setCell ⟨w.heap.size + 1, 1, none⟩ (.int .i32 b)).cell? ⟨w.heap.size + 1, 1, none⟩ = some (.int .i32 b)) := fun V a b _ _ _ hV => by
    have hb := hB0.trans (hV.mono (by omega))
    obtain ⟨k0, k1⟩ := rng_box a b ((hV.block _ (by omega)).trans bR)
    exact ⟨(hb.setCell (p := ⟨w.heap.size + 1, 0, none⟩) (Nat.le_succ _) _).setCell (p := ⟨w.heap.size + 1, 1, none⟩) (Nat.le_succ _) _, k0, k1⟩
  by_cases h2 : d.fields.length = 2
  · obtain ⟨a, b, hab⟩ : ∃ a b, d.fields = [a, b] := by
      match hf : d.fields, h2 with
      | [a, b], _ => exact ⟨a, b, rfl⟩
    have hT0 := hT.below hB0
    obtain ⟨g, off, rfl, ca⟩ := hT0 0 a (by rw [hab]; rfl)
    obtain ⟨g', off', e', cb⟩ := hT0 1 b (by rw [hab]; rfl)
    cases e'
    rw [Nat.add_zero] at ca
    obtain ⟨m, hmw⟩ := hm.below hB0
    have hsa : (S a).size < 4294967281 := by rw [S_size]; have := hs a (by rw [hab]; simp); omega
    have hsb : (S b).size ≤ 35184372088832 := by rw [S_size]; have := hs b (by rw [hab]; simp); omega
    have HSP := hide (span_any m (S a) W0 hsa hmw)
    have eS : (S a).data.toList = a := rfl
    rw [eS, spanV_T] at HSP
    have hF : scanT d un = if (spanT a).2.2 = 0 then ((spanT a).1, (spanT a).2.1, classN (looseB (S b)), noneE (classN (looseB (S b)))) else (0, 0, 0, (spanT a).2.2) := by
      unfold scanT
      rw [hab]
    rw [hF]
    have HCL := hide (fun V => class_any (S b) V hsb)
    have KC := hide (fun V (hV : Below W0.heap.size W0 V) => (⟨(hV.cell (World.block_lt_of_cell? _ _ c3)).trans c3, (hV.cell (World.block_lt_of_cell? _ _ cb)).trans cb, (hV.cell (World.block_lt_of_cell? _ _ r0)).trans r0, (hV.cell (World.block_lt_of_cell? _ _ r1)).trans r1, frozH ((hV.block _ (by omega)).trans bR), frozH ((hV.block _ (by omega)).trans bR)⟩ : V.cell? ⟨w.heap.size, 3, none⟩ = some (.slice (some ⟨g, off, none⟩) d.fields.length fc) ∧ V.cell? ⟨g, off + 1, none⟩ = some (.string (S b)) ∧ V.cell? ⟨w.heap.size + 1, 0, none⟩ = some (.int .i32 0) ∧ V.cell? ⟨w.heap.size + 1, 1, none⟩ = some (.int .i32 0) ∧ V.frozen? ⟨w.heap.size + 1, 0, none⟩ = false ∧ V.frozen? ⟨w.heap.size + 1, 1, none⟩ = false))
    generalize classN (looseB (S b)) = c at *
    generalize spanT a = sp at *
    obtain ⟨lo, hi, se⟩ := sp
    simp only at *
    rw [h2] at *
    clear hT hT0 hs hF bL bR hm hab h2 hmw hsa hsb
    by_cases h0 : se = 0
    · rw [if_pos h0]
      subst h0
      go_enter Tryz.func61, Tryz.ntmps61
      go_wp2_with fail
      refine (unhide HSP).mono ?_
      rintro e w1 ⟨rfl, hb1⟩
      obtain ⟨W2, hW2⟩ : ∃ W2, w1.alloc (.cells #[.int .i32 lo, .int .i32 hi] 32) = W2 := ⟨_, rfl⟩
      have hb2 : Below W0.heap.size W0 W2 := by rw [← hW2]; exact hb1.alloc hb1.size _
      have hx2 : W2.heap[w1.heap.size]? = some (.cells #[.int .i32 lo, .int .i32 hi] 32 (0, 0)) := by rw [← hW2]; exact heap_alloc_new w1 _
      obtain ⟨e3, eb, -, -, -, -⟩ := unhide KC W2 hb2
      go_wp2_with fail
      refine (unhide HCL _).mono ?_
      rintro e w3 ⟨rfl, hb3⟩
      have hb30 : Below W0.heap.size W0 w3 := hb2.trans (hb3.mono hb2.size)
      obtain ⟨e3', eb', t0, t1, g0, g1⟩ := unhide KC w3 hb30
      have y0 : w3.cell? ⟨w1.heap.size, 0, none⟩ = some (.int .i32 lo) := cellH ((hb3.block _ (Array.getElem?_eq_some_iff.1 hx2).1).trans hx2) rfl
      have y1 : w3.cell? ⟨w1.heap.size, 1, none⟩ = some (.int .i32 hi) := cellH ((hb3.block _ (Array.getElem?_eq_some_iff.1 hx2).1).trans hx2) rfl
      go_wp2
      obtain ⟨k0, k1, k2⟩ := unhide HEND w3 lo hi #[] 0 0 hb30
      refine bodyPost_ret (v := scanE (lo, hi, c, noneE c)) ?_ rfl ⟨rfl, k0⟩
      simp [results, Tryz.results61, go_sem, k1, k2]
    · rw [if_neg h0]
      have dn : (se == 0) = false := by simpa using h0
      have dn' : (se != 0) = true := by simpa using h0
      clear h0
      go_enter Tryz.func61, Tryz.ntmps61
      go_wp2_with fail
      refine (unhide HSP).mono ?_
      rintro e w1 ⟨rfl, hb1⟩
      obtain ⟨W2, hW2⟩ : ∃ W2, w1.alloc (.cells #[.int .i32 lo, .int .i32 hi] 32) = W2 := ⟨_, rfl⟩
      have hb2 : Below W0.heap.size W0 W2 := by rw [← hW2]; exact hb1.alloc hb1.size _
      obtain ⟨e3, eb, t0, t1, g0, g1⟩ := unhide KC W2 hb2
      go_wp2
      obtain ⟨k0, k1, k2⟩ := unhide HEND W2 0 0 #[] 0 0 hb2
      refine bodyPost_ret (v := scanE (0, 0, 0, se)) ?_ rfl ⟨rfl, k0⟩
      simp [results, Tryz.results61, go_sem, k1, k2]
  · rw [scanT_un d un h2]
    have dn : ((d.fields.length : Int) == 2) = false := by simp; omega
    have dn' : ((d.fields.length : Int) != 2) = true := by simp; omega
    clear hT hs bL bR hm
    go_enter Tryz.func61, Tryz.ntmps61
    go_wp2
    obtain ⟨k0, k1, k2⟩ := unhide HEND W0 0 0 #[] 0 0 (Below.refl _ _)
    refine bodyPost_ret (v := scanE (0, 0, 0, un)) ?_ rfl ⟨rfl, k0⟩
    simp [results, Tryz.results61, go_sem, k1, k2]
end Go.Proofs.YthgaadjkjnibaaaGreatDoor

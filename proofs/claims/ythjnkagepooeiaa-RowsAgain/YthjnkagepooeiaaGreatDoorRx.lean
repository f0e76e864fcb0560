/-
  These texts, one behind the other: RwRh, RwOneM, RwReM, RwLe, RwSa.
-/
import Derived.Test.YthjnkagepooeiaaGreatDoorRwM
import Derived.Lib.Strings
import Derived.Test.YthjnkagepooeiaaGreatDoorRwA1
import Derived.Test.YthjnkagepooeiaaGreatDoorRwE
import Derived.Test.YthjnkagepooeiaaGreatDoorRwG0
import Derived.Test.YthjnkagepooeiaaGreatDoorRwA0
import Derived.Maps.AppendAt
import Derived.Deep.Upon
import Derived.BigQuiet
import Derived.Laws.StructEq
/-
  The document's Half.
-/
namespace Go.Proofs.YthjnkagepooeiaaGreatDoor
open Go.RowKit Go.PlainAid Go.Lib Go.PHexM Go.Shelf
set_option linter.unusedVariables false
set_option linter.unusedSimpArgs false

/-- a name that opens with the sign, and ends so, with something between -/
def okE (l e : List UInt8) : Prop := e.length + 1 < l.length ∧ l.head? = some 60 ∧ l.drop (l.length - e.length) = e
instance (l e : List UInt8) : Decidable (okE l e) := inferInstanceAs (Decidable (_ ∧ _ ∧ _))
theorem ok_half (l e : List UInt8) : (hasPrefix l [60] = true ∧ hasSuffix (l.drop 1) e = true ∧ trimSuffix (l.drop 1) e ≠ []) ↔ okE l e := by
  cases l with
  | nil => simp [hasPrefix, okE]
  | cons x u =>
    have hp : hasPrefix (x :: u) [60] = true ↔ x = 60 := by
      unfold hasPrefix
      simp only [List.isPrefixOf, Bool.and_true, beq_iff_eq]
      exact ⟨fun h => h.symm, fun h => h.symm⟩
    rw [hp]
    show _ ∧ hasSuffix u e = true ∧ trimSuffix u e ≠ [] ↔ _
    have hs : hasSuffix u e = true ↔ e.length ≤ u.length ∧ u.drop (u.length - e.length) = e := by
      rw [← hasSuffix_of_drop]
      simp
    have ht : hasSuffix u e = true → (trimSuffix u e ≠ [] ↔ e.length < u.length) := by
      intro h
      unfold trimSuffix
      rw [if_pos h]
      have h1 := (hs.1 h).1
      constructor
      · intro hn
        refine Decidable.byContradiction fun hc => hn ?_
        rw [show u.length - e.length = 0 by omega]
        rfl
      · intro hl hn
        have := congrArg List.length hn
        rw [List.length_take] at this
        simp at this
        omega
    unfold okE
    constructor
    · rintro ⟨rfl, h2, h3⟩
      have h4 := (ht h2).1 h3
      have h5 := hs.1 h2
      refine ⟨by simp; omega, rfl, ?_⟩
      rw [List.length_cons, show u.length + 1 - e.length = (u.length - e.length) + 1 by omega, List.drop_succ_cons]
      exact h5.2
    · rintro ⟨h1, h2, h3⟩
      simp only [List.length_cons] at h1 h3
      rw [show u.length + 1 - e.length = (u.length - e.length) + 1 by omega, List.drop_succ_cons] at h3
      have h4 := hs.2 ⟨by omega, h3⟩
      exact ⟨by simpa using h2, h4, (ht h4).2 (by omega)⟩
theorem trim_half {l e : List UInt8} (h : okE l e) : trimSuffix (l.drop 1) e = (l.drop 1).take (l.length - e.length - 1) := by
  have h2 := ((ok_half l e).2 h).2.1
  unfold trimSuffix
  rw [if_pos h2, List.length_drop]
  congr 1
  omega
theorem half_first {l : List UInt8} (h : okE l firstB) : halfP l = ((l.drop 1).take (l.length - 9), 1) := by
  obtain ⟨h1, h2, h3⟩ := (ok_half l firstB).2 h
  have ht := trim_half h
  unfold halfP
  rw [if_pos h1, if_pos ⟨h2, h3⟩, ht]
  rfl
theorem half_last {l : List UInt8} (hn : ¬ okE l firstB) (h : okE l lastB) : halfP l = ((l.drop 1).take (l.length - 8), 2) := by
  obtain ⟨h1, h2, h3⟩ := (ok_half l lastB).2 h
  have ht := trim_half h
  unfold halfP
  rw [if_pos h1, if_neg (fun hh => hn ((ok_half l firstB).1 ⟨h1, hh⟩)), if_pos ⟨h2, h3⟩, ht]
  rfl
theorem half_none {l : List UInt8} (hn : ¬ okE l firstB) (hm : ¬ okE l lastB) : halfP l = (l, 0) := by
  unfold halfP
  by_cases h1 : hasPrefix l [60] = true
  · rw [if_pos h1, if_neg (fun hh => hn ((ok_half l firstB).1 ⟨h1, hh⟩)), if_neg (fun hh => hm ((ok_half l lastB).1 ⟨h1, hh⟩))]
  · rw [if_neg h1]

/-- what the document's Half answers -/
def halfV (l : List UInt8) : Value := if (halfP l).2 = 0 then .tuple #[.string ⟨#[]⟩, .bool false, .bool false] else .tuple #[.string (S (halfP l).1), .bool ((halfP l).2 == 1), .bool true]
theorem halfV_first {l : List UInt8} (h : okE l firstB) : halfV l = .tuple #[.string (S ((l.drop 1).take (l.length - 9))), .bool true, .bool true] := by
  unfold halfV; rw [half_first h]; rfl
theorem halfV_last {l : List UInt8} (hn : ¬ okE l firstB) (h : okE l lastB) : halfV l = .tuple #[.string (S ((l.drop 1).take (l.length - 8))), .bool false, .bool true] := by
  unfold halfV; rw [half_last hn h]; rfl
theorem halfV_none {l : List UInt8} (hn : ¬ okE l firstB) (hm : ¬ okE l lastB) : halfV l = .tuple #[.string ⟨#[]⟩, .bool false, .bool false] := by
  unfold halfV; rw [half_none hn hm]; rfl
/-- how it comes that a name does not end so -/
theorem notE {s : ByteArray} {e : List UInt8} (k : Nat) (he : e.length = k) (h : ¬ okE (L s) e) : s.size ≤ k + 1 ∨ (k + 1 < s.size ∧ bN s 0 ≠ 60) ∨ (k + 1 < s.size ∧ bN s 0 = 60 ∧ ((s.extract (s.size - k) s.size).toList == e) = false) := by
  by_cases h1 : s.size ≤ k + 1
  · exact .inl h1
  right
  by_cases h2 : bN s 0 = 60
  · right
    refine ⟨by omega, h2, ?_⟩
    have hd : (L s).drop ((L s).length - e.length) = (s.extract (s.size - k) s.size).toList := by
      rw [ByteArray.toList_eq]
      show _ = L (s.extract (s.size - k) s.size)
      rw [L_extract, L_len, he, List.take_of_length_le (by rw [List.length_drop, L_len]; exact Nat.le_refl _)]
    rw [beq_eq_false_iff_ne]
    intro hh
    refine h ⟨by rw [L_len, he]; omega, ?_, by rw [hd]; exact hh⟩
    rw [List.head?_eq_getElem?, L_at s 0 (by omega)]
    congr 1
    exact UInt8.toNat_inj.1 h2
  · exact .inl ⟨by omega, h2⟩
theorem isE {s : ByteArray} {e : List UInt8} (k : Nat) (he : e.length = k) (h : okE (L s) e) : k + 1 < s.size ∧ bN s 0 = 60 ∧ ((s.extract (s.size - k) s.size).toList == e) = true := by
  obtain ⟨h1, h2, h3⟩ := h
  rw [L_len, he] at h1
  have hd : (L s).drop ((L s).length - e.length) = (s.extract (s.size - k) s.size).toList := by
    rw [ByteArray.toList_eq]
    show _ = L (s.extract (s.size - k) s.size)
    rw [L_extract, L_len, he, List.take_of_length_le (by rw [List.length_drop, L_len]; exact Nat.le_refl _)]
  refine ⟨h1, ?_, ?_⟩
  · rw [List.head?_eq_getElem?, L_at s 0 (by omega)] at h2
    have := Option.some.inj h2
    unfold bN
    rw [this]
    rfl
  · rw [beq_iff_eq, ← hd]; exact h3

set_option maxRecDepth 100000 in
theorem half_results {tmps : Array Value} {w : World} {a b c : Value} (h2 : tmps.getD 2 undef = a) (h3 : tmps.getD 3 undef = b) (h4 : tmps.getD 4 undef = c) : (results Tryz.f42 tmps).run Tryz.prog w = .ok (.tuple #[a, b, c]) w := by
  have h2' : tmps[2]?.getD undef = a := by simpa using h2
  have h3' : tmps[3]?.getD undef = b := by simpa using h3
  have h4' : tmps[4]?.getD undef = c := by simpa using h4
  simp [results, Tryz.results42, go_sem, h2', h3', h4']
set_option maxRecDepth 100000 in
set_option maxHeartbeats 4000000 in
theorem refHalf_any (s : ByteArray) (w : World) (hs : s.size ≤ 1099511627776) :
    Calls Tryz.prog 42 #[.string s] w fun e w' => e = .returned (halfV (L s)) ∧ Below w.heap.size w w' := by
  obtain ⟨W0, hW0⟩ : ∃ W0, w.alloc (.cells #[.string ⟨#[44, 32, 70, 105, 114, 115, 116, 62]⟩, .string ⟨#[44, 32, 76, 97, 115, 116, 62]⟩] 9) = W0 := ⟨_, rfl⟩
  have hb0 : Below w.heap.size w W0 := by rw [← hW0]; exact (Below.refl _ w).alloc (Nat.le_refl _) _
  have hbk : W0.heap[w.heap.size]? = some (.cells #[.string ⟨#[44, 32, 70, 105, 114, 115, 116, 62]⟩, .string ⟨#[44, 32, 76, 97, 115, 116, 62]⟩] 9 (0, 0)) := by rw [← hW0]; exact heap_alloc_new w _
  have k0 : W0.cell? ⟨w.heap.size, 0, none⟩ = some (.string ⟨#[44, 32, 70, 105, 114, 115, 116, 62]⟩) := by simp [World.cell?, hbk]
  have k1 : W0.cell? ⟨w.heap.size, 1, none⟩ = some (.string ⟨#[44, 32, 76, 97, 115, 116, 62]⟩) := by simp [World.cell?, hbk]
  have HB := hide hb0
  clear hbk hb0
  have hv0 : ∀ h : 0 < s.size, (s[0]'h).toNat = bN s 0 := fun h => by rw [bN, get_in s 0 h]
  have hLl : (L s).length = s.size := L_len s
  go_enter Tryz.func42, Tryz.ntmps42
  go_wp2
  clear hW0
  go_loopw [10] (fun v10 wr => ∃ i : Nat, v10 = .int .i64 i ∧ i ≤ 2 ∧ Hid (1 ≤ i → ¬ okE (L s) firstB) ∧ Hid (2 ≤ i → ¬ okE (L s) lastB) ∧ wr = W0) (fun v10 _ => 2 - (RowKit.intOf v10).toNat)
  case atStart => exact ⟨0, rfl, by omega, fun h => by omega, fun h => by omega, rfl⟩
  case round =>
    obtain ⟨i, rfl, hi, H1, H2, rfl⟩ := hrel
    rcases (by omega : i = 0 ∨ i = 1 ∨ i = 2) with rfl | rfl | rfl
    · have hw1 : IntKind.i64.wrap ((s.size : Int) - 8) = (s.size : Int) - 8 := by rw [IntKind.wrap_i64]; omega
      by_cases ho : okE (L s) firstB
      · obtain ⟨e1, e2, e3⟩ := isE 8 rfl ho
        have hv := hv0 (by omega)
        have tn : ((s.size : Int) - 8).toNat = s.size - 8 := by omega
        have e1' : (1 : Int) < (s.size : Int) - 8 := by omega
        have HV := hide (halfV_first ho)
        clear ho
        go_wp2
        refine bodyPost_ret (half_results rfl rfl rfl) rfl ⟨?_, unhide HB⟩
        rw [unhide HV, hLl, ← S_L (s.extract 1 (s.size - 8)), L_extract]
        rfl
      · have HNO := hide ho
        rcases notE 8 rfl ho with e1 | ⟨e1, e2⟩ | ⟨e1, e2, e3⟩
        · have e1' : ¬ (1 : Int) < (s.size : Int) - 8 := by omega
          clear ho
          go_wp2
          go_roundw
          case rel => exact ⟨1, by go_num, by omega, fun _ => unhide HNO, fun h => by omega, trivial⟩
          case measure => simp [RowKit.intOf]
        · have hv := hv0 (by omega)
          have e1' : (1 : Int) < (s.size : Int) - 8 := by omega
          have e2' : ((bN s 0 : Int) == 60) = false := by rw [beq_eq_false_iff_ne]; omega
          clear ho e2
          go_wp2
          go_roundw
          case rel => exact ⟨1, by go_num, by omega, fun _ => unhide HNO, fun h => by omega, trivial⟩
          case measure => simp [RowKit.intOf]
        · have hv := hv0 (by omega)
          have tn : ((s.size : Int) - 8).toNat = s.size - 8 := by omega
          have e1' : (1 : Int) < (s.size : Int) - 8 := by omega
          have e2' : ((bN s 0 : Int) == 60) = true := by rw [beq_iff_eq]; omega
          clear ho e2
          go_wp2
          go_roundw
          case rel => exact ⟨1, by go_num, by omega, fun _ => unhide HNO, fun h => by omega, trivial⟩
          case measure => simp [RowKit.intOf]
    · have hw1 : IntKind.i64.wrap ((s.size : Int) - 7) = (s.size : Int) - 7 := by rw [IntKind.wrap_i64]; omega
      by_cases ho : okE (L s) lastB
      · obtain ⟨e1, e2, e3⟩ := isE 7 rfl ho
        have hv := hv0 (by omega)
        have tn : ((s.size : Int) - 7).toNat = s.size - 7 := by omega
        have e1' : (1 : Int) < (s.size : Int) - 7 := by omega
        have HV := hide (halfV_last (unhide H1 (by omega)) ho)
        clear ho
        go_wp2
        refine bodyPost_ret (half_results rfl rfl rfl) rfl ⟨?_, unhide HB⟩
        rw [unhide HV, hLl, ← S_L (s.extract 1 (s.size - 7)), L_extract]
        rfl
      · have HNO := hide ho
        rcases notE 7 rfl ho with e1 | ⟨e1, e2⟩ | ⟨e1, e2, e3⟩
        · have e1' : ¬ (1 : Int) < (s.size : Int) - 7 := by omega
          clear ho
          go_wp2
          go_roundw
          case rel => exact ⟨2, by go_num, by omega, fun _ => unhide H1 (by omega), fun _ => unhide HNO, trivial⟩
          case measure => simp [RowKit.intOf]
        · have hv := hv0 (by omega)
          have e1' : (1 : Int) < (s.size : Int) - 7 := by omega
          have e2' : ((bN s 0 : Int) == 60) = false := by rw [beq_eq_false_iff_ne]; omega
          clear ho e2
          go_wp2
          go_roundw
          case rel => exact ⟨2, by go_num, by omega, fun _ => unhide H1 (by omega), fun _ => unhide HNO, trivial⟩
          case measure => simp [RowKit.intOf]
        · have hv := hv0 (by omega)
          have tn : ((s.size : Int) - 7).toNat = s.size - 7 := by omega
          have e1' : (1 : Int) < (s.size : Int) - 7 := by omega
          have e2' : ((bN s 0 : Int) == 60) = true := by rw [beq_iff_eq]; omega
          clear ho e2
          go_wp2
          go_roundw
          case rel => exact ⟨2, by go_num, by omega, fun _ => unhide H1 (by omega), fun _ => unhide HNO, trivial⟩
          case measure => simp [RowKit.intOf]
    · have HV := hide (halfV_none (unhide H1 (by omega)) (unhide H2 (by omega)))
      go_wp2
      refine bodyPost_ret (half_results rfl rfl rfl) rfl ⟨?_, unhide HB⟩
      rw [unhide HV]
      rfl
end Go.Proofs.YthjnkagepooeiaaGreatDoor
/-
  The rows of a text rise; the numbers that rows have.
-/
namespace Go.Proofs.YthjnkagepooeiaaGreatDoor
open Go.RowKit Go.PlainAid Go.Lib Go.PHexM
set_option linter.unusedVariables false
set_option linter.unusedSimpArgs false

theorem hexP_le {l : List UInt8} {n : Nat} (h : hexP l = some n) : n ≤ 1114111 := by
  unfold hexP at h
  split at h
  · split at h
    · cases h
    · split at h
      · cases h
      · cases h; omega
  · cases h
theorem cell_first {a : Nat} (ha : a ≠ 0) (f : List UInt8) (r : RowD) : (cellP a f r).1.first = r.first ∧ (cellP a f r).1.last = r.last := by
  unfold cellP
  rw [if_neg ha]
  (repeat' split) <;> exact ⟨rfl, rfl⟩
theorem fold_first (fs : List (List UInt8)) : ∀ (l : List Nat) (r : RowD), (∀ a ∈ l, a ≠ 0) → (foldC fs l r).2 = 0 → (foldC fs l r).1.first = r.first ∧ (foldC fs l r).1.last = r.last
  | [], r, _, _ => ⟨rfl, rfl⟩
  | a :: l, r, ha, h => by
    unfold foldC at h ⊢
    split at h
    · rename_i hz
      rw [if_pos hz]
      have h1 := fold_first fs l _ (fun b hb => ha b (by simp [hb])) h
      have h2 := cell_first (ha a (by simp)) (fs.getD a []) r
      exact ⟨h1.1.trans h2.1, h1.2.trans h2.2⟩
    · rename_i hz
      exact absurd h hz
theorem scan_first {d : LineD} (h : (scanR d).2 = 0) : ∃ n : Nat, n ≤ 1114111 ∧ (scanR d).1.first = n ∧ (scanR d).1.last = n := by
  unfold scanR at h ⊢
  split at h
  · cases h
  · rename_i h2
    rw [if_neg h2]
    split at h
    · cases h
    · rename_i h1
      rw [if_neg h1]
      unfold cellsL foldC at h ⊢
      cases hx : hexP (d.fields.getD 0 []) with
      | none =>
        have e : cellP 0 (d.fields.getD 0 []) { zeroR with line := d.no } = ({ zeroR with line := d.no, first := 0, last := 0 }, 40) := by unfold cellP; rw [if_pos rfl, hx]
        rw [e] at h
        cases h
      | some n =>
        have e : cellP 0 (d.fields.getD 0 []) { zeroR with line := d.no } = ({ zeroR with line := d.no, first := n, last := n }, 0) := by unfold cellP; rw [if_pos rfl, hx]
        rw [e] at h ⊢
        rw [if_pos rfl] at h ⊢
        have := fold_first d.fields _ _ (by simp) h
        exact ⟨n, hexP_le hx, this.1, this.2⟩

/-- rows that rise, the first above a -/
def Rise : Int → List RowD → Prop
  | _, [] => True
  | a, x :: l => a < x.first ∧ x.first ≤ x.last ∧ x.last ≤ 1114111 ∧ Rise x.last l
theorem Rise.mono {a b : Int} (h : a ≤ b) {l : List RowD} (k : Rise b l) : Rise a l := by
  cases l with
  | nil => trivial
  | cons x l => exact ⟨Int.lt_of_le_of_lt h k.1, k.2⟩
def lowW (st : WalkD) : Int := match st.held with | some _ => st.above - 1 | none => st.above
structure StOk (st : WalkD) : Prop where
  top : st.above ≤ 1114111
  held : ∀ x, st.held = some x → x.2.first = st.above

theorem name_same6 {st : WalkD} {d : LineD} (h : stepE st d 1 = 0) : (heldK st == 1) = (whichR d == 2) := by
  have h' : (if ((heldK st == 1) != (whichR d == 2) || ((heldK st == 1) && !((plainR d).name == (heldRow st).name))) = true then (61 : Int) else 0) = 0 := h
  clear h
  split at h'
  · cases h'
  · rename_i hn
    revert hn
    cases (heldK st == 1) <;> cases (whichR d == 2) <;> simp
theorem ask_parts {st : WalkD} {d : LineD} (h : askE st d = 0) : stepE st d 0 = 0 ∧ stepE st d 1 = 0 ∧ stepE st d 2 = 0 ∧ stepE st d 3 = 0 := by
  unfold askE at h
  split at h
  · exact absurd h (by assumption)
  · split at h
    · exact absurd h (by assumption)
    · split at h
      · exact absurd h (by assumption)
      · rename_i h0 h1 h2
        exact ⟨by simpa using h0, by simpa using h1, by simpa using h2, h⟩
theorem each_rise : ∀ (ds : List LineD) (st : WalkD), StOk st → (∀ x ∈ eachR st ds, x.2 = 0) → Rise (lowW st) ((eachR st ds).map (·.1))
  | [], st, ok, hz => by
    unfold eachR lastR at hz ⊢
    cases hh : st.held with
    | none => simp [hh, Rise]
    | some x =>
      rw [hh] at hz
      have := hz _ (List.mem_singleton.2 rfl)
      cases this
  | d :: ds, st, ok, hz => by
    unfold eachR at hz ⊢
    rw [List.map_append]
    by_cases hk : d.kind = 0 ∨ d.kind = 3
    · have e : stepR st d = ([], st) := by unfold stepR; rw [if_pos hk]
      rw [e] at hz ⊢
      exact each_rise ds st ok (fun x hx => hz x (by simpa using hx))
    by_cases ha : askE st d = 0
    · obtain ⟨a0, a1, a2, a3⟩ := ask_parts ha
      have hn := name_same6 a1
      have hr : st.above < (plainR d).first := by
        have a2' : (if (plainR d).first ≤ st.above then (62 : Int) else 0) = 0 := a2
        clear a2
        split at a2'
        · cases a2'
        · omega
      obtain ⟨n, n1, n2, n3⟩ := scan_first a0
      have p1 : (plainR d).first = n := n2
      have p2 : (plainR d).last = n := n3
      by_cases h1 : whichR d = 1
      · have e : stepR st d = ([], ⟨(plainR d).first, some (d, plainR d)⟩) := by unfold stepR; rw [if_neg hk, if_neg (by simpa using ha), if_pos h1]
        rw [e] at hz ⊢
        have hh : st.held = none := by
          rw [h1] at hn
          cases hh : st.held with
          | none => rfl
          | some x => simp [heldK, hh] at hn
        refine Rise.mono ?_ (each_rise ds ⟨(plainR d).first, some (d, plainR d)⟩ ⟨by show (plainR d).first ≤ _; omega, fun x hx => by cases hx; rfl⟩ (fun x hx => hz x (by simpa using hx)))
        show lowW st ≤ (plainR d).first - 1
        unfold lowW
        rw [hh]
        show st.above ≤ _
        omega
      by_cases h2 : whichR d = 2
      · have e : stepR st d = ([({ heldRow st with last := (plainR d).last }, 0)], ⟨(plainR d).first, none⟩) := by unfold stepR; rw [if_neg hk, if_neg (by simpa using ha), if_neg h1, if_pos h2]
        rw [e] at hz ⊢
        obtain ⟨x, hh⟩ : ∃ x, st.held = some x := by
          rw [h2] at hn
          cases hh : st.held with
          | none => simp [heldK, hh] at hn
          | some x => exact ⟨x, rfl⟩
        have hf : (heldRow st).first = st.above := by unfold heldRow; rw [hh]; exact ok.held x hh
        refine ⟨?_, ?_, ?_, Rise.mono ?_ (each_rise ds ⟨(plainR d).first, none⟩ ⟨by show (plainR d).first ≤ _; omega, fun x hx => by cases hx⟩ (fun x hx => hz x (by simp [hx])))⟩
        · show lowW st < (heldRow st).first
          unfold lowW
          rw [hf, hh]
          show st.above - 1 < st.above
          omega
        · show (heldRow st).first ≤ (plainR d).last
          omega
        · show (plainR d).last ≤ _
          omega
        · show (plainR d).last ≤ (plainR d).first
          omega
      · have e : stepR st d = ([(plainR d, 0)], ⟨(plainR d).first, st.held⟩) := by unfold stepR; rw [if_neg hk, if_neg (by simpa using ha), if_neg h1, if_neg h2]
        have hh : st.held = none := by
          cases hh : st.held with
          | none => rfl
          | some x =>
            have : (whichR d == 2) = false := by simpa using h2
            rw [this] at hn
            simp [heldK, hh] at hn
        rw [e, hh] at hz ⊢
        refine ⟨?_, ?_, ?_, Rise.mono ?_ (each_rise ds ⟨(plainR d).first, none⟩ ⟨by show (plainR d).first ≤ _; omega, fun x hx => by cases hx⟩ (fun x hx => hz x (by simp [hx])))⟩
        · show lowW st < (plainR d).first
          unfold lowW
          rw [hh]
          exact hr
        · show (plainR d).first ≤ (plainR d).last
          omega
        · show (plainR d).last ≤ _
          omega
        · show (plainR d).last ≤ (plainR d).first
          omega
    · have e : stepR st d = ([({ zeroR with line := d.no }, askE st d)], st) := by unfold stepR; rw [if_neg hk, if_pos ha]
      rw [e] at hz
      exact absurd (hz ({ zeroR with line := d.no }, askE st d) (List.mem_append_left _ (List.mem_singleton.2 rfl))) ha
theorem tell_none (l : List (RowD × Int)) (h : (tellR l).2 = none) : (∀ x ∈ l, x.2 = 0) ∧ (tellR l).1 = l.map (·.1) := by
  induction l with
  | nil => exact ⟨fun x hx => by simp at hx, rfl⟩
  | cons a l ih =>
    unfold tellR at h ⊢
    split at h
    · rename_i ha
      obtain ⟨i1, i2⟩ := ih h
      rw [if_pos ha]
      refine ⟨fun x hx => ?_, by rw [i2]; rfl⟩
      rcases List.mem_cons.1 hx with rfl | hx
      · exact ha
      · exact i1 x hx
    · cases h
theorem rows_rise {s : ByteArray} (h : (rowsS s).2 = none) : Rise (-1) (rowsS s).1 := by
  unfold rowsS at h ⊢
  cases hr : (readS s).2 with
  | some x => rw [hr] at h; cases h
  | none =>
    rw [hr] at h
    simp only at h ⊢
    obtain ⟨h1, h2⟩ := tell_none _ h
    rw [h2]
    exact each_rise _ startW ⟨by decide, fun x hx => by cases hx⟩ h1

/-- the numbers of a row that are told -/
def loR (x : RowD) : Int := max x.first 0
def hiR (x : RowD) : Int := min x.last 1114111
def cntR (x : RowD) : Nat := (hiR x + 1 - loR x).toNat
def numsR (x : RowD) : List (Int × RowD) := (List.range (cntR x)).map fun k : Nat => (loR x + (k : Int), x)
def runesR (rs : List RowD) : List (Int × RowD) := rs.flatMap numsR
theorem nums_len (x : RowD) : (numsR x).length = cntR x := by simp [numsR]
theorem nums_at {x : RowD} {k : Nat} (h : k < cntR x) : (numsR x)[k]? = some (loR x + k, x) := by
  simp [numsR, h]
theorem nums_take {x : RowD} {k : Nat} (h : k < cntR x) : (numsR x).take (k + 1) = (numsR x).take k ++ [(loR x + k, x)] := by
  rw [List.take_add_one, nums_at h]; rfl
theorem runes_take {rs : List RowD} {i : Nat} {x : RowD} (h : rs[i]? = some x) : runesR (rs.take (i + 1)) = runesR (rs.take i) ++ numsR x := by
  rw [List.take_add_one, h]; simp [runesR]
theorem runes_split {rs : List RowD} {i : Nat} {x : RowD} (h : rs[i]? = some x) : runesR rs = runesR (rs.take i) ++ (numsR x ++ runesR (rs.drop (i + 1))) := by
  have h1 : rs = rs.take i ++ x :: rs.drop (i + 1) := by
    obtain ⟨hl, he⟩ := List.getElem?_eq_some_iff.1 h
    rw [← he, ← List.drop_eq_getElem_cons hl, List.take_append_drop]
  conv => lhs; rw [h1]
  simp [runesR]
theorem runes_pre {rs : List RowD} {i k : Nat} {x : RowD} (h : rs[i]? = some x) (hk : k < cntR x) : (runesR (rs.take i) ++ (numsR x).take k) ++ [(loR x + k, x)] <+: runesR rs := by
  rw [List.append_assoc, ← nums_take hk, runes_split h]
  refine (List.prefix_append_right_inj _).2 ?_
  exact (List.take_prefix _ _).trans (List.prefix_append _ _)

theorem mem_nums {x : RowD} {p : Int × RowD} (h : p ∈ numsR x) : p.2 = x ∧ loR x ≤ p.1 ∧ p.1 ≤ hiR x := by
  simp only [numsR, List.mem_map, List.mem_range] at h
  obtain ⟨k, hk, rfl⟩ := h
  unfold cntR at hk
  exact ⟨rfl, by show loR x ≤ loR x + k; omega, by show loR x + k ≤ _; omega⟩
theorem nums_has {x : RowD} {r : Int} (h1 : loR x ≤ r) (h2 : r ≤ hiR x) : (r, x) ∈ numsR x := by
  simp only [numsR, List.mem_map, List.mem_range]
  refine ⟨(r - loR x).toNat, by unfold cntR; omega, ?_⟩
  rw [show loR x + ((r - loR x).toNat : Int) = r by omega]
theorem rise_mem {a : Int} {l : List RowD} (h : Rise a l) : ∀ x ∈ l, a < x.first ∧ x.first ≤ x.last ∧ x.last ≤ 1114111 := by
  induction l generalizing a with
  | nil => simp
  | cons y l ih =>
    intro x hx
    obtain ⟨h1, h2, h3, h4⟩ := h
    rcases List.mem_cons.1 hx with rfl | hx
    · exact ⟨h1, h2, h3⟩
    · have := ih h4 x hx
      exact ⟨by omega, this.2⟩
theorem nums_pair (x : RowD) : (numsR x).Pairwise (fun p q => p.1 < q.1) := by
  unfold numsR
  rw [List.pairwise_map]
  refine List.Pairwise.imp ?_ List.pairwise_lt_range
  intro a b hab
  show loR x + a < loR x + b
  omega
theorem runes_pair {a : Int} {l : List RowD} (h : Rise a l) (ha : -1 ≤ a) : (runesR l).Pairwise (fun p q => p.1 < q.1) ∧ ∀ p ∈ runesR l, a < p.1 ∧ p.2.first ≤ p.1 ∧ p.1 ≤ p.2.last := by
  induction l generalizing a with
  | nil => exact ⟨List.Pairwise.nil, fun p hp => by simp [runesR] at hp⟩
  | cons x l ih =>
    obtain ⟨h1, h2, h3, h4⟩ := h
    obtain ⟨i1, i2⟩ := ih h4 (by omega)
    have e : runesR (x :: l) = numsR x ++ runesR l := rfl
    have el : loR x = x.first := by unfold loR; omega
    have eh : hiR x = x.last := by unfold hiR; omega
    rw [e]
    refine ⟨List.pairwise_append.2 ⟨nums_pair x, i1, fun p hp q hq => ?_⟩, fun p hp => ?_⟩
    · have m := mem_nums hp
      have := (i2 q hq).1
      omega
    · rcases List.mem_append.1 hp with hp | hp
      · obtain ⟨m1, m2, m3⟩ := mem_nums hp
        rw [m1]
        exact ⟨by omega, by omega, by omega⟩
      · have := i2 p hp
        exact ⟨by omega, this.2⟩
/-- the last number ahead -/
def lastN (pre : List (Int × RowD)) : Int := match pre.getLast? with | some p => p.1 | none => -1
theorem lastN_snoc (pre : List (Int × RowD)) (x : Int × RowD) : lastN (pre ++ [x]) = x.1 := by simp [lastN]
theorem rise_next {l : List RowD} (h : Rise (-1) l) {pre : List (Int × RowD)} {x : Int × RowD} (hp : pre ++ [x] <+: runesR l) : lastN pre < x.1 ∧ x.2.first ≤ x.1 ∧ x.1 ≤ x.2.last := by
  obtain ⟨p1, p2⟩ := runes_pair h (Int.le_refl _)
  have hm := p2 x (hp.subset (by simp))
  refine ⟨?_, hm.2⟩
  unfold lastN
  cases hg : pre.getLast? with
  | none => exact hm.1
  | some q =>
    obtain ⟨ys, rfl⟩ := List.getLast?_eq_some_iff.1 hg
    have := p1.sublist hp.sublist
    rw [List.append_assoc] at this
    exact (List.pairwise_cons.1 (List.pairwise_append.1 this).2.1).1 x (by simp)
def thereB (r : Int) (pre : List (Int × RowD)) : Bool := pre.any fun p => p.1 == r
theorem there_snoc (r : Int) (pre : List (Int × RowD)) (x : Int × RowD) : thereB r (pre ++ [x]) = (thereB r pre || x.1 == r) := by simp [thereB]
def hasN (r : Int) (l : List RowD) : Nat := (l.filter (hasB r)).length
theorem has_none {a r : Int} {l : List RowD} (h : Rise a l) (hr : r ≤ a) : hasN r l = 0 := by
  unfold hasN
  rw [List.length_eq_zero_iff, List.filter_eq_nil_iff]
  intro x hx
  have := rise_mem h x hx
  simp [hasB]
  omega
theorem rise_count {a r : Int} {l : List RowD} (h : Rise a l) (ha : -1 ≤ a) : hasN r l ≤ 1 ∧ ((findR l r).isSome = (hasN r l == 1)) ∧ thereB r (runesR l) = (hasN r l == 1) := by
  induction l generalizing a with
  | nil => exact ⟨by simp [hasN], rfl, rfl⟩
  | cons x l ih =>
    obtain ⟨h1, h2, h3, h4⟩ := h
    obtain ⟨i1, i2, i3⟩ := ih h4 (by omega)
    have el : loR x = x.first := by unfold loR; omega
    have eh : hiR x = x.last := by unfold hiR; omega
    have et : thereB r (runesR (x :: l)) = (thereB r (numsR x) || thereB r (runesR l)) := by simp [thereB, runesR]
    by_cases hb : hasB r x = true
    · have hb' := hb
      simp only [hasB, Bool.and_eq_true, decide_eq_true_eq] at hb'
      have h0 := has_none h4 (show r ≤ x.last by omega)
      have e1 : hasN r (x :: l) = 1 := by
        unfold hasN at h0 ⊢
        rw [List.filter_cons, if_pos hb, List.length_cons, h0]
      rw [e1, et]
      refine ⟨Nat.le_refl _, ?_, ?_⟩
      · simp [findR, List.find?_cons, hb]
      · have : thereB r (numsR x) = true := by
          unfold thereB
          rw [List.any_eq_true]
          exact ⟨(r, x), nums_has (by omega) (by omega), by simp⟩
        rw [this]; rfl
    · have hb0 : hasB r x = false := by simpa using hb
      have e1 : hasN r (x :: l) = hasN r l := by
        unfold hasN
        rw [List.filter_cons, if_neg hb]
      rw [e1, et]
      refine ⟨i1, ?_, ?_⟩
      · rw [← i2]; simp [findR, List.find?_cons, hb0]
      · have : thereB r (numsR x) = false := by
          unfold thereB
          rw [List.any_eq_false]
          intro p hp
          obtain ⟨m1, m2, m3⟩ := mem_nums hp
          simp only [hasB, Bool.and_eq_false_iff, decide_eq_false_iff_not] at hb0
          simp
          omega
        rw [this, Bool.false_or, i3]
/-- how many numbers rows have, as far as they are counted -/
def ptsR : List RowD → Nat → Nat
  | [], n => n
  | x :: l, n => if n ≤ 4194304 then ptsR l (n + cntR x) else n
theorem cnt_le (x : RowD) : cntR x ≤ 1114112 := by unfold cntR loR hiR; omega
theorem pts_len : ∀ (l : List RowD) (n : Nat), ptsR l n ≤ 4194304 → ptsR l n = n + (runesR l).length
  | [], n, _ => by simp [ptsR, runesR]
  | x :: l, n, h => by
    unfold ptsR at h ⊢
    split at h
    · rename_i hn
      rw [if_pos hn, pts_len l _ h]
      have : (runesR (x :: l)).length = cntR x + (runesR l).length := by
        show (numsR x ++ runesR l).length = _
        rw [List.length_append, nums_len]
      omega
    · rename_i hn
      exact absurd h hn
end Go.Proofs.YthjnkagepooeiaaGreatDoor
/-
  The document's walk over the lines, step by step, against the program's.
-/
namespace Go.Proofs.YthjnkagepooeiaaGreatDoor
open Go.RowKit Go.PlainAid Go.Lib Go.PHexM Go.Shelf
set_option linter.unusedVariables false
set_option linter.unusedSimpArgs false
set_option linter.unusedSectionVars false

def aboveOf (out : List RowD) : Int := match out.getLast? with | some r => r.last | none => -1
/-- the walk's state, by what the document holds: the rows so far, and the First that waits -/
structure StD (st : WalkD) (out : List RowD) : Prop where
  ab : st.held = none → st.above = aboveOf out
  hd : ∀ x, st.held = some x → x.2 = plainR x.1 ∧ (scanR x.1).2 = 0 ∧ whichR x.1 = 1 ∧ st.above = (plainR x.1).first
theorem stD_start : StD startW [] := ⟨fun _ => rfl, fun x h => (by cases h)⟩
theorem step_fault {st : WalkD} {d : LineD} (hk : ¬ (d.kind = 0 ∨ d.kind = 3)) {j : Nat} (hj : j < 4) (hz : ∀ m, m < j → stepE st d m = 0) (h : stepE st d j ≠ 0) : stepR st d = ([({ zeroR with line := d.no }, stepE st d j)], st) := by
  have ha := ask_of hj hz h
  unfold stepR
  rw [if_neg hk, ha, if_pos h]
theorem step_blank {st : WalkD} {d : LineD} (hk : d.kind = 0 ∨ d.kind = 3) : stepR st d = ([], st) := by unfold stepR; rw [if_pos hk]
theorem step_scan {st : WalkD} {d : LineD} (hk : ¬ (d.kind = 0 ∨ d.kind = 3)) (h : (scanR d).2 ≠ 0) : stepR st d = ([({ zeroR with line := d.no }, (scanR d).2)], st) := step_fault hk (j := 0) (by omega) (fun m hm => by omega) h
section
variable {st : WalkD} {d : LineD} (hk : ¬ (d.kind = 0 ∨ d.kind = 3)) (h0 : (scanR d).2 = 0)
include hk h0
theorem step_name (h : stepE st d 1 ≠ 0) : stepR st d = ([({ zeroR with line := d.no }, 61)], st) := by
  rw [step_fault hk (j := 1) (by omega) (fun m hm => (by rw [show m = 0 by omega]; exact h0)) h]
  have e : stepE st d 1 = 61 := by
    have h' : (if ((heldK st == 1) != (whichR d == 2) || ((heldK st == 1) && !((plainR d).name == (heldRow st).name))) = true then (61 : Int) else 0) ≠ 0 := h
    show (if ((heldK st == 1) != (whichR d == 2) || ((heldK st == 1) && !((plainR d).name == (heldRow st).name))) = true then (61 : Int) else 0) = 61
    split at h'
    · rename_i hc; rw [if_pos hc]
    · exact absurd rfl h'
  rw [e]
theorem step_rising (h1 : stepE st d 1 = 0) (h : (plainR d).first ≤ st.above) : stepR st d = ([({ zeroR with line := d.no }, 62)], st) := by
  have e : stepE st d 2 = 62 := if_pos h
  rw [step_fault hk (j := 2) (by omega) (fun m hm => by rcases (by omega : m = 0 ∨ m = 1) with rfl | rfl; exact h0; exact h1) (by rw [e]; decide), e]
theorem step_pair (h1 : stepE st d 1 = 0) (h2 : ¬ (plainR d).first ≤ st.above) (h : whichR d = 2 ∧ d.fields.drop 2 ≠ (heldL st).fields.drop 2) : stepR st d = ([({ zeroR with line := d.no }, 67)], st) := by
  have e : stepE st d 3 = 67 := if_pos h
  rw [step_fault hk (j := 3) (by omega) (fun m hm => by
    rcases (by omega : m = 0 ∨ m = 1 ∨ m = 2) with rfl | rfl | rfl
    · exact h0
    · exact h1
    · exact if_neg h2) (by rw [e]; decide), e]
theorem ask_good (h1 : stepE st d 1 = 0) (h2 : ¬ (plainR d).first ≤ st.above) (h3 : ¬ (whichR d = 2 ∧ d.fields.drop 2 ≠ (heldL st).fields.drop 2)) : askE st d = 0 :=
  ask_zero fun m hm => by
    rcases (by omega : m = 0 ∨ m = 1 ∨ m = 2 ∨ m = 3) with rfl | rfl | rfl | rfl
    · exact h0
    · exact h1
    · exact if_neg h2
    · exact if_neg h3
theorem step_first (h1 : stepE st d 1 = 0) (h2 : ¬ (plainR d).first ≤ st.above) (hw : whichR d = 1) : stepR st d = ([], ⟨(plainR d).first, some (d, plainR d)⟩) := by
  have ha := ask_good (st := st) hk h0 h1 h2 (by omega)
  unfold stepR
  rw [if_neg hk, ha, if_neg (by simp), if_pos hw]
theorem step_last (h1 : stepE st d 1 = 0) (h2 : ¬ (plainR d).first ≤ st.above) (hw : whichR d = 2) (h3 : d.fields.drop 2 = (heldL st).fields.drop 2) : stepR st d = ([({ heldRow st with last := (plainR d).last }, 0)], ⟨(plainR d).first, none⟩) := by
  have ha := ask_good (st := st) hk h0 h1 h2 (fun h => h.2 h3)
  unfold stepR
  rw [if_neg hk, ha, if_neg (by simp), if_neg (by omega), if_pos hw]
theorem step_row (h1 : stepE st d 1 = 0) (h2 : ¬ (plainR d).first ≤ st.above) (hw1 : whichR d ≠ 1) (hw2 : whichR d ≠ 2) : stepR st d = ([(plainR d, 0)], ⟨(plainR d).first, st.held⟩) := by
  have ha := ask_good (st := st) hk h0 h1 h2 (fun h => hw2 h.1)
  unfold stepR
  rw [if_neg hk, ha, if_neg (by simp), if_neg hw1, if_neg hw2]
end
theorem name_held {st : WalkD} {d : LineD} {o : LineD × RowD} (hh : st.held = some o) : stepE st d 1 = 0 ↔ (whichR d = 2 ∧ (plainR d).name = o.2.name) := by
  have hk : heldK st = 1 := by unfold heldK; rw [hh]
  have hr : heldRow st = o.2 := by unfold heldRow; rw [hh]
  show (if ((heldK st == 1) != (whichR d == 2) || ((heldK st == 1) && !((plainR d).name == (heldRow st).name))) = true then (61 : Int) else 0) = 0 ↔ _
  rw [hk, hr]
  by_cases h1 : whichR d = 2 <;> by_cases h2 : (plainR d).name = o.2.name <;> simp [h1, h2]
theorem name_free {st : WalkD} {d : LineD} (hh : st.held = none) : stepE st d 1 = 0 ↔ whichR d ≠ 2 := by
  have hk : heldK st = 0 := by unfold heldK; rw [hh]
  show (if ((heldK st == 1) != (whichR d == 2) || ((heldK st == 1) && !((plainR d).name == (heldRow st).name))) = true then (61 : Int) else 0) = 0 ↔ _
  rw [hk]
  by_cases h1 : whichR d = 2 <;> simp [h1]
theorem which_cases (d : LineD) : whichR d = 0 ∨ whichR d = 1 ∨ whichR d = 2 := by
  unfold whichR halfP
  (repeat' split) <;> simp
theorem plain_row {d : LineD} (h : whichR d = 0) : plainR d = (scanR d).1 := by
  have : (halfP (scanR d).1.name).1 = (scanR d).1.name := by
    unfold whichR at h
    unfold halfP at h ⊢
    split at h
    · rename_i h1
      rw [if_pos h1]
      split at h
      · cases h
      · rename_i h2
        rw [if_neg h2]
        split at h
        · cases h
        · rename_i h3; rw [if_neg h3]
    · rename_i h1; rw [if_neg h1]
  unfold plainR
  rw [this]
theorem stD_first {st : WalkD} {out : List RowD} {d : LineD} (h0 : (scanR d).2 = 0) (hw : whichR d = 1) : StD ⟨(plainR d).first, some (d, plainR d)⟩ out :=
  ⟨fun h => (by cases h), fun x hx => (by cases hx; exact ⟨rfl, h0, hw, rfl⟩)⟩
theorem stD_put {out : List RowD} {r : RowD} {a : Int} (h : r.last = a) : StD ⟨a, none⟩ (out ++ [r]) := ⟨fun _ => (by unfold aboveOf; simp [h]), fun x hx => (by cases hx)⟩
theorem tell_at {ds : List LineD} {out : List RowD} {x : RowD × Int} {rest : List (RowD × Int)} (h : out.map (fun r => (r, (0 : Int))) ++ (x :: rest) = eachR startW ds) (hx : x.2 ≠ 0) : (tellR (eachR startW ds)).2 = some (x.1.line, x.2) := by
  rw [← h]
  exact tell_bad _ rest x (fun y hy => by obtain ⟨r, _, rfl⟩ := List.mem_map.1 hy; rfl) hx
theorem tell_done {ds : List LineD} {out : List RowD} (h : out.map (fun r => (r, (0 : Int))) = eachR startW ds) : tellR (eachR startW ds) = (out, none) := by
  rw [← h, tell_ok _ (fun y hy => by obtain ⟨r, _, rfl⟩ := List.mem_map.1 hy; rfl), List.map_map]
  have : ((fun x : RowD × Int => x.1) ∘ fun r : RowD => (r, (0 : Int))) = id := rfl
  rw [this, List.map_id]
/-- fields from the third on: the first that differs -/
theorem drop2_eq {a b : List (List UInt8)} (ha : a.length = 15) (hb : b.length = 15) (h : ∀ k, 2 ≤ k → k < 15 → a[k]? = b[k]?) : a.drop 2 = b.drop 2 := by
  apply List.ext_getElem?
  intro i
  rw [List.getElem?_drop, List.getElem?_drop]
  by_cases hi : 2 + i < 15
  · exact h _ (by omega) hi
  · rw [List.getElem?_eq_none (by omega), List.getElem?_eq_none (by omega)]
theorem drop2_ne {a b : List (List UInt8)} {k : Nat} {x y : List UInt8} (h2 : 2 ≤ k) (ha : a[k]? = some x) (hb : b[k]? = some y) (h : x ≠ y) : a.drop 2 ≠ b.drop 2 := by
  intro e
  have := congrArg (fun l => l[k - 2]?) e
  simp only [List.getElem?_drop, show 2 + (k - 2) = k by omega, ha, hb] at this
  exact h (Option.some.inj this)
theorem snoc_front {ds : List LineD} {out : List RowD} {r : RowD} {rest : List (RowD × Int)} (h : out.map (fun r => (r, (0 : Int))) ++ ([(r, 0)] ++ rest) = eachR startW ds) : (out ++ [r]).map (fun r => (r, (0 : Int))) ++ rest = eachR startW ds := by
  rw [← h]; simp
end Go.Proofs.YthjnkagepooeiaaGreatDoor
/-
  Rows in a list of their own, a mark behind them.
-/
namespace Go.Proofs.YthjnkagepooeiaaGreatDoor
open Go.RowKit Go.PlainAid Go.Lib Go.PHexM Go.Shelf
set_option linter.unusedVariables false
set_option linter.unusedSimpArgs false

theorem rowsC_len9 (rs : List RowD) : (rowsC rs).length = rs.length * 9 := by
  induction rs with
  | nil => rfl
  | cons x rs ih => rw [show rowsC (x :: rs) = rowC x ++ rowsC rs from rfl, List.length_append, ih, List.length_cons]; simp; omega
theorem row_cap {w : World} {base : Nat} {e : TypeId} {size n g cap : Nat} {xs : List Value} (h : w.ownsRow base e size (.slice (some ⟨g, 0, none⟩) n cap) n xs) : n ≤ cap ∧ cap ≤ 9223372036854775807 ∧ base ≤ g := by
  rcases h.2 with ⟨he, _⟩ | ⟨_, _, _, he, k0, _, k1, k2, _⟩
  · cases he
  · simp at he
    obtain ⟨rfl, rfl⟩ := he
    exact ⟨k1, k2, k0⟩
theorem rwMem_flat {w : World} {a : Option Addr} {rs : List RowD} (h : RwMem w a rs) (h0 : 0 < rs.length) : ∃ g off, a = some ⟨g, off, none⟩ ∧ ∀ j u, (rowsC rs)[j]? = some u → w.cell? ⟨g, off + j, none⟩ = some u := by
  obtain ⟨g, off, rfl, _⟩ := h 0 rs[0] (List.getElem?_eq_getElem h0)
  refine ⟨g, off, rfl, fun j u hu => ?_⟩
  have hj : j < rs.length * 9 := by have := (List.getElem?_eq_some_iff.1 hu).1; rwa [rowsC_len9] at this
  have hi : j / 9 < rs.length := by omega
  obtain ⟨g', off', e, hc⟩ := h (j / 9) rs[j / 9] (List.getElem?_eq_getElem hi)
  simp only [Option.some.injEq, Addr.mk.injEq] at e
  obtain ⟨rfl, rfl, _⟩ := e
  have e1 : j / 9 * 9 + j % 9 = j := by omega
  have := rowsC_at (List.getElem?_eq_getElem hi) (j % 9) (by omega)
  rw [e1, hu] at this
  have h2 := hc (j % 9) u this.symm
  rwa [Nat.add_assoc, e1] at h2
theorem rowsC_one (rs : List RowD) : ∀ u ∈ rowsC rs, u.oneCell' = true := by
  intro u hu
  obtain ⟨x, _, hx⟩ := List.mem_flatMap.1 hu
  simp only [List.mem_cons, List.not_mem_nil, or_false] at hx
  rcases hx with rfl | rfl | rfl | rfl | rfl | rfl | rfl | rfl | rfl <;> rfl

theorem append_rw (w : World) (base : Nat) (ty : TypeId) (v : Value) (n : Nat) (xs : List Value) (hown : w.ownsRow base 29 9 v n xs) (a : Option Addr) (m c : Nat) (rs : List RowD) (hm : rs.length = m) (hc : m ≤ c) (h : RwMem w a rs)
    (h63 : n + m ≤ maxLen) (hbytes : (n + m) * 64 ≤ 140737488355328) (hbase : base ≤ w.heap.size) :
    ∃ v' w', (Builtin.append_ #[37, 37] ty #[v, .slice a m c]).run Tryz.prog w = .ok v' w' ∧ w'.ownsRow base 29 9 v' (n + m) (xs ++ rowsC rs) ∧ w.grownBy w' v.ownBlock := by
  obtain ⟨i0, hi0, hz0, hz1, hz2⟩ := info_parts infoRow
  by_cases h0 : m = 0
  · subst h0
    have : rs = [] := List.eq_nil_of_length_eq_zero hm
    subst this
    obtain ⟨b, c', rfl⟩ := row_slice2 hown
    have hle : n ≤ c' := by
      rcases hown.2 with ⟨he, h0⟩ | ⟨g, cap, cur, he, _, _, h1, _⟩
      · simp at he; omega
      · simp at he; obtain ⟨_, rfl⟩ := he; exact h1
    refine ⟨_, _, run_append_nothing w _ _ ty _ i0 Tryz.underlying37 hi0 b n c' hle _ ?_, ?_, World.grownBy.refl _ _⟩
    · cases a with
      | none => exact Src.ofNil w Tryz.underlying37 c
      | some a => exact Src.ofSlice w Tryz.underlying37 a 0 c [] (by simp) (fun j u hu => by simp at hu) (by simp)
    · simpa [rowsC] using hown
  · obtain ⟨g, o, rfl, hcl⟩ := rwMem_flat h (by omega)
    have hl : (rowsC rs).length = m * 9 := by rw [rowsC_len9, hm]
    obtain ⟨v', w', r1, r2, r3, _⟩ := run_append_own_at (P := Tryz.prog) (w := w) base _ ty _ i0 _ 9 64 Tryz.underlying37 hi0 hz0 hz1 hz2 rfl (by decide) v n xs hown ⟨g, o, none⟩ m c (rowsC rs) hl (fun j u hu => by
      rw [Go.WideShapes.add_plain]; exact hcl j u hu) (rowsC_one rs) h63 hbytes hbase
    exact ⟨v', w', r1, r2, r3⟩

theorem wpList_append_rw {w : World} {ops : Array Oper} {rest : List Oper} {o : Oper} {a : Act} {Q : Exit → Act → World → Prop} (hgd : Region.wanted o (yielded ops a.tmps) = true) (s x : Operand)
    (ho : o.op = .call { callee := .builtin .append, args := #[s, x], argTypes := #[37, 37] })
    (base : Nat) (v : Value) (n : Nat) (xs : List Value) (hs : a.eval s = v) (hown : w.ownsRow base 29 9 v n xs) (ad : Option Addr) (m c : Nat) (rs : List RowD) (hx : a.eval x = .slice ad m c) (hm : rs.length = m) (hc : m ≤ c) (hrw : RwMem w ad rs)
    (h63 : n + m ≤ maxLen) (hbytes : (n + m) * 64 ≤ 140737488355328) (hbase : base ≤ w.heap.size)
    (h : ∀ v' w', w'.ownsRow base 29 9 v' (n + m) (xs ++ rowsC rs) → w.grownBy w' v.ownBlock → wpList Tryz.prog ops Q rest (a.put o.dst v') w') :
    wpList Tryz.prog ops Q (o :: rest) a w := by
  obtain ⟨v', w', hr, h2, h3⟩ := append_rw w base o.type v n xs hown ad m c rs hm hc hrw h63 hbytes hbase
  show (if Region.wanted o (yielded ops a.tmps) then _ else _)
  rw [if_pos hgd]
  refine .inl ?_
  unfold Oper.wp execOp
  simp only [ho, resolve, invoke, builtin, Sem.run_bind, Sem.run_pure, Result.andThen_ok, List.map_toArray, List.map_cons, List.map_nil, hs, hx, hr]
  exact h v' w' h2 h3

abbrev markR : RowD := ⟨-77, 0, 0, [], [], 0, 0, 0, false⟩
/-- rows of their own, a mark behind them -/
def LentAt (w : World) (base : Nat) (v : Value) (n : Nat) (rs : List RowD) : Prop := ∃ g cap, v = .slice (some ⟨g, 0, none⟩) n cap ∧ n + 1 ≤ cap ∧ cap ≤ maxLen ∧ base ≤ g ∧ RwMem w (some ⟨g, 0, none⟩) (rs ++ [markR])

set_option maxRecDepth 100000 in
set_option maxHeartbeats 2000000 in
theorem lent_any (rs : List RowD) (a : Option Addr) (n c : Nat) (w : World) (hn : rs.length = n) (hc : n ≤ c) (hb : n ≤ 1099511627776) (h : RwMem w a rs) :
    Calls Tryz.prog 21 #[.slice a n c] w fun e w' => ∃ v, e = .returned v ∧ LentAt w' w.heap.size v n rs ∧ Below w.heap.size w w' := by
  obtain ⟨i0, hi0, hz0, hz1, hz2⟩ := info_parts infoRow
  have HRW := hide h
  have HN := hide hn
  clear h hn
  go_enter Tryz.func21, Tryz.ntmps21
  go_wp2_with (at_builtin; first | (refine wpList_append_rw rfl _ _ rfl w.heap.size _ 0 [] rfl (World.ownsRow_nil w _ _ _) _ _ _ rs rfl (unhide HN) hc (unhide HRW) (by unfold maxLen; omega) (by omega) (Nat.le_refl _) ?_; intro v' w4 hown hgrow; rw [Nat.zero_add, List.nil_append] at hown; obtain ⟨fa, fc, rfl⟩ := row_slice2 hown; replace hgrow : w.grownBy w4 none := hgrow; have hs4 : w.heap.size ≤ w4.heap.size := hgrow.size) | (refine wpList_append_own_at _ rfl _ _ 37 rfl w.heap.size 29 i0 _ 9 64 Tryz.underlying37 hi0 hz0 hz1 hz2 rfl (by decide) _ _ _ rfl (hown.alloc _) ⟨w4.heap.size, 0, none⟩ 1 1 (rowC markR) rfl rfl (cells_new _ _ _) (by simp [Value.oneCell']) (by unfold maxLen; omega) (by omega) (by simp; omega) ?_; intro v'' w5 hown5 hgrow5 _ _; replace hgrow5 : World.grownBy _ w5 (Value.slice fa n fc).ownBlock := hgrow5; obtain ⟨g', cap', rfl⟩ := ownsRow_succ hown5; obtain ⟨hcc1, hcc2, hcc3⟩ := row_cap hown5))
  have hB4 : Below w.heap.size w w4 := belowG (e := 29) (size := 9) (v := .slice none 0 0) (Below.refl _ w) (Nat.le_refl _) (World.ownsRow_nil w w.heap.size _ _) hgrow
  have hB5 : Below w.heap.size w w5 := belowG (hB4.alloc hB4.size _) (by have := hB4.size; simp; omega) (hown.alloc _) hgrow5
  go_ret
  refine ⟨_, rfl, ⟨g', cap', rfl, hcc1, hcc2, hcc3, ?_⟩, hB5⟩
  have hra : RowsAt w5 w.heap.size (.slice (some ⟨g', 0, none⟩) (n + 1) cap') (rs ++ [markR]) := by
    have e1 : (rs ++ [markR]).length = n + 1 := by rw [List.length_append, unhide HN]; rfl
    have e2 : rowsC (rs ++ [markR]) = rowsC rs ++ rowC markR := by simp [rowsC]
    unfold RowsAt
    rw [e1, e2]
    exact hown5
  obtain ⟨a', c', e, _, hm⟩ := rowsAt_mem hra
  simp only [Value.slice.injEq] at e
  obtain ⟨rfl, _, _⟩ := e
  exact hm
end Go.Proofs.YthjnkagepooeiaaGreatDoor
/-
  Two lists of the same rows are the same, by the law's own look.
-/
namespace Go.Proofs.YthjnkagepooeiaaGreatDoor
open Go.RowKit Go.PlainAid Go.Lib Go.PHexM Go.Shelf
set_option linter.unusedVariables false
set_option linter.unusedSimpArgs false

set_option maxRecDepth 100000 in
set_option maxHeartbeats 4000000 in
theorem sameRows_yes (rs : List RowD) (a b : Option Addr) (n ca cb : Nat) (w : World) (hn : rs.length = n) (hnb : n ≤ 1099511627776) (ha : RwMem w a rs) (hb : RwMem w b rs) :
    Calls Tryz.prog 20 #[.slice a n ca, .slice b n cb] w fun e w' => e = .returned (.bool true) ∧ Below w.heap.size w w' := by
  have HA := hide ha
  have HB := hide hb
  have HN := hide hn
  clear ha hb hn
  have hnn : ((n : Int) != (n : Int)) = false := by simp
  go_enter Tryz.func20, Tryz.ntmps20
  go_wp2
  go_loopw [5] (fun v5 wr => ∃ i m : Nat, i ≤ n ∧ v5 = .int .i64 i ∧ wr = w.drewN m) (fun v5 _ => n - (RowKit.intOf v5).toNat)
  case atStart => exact ⟨0, 0, Nat.zero_le _, rfl, rfl⟩
  case round =>
    obtain ⟨i, m, hi, rfl, rfl⟩ := hrel
    obtain ⟨WX, hWX⟩ : ∃ WX, w.drewN m = WX := ⟨_, rfl⟩
    by_cases hlt : i < n
    · obtain ⟨x, hx⟩ : ∃ x, rs[i]? = some x := ⟨_, List.getElem?_eq_getElem (by rw [unhide HN]; exact hlt)⟩
      have hbx : Below w.heap.size w WX := by rw [← hWX]; exact below_drewN (Below.refl _ _) m
      obtain ⟨g, off, rfl, hc⟩ := ((unhide HA).below hbx) i x hx
      obtain ⟨g', off', rfl, hd⟩ := ((unhide HB).below hbx) i x hx
      have cx0 := hc 0 _ rfl
      have cx1 := hc 1 _ rfl
      have cx2 := hc 2 _ rfl
      have cx3 := hc 3 _ rfl
      have cx4 := hc 4 _ rfl
      have cx5 := hc 5 _ rfl
      have cx6 := hc 6 _ rfl
      have cx7 := hc 7 _ rfl
      have cx8 := hc 8 _ rfl
      have dx0 := hd 0 _ rfl
      have dx1 := hd 1 _ rfl
      have dx2 := hd 2 _ rfl
      have dx3 := hd 3 _ rfl
      have dx4 := hd 4 _ rfl
      have dx5 := hd 5 _ rfl
      have dx6 := hd 6 _ rfl
      have dx7 := hd 7 _ rfl
      have dx8 := hd 8 _ rfl
      simp only [Nat.add_zero] at cx0 dx0
      have hlt' : (i : Int) < (n : Int) := by omega
      have hq1 : IntKind.i64.wrap ((i : Int) + 1) = (i : Int) + 1 := by rw [IntKind.wrap_i64]; omega
      rw [hWX]
      have HWX := hide hWX
      clear hWX hc hd hx hbx
      go_wp2
      go_quiet (fail)
      go_wp2
      go_roundw
      case rel => exact ⟨i + 1, m + nq, by omega, by go_num, by rw [← unhide HWX]; exact World.drewN_drewN _ _ _⟩
      case measure => simp [RowKit.intOf]; omega
    · rw [hWX]
      have HWX := hide hWX
      clear hWX
      obtain rfl : i = n := by omega
      go_wp2
      go_ret
      exact ⟨rfl, by rw [← unhide HWX]; exact below_drewN (Below.refl _ _) m⟩
end Go.Proofs.YthjnkagepooeiaaGreatDoor

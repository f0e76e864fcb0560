/-
  The rows of a text rise; the numbers that rows have.
-/
import Derived.Test.YthjnkagepooeiaaGreatDoorRwA1
namespace Go.Proofs.YthjnkagepooeiaaGreatDoor
open Go.RowKit Go.PlainAid Go.Lib Go.PHexM
set_option linter.unusedVariables false
set_option linter.unusedSimpArgs false

theorem hexP_le {l : List UInt8} {n : Nat} (h : hexP l = some n) : n ≤ 1114111 := by
  unfold hexP at h
  split at h
  · split at h
    · cases h
    · split at h
      · cases h
      · cases h; omega
  · cases h
theorem cell_first {a : Nat} (ha : a ≠ 0) (f : List UInt8) (r : RowD) : (cellP a f r).1.first = r.first ∧ (cellP a f r).1.last = r.last := by
  unfold cellP
  rw [if_neg ha]
  (repeat' split) <;> exact ⟨rfl, rfl⟩
theorem fold_first (fs : List (List UInt8)) : ∀ (l : List Nat) (r : RowD), (∀ a ∈ l, a ≠ 0) → (foldC fs l r).2 = 0 → (foldC fs l r).1.first = r.first ∧ (foldC fs l r).1.last = r.last
  | [], r, _, _ => ⟨rfl, rfl⟩
  | a :: l, r, ha, h => by
    unfold foldC at h ⊢
    split at h
    · rename_i hz
      rw [if_pos hz]
      have h1 := fold_first fs l _ (fun b hb => ha b (by simp [hb])) h
      have h2 := cell_first (ha a (by simp)) (fs.getD a []) r
      exact ⟨h1.1.trans h2.1, h1.2.trans h2.2⟩
    · rename_i hz
      exact absurd h hz
theorem scan_first {d : LineD} (h : (scanR d).2 = 0) : ∃ n : Nat, n ≤ 1114111 ∧ (scanR d).1.first = n ∧ (scanR d).1.last = n := by
  unfold scanR at h ⊢
  split at h
  · cases h
  · rename_i h2
    rw [if_neg h2]
    split at h
    · cases h
    · rename_i h1
      rw [if_neg h1]
      unfold cellsL foldC at h ⊢
      cases hx : hexP (d.fields.getD 0 []) with
      | none =>
        have e : cellP 0 (d.fields.getD 0 []) { zeroR with line := d.no } = ({ zeroR with line := d.no, first := 0, last := 0 }, 40) := by unfold cellP; rw [if_pos rfl, hx]
        rw [e] at h
        cases h
      | some n =>
        have e : cellP 0 (d.fields.getD 0 []) { zeroR with line := d.no } = ({ zeroR with line := d.no, first := n, last := n }, 0) := by unfold cellP; rw [if_pos rfl, hx]
        rw [e] at h ⊢
        rw [if_pos rfl] at h ⊢
        have := fold_first d.fields _ _ (by simp) h
        exact ⟨n, hexP_le hx, this.1, this.2⟩

/-- rows that rise, the first above a -/
def Rise : Int → List RowD → Prop
  | _, [] => True
  | a, x :: l => a < x.first ∧ x.first ≤ x.last ∧ x.last ≤ 1114111 ∧ Rise x.last l
theorem Rise.mono {a b : Int} (h : a ≤ b) {l : List RowD} (k : Rise b l) : Rise a l := by
  cases l with
  | nil => trivial
  | cons x l => exact ⟨Int.lt_of_le_of_lt h k.1, k.2⟩
def lowW (st : WalkD) : Int := match st.held with | some _ => st.above - 1 | none => st.above
structure StOk (st : WalkD) : Prop where
  top : st.above ≤ 1114111
  held : ∀ x, st.held = some x → x.2.first = st.above

theorem name_same6 {st : WalkD} {d : LineD} (h : stepE st d 1 = 0) : (heldK st == 1) = (whichR d == 2) := by
  have h' : (if ((heldK st == 1) != (whichR d == 2) || ((heldK st == 1) && !((plainR d).name == (heldRow st).name))) = true then (61 : Int) else 0) = 0 := h
  clear h
  split at h'
  · cases h'
  · rename_i hn
    revert hn
    cases (heldK st == 1) <;> cases (whichR d == 2) <;> simp
theorem ask_parts {st : WalkD} {d : LineD} (h : askE st d = 0) : stepE st d 0 = 0 ∧ stepE st d 1 = 0 ∧ stepE st d 2 = 0 ∧ stepE st d 3 = 0 := by
  unfold askE at h
  split at h
  · exact absurd h (by assumption)
  · split at h
    · exact absurd h (by assumption)
    · split at h
      · exact absurd h (by assumption)
      · rename_i h0 h1 h2
        exact ⟨by simpa using h0, by simpa using h1, by simpa using h2, h⟩
theorem each_rise : ∀ (ds : List LineD) (st : WalkD), StOk st → (∀ x ∈ eachR st ds, x.2 = 0) → Rise (lowW st) ((eachR st ds).map (·.1))
  | [], st, ok, hz => by
    unfold eachR lastR at hz ⊢
    cases hh : st.held with
    | none => simp [hh, Rise]
    | some x =>
      rw [hh] at hz
      have := hz _ (List.mem_singleton.2 rfl)
      cases this
  | d :: ds, st, ok, hz => by
    unfold eachR at hz ⊢
    rw [List.map_append]
    by_cases hk : d.kind = 0 ∨ d.kind = 3
    · have e : stepR st d = ([], st) := by unfold stepR; rw [if_pos hk]
      rw [e] at hz ⊢
      exact each_rise ds st ok (fun x hx => hz x (by simpa using hx))
    by_cases ha : askE st d = 0
    · obtain ⟨a0, a1, a2, a3⟩ := ask_parts ha
      have hn := name_same6 a1
      have hr : st.above < (plainR d).first := by
        have a2' : (if (plainR d).first ≤ st.above then (62 : Int) else 0) = 0 := a2
        clear a2
        split at a2'
        · cases a2'
        · omega
      obtain ⟨n, n1, n2, n3⟩ := scan_first a0
      have p1 : (plainR d).first = n := n2
      have p2 : (plainR d).last = n := n3
      by_cases h1 : whichR d = 1
      · have e : stepR st d = ([], ⟨(plainR d).first, some (d, plainR d)⟩) := by unfold stepR; rw [if_neg hk, if_neg (by simpa using ha), if_pos h1]
        rw [e] at hz ⊢
        have hh : st.held = none := by
          rw [h1] at hn
          cases hh : st.held with
          | none => rfl
          | some x => simp [heldK, hh] at hn
        refine Rise.mono ?_ (each_rise ds ⟨(plainR d).first, some (d, plainR d)⟩ ⟨by show (plainR d).first ≤ _; omega, fun x hx => by cases hx; rfl⟩ (fun x hx => hz x (by simpa using hx)))
        show lowW st ≤ (plainR d).first - 1
        unfold lowW
        rw [hh]
        show st.above ≤ _
        omega
      by_cases h2 : whichR d = 2
      · have e : stepR st d = ([({ heldRow st with last := (plainR d).last }, 0)], ⟨(plainR d).first, none⟩) := by unfold stepR; rw [if_neg hk, if_neg (by simpa using ha), if_neg h1, if_pos h2]
        rw [e] at hz ⊢
        obtain ⟨x, hh⟩ : ∃ x, st.held = some x := by
          rw [h2] at hn
          cases hh : st.held with
          | none => simp [heldK, hh] at hn
          | some x => exact ⟨x, rfl⟩
        have hf : (heldRow st).first = st.above := by unfold heldRow; rw [hh]; exact ok.held x hh
        refine ⟨?_, ?_, ?_, Rise.mono ?_ (each_rise ds ⟨(plainR d).first, none⟩ ⟨by show (plainR d).first ≤ _; omega, fun x hx => by cases hx⟩ (fun x hx => hz x (by simp [hx])))⟩
        · show lowW st < (heldRow st).first
          unfold lowW
          rw [hf, hh]
          show st.above - 1 < st.above
          omega
        · show (heldRow st).first ≤ (plainR d).last
          omega
        · show (plainR d).last ≤ _
          omega
        · show (plainR d).last ≤ (plainR d).first
          omega
      · have e : stepR st d = ([(plainR d, 0)], ⟨(plainR d).first, st.held⟩) := by unfold stepR; rw [if_neg hk, if_neg (by simpa using ha), if_neg h1, if_neg h2]
        have hh : st.held = none := by
          cases hh : st.held with
          | none => rfl
          | some x =>
            have : (whichR d == 2) = false := by simpa using h2
            rw [this] at hn
            simp [heldK, hh] at hn
        rw [e, hh] at hz ⊢
        refine ⟨?_, ?_, ?_, Rise.mono ?_ (each_rise ds ⟨(plainR d).first, none⟩ ⟨by show (plainR d).first ≤ _; omega, fun x hx => by cases hx⟩ (fun x hx => hz x (by simp [hx])))⟩
        · show lowW st < (plainR d).first
          unfold lowW
          rw [hh]
          exact hr
        · show (plainR d).first ≤ (plainR d).last
          omega
        · show (plainR d).last ≤ _
          omega
        · show (plainR d).last ≤ (plainR d).first
          omega
    · have e : stepR st d = ([({ zeroR with line := d.no }, askE st d)], st) := by unfold stepR; rw [if_neg hk, if_pos ha]
      rw [e] at hz
      exact absurd (hz ({ zeroR with line := d.no }, askE st d) (List.mem_append_left _ (List.mem_singleton.2 rfl))) ha
theorem tell_none (l : List (RowD × Int)) (h : (tellR l).2 = none) : (∀ x ∈ l, x.2 = 0) ∧ (tellR l).1 = l.map (·.1) := by
  induction l with
  | nil => exact ⟨fun x hx => by simp at hx, rfl⟩
  | cons a l ih =>
    unfold tellR at h ⊢
    split at h
    · rename_i ha
      obtain ⟨i1, i2⟩ := ih h
      rw [if_pos ha]
      refine ⟨fun x hx => ?_, by rw [i2]; rfl⟩
      rcases List.mem_cons.1 hx with rfl | hx
      · exact ha
      · exact i1 x hx
    · cases h
theorem rows_rise {s : ByteArray} (h : (rowsS s).2 = none) : Rise (-1) (rowsS s).1 := by
  unfold rowsS at h ⊢
  cases hr : (readS s).2 with
  | some x => rw [hr] at h; cases h
  | none =>
    rw [hr] at h
    simp only at h ⊢
    obtain ⟨h1, h2⟩ := tell_none _ h
    rw [h2]
    exact each_rise _ startW ⟨by decide, fun x hx => by cases hx⟩ h1

/-- the numbers of a row that are told -/
def loR (x : RowD) : Int := max x.first 0
def hiR (x : RowD) : Int := min x.last 1114111
def cntR (x : RowD) : Nat := (hiR x + 1 - loR x).toNat
def numsR (x : RowD) : List (Int × RowD) := (List.range (cntR x)).map fun k : Nat => (loR x + (k : Int), x)
def runesR (rs : List RowD) : List (Int × RowD) := rs.flatMap numsR
theorem nums_len (x : RowD) : (numsR x).length = cntR x := by simp [numsR]
theorem nums_at {x : RowD} {k : Nat} (h : k < cntR x) : (numsR x)[k]? = some (loR x + k, x) := by
  simp [numsR, h]
theorem nums_take {x : RowD} {k : Nat} (h : k < cntR x) : (numsR x).take (k + 1) = (numsR x).take k ++ [(loR x + k, x)] := by
  rw [List.take_add_one, nums_at h]; rfl
theorem runes_take {rs : List RowD} {i : Nat} {x : RowD} (h : rs[i]? = some x) : runesR (rs.take (i + 1)) = runesR (rs.take i) ++ numsR x := by
  rw [List.take_add_one, h]; simp [runesR]
theorem runes_split {rs : List RowD} {i : Nat} {x : RowD} (h : rs[i]? = some x) : runesR rs = runesR (rs.take i) ++ (numsR x ++ runesR (rs.drop (i + 1))) := by
  have h1 : rs = rs.take i ++ x :: rs.drop (i + 1) := by
    obtain ⟨hl, he⟩ := List.getElem?_eq_some_iff.1 h
    rw [← he, ← List.drop_eq_getElem_cons hl, List.take_append_drop]
  conv => lhs; rw [h1]
  simp [runesR]
theorem runes_pre {rs : List RowD} {i k : Nat} {x : RowD} (h : rs[i]? = some x) (hk : k < cntR x) : (runesR (rs.take i) ++ (numsR x).take k) ++ [(loR x + k, x)] <+: runesR rs := by
  rw [List.append_assoc, ← nums_take hk, runes_split h]
  refine (List.prefix_append_right_inj _).2 ?_
  exact (List.take_prefix _ _).trans (List.prefix_append _ _)

theorem mem_nums {x : RowD} {p : Int × RowD} (h : p ∈ numsR x) : p.2 = x ∧ loR x ≤ p.1 ∧ p.1 ≤ hiR x := by
  simp only [numsR, List.mem_map, List.mem_range] at h
  obtain ⟨k, hk, rfl⟩ := h
  unfold cntR at hk
  exact ⟨rfl, by show loR x ≤ loR x + k; omega, by show loR x + k ≤ _; omega⟩
theorem nums_has {x : RowD} {r : Int} (h1 : loR x ≤ r) (h2 : r ≤ hiR x) : (r, x) ∈ numsR x := by
  simp only [numsR, List.mem_map, List.mem_range]
  refine ⟨(r - loR x).toNat, by unfold cntR; omega, ?_⟩
  rw [show loR x + ((r - loR x).toNat : Int) = r by omega]
theorem rise_mem {a : Int} {l : List RowD} (h : Rise a l) : ∀ x ∈ l, a < x.first ∧ x.first ≤ x.last ∧ x.last ≤ 1114111 := by
  induction l generalizing a with
  | nil => simp
  | cons y l ih =>
    intro x hx
    obtain ⟨h1, h2, h3, h4⟩ := h
    rcases List.mem_cons.1 hx with rfl | hx
    · exact ⟨h1, h2, h3⟩
    · have := ih h4 x hx
      exact ⟨by omega, this.2⟩
theorem nums_pair (x : RowD) : (numsR x).Pairwise (fun p q => p.1 < q.1) := by
  unfold numsR
  rw [List.pairwise_map]
  refine List.Pairwise.imp ?_ List.pairwise_lt_range
  intro a b hab
  show loR x + a < loR x + b
  omega
theorem runes_pair {a : Int} {l : List RowD} (h : Rise a l) (ha : -1 ≤ a) : (runesR l).Pairwise (fun p q => p.1 < q.1) ∧ ∀ p ∈ runesR l, a < p.1 ∧ p.2.first ≤ p.1 ∧ p.1 ≤ p.2.last := by
  induction l generalizing a with
  | nil => exact ⟨List.Pairwise.nil, fun p hp => by simp [runesR] at hp⟩
  | cons x l ih =>
    obtain ⟨h1, h2, h3, h4⟩ := h
    obtain ⟨i1, i2⟩ := ih h4 (by omega)
    have e : runesR (x :: l) = numsR x ++ runesR l := rfl
    have el : loR x = x.first := by unfold loR; omega
    have eh : hiR x = x.last := by unfold hiR; omega
    rw [e]
    refine ⟨List.pairwise_append.2 ⟨nums_pair x, i1, fun p hp q hq => ?_⟩, fun p hp => ?_⟩
    · have m := mem_nums hp
      have := (i2 q hq).1
      omega
    · rcases List.mem_append.1 hp with hp | hp
      · obtain ⟨m1, m2, m3⟩ := mem_nums hp
        rw [m1]
        exact ⟨by omega, by omega, by omega⟩
      · have := i2 p hp
        exact ⟨by omega, this.2⟩
/-- the last number ahead -/
def lastN (pre : List (Int × RowD)) : Int := match pre.getLast? with | some p => p.1 | none => -1
theorem lastN_snoc (pre : List (Int × RowD)) (x : Int × RowD) : lastN (pre ++ [x]) = x.1 := by simp [lastN]
theorem rise_next {l : List RowD} (h : Rise (-1) l) {pre : List (Int × RowD)} {x : Int × RowD} (hp : pre ++ [x] <+: runesR l) : lastN pre < x.1 ∧ x.2.first ≤ x.1 ∧ x.1 ≤ x.2.last := by
  obtain ⟨p1, p2⟩ := runes_pair h (Int.le_refl _)
  have hm := p2 x (hp.subset (by simp))
  refine ⟨?_, hm.2⟩
  unfold lastN
  cases hg : pre.getLast? with
  | none => exact hm.1
  | some q =>
    obtain ⟨ys, rfl⟩ := List.getLast?_eq_some_iff.1 hg
    have := p1.sublist hp.sublist
    rw [List.append_assoc] at this
    exact (List.pairwise_cons.1 (List.pairwise_append.1 this).2.1).1 x (by simp)
def thereB (r : Int) (pre : List (Int × RowD)) : Bool := pre.any fun p => p.1 == r
theorem there_snoc (r : Int) (pre : List (Int × RowD)) (x : Int × RowD) : thereB r (pre ++ [x]) = (thereB r pre || x.1 == r) := by simp [thereB]
def hasN (r : Int) (l : List RowD) : Nat := (l.filter (hasB r)).length
theorem has_none {a r : Int} {l : List RowD} (h : Rise a l) (hr : r ≤ a) : hasN r l = 0 := by
  unfold hasN
  rw [List.length_eq_zero_iff, List.filter_eq_nil_iff]
  intro x hx
  have := rise_mem h x hx
  simp [hasB]
  omega
theorem rise_count {a r : Int} {l : List RowD} (h : Rise a l) (ha : -1 ≤ a) : hasN r l ≤ 1 ∧ ((findR l r).isSome = (hasN r l == 1)) ∧ thereB r (runesR l) = (hasN r l == 1) := by
  induction l generalizing a with
  | nil => exact ⟨by simp [hasN], rfl, rfl⟩
  | cons x l ih =>
    obtain ⟨h1, h2, h3, h4⟩ := h
    obtain ⟨i1, i2, i3⟩ := ih h4 (by omega)
    have el : loR x = x.first := by unfold loR; omega
    have eh : hiR x = x.last := by unfold hiR; omega
    have et : thereB r (runesR (x :: l)) = (thereB r (numsR x) || thereB r (runesR l)) := by simp [thereB, runesR]
    by_cases hb : hasB r x = true
    · have hb' := hb
      simp only [hasB, Bool.and_eq_true, decide_eq_true_eq] at hb'
      have h0 := has_none h4 (show r ≤ x.last by omega)
      have e1 : hasN r (x :: l) = 1 := by
        unfold hasN at h0 ⊢
        rw [List.filter_cons, if_pos hb, List.length_cons, h0]
      rw [e1, et]
      refine ⟨Nat.le_refl _, ?_, ?_⟩
      · simp [findR, List.find?_cons, hb]
      · have : thereB r (numsR x) = true := by
          unfold thereB
          rw [List.any_eq_true]
          exact ⟨(r, x), nums_has (by omega) (by omega), by simp⟩
        rw [this]; rfl
    · have hb0 : hasB r x = false := by simpa using hb
      have e1 : hasN r (x :: l) = hasN r l := by
        unfold hasN
        rw [List.filter_cons, if_neg hb]
      rw [e1, et]
      refine ⟨i1, ?_, ?_⟩
      · rw [← i2]; simp [findR, List.find?_cons, hb0]
      · have : thereB r (numsR x) = false := by
          unfold thereB
          rw [List.any_eq_false]
          intro p hp
          obtain ⟨m1, m2, m3⟩ := mem_nums hp
          simp only [hasB, Bool.and_eq_false_iff, decide_eq_false_iff_not] at hb0
          simp
          omega
        rw [this, Bool.false_or, i3]
/-- how many numbers rows have, as far as they are counted -/
def ptsR : List RowD → Nat → Nat
  | [], n => n
  | x :: l, n => if n ≤ 4194304 then ptsR l (n + cntR x) else n
theorem cnt_le (x : RowD) : cntR x ≤ 1114112 := by unfold cntR loR hiR; omega
theorem pts_len : ∀ (l : List RowD) (n : Nat), ptsR l n ≤ 4194304 → ptsR l n = n + (runesR l).length
  | [], n, _ => by simp [ptsR, runesR]
  | x :: l, n, h => by
    unfold ptsR at h ⊢
    split at h
    · rename_i hn
      rw [if_pos hn, pts_len l _ h]
      have : (runesR (x :: l)).length = cntR x + (runesR l).length := by
        show (numsR x ++ runesR l).length = _
        rw [List.length_append, nums_len]
      omega
    · rename_i hn
      exact absurd h hn
end Go.Proofs.YthjnkagepooeiaaGreatDoor

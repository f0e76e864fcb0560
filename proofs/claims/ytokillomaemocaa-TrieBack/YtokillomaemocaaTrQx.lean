/-
  These texts, one behind the other: TrSmM, TrSmA, TrSmW.
-/
import Derived.Test.YtokillomaemocaaTrQb
import Derived.Test.YtokillomaemocaaTrQs
import Derived.Test.YtokillomaemocaaTrQo
import Derived.Test.YtokillomaemocaaTrAw
import Derived.Test.YtokillomaemocaaTrQp
import Derived.Deep.CutRange
import Derived.ProofKit
/-
  The mathematics of TrieSmall: how many blocks there are.
-/
namespace Go.Proofs.Ytokillomaemocaa
open Go.TrM
set_option linter.unusedVariables false
set_option linter.unusedSimpArgs false
theorem sub_len {α : Type} [DecidableEq α] : ∀ (A B : List α), A.Nodup → (∀ x ∈ A, x ∈ B) → A.length ≤ B.length := by
  intro A
  induction A with
  | nil => intro B _ _; simp
  | cons x A ih =>
    intro B hn hs
    have hx := hs x List.mem_cons_self
    have h1 := ih (B.erase x) (List.nodup_cons.1 hn).2 (fun y hy => by
      have hne : y ≠ x := fun e => (List.nodup_cons.1 hn).1 (e ▸ hy)
      exact (List.mem_erase_of_ne hne).2 (hs y (List.mem_cons_of_mem _ hy)))
    rw [List.length_erase_of_mem hx] at h1
    have := List.length_pos_of_mem hx
    simp only [List.length_cons]
    omega
theorem nodup_map {α β : Type} (f : α → β) : ∀ (A : List α), A.Nodup → (∀ x ∈ A, ∀ y ∈ A, f x = f y → x = y) → (A.map f).Nodup := by
  intro A
  induction A with
  | nil => intro _ _; simp
  | cons x A ih =>
    intro hn hi
    rw [List.map_cons, List.nodup_cons]
    refine ⟨fun h => ?_, ih (List.nodup_cons.1 hn).2 (fun y hy z hz => hi y (List.mem_cons_of_mem _ hy) z (List.mem_cons_of_mem _ hz))⟩
    obtain ⟨y, hy, e⟩ := List.mem_map.1 h
    have := hi y (List.mem_cons_of_mem _ hy) x List.mem_cons_self e
    exact (List.nodup_cons.1 hn).1 (this ▸ hy)
theorem split_len {α : Type} (p : α → Bool) : ∀ A : List α, A.length = (A.filter p).length + (A.filter (fun x => !p x)).length := by
  intro A
  induction A with
  | nil => rfl
  | cons x A ih =>
    cases h : p x
    · rw [List.filter_cons_of_neg (by simp [h]), List.filter_cons_of_pos (by simp [h])]
      simp only [List.length_cons]
      omega
    · rw [List.filter_cons_of_pos h, List.filter_cons_of_neg (by simp [h])]
      simp only [List.length_cons]
      omega
theorem chunk_case {s lo hi i : Nat} (hs : 0 < s) : (s * i + (s - 1) < lo ∨ hi < s * i) ∨ (lo ≤ s * i ∧ s * i + (s - 1) ≤ hi) ∨ i = lo / s ∨ i = hi / s := by
  by_cases c1 : s * i + (s - 1) < lo
  · exact .inl (.inl c1)
  by_cases c2 : hi < s * i
  · exact .inl (.inr c2)
  by_cases c3 : lo ≤ s * i
  · by_cases c4 : s * i + (s - 1) ≤ hi
    · exact .inr (.inl ⟨c3, c4⟩)
    · exact .inr (.inr (.inr (Nat.div_eq_of_lt_le (by rw [Nat.mul_comm]; omega) (by rw [Nat.mul_comm, Nat.mul_succ]; omega)).symm))
  · exact .inr (.inr (.inl (Nat.div_eq_of_lt_le (by rw [Nat.mul_comm]; omega) (by rw [Nat.mul_comm, Nat.mul_succ]; omega)).symm))
theorem nd_inj {α : Type} {l : List α} (h : l.Nodup) {i j : Nat} (hi : i < l.length) (hj : j < l.length) (e : l[i] = l[j]) : i = j := by
  rcases Nat.lt_trichotomy i j with c | c | c
  · exact absurd e (List.pairwise_iff_getElem.1 h i j hi hj c)
  · exact c
  · exact absurd e.symm (List.pairwise_iff_getElem.1 h j i hj hi c)
/-- A is the unlike ones of a 0, .. a (n-1), that are like where the chunks of v are -/
structure Cnt {β : Type} (s n : Nat) (v : Nat → Int) (A : List β) (a : Nat → β) : Prop where
  nd : A.Nodup
  mem : ∀ x, x ∈ A ↔ ∃ i, i < n ∧ x = a i
  eq : ∀ i j, i < n → j < n → (a i = a j ↔ ∀ q, q < s → v (s * i + q) = v (s * j + q))
theorem Cnt.one {β : Type} [DecidableEq β] {s n : Nat} {v : Nat → Int} {A : List β} {a : Nat → β} (h : Cnt s n v A a) (hn : 0 < n) (x : Int) (hv : ∀ r, v r = x) : A.length = 1 := by
  have h1 := sub_len A [a 0] h.nd (fun y hy => by
    obtain ⟨i, hi, rfl⟩ := (h.mem y).1 hy
    exact List.mem_singleton.2 ((h.eq i 0 hi hn).2 (fun q _ => by rw [hv, hv])))
  have h2 := List.length_pos_of_mem ((h.mem (a 0)).2 ⟨0, hn, rfl⟩)
  simp at h1
  omega
theorem Cnt.pos {β : Type} {s n : Nat} {v : Nat → Int} {A : List β} {a : Nat → β} (h : Cnt s n v A a) (hn : 0 < n) : 0 < A.length := List.length_pos_of_mem ((h.mem (a 0)).2 ⟨0, hn, rfl⟩)
theorem Cnt.le {β γ : Type} [DecidableEq β] [DecidableEq γ] {s n : Nat} {v u : Nat → Int} {A : List β} {a : Nat → β} {B : List γ} {b : Nat → γ} (hA : Cnt s n v A a) (hB : Cnt s n u B b) (E : List Nat)
    (h : ∀ i, i < n → (∃ e ∈ E, a i = a e) ∨ ∀ q, q < s → v (s * i + q) = u (s * i + q)) : A.length ≤ B.length + E.length := by
  have hpick : ∀ x, ∃ i, x ∈ A → i < n ∧ x = a i := fun x => by
    by_cases hx : x ∈ A
    · obtain ⟨i, h1, h2⟩ := (hA.mem x).1 hx
      exact ⟨i, fun _ => ⟨h1, h2⟩⟩
    · exact ⟨0, fun h => absurd h hx⟩
  obtain ⟨p, hp⟩ := Classical.axiomOfChoice hpick
  have hsplit := split_len (fun x => decide (x ∈ E.map a)) A
  have h1 := sub_len (A.filter (fun x => decide (x ∈ E.map a))) (E.map a) (hA.nd.filter _) (fun x hx => by simpa using (List.mem_filter.1 hx).2)
  rw [List.length_map] at h1
  obtain ⟨A2, hA2⟩ : ∃ A2, A2 = A.filter (fun x => !decide (x ∈ E.map a)) := ⟨_, rfl⟩
  rw [← hA2] at hsplit
  have hin : ∀ x ∈ A2, x ∈ A ∧ ¬ x ∈ E.map a := fun x hx => by
    rw [hA2] at hx
    have := List.mem_filter.1 hx
    exact ⟨this.1, by simpa using this.2⟩
  have htr : ∀ x ∈ A2, p x < n ∧ x = a (p x) ∧ ∀ q, q < s → v (s * p x + q) = u (s * p x + q) := fun x hx => by
    obtain ⟨m1, m2⟩ := hin x hx
    obtain ⟨q1, q2⟩ := hp x m1
    refine ⟨q1, q2, ?_⟩
    rcases h (p x) q1 with ⟨e, he, h3⟩ | h3
    · exact absurd (List.mem_map.2 ⟨e, he, by rw [q2]; exact h3.symm⟩) m2
    · exact h3
  have h2 : (A2.map (fun x => b (p x))).length ≤ B.length := by
    refine sub_len _ _ (nodup_map _ A2 (by rw [hA2]; exact hA.nd.filter _) (fun x hx y hy e => ?_)) (fun z hz => ?_)
    · obtain ⟨x1, x2, x3⟩ := htr x hx
      obtain ⟨y1, y2, y3⟩ := htr y hy
      have := (hB.eq _ _ x1 y1).1 e
      rw [x2, y2]
      exact (hA.eq _ _ x1 y1).2 (fun q hq => (x3 q hq).trans ((this q hq).trans (y3 q hq).symm))
    · obtain ⟨x, hx, rfl⟩ := List.mem_map.1 hz
      exact (hB.mem _).2 ⟨p x, (htr x hx).1, rfl⟩
  rw [List.length_map] at h2
  omega
theorem Cnt.more {β γ : Type} [DecidableEq β] [DecidableEq γ] {s n : Nat} (hs : 0 < s) {v u : Nat → Int} {A : List β} {a : Nat → β} {B : List γ} {b : Nat → γ} (hA : Cnt s n v A a) (hB : Cnt s n u B b) (lo hi : Nat) (x : Int)
    (h1 : ∀ r, lo ≤ r → r ≤ hi → v r = x) (h2 : ∀ r, r < lo ∨ hi < r → v r = u r) : A.length ≤ B.length + 3 := by
  by_cases hf : ∃ e, e < n ∧ lo ≤ s * e ∧ s * e + (s - 1) ≤ hi
  · obtain ⟨e, he, e1, e2⟩ := hf
    refine Cnt.le hA hB [lo / s, hi / s, e] (fun i hi' => ?_)
    rcases chunk_case (lo := lo) (hi := hi) (i := i) hs with h | ⟨f1, f2⟩ | h | h
    · exact .inr (fun q hq => h2 _ (by omega))
    · exact .inl ⟨e, by simp, (hA.eq i e hi' he).2 (fun q hq => by rw [h1 _ (by omega) (by omega), h1 _ (by omega) (by omega)])⟩
    · exact .inl ⟨i, by simp [h], rfl⟩
    · exact .inl ⟨i, by simp [h], rfl⟩
  · have := Cnt.le hA hB [lo / s, hi / s] (fun i hi' => by
      rcases chunk_case (lo := lo) (hi := hi) (i := i) hs with h | ⟨f1, f2⟩ | h | h
      · exact .inr (fun q hq => h2 _ (by omega))
      · exact absurd ⟨i, hi', f1, f2⟩ hf
      · exact .inl ⟨i, by simp [h], rfl⟩
      · exact .inl ⟨i, by simp [h], rfl⟩)
    simp at this
    omega
/-- the values of a function as a list -/
theorem vals_at (v : Nat → Int) {n k : Nat} (h : k < n) : ((List.range n).map v)[k]? = some (v k) := by rw [List.getElem?_map, List.getElem?_range h]; rfl
def chk {α : Type} (l : List α) (i : Nat) : List α := (l.drop (64 * i)).take 64
theorem chk_eq {α : Type} {l : List α} {n : Nat} (hl : l.length = 64 * n) {i j : Nat} (hi : i < n) (hj : j < n) : chk l i = chk l j ↔ ∀ q, q < 64 → l[64 * i + q]? = l[64 * j + q]? := by
  unfold chk
  constructor
  · intro h q hq
    have := congrArg (fun x => x[q]?) h
    simpa [List.getElem?_take, hq, List.getElem?_drop] using this
  · intro h
    apply List.ext_getElem?
    intro q
    by_cases hq : q < 64
    · simpa [List.getElem?_take, hq, List.getElem?_drop] using h q hq
    · simp [List.getElem?_take, hq]
theorem cut_mem {α : Type} {k : Nat} {l : List α} (x : List α) : x ∈ cutN k l ↔ ∃ i, i < k ∧ x = chk l i := by
  rw [List.mem_iff_getElem?]
  constructor
  · rintro ⟨i, h⟩
    have hi : i < k := by have := (List.getElem?_eq_some_iff.1 h).1; rwa [cutN_len] at this
    rw [cutN_at k l i hi] at h
    exact ⟨i, hi, (Option.some.inj h).symm⟩
  · rintro ⟨i, hi, rfl⟩
    exact ⟨i, cutN_at k l i hi⟩
theorem lows_cnt (v : Nat → Int) : Cnt 64 17408 v (lowsV ((List.range 1114112).map v)).1 (chk ((List.range 1114112).map v)) := by
  have hl : ((List.range 1114112).map v).length = 64 * 17408 := by rw [List.length_map, List.length_range]
  refine ⟨numL_nodup _ List.nodup_nil, fun x => ?_, fun i j hi hj => ?_⟩
  · unfold lowsV
    rw [numL_mem, show ((List.range 1114112).map v).length / 64 = 17408 by rw [hl], cut_mem]
    simp
  · rw [chk_eq hl hi hj]
    constructor
    · intro h q hq
      have := h q hq
      rw [vals_at v (by omega), vals_at v (by omega)] at this
      exact Option.some.inj this
    · intro h q hq
      rw [vals_at v (by omega), vals_at v (by omega), h q hq]
theorem laid_eq (v : Nat → Int) {i j : Nat} (hi : i < 17408) (hj : j < 17408) : (lowsV ((List.range 1114112).map v)).2[i]? = (lowsV ((List.range 1114112).map v)).2[j]? ↔ chk ((List.range 1114112).map v) i = chk ((List.range 1114112).map v) j := by
  have hl : ((List.range 1114112).map v).length / 64 = 17408 := by rw [List.length_map, List.length_range]
  have hnd : (lowsV ((List.range 1114112).map v)).1.Nodup := numL_nodup _ List.nodup_nil
  have ha : ∀ i, i < 17408 → (cutN (((List.range 1114112).map v).length / 64) ((List.range 1114112).map v))[i]? = some (chk ((List.range 1114112).map v) i) := fun i hi => by rw [hl]; exact cutN_at _ _ i hi
  obtain ⟨n1, p1, p2⟩ := numL_at _ [] i _ (ha i hi)
  obtain ⟨n2, q1, q2⟩ := numL_at _ [] j _ (ha j hj)
  unfold lowsV at hnd ⊢
  rw [p1, q1]
  constructor
  · intro h
    rw [Option.some.inj h] at p2
    exact Option.some.inj (p2.symm.trans q2)
  · intro h
    rw [h] at p2
    obtain ⟨l1, e1⟩ := List.getElem?_eq_some_iff.1 p2
    obtain ⟨l2, e2⟩ := List.getElem?_eq_some_iff.1 q2
    rw [nd_inj hnd l1 l2 (e1.trans e2.symm)]
theorem mids_cnt (v : Nat → Int) : Cnt 4096 272 v (midsV ((List.range 1114112).map v)).1 (chk (lowsV ((List.range 1114112).map v)).2) := by
  have hl : (lowsV ((List.range 1114112).map v)).2.length = 64 * 272 := by rw [laid_len, List.length_map, List.length_range]
  refine ⟨numL_nodup _ List.nodup_nil, fun x => ?_, fun i j hi hj => ?_⟩
  · unfold midsV
    rw [numL_mem, show (lowsV ((List.range 1114112).map v)).2.length / 64 = 272 by rw [hl], cut_mem]
    simp
  · rw [chk_eq hl hi hj]
    constructor
    · intro h q hq
      have h1 := (laid_eq v (by omega) (by omega)).1 (h (q / 64) (by omega))
      have h2 := ((lows_cnt v).eq _ _ (by omega) (by omega)).1 h1 (q % 64) (by omega)
      rw [show 4096 * i + q = 64 * (64 * i + q / 64) + q % 64 by omega, show 4096 * j + q = 64 * (64 * j + q / 64) + q % 64 by omega]
      exact h2
    · intro h q hq
      refine (laid_eq v (by omega) (by omega)).2 (((lows_cnt v).eq _ _ (by omega) (by omega)).2 (fun r hr => ?_))
      have := h (64 * q + r) (by omega)
      rw [show 64 * (64 * i + q) + r = 4096 * i + (64 * q + r) by omega, show 64 * (64 * j + q) + r = 4096 * j + (64 * q + r) by omega]
      exact this
/-- how many blocks, of spans that are not refused -/
def nLow (rest : Int) (ps : List (Pc Int)) : Nat := (lowsV (valsF rest ps)).1.length
def nMid (rest : Int) (ps : List (Pc Int)) : Nat := (midsV (valsF rest ps)).1.length
theorem valF_more (rest : Int) (ps : List (Pc Int)) (x : Pc Int) (r : Nat) (h : ¬ (x.lo ≤ (r : Int) ∧ (r : Int) ≤ x.hi)) : valF rest (ps ++ [x]) r = valF rest ps r := by
  unfold valF
  rw [List.find?_append]
  have : List.find? (fun p : Pc Int => decide (p.lo ≤ (r : Int)) && decide ((r : Int) ≤ p.hi)) [x] = none := by
    rw [List.find?_eq_none]
    intro p hp
    rw [List.mem_singleton.1 hp]
    simpa using h
  rw [this, Option.or_none]
theorem ref_front {ps : List (Pc Int)} {x : Pc Int} (h : (refP (ps ++ [x])).2 = 0) : (refP ps).2 = 0 := by
  have := refP_ok.1 h
  exact refP_ok.2 ⟨fun p hp => this.1 p (List.mem_append_left _ hp), (List.pairwise_append.1 this.2).1⟩
theorem span_more (rest : Int) (ps : List (Pc Int)) (x : Pc Int) (h : (refP (ps ++ [x])).2 = 0) : nLow rest (ps ++ [x]) ≤ nLow rest ps + 3 ∧ nMid rest (ps ++ [x]) ≤ nMid rest ps + 3 := by
  obtain ⟨h1, h2⟩ := refP_ok.1 h
  have hx := mayC_iff.1 (h1 x (by simp))
  have g1 : ∀ r, x.lo.toNat ≤ r → r ≤ x.hi.toNat → valF rest (ps ++ [x]) r = x.val := fun r q1 q2 => valF_in h2 (by simp) (by omega) (by omega)
  have g2 : ∀ r, r < x.lo.toNat ∨ x.hi.toNat < r → valF rest (ps ++ [x]) r = valF rest ps r := fun r q => valF_more rest ps x r (by omega)
  exact ⟨Cnt.more (by omega) (lows_cnt _) (lows_cnt _) x.lo.toNat x.hi.toNat x.val g1 g2, Cnt.more (by omega) (mids_cnt _) (mids_cnt _) x.lo.toNat x.hi.toNat x.val g1 g2⟩
theorem none_one (rest : Int) : nLow rest [] = 1 ∧ nMid rest [] = 1 :=
  ⟨Cnt.one (lows_cnt (valF rest [])) (by omega) rest (fun r => rfl), Cnt.one (mids_cnt (valF rest [])) (by omega) rest (fun r => rfl)⟩
theorem some_pos (rest : Int) (ps : List (Pc Int)) : 0 < nLow rest ps ∧ 0 < nMid rest ps := ⟨Cnt.pos (lows_cnt (valF rest ps)) (by omega), Cnt.pos (mids_cnt (valF rest ps)) (by omega)⟩
theorem all_few (rest : Int) : ∀ (n : Nat) (ps : List (Pc Int)), ps.length = n → (refP ps).2 = 0 → nLow rest ps ≤ 1 + 3 * n ∧ nMid rest ps ≤ 1 + 3 * n := by
  intro n
  induction n with
  | zero =>
    intro ps h _
    obtain rfl := List.length_eq_zero_iff.1 h
    have := none_one rest
    omega
  | succ n ih =>
    intro ps h hr
    obtain ⟨qs, x, rfl⟩ : ∃ qs x, ps = qs ++ [x] := ⟨ps.dropLast, ps.getLast (by intro e; rw [e] at h; simp at h), (List.dropLast_concat_getLast _).symm⟩
    have h1 := ih qs (by simpa using h) (ref_front hr)
    have h2 := span_more rest qs x hr
    omega
theorem vals_len (rest : Int) (ps : List (Pc Int)) : (valsF rest ps).length = 1114112 := by unfold valsF; rw [List.length_map, List.length_range]
theorem all_most (rest : Int) (ps : List (Pc Int)) : nLow rest ps ≤ 17408 ∧ nMid rest ps ≤ 272 := by
  have h1 := lows_le (valsF rest ps)
  have h2 := mids_le (valsF rest ps)
  rw [vals_len] at h1 h2
  exact ⟨h1, h2⟩
/-- each low block stands in a middle one -/
theorem low_mid (rest : Int) (ps : List (Pc Int)) : nLow rest ps ≤ 64 * nMid rest ps := by
  obtain ⟨vs, hvs⟩ : ∃ vs, vs = valsF rest ps := ⟨_, rfl⟩
  have hl : vs.length = 1114112 := by rw [hvs]; exact vals_len rest ps
  show (lowsV (valsF rest ps)).1.length ≤ 64 * (midsV (valsF rest ps)).1.length
  rw [← hvs, ← mid_len vs]
  have key : ∀ k ∈ List.range (lowsV vs).1.length, k ∈ (partsV vs).mid := fun k hk => by
    have hk := List.mem_range.1 hk
    have hmem : (lowsV vs).1[k] ∈ (lowsV vs).1 := List.getElem_mem hk
    have h1 : ∃ p, p < vs.length / 64 ∧ (lowsV vs).1[k] = chk vs p := by
      rw [← cut_mem]
      have := (numL_mem (cutN (vs.length / 64) vs) [] ((lowsV vs).1[k])).1 hmem
      simpa using this
    obtain ⟨p, hp, e⟩ := h1
    obtain ⟨m, l, _, _, q2, _, q4, q5⟩ := place_at vs (p := p) (by omega)
    obtain ⟨l1, e1⟩ := List.getElem?_eq_some_iff.1 q5
    have hnd : (lowsV vs).1.Nodup := numL_nodup _ List.nodup_nil
    have : k = l := nd_inj hnd hk l1 (e.trans e1.symm)
    rw [this]
    exact List.mem_of_getElem? q2
  have := sub_len (List.range (lowsV vs).1.length) (partsV vs).mid List.nodup_range key
  rwa [List.length_range] at this
end Go.Proofs.Ytokillomaemocaa
/-
  Appends of spans.
-/
namespace Go.Proofs.Ytokillomaemocaa.VK
open Go.RowKit Go.PlainAid Go.Lib Go.PRow
set_option linter.unusedVariables false
set_option linter.unusedSimpArgs false
/-- a row of pieces' cells -/
structure Rw (W : World) (g cap n : Nat) (cur : Array Value) (xs : List Value) : Prop where
  hh : W.heap[g]? = some (.cells cur 72 (0, 0))
  hn : n ≤ cap
  hm : cap ≤ maxLen
  hs : cur.size = cap * 3
  ht : cur.toList.take (n * 3) = xs
  h1 : ∀ v ∈ xs, v.oneCell' = true
theorem Rw.len {W : World} {g cap n : Nat} {cur : Array Value} {xs : List Value} (h : Rw W g cap n cur xs) : xs.length = n * 3 := by
  have a := h.hs; have b := h.hn
  rw [← h.ht, List.length_take, Array.length_toList, a]
  omega
theorem Rw.cell {W V : World} {g cap n : Nat} {cur : Array Value} {xs : List Value} (h : Rw W g cap n cur xs) (hV : V.heap[g]? = W.heap[g]?) (o j : Nat) (v : Value) (hj : (xs.drop o)[j]? = some v) : V.cell? ((⟨g, o, none⟩ : Addr).add j) = some v := by
  rw [Addr.add_lit]
  refine row_cell (hV.trans h.hh) h.ht (by rw [h.hs]; exact Nat.mul_le_mul_right _ h.hn) _ _ ?_
  rwa [List.getElem?_drop] at hj

theorem RowP.rw {W : World} {B : Nat} {v : Value} {ps : List (Pc Int)} (h : RowP W B v ps) : (∃ a, v = .slice a 0 0 ∧ ps = []) ∨ ∃ g cap cur, v = .slice (some ⟨g, 0, none⟩) ps.length cap ∧ B ≤ g ∧ Rw W g cap ps.length cur (cellsP ps) := by
  rcases h.2 with ⟨a, rfl, hn⟩ | ⟨g, cap, cur, rfl, hb, hh, hc, hm, hs, ht⟩
  · exact .inl ⟨a, rfl, List.length_eq_zero_iff.1 hn⟩
  · exact .inr ⟨g, cap, cur, rfl, hb, hh, hc, hm, hs, ht, cellsP_one ps⟩
theorem blk_pos {a : Addr} {n c : Nat} (h : 0 < c) : blk (.slice (some a) n c) = some a.block := by
  cases c with
  | zero => omega
  | succ c => rfl

/-- what becomes of a slice s of pieces: s' with the pieces ps', in its own block or in a new one -/
def Turned (w w' : World) (B : Nat) (s s' : Value) (ps' : List (Pc Int)) : Prop :=
  RowP w' B s' ps' ∧ w.grownBy w' (blk s) ∧ (blk s' = blk s ∨ ∀ g, blk s' = some g → w.heap.size ≤ g)

theorem grown_refl (w : World) (row : Option Nat) : w.grownBy w row := ⟨rfl, rfl, rfl, Nat.le_refl _, fun _ _ _ => rfl⟩
theorem grown_new (w : World) (o : Obj) (row : Option Nat) : w.grownBy (w.drew.alloc o) row :=
  ⟨rfl, rfl, rfl, by simp, fun k hk _ => Below.heap_alloc w.drew o k hk⟩

theorem append_ps (B Bv : Nat) (s u : Value) (ps qs : List (Pc Int)) (w : World) (hB : B ≤ w.heap.size) (hr : RowP w B s ps) (hu : RowP w Bv u qs) (hbig : (ps.length + qs.length) * 12 ≤ 140737488355328) :
    ∃ s' w', (∀ ty, (Builtin.append_ #[22, 22] ty #[s, u]).run Try.prog w = .ok s' w') ∧ Turned w w' B s s' (ps ++ qs) ∧ (∀ a, s = .slice a 0 0 → qs ≠ [] → w'.heap.size = w.heap.size + 1 ∧ blk s' = some w.heap.size) := by
  obtain ⟨i0, hi0, hz0, hzs, hzb⟩ := info_parts infoP
  obtain ⟨u0, vc, rfl, hvc1, hvc2, _⟩ := hu.form
  have hsrcv := src_of_row (P := Try.prog) hu Try.underlying22 (cellsP_one qs)
  have hsrcs := src_of_row (P := Try.prog) hr Try.underlying22 (cellsP_one ps)
  have hqc := cellsP_len qs
  have hpc := cellsP_len ps
  obtain ⟨a, cap, rfl, hc1, hc2, _⟩ := hr.form
  by_cases hq : qs = []
  · subst hq
    refine ⟨_, _, fun ty => run_append_none w 22 22 ty 72 i0 Try.underlying22 hi0 a ps.length cap _ (by rw [hzs]; exact hsrcv) hc1, ⟨by simpa using hr, grown_refl _ _, .inl rfl⟩, fun _ _ h => absurd rfl h⟩
  have hm : 0 < qs.length := List.length_pos_iff.2 hq
  by_cases hroom : ps.length + qs.length ≤ cap
  · rcases hr.rw with ⟨a', e, e'⟩ | ⟨g, cap', cur, e, hg, R⟩
    · subst e'
      simp only [List.length_nil] at e hroom
      injection e with e1 e2 e3
      omega
    · injection e with e1 e2 e3
      subst e1; subst e3
      have hfit : ps.length * 3 + (cellsP qs).length ≤ cur.size := by rw [hqc, R.hs]; omega
      refine ⟨_, _, fun ty => by
        have := run_append_inK w 22 22 ty 72 i0 Try.underlying22 hi0 g 0 ps.length cap cur _ (.slice u0 qs.length vc) qs.length (cellsP qs) (by rw [hzs]; exact hsrcv) hroom R.hh (by rw [hzs]; omega)
        rw [hzs, Nat.zero_add] at this
        exact this, ⟨RowP.of (cur := spl cur (ps.length * 3) (cellsP qs)) hg (setRow_heap w g cur _ _ _ R.hh) (by simp) hroom hc2 (by rw [spl_size _ _ _ hfit, R.hs]) ?_, ?_, .inl ?_⟩, fun a e _ => ?_⟩
      · rw [Nat.add_mul, spl_end R.ht hpc hqc, cellsP_append]
      · rw [blk_pos (by omega)]; exact setRow_grown w g _
      · rw [blk_pos (by omega), blk_pos (by omega)]
      · injection e with e1 e2 e3
        omega
  · have hG1 : ps.length + qs.length ≤ grownCap w (ps.length + qs.length) cap 72 := grownCap_ge w _ cap 72
    have hG2 := grownCap_le_maxLen w (ps.length + qs.length) cap 72 (by unfold maxLen; omega)
    refine ⟨_, _, fun ty => by
      have := run_append_grow_src w 22 22 ty 72 i0 zP Try.underlying22 hi0 hz0 a ps.length cap (cellsP ps) (by rw [hzs]; exact hsrcs.cellsD) (.slice u0 qs.length vc) qs.length (cellsP qs) (by rw [hzs]; exact hsrcv) (by omega) (by omega) (by rw [hzb]; exact growslice_fits (by omega) hbig)
      exact this, ⟨RowP.of (cur := (cellsP ps ++ cellsP qs).toArray ++ Builtin.zeroCells zP.cells (grownCap w (ps.length + qs.length) cap 72 - (ps.length + qs.length))) hB (heap_alloc_new w.drew _) (by simp) hG1 hG2 (by
        have := zs_len (grownCap w (ps.length + qs.length) cap 72 - (ps.length + qs.length))
        rw [zs, Array.length_toList] at this
        rw [Array.size_append, List.size_toArray, List.length_append, hpc, hqc, this]; omega) ?_, grown_new w _ _, .inr fun g hg => ?_⟩, fun a e _ => ⟨by simp, blk_pos (by omega)⟩⟩
    · rw [Array.toList_append, List.take_left' (by simp [hpc, hqc]; omega), cellsP_append]
    · rw [blk_pos (by omega)] at hg
      cases hg
      exact Nat.le_refl _

theorem append_nil (u0 : Option Addr) (vc : Nat) (qs : List (Pc Int)) (w : World) (hsrcv : Src Try.prog 3 22 (.slice u0 qs.length vc) qs.length (cellsP qs) w) (hbig : qs.length * 12 ≤ 140737488355328) :
    ∃ s' w', (∀ ty, (Builtin.append_ #[22, 22] ty #[.slice none 0 0, .slice u0 qs.length vc]).run Try.prog w = .ok s' w') ∧ RowP w' w.heap.size s' qs ∧ Below w.heap.size w w' := by
  obtain ⟨i0, hi0, hz0, hzs, hzb⟩ := info_parts infoP
  have hqc := cellsP_len qs
  by_cases hq : qs = []
  · subst hq
    exact ⟨_, _, fun ty => run_append_none w 22 22 ty 72 i0 Try.underlying22 hi0 none 0 0 _ (by rw [hzs]; exact hsrcv) (Nat.le_refl _), RowV.nil _ _ _ _ _, Below.refl _ _⟩
  have hm : 0 < qs.length := List.length_pos_iff.2 hq
  have hsrcs : Src Try.prog 3 22 (.slice none 0 0) 0 [] w := Src.ofNil w Try.underlying22 0
  have hG1 : 0 + qs.length ≤ grownCap w (0 + qs.length) 0 72 := grownCap_ge w _ 0 72
  have hG2 := grownCap_le_maxLen w (0 + qs.length) 0 72 (by unfold maxLen; omega)
  refine ⟨_, _, fun ty => by
    have := run_append_grow_src w 22 22 ty 72 i0 zP Try.underlying22 hi0 hz0 none 0 0 [] (by rw [hzs]; exact hsrcs.cellsD) (.slice u0 qs.length vc) qs.length (cellsP qs) (by rw [hzs]; exact hsrcv) (by omega) (by omega) (by rw [hzb]; exact growslice_fits (by omega) (by omega))
    exact this, RowP.of (cur := ([] ++ cellsP qs).toArray ++ Builtin.zeroCells zP.cells (grownCap w (0 + qs.length) 0 72 - (0 + qs.length))) (Nat.le_refl _) (heap_alloc_new w.drew _) (by simp) hG1 hG2 (by
      have := zs_len (grownCap w (0 + qs.length) 0 72 - (0 + qs.length))
      rw [zs, Array.length_toList] at this
      rw [Array.size_append, List.size_toArray, List.length_append, hqc, this, List.length_nil]; omega) ?_, ?_⟩
  · rw [Array.toList_append, List.nil_append, List.take_left' (by simp [hqc])]
  · exact ((Below.refl _ w).drew).alloc (Nat.le_refl _) _
theorem exec_append {P : Program} {w w' : World} {o : Oper} {a : Act} (s x : Operand) (t tn : TypeId) (ho : o.op = .call { callee := .builtin .append, args := #[s, x], argTypes := #[t, tn] }) (vs vx v : Value) (hs : a.eval s = vs) (hx : a.eval x = vx)
    (hr : (Builtin.append_ #[t, tn] o.type #[vs, vx]).run P w = .ok v w') : (execOp a.eval o).run P w = .ok (.value v) w' := by
  unfold execOp
  simp only [ho, resolve, invoke, builtin, Sem.run_bind, Sem.run_pure, Result.andThen_ok, List.map_toArray, List.map_cons, List.map_nil, hs, hx, hr]
/-- a span more, whose copy lies in a block b of its own -/
theorem append_x (B b : Nat) (s : Value) (ps : List (Pc Int)) (x : Pc Int) (w : World) (hB : B ≤ w.heap.size) (hr : RowP w B s ps) (hh : w.heap[b]? = some (.cells #[.int .i32 x.lo, .int .i32 x.hi, .int .u8 x.val] 72 (0, 0))) (hbig : (ps.length + 1) * 12 ≤ 140737488355328) :
    ∃ s' w', (∀ ty, (Builtin.append_ #[22, 22] ty #[s, .slice (some ⟨b, 0, none⟩) 1 1]).run Try.prog w = .ok s' w') ∧ RowP w' B s' (ps ++ [x]) ∧ w.grownBy w' (blk s) := by
  have hu : RowP w 0 (.slice (some ⟨b, 0, none⟩) 1 1) [x] := RowP.of (Nat.zero_le _) hh rfl (Nat.le_refl _) (by unfold maxLen; omega) rfl rfl
  obtain ⟨s', w', h1, h2, _⟩ := append_ps B 0 s _ ps [x] w hB hr hu hbig
  exact ⟨s', w', h1, h2.1, h2.2.1⟩
end Go.Proofs.Ytokillomaemocaa.VK
/-
  TrieSmall walked.
-/
namespace Go.Proofs.Ytokillomaemocaa.trieSmall
open Go.ChangeShapes Go.WideShapes Go.ChangeAt Go.RowKit Go.PlainAid Go.Lib Go.ChangeMaps Go.PRow Go.TrM
open Go.Proofs.Ytokillomaemocaa.VK (SpAt)
set_option linter.unusedVariables false
set_option linter.unusedSimpArgs false
/-- what Build answers -/
def Blt (W0 W : World) (rest : Int) (ps : List (Pc Int)) (v7 v9 : Value) : Prop :=
  v9 = .int .i64 ((refP ps).2 : Int) ∧ ((refP ps).2 = 0 → ∃ bt vt vm vl, v7 = .pointer (some ⟨bt, 0, none⟩) ∧ VU.TrAt W W0.heap.size bt vt vm vl (valsF rest ps)) ∧ ((refP ps).2 ≠ 0 → v7 = .pointer none)
theorem Blt.below {W0 W W' : World} {rest : Int} {ps : List (Pc Int)} {v7 v9 : Value} (h : Blt W0 W rest ps v7 v9) (hb : Below W.heap.size W W') : Blt W0 W' rest ps v7 v9 := by
  obtain ⟨h1, h2, h3⟩ := h
  refine ⟨h1, fun h => ?_, h3⟩
  obtain ⟨bt, vt, vm, vl, e, h4⟩ := h2 h
  exact ⟨bt, vt, vm, vl, e, h4.below hb⟩
theorem build_blt (rest : Int) (hr0 : 0 ≤ rest) (hr1 : rest ≤ 255) (a : Option Addr) (cap : Nat) (ps : List (Pc Int)) (n : Nat) (hn : ps.length = n) (hn2 : n ≤ 1099511627776) (hc : n ≤ cap) (hv : ∀ p ∈ ps, 0 ≤ p.val ∧ p.val < 256) (w : World) (h : SpAt w a ps) :
    Calls Try.prog 12 #[.int .u8 rest, .slice a n cap] w fun e w' => ∃ v7 v8 v9, e = .returned (.tuple #[v7, v8, v9]) ∧ Blt w w' rest ps v7 v9 ∧ Below w.heap.size w w' :=
  VK.build_any _ rest hr0 (by omega) a cap ps n hn hn2 hc hv w h
    (VK.hide fun h0 w' bt vt vm vl hT hb _ => ⟨_, _, _, rfl, ⟨by rw [h0]; rfl, fun _ => ⟨bt, vt, vm, vl, rfl, hT⟩, fun h => absurd h0 h⟩, hb⟩)
    (VK.hide fun h0 w' hb => ⟨_, _, _, rfl, ⟨rfl, fun h => absurd h h0, fun _ => rfl⟩, hb⟩)
theorem row_sp {W : World} {B : Nat} {a : Option Addr} {m c : Nat} {ps : List (Pc Int)} (h : VK.RowP W B (.slice a m c) ps) : m = ps.length ∧ m ≤ c ∧ SpAt W a ps := by
  rcases h.rw with ⟨a', e, rfl⟩ | ⟨g, cap', cur, e, hg, R⟩
  · injection e with e1 e2 e3
    subst e2; subst e3
    exact ⟨rfl, Nat.le_refl _, fun h => absurd rfl h⟩
  · injection e with e1 e2 e3
    subst e1; subst e2; subst e3
    refine ⟨rfl, R.hn, fun _ => ⟨g, 0, rfl, (Array.getElem?_eq_some_iff.1 R.hh).1, fun j u hj => ?_⟩⟩
    have := R.cell (V := W) rfl 0 j u (by rwa [List.drop_zero])
    rwa [Addr.add_lit] at this
theorem blk_any (w : World) (B bt : Nat) (vt vm vl : Value) (rest : Int) (ps : List (Pc Int)) (h : VU.TrAt w B bt vt vm vl (valsF rest ps)) :
    Calls Try.prog 21 #[.pointer (some ⟨bt, 0, none⟩)] w fun e w' => e = .returned (.tuple #[.int .i64 (nMid rest ps : Int), .int .i64 (nLow rest ps : Int)]) ∧ Below w.heap.size w w' := VU.blocks_any w B bt vt vm vl _ h
theorem small_false (M N n : Nat) (f1 : 0 < N) (f2 : 0 < M) (f3 : N ≤ 17408) (f4 : M ≤ 272) (f5 : N ≤ 64 * M) (f6 : N ≤ 1 + 3 * n) (f7 : M ≤ 1 + 3 * n) :
    (decide ((M : Int) < 1) || decide ((272 : Int) < (M : Int)) || decide ((N : Int) < 1) || decide ((17408 : Int) < (N : Int)) || decide (64 * (M : Int) < (N : Int)) || decide (1 + 3 * (n : Int) < (M : Int)) || decide (1 + 3 * (n : Int) < (N : Int))) = false := by
  rw [decide_eq_false (by omega), decide_eq_false (by omega), decide_eq_false (by omega), decide_eq_false (by omega), decide_eq_false (by omega), decide_eq_false (by omega), decide_eq_false (by omega)]
  rfl
theorem small_dec (M N n : Nat) (f1 : 0 < N) (f2 : 0 < M) (f3 : N ≤ 17408) (f4 : M ≤ 272) (f5 : N ≤ 64 * M) (f6 : N ≤ 1 + 3 * n) (f7 : M ≤ 1 + 3 * n) :
    decide ((M : Int) < 1) = false ∧ decide ((272 : Int) < (M : Int)) = false ∧ decide ((N : Int) < 1) = false ∧ decide ((17408 : Int) < (N : Int)) = false ∧ decide (64 * (M : Int) < (N : Int)) = false ∧ decide (1 + 3 * (n : Int) < (M : Int)) = false ∧ decide (1 + 3 * (n : Int) < (N : Int)) = false := by
  refine ⟨decide_eq_false ?_, decide_eq_false ?_, decide_eq_false ?_, decide_eq_false ?_, decide_eq_false ?_, decide_eq_false ?_, decide_eq_false ?_⟩ <;> omega
theorem few_dec (M N M2 N2 : Nat) (h : N2 ≤ N + 3 ∧ M2 ≤ M + 3) : decide ((M2 : Int) ≤ (M : Int) + 3) = true ∧ decide ((N2 : Int) ≤ (N : Int) + 3) = true :=
  ⟨decide_eq_true (by omega), decide_eq_true (by omega)⟩
theorem sp_nil (w : World) : SpAt w none [] := fun h => absurd rfl h
set_option maxRecDepth 100000 in
set_option maxHeartbeats 4000000 in
theorem walk (rest : Int) (a : Option Addr) (n cap : Nat) (ps : List (Pc Int)) (x : Pc Int) (w : World) (hr0 : 0 ≤ rest) (hr1 : rest ≤ 255) (hn : ps.length = n) (hc : n ≤ cap) (hS : SpAt w a ps) (hv : ∀ p ∈ ps, 0 ≤ p.val ∧ p.val < 256) (hx : 0 ≤ x.val ∧ x.val < 256) :
    Calls Try.prog 7 #[.int .u8 rest, .slice a n cap, .agg #[.int .i32 x.lo, .int .i32 x.hi, .int .u8 x.val]] w fun e w' => e = .returned (.bool true) ∧ Below w.heap.size w w' := by
  have hb0 : Below w.heap.size w (w.alloc (.cells #[.int .i32 x.lo, .int .i32 x.hi, .int .u8 x.val] 72)) := (Below.refl _ w).alloc (Nat.le_refl _) _
  have HB0 := VU.hide hb0
  have HAW := VU.hide (VK.awake_any (w.alloc (.cells #[.int .i32 x.lo, .int .i32 x.hi, .int .u8 x.val] 72)))
  have HS := VU.hide hS
  have HV := VU.hide hv
  have HN := VU.hide hn
  clear hb0 hS hv hn
  by_cases h60 : 60 < n
  · go_enter Try.func7, Try.ntmps7
    go_wp2_with fail
    refine (VU.unhide HAW).mono ?_
    rintro e w1 ⟨rfl, hb1⟩
    go_wp2
    go_ret
    exact ⟨rfl, (VU.unhide HB0).trans (hb1.mono (VU.unhide HB0).size)⟩
  go_enter Try.func7, Try.ntmps7
  go_upto_region 3 with fail
  obtain ⟨w1, hw1⟩ : ∃ w1, w1 = w.alloc (.cells #[.int .i32 x.lo, .int .i32 x.hi, .int .u8 x.val] 72) := ⟨_, rfl⟩
  have hx1 : w1.heap[w.heap.size]? = some (.cells #[.int .i32 x.lo, .int .i32 x.hi, .int .u8 x.val] 72 (0, 0)) := by rw [hw1]; exact World.alloc_heap_new w _
  rw [← hw1] at HB0 HAW ⊢
  clear hw1
  have HS1 := VU.hide ((VU.unhide HS).below (VU.unhide HB0))
  have HX1 := VU.hide hx1
  clear hx1 HS HAW
  go_cut [7, 8, 9] from 26 to 32 (fun v7 v8 v9 wx => Hid (Blt w1 wx rest ps v7 v9 ∧ Below w1.heap.size w1 wx))
  case first =>
    go_wp2_with fail
    refine VK.build_any _ rest hr0 (by omega) a cap ps n (VU.unhide HN) (by omega) hc (VU.unhide HV) w1 (VU.unhide HS1) (VK.hide fun h0 w' bt vt vm vl hT hb _ => ?_) (VK.hide fun h0 w' hb => ?_)
    · have HF := VU.hide (And.intro (show Blt w1 w' rest ps (.pointer (some ⟨bt, 0, none⟩)) (.int .i64 0) from ⟨by rw [h0]; rfl, fun _ => ⟨bt, vt, vm, vl, rfl, hT⟩, fun h => absurd h0 h⟩) hb)
      clear hT hb
      go_wp2_with fail
      go_meet
      exact HF
    · have HF := VU.hide (And.intro (show Blt w1 w' rest ps (.pointer none) (.int .i64 ((refP ps).2 : Int)) from ⟨rfl, fun h => absurd h h0, fun _ => rfl⟩) hb)
      clear hb
      go_wp2_with fail
      go_meet
      exact HF
  case rest =>
    go_upto_region 4 with fail
    have hB1 := (VU.unhide hcut).2
    have HSC := VU.hide ((VU.unhide HS1).below hB1)
    have hxc := (hB1.block _ (Array.getElem?_eq_some_iff.1 (VU.unhide HX1)).1).trans (VU.unhide HX1)
    have HXC := VU.hide hxc
    have HBC := VU.hide ((VU.unhide HB0).trans (hB1.mono (VU.unhide HB0).size))
    have HBL := VU.hide (VU.unhide hcut).1
    clear hxc hB1 HS1 HX1 HB0 hcut
    go_cut [10, 11, 12] from 33 to 43 (fun v10 v11 v12 wx => Hid ((∃ wb, Blt wb wx rest (ps ++ [x]) v10 v12) ∧ Below wc.heap.size wc wx))
    case first =>
      have hS1 : Below wc.heap.size wc wc.drew := (Below.refl _ wc).drew
      have L0 : ∀ X : World, Below wc.heap.size wc X → X.cell? ⟨w.heap.size, 0, none⟩ = some (.int .i32 x.lo) ∧ X.cell? ⟨w.heap.size, 1, none⟩ = some (.int .i32 x.hi) ∧ X.cell? ⟨w.heap.size, 2, none⟩ = some (.int .u8 x.val) := fun X hX => by
        have h := (hX.block _ (Array.getElem?_eq_some_iff.1 (VU.unhide HXC)).1).trans (VU.unhide HXC)
        exact ⟨by simp [World.cell?, h], by simp [World.cell?, h], by simp [World.cell?, h]⟩
      refine PStep.wp_only ?_
      refine wp_region_held (S := fun W => Below wc.heap.size wc W) (by kernel_rfl) ?_
      show wpAnyH _ _ _ _ _ _ _ _ wc.drew
      refine PStep.take (i := 0) (v := .int .u8 rest) (some 34) rfl rfl (by kernel_rfl) (by kernel_rfl) (by kernel_rfl) (fun _ _ _ h => h) (.inl ⟨rfl, fun X hX => by simp [go_sem, execOp, Act.eval, Act.put]⟩) hS1 ?_
      refine PStep.take (i := 1) (v := .slice a n cap) (some 35) rfl rfl (by kernel_rfl) (by kernel_rfl) (by kernel_rfl) (fun _ _ _ h => h) (.inl ⟨rfl, fun X hX => by simp [go_sem, execOp, Act.eval, Act.put]⟩) hS1 ?_
      refine PStep.take (i := 3) (v := .agg #[.int .i32 x.lo, .int .i32 x.hi, .int .u8 x.val]) (some 37) rfl rfl (by kernel_rfl) (by kernel_rfl) (by kernel_rfl) (fun _ _ _ h => h) (.inl ⟨rfl, fun X hX => by obtain ⟨hX1, hX2, hX3⟩ := L0 X hX; simp [go_sem, execOp, Act.eval, Act.put, hX1, hX2, hX3]⟩) hS1 ?_
      refine wpAnyH_all (rs := [2, 4]) (by kernel_rfl) (by simp) ?_
      intro i hi4
      simp only [List.mem_cons, List.not_mem_nil, or_false] at hi4
      rcases hi4 with rfl | rfl
      · obtain ⟨s36, V1, hap0, h36, hB01⟩ := VK.append_nil a cap ps wc.drew (((VU.unhide HSC).below hS1).src cap) (by rw [VU.unhide HN]; omega)
        rw [VU.unhide HN] at hap0
        have hB1 : Below wc.heap.size wc V1 := hS1.trans hB01
        refine PStep.wpOp_value (w' := V1) (v := s36) rfl rfl (some 36) rfl (VK.exec_append _ _ 22 22 rfl (.slice none 0 0) (.slice a n cap) _ (by simp [Act.eval, Act.put]) (by simp [Act.eval, Act.put]) (hap0 _)) ⟨hB1, ?_⟩
        obtain ⟨b38, hb38⟩ : ∃ b38, b38 = V1.heap.size := ⟨_, rfl⟩
        obtain ⟨V2, hV2⟩ : ∃ V2, V2 = V1.alloc (.cells #[.int .i32 x.lo, .int .i32 x.hi, .int .u8 x.val] 72) := ⟨_, rfl⟩
        have hb12 : Below V1.heap.size V1 V2 := by rw [hV2]; exact (Below.refl _ V1).alloc (Nat.le_refl _) _
        have hB2 : Below wc.heap.size wc V2 := hB1.trans (hb12.mono hB1.size)
        have hx2 : V2.heap[b38]? = some (.cells #[.int .i32 x.lo, .int .i32 x.hi, .int .u8 x.val] 72 (0, 0)) := by rw [hV2, hb38]; exact World.alloc_heap_new V1 _
        have h36 : VK.RowP V2 wc.heap.size s36 ps := VK.RowP.below h36 hb12
        refine wpAnyH_all (rs := [4]) (by kernel_rfl) (by simp) ?_
        intro i hi4
        obtain rfl : i = 4 := by simpa using hi4
        refine PStep.wpOp_value (w' := V2) (v := .slice (some ⟨b38, 0, none⟩) 1 1) rfl rfl (some 38) rfl (by rw [hV2, hb38]; simp [go_sem, execOp, Act.eval, Act.put]) ⟨hB2, ?_⟩
        clear hV2 hb38 hb12 hB01 hap0 hB1

        obtain ⟨sa, sn, sc, rfl⟩ : ∃ a n k, s36 = .slice a n k := by obtain ⟨a, k, e, _⟩ := h36.form; exact ⟨a, _, k, e⟩
        obtain ⟨s39, V3, hap, h39, hg3⟩ := VK.append_x wc.heap.size b38 (.slice sa sn sc) ps x V2 hB2.size h36 hx2 (by rw [VU.unhide HN]; omega)
        have hB3 : Below wc.heap.size wc V3 := hB2.grown hg3 hB2.size (fun k hk => (RowV.lt h36 k hk).1)
        refine wpAnyH_all (rs := [5]) (by kernel_rfl) (by simp) ?_
        intro i hi4
        obtain rfl : i = 5 := by simpa using hi4
        refine PStep.wpOp_value (w' := V3) (v := s39) rfl rfl (some 39) rfl (VK.exec_append _ _ 22 22 rfl (.slice sa sn sc) (.slice (some ⟨b38, 0, none⟩) 1 1) _ (by simp [Act.eval, Act.put]) (by simp [Act.eval, Act.put]) (hap _)) ⟨hB3, ?_⟩
        obtain ⟨qa, qn, qc, rfl⟩ : ∃ a n k, s39 = .slice a n k := by obtain ⟨a, k, e, _⟩ := h39.form; exact ⟨a, _, k, e⟩
        obtain ⟨hq1, hq2, hq3⟩ := row_sp h39
        rw [List.length_append, List.length_singleton, VU.unhide HN] at hq1
        refine wpAnyH_all (rs := [6]) (by kernel_rfl) (by simp) ?_
        intro i hi4
        obtain rfl : i = 6 := by simpa using hi4
        refine PStep.wpOp_call (f := 12) (args := #[.int .u8 rest, .slice qa qn qc]) (w' := V3) rfl rfl (some 40) rfl (by simp [go_sem, execOp, Act.eval, Act.put]) (build_blt rest hr0 hr1 qa qc (ps ++ [x]) qn (by rw [List.length_append, List.length_singleton, VU.unhide HN]; exact hq1.symm) (by omega) hq2 (fun p hp => by
          rcases List.mem_append.1 hp with hp | hp
          · exact VU.unhide HV p hp
          · rw [List.mem_singleton.1 hp]; exact hx) V3 hq3) ?_
        rintro e V4 ⟨v7, v8, v9, rfl, hbl, hb4⟩
        have hB4 : Below wc.heap.size wc V4 := hB3.trans (hb4.mono hB3.size)
        refine ⟨_, rfl, hB4, ?_⟩
        refine PStep.take (i := 7) (v := .tuple #[v7, v8, v9]) (some 33) rfl rfl (by kernel_rfl) (by kernel_rfl) (by kernel_rfl) (fun _ _ _ h => h) (.inl ⟨rfl, fun X hX => by simp [go_sem, execOp, Act.eval, Act.put]⟩) hB4 ?_
        refine PStep.take (i := 8) (v := v7) (some 41) rfl rfl (by kernel_rfl) (by kernel_rfl) (by kernel_rfl) (fun _ _ _ h => h) (.inl ⟨rfl, fun X hX => by simp [go_sem, execOp, Act.eval, Act.put]⟩) hB4 ?_
        refine PStep.take (i := 9) (v := v8) (some 42) rfl rfl (by kernel_rfl) (by kernel_rfl) (by kernel_rfl) (fun _ _ _ h => h) (.inl ⟨rfl, fun X hX => by simp [go_sem, execOp, Act.eval, Act.put]⟩) hB4 ?_
        refine PStep.take (i := 10) (v := v9) (some 43) rfl rfl (by kernel_rfl) (by kernel_rfl) (by kernel_rfl) (fun _ _ _ h => h) (.inl ⟨rfl, fun X hX => by simp [go_sem, execOp, Act.eval, Act.put]⟩) hB4 ?_
        refine PStep.take (i := 11) (v := v7) (some 10) rfl rfl (by kernel_rfl) (by kernel_rfl) (by kernel_rfl) (fun _ _ _ h => h) (.inl ⟨rfl, fun X hX => by simp [go_sem, execOp, Act.eval, Act.put]⟩) hB4 ?_
        refine PStep.take (i := 12) (v := v8) (some 11) rfl rfl (by kernel_rfl) (by kernel_rfl) (by kernel_rfl) (fun _ _ _ h => h) (.inl ⟨rfl, fun X hX => by simp [go_sem, execOp, Act.eval, Act.put]⟩) hB4 ?_
        refine PStep.take (i := 13) (v := v9) (some 12) rfl rfl (by kernel_rfl) (by kernel_rfl) (by kernel_rfl) (fun _ _ _ h => h) (.inl ⟨rfl, fun X hX => by simp [go_sem, execOp, Act.eval, Act.put]⟩) hB4 ?_
        refine wpAnyH_done (by kernel_rfl) ?_ _
        have HF := VU.hide (And.intro (show ∃ wb, Blt wb V4 rest (ps ++ [x]) v7 v9 from ⟨_, hbl⟩) hB4)
        clear hbl hB4 hb4
        simp only [Act.put, PStep.only, List.setIfInBounds_toArray, List.set_cons_succ, List.set_cons_zero]
        go_wp2_with fail
        go_meet
        exact HF
      · obtain ⟨b38, hb38⟩ : ∃ b38, b38 = wc.drew.heap.size := ⟨_, rfl⟩
        obtain ⟨V1, hV1⟩ : ∃ V1, V1 = wc.drew.alloc (.cells #[.int .i32 x.lo, .int .i32 x.hi, .int .u8 x.val] 72) := ⟨_, rfl⟩
        have hb01 : Below wc.heap.size wc.drew V1 := by rw [hV1]; exact (Below.refl _ wc.drew).alloc (Nat.le_refl _) _
        have hB1 : Below wc.heap.size wc V1 := hS1.trans hb01
        have hx1 : V1.heap[b38]? = some (.cells #[.int .i32 x.lo, .int .i32 x.hi, .int .u8 x.val] 72 (0, 0)) := by rw [hV1, hb38]; exact World.alloc_heap_new wc.drew _
        refine PStep.wpOp_value (w' := V1) (v := .slice (some ⟨b38, 0, none⟩) 1 1) rfl rfl (some 38) rfl (by rw [hV1, hb38]; simp [go_sem, execOp, Act.eval, Act.put]) ⟨hB1, ?_⟩
        obtain ⟨s36, V2, hap0, h36, hb12⟩ := VK.append_nil a cap ps V1 (((VU.unhide HSC).below hB1).src cap) (by rw [VU.unhide HN]; omega)
        rw [VU.unhide HN] at hap0
        have hB2 : Below wc.heap.size wc V2 := hB1.trans (hb12.mono hB1.size)
        have hx2 := (hb12.block _ (Array.getElem?_eq_some_iff.1 hx1).1).trans hx1
        have h36 : VK.RowP V2 wc.heap.size s36 ps := RowV.mono h36 hB1.size
        refine wpAnyH_all (rs := [2]) (by kernel_rfl) (by simp) ?_
        intro i hi4
        obtain rfl : i = 2 := by simpa using hi4
        refine PStep.wpOp_value (w' := V2) (v := s36) rfl rfl (some 36) rfl (VK.exec_append _ _ 22 22 rfl (.slice none 0 0) (.slice a n cap) _ (by simp [Act.eval, Act.put]) (by simp [Act.eval, Act.put]) (hap0 _)) ⟨hB2, ?_⟩
        clear hV1 hb38 hb12 hb01 hap0 hB1 hx1
        obtain ⟨sa, sn, sc, rfl⟩ : ∃ a n k, s36 = .slice a n k := by obtain ⟨a, k, e, _⟩ := h36.form; exact ⟨a, _, k, e⟩
        obtain ⟨s39, V3, hap, h39, hg3⟩ := VK.append_x wc.heap.size b38 (.slice sa sn sc) ps x V2 hB2.size h36 hx2 (by rw [VU.unhide HN]; omega)
        have hB3 : Below wc.heap.size wc V3 := hB2.grown hg3 hB2.size (fun k hk => (RowV.lt h36 k hk).1)
        refine wpAnyH_all (rs := [5]) (by kernel_rfl) (by simp) ?_
        intro i hi4
        obtain rfl : i = 5 := by simpa using hi4
        refine PStep.wpOp_value (w' := V3) (v := s39) rfl rfl (some 39) rfl (VK.exec_append _ _ 22 22 rfl (.slice sa sn sc) (.slice (some ⟨b38, 0, none⟩) 1 1) _ (by simp [Act.eval, Act.put]) (by simp [Act.eval, Act.put]) (hap _)) ⟨hB3, ?_⟩
        obtain ⟨qa, qn, qc, rfl⟩ : ∃ a n k, s39 = .slice a n k := by obtain ⟨a, k, e, _⟩ := h39.form; exact ⟨a, _, k, e⟩
        obtain ⟨hq1, hq2, hq3⟩ := row_sp h39
        rw [List.length_append, List.length_singleton, VU.unhide HN] at hq1
        refine wpAnyH_all (rs := [6]) (by kernel_rfl) (by simp) ?_
        intro i hi4
        obtain rfl : i = 6 := by simpa using hi4
        refine PStep.wpOp_call (f := 12) (args := #[.int .u8 rest, .slice qa qn qc]) (w' := V3) rfl rfl (some 40) rfl (by simp [go_sem, execOp, Act.eval, Act.put]) (build_blt rest hr0 hr1 qa qc (ps ++ [x]) qn (by rw [List.length_append, List.length_singleton, VU.unhide HN]; exact hq1.symm) (by omega) hq2 (fun p hp => by
          rcases List.mem_append.1 hp with hp | hp
          · exact VU.unhide HV p hp
          · rw [List.mem_singleton.1 hp]; exact hx) V3 hq3) ?_
        rintro e V4 ⟨v7, v8, v9, rfl, hbl, hb4⟩
        have hB4 : Below wc.heap.size wc V4 := hB3.trans (hb4.mono hB3.size)
        refine ⟨_, rfl, hB4, ?_⟩
        refine PStep.take (i := 7) (v := .tuple #[v7, v8, v9]) (some 33) rfl rfl (by kernel_rfl) (by kernel_rfl) (by kernel_rfl) (fun _ _ _ h => h) (.inl ⟨rfl, fun X hX => by simp [go_sem, execOp, Act.eval, Act.put]⟩) hB4 ?_
        refine PStep.take (i := 8) (v := v7) (some 41) rfl rfl (by kernel_rfl) (by kernel_rfl) (by kernel_rfl) (fun _ _ _ h => h) (.inl ⟨rfl, fun X hX => by simp [go_sem, execOp, Act.eval, Act.put]⟩) hB4 ?_
        refine PStep.take (i := 9) (v := v8) (some 42) rfl rfl (by kernel_rfl) (by kernel_rfl) (by kernel_rfl) (fun _ _ _ h => h) (.inl ⟨rfl, fun X hX => by simp [go_sem, execOp, Act.eval, Act.put]⟩) hB4 ?_
        refine PStep.take (i := 10) (v := v9) (some 43) rfl rfl (by kernel_rfl) (by kernel_rfl) (by kernel_rfl) (fun _ _ _ h => h) (.inl ⟨rfl, fun X hX => by simp [go_sem, execOp, Act.eval, Act.put]⟩) hB4 ?_
        refine PStep.take (i := 11) (v := v7) (some 10) rfl rfl (by kernel_rfl) (by kernel_rfl) (by kernel_rfl) (fun _ _ _ h => h) (.inl ⟨rfl, fun X hX => by simp [go_sem, execOp, Act.eval, Act.put]⟩) hB4 ?_
        refine PStep.take (i := 12) (v := v8) (some 11) rfl rfl (by kernel_rfl) (by kernel_rfl) (by kernel_rfl) (fun _ _ _ h => h) (.inl ⟨rfl, fun X hX => by simp [go_sem, execOp, Act.eval, Act.put]⟩) hB4 ?_
        refine PStep.take (i := 13) (v := v9) (some 12) rfl rfl (by kernel_rfl) (by kernel_rfl) (by kernel_rfl) (fun _ _ _ h => h) (.inl ⟨rfl, fun X hX => by simp [go_sem, execOp, Act.eval, Act.put]⟩) hB4 ?_
        refine wpAnyH_done (by kernel_rfl) ?_ _
        have HF := VU.hide (And.intro (show ∃ wb, Blt wb V4 rest (ps ++ [x]) v7 v9 from ⟨_, hbl⟩) hB4)
        clear hbl hB4 hb4
        simp only [Act.put, PStep.only, List.setIfInBounds_toArray, List.set_cons_succ, List.set_cons_zero]
        go_wp2_with fail
        go_meet
        exact HF
    case rest =>
      obtain ⟨⟨wb, hbl1⟩, hbc⟩ := VU.unhide hcut
      have hbl0 := (VU.unhide HBL).below hbc
      have hbw := (VU.unhide HBC).trans (hbc.mono (VU.unhide HBC).size)
      have HL0 := VU.hide hbl0
      have HL1 := VU.hide hbl1
      have HBW := VU.hide hbw
      clear hbl0 hbl1 hbw hbc hcut HSC HXC HBL HBC
      go_wp2_with fail
      refine (build_blt rest hr0 hr1 none 0 [] 0 rfl (by omega) (Nat.le_refl _) (fun p hp => by cases hp) wc (sp_nil wc)).mono ?_
      rintro e w5 ⟨v13, v14, v15, rfl, ⟨rfl, h13, _⟩, hb5⟩
      obtain ⟨bo, o1, o2, o3, rfl, hTo⟩ := h13 rfl
      clear h13
      have HL0 := VU.hide ((VU.unhide HL0).below hb5)
      have HL1 := VU.hide ((VU.unhide HL1).below hb5)
      have HBW := VU.hide ((VU.unhide HBW).trans (hb5.mono (VU.unhide HBW).size))
      have HTO := VU.hide hTo
      have hz : ((refP []).2 : Int) = 0 := rfl
      rw [hz]
      clear hz hTo hb5
      by_cases h0 : (refP ps).2 = 0
      · obtain ⟨rfl, h7, _⟩ := VU.unhide HL0
        obtain ⟨bt, vt, vm, vl, rfl, hT⟩ := h7 h0
        have HT := VU.hide hT
        have hz : ((refP ps).2 : Int) = 0 := by rw [h0]; rfl
        rw [hz]
        clear hz h7 hT HL0
        go_wp2_with fail
        refine (blk_any w5 _ bt vt vm vl rest ps (VU.unhide HT)).mono ?_
        rintro e w6 ⟨rfl, hb6⟩
        have HTO := VU.hide ((VU.unhide HTO).below hb6)
        have HL1 := VU.hide ((VU.unhide HL1).below hb6)
        have HBW := VU.hide ((VU.unhide HBW).trans (hb6.mono (VU.unhide HBW).size))
        clear hb6
        go_wp2_with fail
        refine (blk_any w6 _ bo o1 o2 o3 rest [] (VU.unhide HTO)).mono ?_
        rintro e w7 ⟨rfl, hb7⟩
        have HL1 := VU.hide ((VU.unhide HL1).below hb7)
        have HBW := VU.hide ((VU.unhide HBW).trans (hb7.mono (VU.unhide HBW).size))
        clear hb7 HTO HT
        rw [(none_one rest).1, (none_one rest).2]
        obtain ⟨f1, f2⟩ := some_pos rest ps
        obtain ⟨f3, f4⟩ := all_most rest ps
        have f5 := low_mid rest ps
        obtain ⟨f6, f7⟩ := all_few rest n ps (VU.unhide HN) h0
        have HMO := VU.hide (fun h => span_more rest ps x h)
        generalize nMid rest ps = M at *
        generalize nLow rest ps = N at *
        have HG := VU.hide (And.intro f1 (And.intro f2 (And.intro f3 (And.intro f4 (And.intro f5 (And.intro f6 f7))))))
        clear f1 f2 f3 f4 f5 f6 f7
        go_upto_region 10 with fail
        go_cut [122] from 79 to 122 (fun v122 wx => v122 = .bool false ∧ wx = w7)
        case first =>
          obtain ⟨f1, f2, f3, f4, f5, f6, f7⟩ := VU.unhide HG
          obtain ⟨d1, d2, d3, d4, d5, d6, d7⟩ := small_dec M N n (by omega) (by omega) (by omega) (by omega) (by omega) (by omega) (by omega)
          clear f1 f2 f5 f6 f7
          clear HG
          go_wp2_with fail
          go_meet
          exact ⟨rfl, rfl⟩
        case rest =>
          obtain ⟨rfl, rfl⟩ := hcut
          have HB : N ≤ 17408 ∧ M ≤ 272 := ⟨(VU.unhide HG).2.2.1, (VU.unhide HG).2.2.2.1⟩
          clear HG
          have HAW := VU.hide (fun (V : World) => VK.awake_any V)
          by_cases h1 : (refP (ps ++ [x])).2 = 0
          · obtain ⟨rfl, h7, _⟩ := VU.unhide HL1
            obtain ⟨bt2, vt2, vm2, vl2, rfl, hT2⟩ := h7 h1
            have HT2 := VU.hide hT2
            have hz : ((refP (ps ++ [x])).2 : Int) = 0 := by rw [h1]; rfl
            rw [hz]
            obtain ⟨d8, d9⟩ := few_dec _ _ _ _ (VU.unhide HMO h1)
            obtain ⟨f3, f4⟩ := HB
            have HD := VU.hide (And.intro d8 d9)
            clear hz h7 hT2 HL1 HMO d8 d9
            go_wp2_with fail
            refine (blk_any wc _ bt2 vt2 vm2 vl2 rest (ps ++ [x]) (VU.unhide HT2)).mono ?_
            rintro e w8 ⟨rfl, hb8⟩
            have HBW := VU.hide ((VU.unhide HBW).trans (hb8.mono (VU.unhide HBW).size))
            clear hb8 HT2
            obtain ⟨d8, d9⟩ := VU.unhide HD
            clear HD
            generalize nMid rest (ps ++ [x]) = M2 at *
            generalize nLow rest (ps ++ [x]) = N2 at *
            go_wp2_with fail
            refine (VU.unhide HAW _).mono ?_
            rintro e w9 ⟨rfl, hb9⟩
            have HF := VU.hide ((VU.unhide HBW).trans (hb9.mono (VU.unhide HBW).size))
            clear hb9
            go_wp2
            go_ret
            exact ⟨rfl, VU.unhide HF⟩
          · obtain ⟨rfl, _, _⟩ := VU.unhide HL1
            clear HL1 HMO
            generalize (refP (ps ++ [x])).2 = k1 at *
            have z1 : ¬ (k1 : Int) = 0 := by omega
            have y1 : ((k1 : Int) == 0) = false := by simp; omega
            go_wp2_with fail
            refine (VU.unhide HAW _).mono ?_
            rintro e w8 ⟨rfl, hb8⟩
            have HF := VU.hide ((VU.unhide HBW).trans (hb8.mono (VU.unhide HBW).size))
            clear hb8
            go_wp2
            go_ret
            exact ⟨rfl, VU.unhide HF⟩
      · obtain ⟨rfl, _, h7⟩ := VU.unhide HL0
        obtain rfl := h7 h0
        obtain ⟨rfl, _, _⟩ := VU.unhide HL1
        have h1 : (refP (ps ++ [x])).2 ≠ 0 := fun h => h0 (ref_front h)
        have HBW := HBW
        clear h7 HL0 HL1 HTO
        generalize (refP ps).2 = k0 at *
        generalize (refP (ps ++ [x])).2 = k1 at *
        have z0 : ¬ (k0 : Int) = 0 := by omega
        have z1 : ¬ (k1 : Int) = 0 := by omega
        have y0 : ((k0 : Int) == 0) = false := by simp; omega
        have y1 : ((k1 : Int) == 0) = false := by simp; omega
        have HR := VU.hide (show ((k0 : Int) != 0 && (k1 : Int) != 0) = true by rw [bne, bne, y0, y1]; rfl)
        have HAW := VU.hide (fun (V : World) => VK.awake_any V)
        go_wp2_with fail
        refine (VU.unhide HAW _).mono ?_
        rintro e w8 ⟨rfl, hb8⟩
        have HF := VU.hide ((VU.unhide HBW).trans (hb8.mono (VU.unhide HBW).size))
        clear hb8
        go_wp2
        go_ret
        exact ⟨congrArg (fun b => Ending.returned (Value.bool b)) (VU.unhide HR), VU.unhide HF⟩
end Go.Proofs.Ytokillomaemocaa.trieSmall

/-
  The mathematics of TrieSmall: how many blocks there are.
-/
import Derived.Test.YtokillomaemocaaTrQb
import Derived.Test.YtokillomaemocaaTrQs
namespace Go.Proofs.Ytokillomaemocaa
open Go.TrM
set_option linter.unusedVariables false
set_option linter.unusedSimpArgs false
theorem sub_len {α : Type} [DecidableEq α] : ∀ (A B : List α), A.Nodup → (∀ x ∈ A, x ∈ B) → A.length ≤ B.length := by
  intro A
  induction A with
  | nil => intro B _ _; simp
  | cons x A ih =>
    intro B hn hs
    have hx := hs x List.mem_cons_self
    have h1 := ih (B.erase x) (List.nodup_cons.1 hn).2 (fun y hy => by
      have hne : y ≠ x := fun e => (List.nodup_cons.1 hn).1 (e ▸ hy)
      exact (List.mem_erase_of_ne hne).2 (hs y (List.mem_cons_of_mem _ hy)))
    rw [List.length_erase_of_mem hx] at h1
    have := List.length_pos_of_mem hx
    simp only [List.length_cons]
    omega
theorem nodup_map {α β : Type} (f : α → β) : ∀ (A : List α), A.Nodup → (∀ x ∈ A, ∀ y ∈ A, f x = f y → x = y) → (A.map f).Nodup := by
  intro A
  induction A with
  | nil => intro _ _; simp
  | cons x A ih =>
    intro hn hi
    rw [List.map_cons, List.nodup_cons]
    refine ⟨fun h => ?_, ih (List.nodup_cons.1 hn).2 (fun y hy z hz => hi y (List.mem_cons_of_mem _ hy) z (List.mem_cons_of_mem _ hz))⟩
    obtain ⟨y, hy, e⟩ := List.mem_map.1 h
    have := hi y (List.mem_cons_of_mem _ hy) x List.mem_cons_self e
    exact (List.nodup_cons.1 hn).1 (this ▸ hy)
theorem split_len {α : Type} (p : α → Bool) : ∀ A : List α, A.length = (A.filter p).length + (A.filter (fun x => !p x)).length := by
  intro A
  induction A with
  | nil => rfl
  | cons x A ih =>
    cases h : p x
    · rw [List.filter_cons_of_neg (by simp [h]), List.filter_cons_of_pos (by simp [h])]
      simp only [List.length_cons]
      omega
    · rw [List.filter_cons_of_pos h, List.filter_cons_of_neg (by simp [h])]
      simp only [List.length_cons]
      omega
theorem chunk_case {s lo hi i : Nat} (hs : 0 < s) : (s * i + (s - 1) < lo ∨ hi < s * i) ∨ (lo ≤ s * i ∧ s * i + (s - 1) ≤ hi) ∨ i = lo / s ∨ i = hi / s := by
  by_cases c1 : s * i + (s - 1) < lo
  · exact .inl (.inl c1)
  by_cases c2 : hi < s * i
  · exact .inl (.inr c2)
  by_cases c3 : lo ≤ s * i
  · by_cases c4 : s * i + (s - 1) ≤ hi
    · exact .inr (.inl ⟨c3, c4⟩)
    · exact .inr (.inr (.inr (Nat.div_eq_of_lt_le (by rw [Nat.mul_comm]; omega) (by rw [Nat.mul_comm, Nat.mul_succ]; omega)).symm))
  · exact .inr (.inr (.inl (Nat.div_eq_of_lt_le (by rw [Nat.mul_comm]; omega) (by rw [Nat.mul_comm, Nat.mul_succ]; omega)).symm))
theorem nd_inj {α : Type} {l : List α} (h : l.Nodup) {i j : Nat} (hi : i < l.length) (hj : j < l.length) (e : l[i] = l[j]) : i = j := by
  rcases Nat.lt_trichotomy i j with c | c | c
  · exact absurd e (List.pairwise_iff_getElem.1 h i j hi hj c)
  · exact c
  · exact absurd e.symm (List.pairwise_iff_getElem.1 h j i hj hi c)
/-- A is the unlike ones of a 0, .. a (n-1), that are like where the chunks of v are -/
structure Cnt {β : Type} (s n : Nat) (v : Nat → Int) (A : List β) (a : Nat → β) : Prop where
  nd : A.Nodup
  mem : ∀ x, x ∈ A ↔ ∃ i, i < n ∧ x = a i
  eq : ∀ i j, i < n → j < n → (a i = a j ↔ ∀ q, q < s → v (s * i + q) = v (s * j + q))
theorem Cnt.one {β : Type} [DecidableEq β] {s n : Nat} {v : Nat → Int} {A : List β} {a : Nat → β} (h : Cnt s n v A a) (hn : 0 < n) (x : Int) (hv : ∀ r, v r = x) : A.length = 1 := by
  have h1 := sub_len A [a 0] h.nd (fun y hy => by
    obtain ⟨i, hi, rfl⟩ := (h.mem y).1 hy
    exact List.mem_singleton.2 ((h.eq i 0 hi hn).2 (fun q _ => by rw [hv, hv])))
  have h2 := List.length_pos_of_mem ((h.mem (a 0)).2 ⟨0, hn, rfl⟩)
  simp at h1
  omega
theorem Cnt.pos {β : Type} {s n : Nat} {v : Nat → Int} {A : List β} {a : Nat → β} (h : Cnt s n v A a) (hn : 0 < n) : 0 < A.length := List.length_pos_of_mem ((h.mem (a 0)).2 ⟨0, hn, rfl⟩)
theorem Cnt.le {β γ : Type} [DecidableEq β] [DecidableEq γ] {s n : Nat} {v u : Nat → Int} {A : List β} {a : Nat → β} {B : List γ} {b : Nat → γ} (hA : Cnt s n v A a) (hB : Cnt s n u B b) (E : List Nat)
    (h : ∀ i, i < n → (∃ e ∈ E, a i = a e) ∨ ∀ q, q < s → v (s * i + q) = u (s * i + q)) : A.length ≤ B.length + E.length := by
  have hpick : ∀ x, ∃ i, x ∈ A → i < n ∧ x = a i := fun x => by
    by_cases hx : x ∈ A
    · obtain ⟨i, h1, h2⟩ := (hA.mem x).1 hx
      exact ⟨i, fun _ => ⟨h1, h2⟩⟩
    · exact ⟨0, fun h => absurd h hx⟩
  obtain ⟨p, hp⟩ := Classical.axiomOfChoice hpick
  have hsplit := split_len (fun x => decide (x ∈ E.map a)) A
  have h1 := sub_len (A.filter (fun x => decide (x ∈ E.map a))) (E.map a) (hA.nd.filter _) (fun x hx => by simpa using (List.mem_filter.1 hx).2)
  rw [List.length_map] at h1
  obtain ⟨A2, hA2⟩ : ∃ A2, A2 = A.filter (fun x => !decide (x ∈ E.map a)) := ⟨_, rfl⟩
  rw [← hA2] at hsplit
  have hin : ∀ x ∈ A2, x ∈ A ∧ ¬ x ∈ E.map a := fun x hx => by
    rw [hA2] at hx
    have := List.mem_filter.1 hx
    exact ⟨this.1, by simpa using this.2⟩
  have htr : ∀ x ∈ A2, p x < n ∧ x = a (p x) ∧ ∀ q, q < s → v (s * p x + q) = u (s * p x + q) := fun x hx => by
    obtain ⟨m1, m2⟩ := hin x hx
    obtain ⟨q1, q2⟩ := hp x m1
    refine ⟨q1, q2, ?_⟩
    rcases h (p x) q1 with ⟨e, he, h3⟩ | h3
    · exact absurd (List.mem_map.2 ⟨e, he, by rw [q2]; exact h3.symm⟩) m2
    · exact h3
  have h2 : (A2.map (fun x => b (p x))).length ≤ B.length := by
    refine sub_len _ _ (nodup_map _ A2 (by rw [hA2]; exact hA.nd.filter _) (fun x hx y hy e => ?_)) (fun z hz => ?_)
    · obtain ⟨x1, x2, x3⟩ := htr x hx
      obtain ⟨y1, y2, y3⟩ := htr y hy
      have := (hB.eq _ _ x1 y1).1 e
      rw [x2, y2]
      exact (hA.eq _ _ x1 y1).2 (fun q hq => (x3 q hq).trans ((this q hq).trans (y3 q hq).symm))
    · obtain ⟨x, hx, rfl⟩ := List.mem_map.1 hz
      exact (hB.mem _).2 ⟨p x, (htr x hx).1, rfl⟩
  rw [List.length_map] at h2
  omega
theorem Cnt.more {β γ : Type} [DecidableEq β] [DecidableEq γ] {s n : Nat} (hs : 0 < s) {v u : Nat → Int} {A : List β} {a : Nat → β} {B : List γ} {b : Nat → γ} (hA : Cnt s n v A a) (hB : Cnt s n u B b) (lo hi : Nat) (x : Int)
    (h1 : ∀ r, lo ≤ r → r ≤ hi → v r = x) (h2 : ∀ r, r < lo ∨ hi < r → v r = u r) : A.length ≤ B.length + 3 := by
  by_cases hf : ∃ e, e < n ∧ lo ≤ s * e ∧ s * e + (s - 1) ≤ hi
  · obtain ⟨e, he, e1, e2⟩ := hf
    refine Cnt.le hA hB [lo / s, hi / s, e] (fun i hi' => ?_)
    rcases chunk_case (lo := lo) (hi := hi) (i := i) hs with h | ⟨f1, f2⟩ | h | h
    · exact .inr (fun q hq => h2 _ (by omega))
    · exact .inl ⟨e, by simp, (hA.eq i e hi' he).2 (fun q hq => by rw [h1 _ (by omega) (by omega), h1 _ (by omega) (by omega)])⟩
    · exact .inl ⟨i, by simp [h], rfl⟩
    · exact .inl ⟨i, by simp [h], rfl⟩
  · have := Cnt.le hA hB [lo / s, hi / s] (fun i hi' => by
      rcases chunk_case (lo := lo) (hi := hi) (i := i) hs with h | ⟨f1, f2⟩ | h | h
      · exact .inr (fun q hq => h2 _ (by omega))
      · exact absurd ⟨i, hi', f1, f2⟩ hf
      · exact .inl ⟨i, by simp [h], rfl⟩
      · exact .inl ⟨i, by simp [h], rfl⟩)
    simp at this
    omega
/-- the values of a function as a list -/
theorem vals_at (v : Nat → Int) {n k : Nat} (h : k < n) : ((List.range n).map v)[k]? = some (v k) := by rw [List.getElem?_map, List.getElem?_range h]; rfl
def chk {α : Type} (l : List α) (i : Nat) : List α := (l.drop (64 * i)).take 64
theorem chk_eq {α : Type} {l : List α} {n : Nat} (hl : l.length = 64 * n) {i j : Nat} (hi : i < n) (hj : j < n) : chk l i = chk l j ↔ ∀ q, q < 64 → l[64 * i + q]? = l[64 * j + q]? := by
  unfold chk
  constructor
  · intro h q hq
    have := congrArg (fun x => x[q]?) h
    simpa [List.getElem?_take, hq, List.getElem?_drop] using this
  · intro h
    apply List.ext_getElem?
    intro q
    by_cases hq : q < 64
    · simpa [List.getElem?_take, hq, List.getElem?_drop] using h q hq
    · simp [List.getElem?_take, hq]
theorem cut_mem {α : Type} {k : Nat} {l : List α} (x : List α) : x ∈ cutN k l ↔ ∃ i, i < k ∧ x = chk l i := by
  rw [List.mem_iff_getElem?]
  constructor
  · rintro ⟨i, h⟩
    have hi : i < k := by have := (List.getElem?_eq_some_iff.1 h).1; rwa [cutN_len] at this
    rw [cutN_at k l i hi] at h
    exact ⟨i, hi, (Option.some.inj h).symm⟩
  · rintro ⟨i, hi, rfl⟩
    exact ⟨i, cutN_at k l i hi⟩
theorem lows_cnt (v : Nat → Int) : Cnt 64 17408 v (lowsV ((List.range 1114112).map v)).1 (chk ((List.range 1114112).map v)) := by
  have hl : ((List.range 1114112).map v).length = 64 * 17408 := by rw [List.length_map, List.length_range]
  refine ⟨numL_nodup _ List.nodup_nil, fun x => ?_, fun i j hi hj => ?_⟩
  · unfold lowsV
    rw [numL_mem, show ((List.range 1114112).map v).length / 64 = 17408 by rw [hl], cut_mem]
    simp
  · rw [chk_eq hl hi hj]
    constructor
    · intro h q hq
      have := h q hq
      rw [vals_at v (by omega), vals_at v (by omega)] at this
      exact Option.some.inj this
    · intro h q hq
      rw [vals_at v (by omega), vals_at v (by omega), h q hq]
theorem laid_eq (v : Nat → Int) {i j : Nat} (hi : i < 17408) (hj : j < 17408) : (lowsV ((List.range 1114112).map v)).2[i]? = (lowsV ((List.range 1114112).map v)).2[j]? ↔ chk ((List.range 1114112).map v) i = chk ((List.range 1114112).map v) j := by
  have hl : ((List.range 1114112).map v).length / 64 = 17408 := by rw [List.length_map, List.length_range]
  have hnd : (lowsV ((List.range 1114112).map v)).1.Nodup := numL_nodup _ List.nodup_nil
  have ha : ∀ i, i < 17408 → (cutN (((List.range 1114112).map v).length / 64) ((List.range 1114112).map v))[i]? = some (chk ((List.range 1114112).map v) i) := fun i hi => by rw [hl]; exact cutN_at _ _ i hi
  obtain ⟨n1, p1, p2⟩ := numL_at _ [] i _ (ha i hi)
  obtain ⟨n2, q1, q2⟩ := numL_at _ [] j _ (ha j hj)
  unfold lowsV at hnd ⊢
  rw [p1, q1]
  constructor
  · intro h
    rw [Option.some.inj h] at p2
    exact Option.some.inj (p2.symm.trans q2)
  · intro h
    rw [h] at p2
    obtain ⟨l1, e1⟩ := List.getElem?_eq_some_iff.1 p2
    obtain ⟨l2, e2⟩ := List.getElem?_eq_some_iff.1 q2
    rw [nd_inj hnd l1 l2 (e1.trans e2.symm)]
theorem mids_cnt (v : Nat → Int) : Cnt 4096 272 v (midsV ((List.range 1114112).map v)).1 (chk (lowsV ((List.range 1114112).map v)).2) := by
  have hl : (lowsV ((List.range 1114112).map v)).2.length = 64 * 272 := by rw [laid_len, List.length_map, List.length_range]
  refine ⟨numL_nodup _ List.nodup_nil, fun x => ?_, fun i j hi hj => ?_⟩
  · unfold midsV
    rw [numL_mem, show (lowsV ((List.range 1114112).map v)).2.length / 64 = 272 by rw [hl], cut_mem]
    simp
  · rw [chk_eq hl hi hj]
    constructor
    · intro h q hq
      have h1 := (laid_eq v (by omega) (by omega)).1 (h (q / 64) (by omega))
      have h2 := ((lows_cnt v).eq _ _ (by omega) (by omega)).1 h1 (q % 64) (by omega)
      rw [show 4096 * i + q = 64 * (64 * i + q / 64) + q % 64 by omega, show 4096 * j + q = 64 * (64 * j + q / 64) + q % 64 by omega]
      exact h2
    · intro h q hq
      refine (laid_eq v (by omega) (by omega)).2 (((lows_cnt v).eq _ _ (by omega) (by omega)).2 (fun r hr => ?_))
      have := h (64 * q + r) (by omega)
      rw [show 64 * (64 * i + q) + r = 4096 * i + (64 * q + r) by omega, show 64 * (64 * j + q) + r = 4096 * j + (64 * q + r) by omega]
      exact this
/-- how many blocks, of spans that are not refused -/
def nLow (rest : Int) (ps : List (Pc Int)) : Nat := (lowsV (valsF rest ps)).1.length
def nMid (rest : Int) (ps : List (Pc Int)) : Nat := (midsV (valsF rest ps)).1.length
theorem valF_more (rest : Int) (ps : List (Pc Int)) (x : Pc Int) (r : Nat) (h : ¬ (x.lo ≤ (r : Int) ∧ (r : Int) ≤ x.hi)) : valF rest (ps ++ [x]) r = valF rest ps r := by
  unfold valF
  rw [List.find?_append]
  have : List.find? (fun p : Pc Int => decide (p.lo ≤ (r : Int)) && decide ((r : Int) ≤ p.hi)) [x] = none := by
    rw [List.find?_eq_none]
    intro p hp
    rw [List.mem_singleton.1 hp]
    simpa using h
  rw [this, Option.or_none]
theorem ref_front {ps : List (Pc Int)} {x : Pc Int} (h : (refP (ps ++ [x])).2 = 0) : (refP ps).2 = 0 := by
  have := refP_ok.1 h
  exact refP_ok.2 ⟨fun p hp => this.1 p (List.mem_append_left _ hp), (List.pairwise_append.1 this.2).1⟩
theorem span_more (rest : Int) (ps : List (Pc Int)) (x : Pc Int) (h : (refP (ps ++ [x])).2 = 0) : nLow rest (ps ++ [x]) ≤ nLow rest ps + 3 ∧ nMid rest (ps ++ [x]) ≤ nMid rest ps + 3 := by
  obtain ⟨h1, h2⟩ := refP_ok.1 h
  have hx := mayC_iff.1 (h1 x (by simp))
  have g1 : ∀ r, x.lo.toNat ≤ r → r ≤ x.hi.toNat → valF rest (ps ++ [x]) r = x.val := fun r q1 q2 => valF_in h2 (by simp) (by omega) (by omega)
  have g2 : ∀ r, r < x.lo.toNat ∨ x.hi.toNat < r → valF rest (ps ++ [x]) r = valF rest ps r := fun r q => valF_more rest ps x r (by omega)
  exact ⟨Cnt.more (by omega) (lows_cnt _) (lows_cnt _) x.lo.toNat x.hi.toNat x.val g1 g2, Cnt.more (by omega) (mids_cnt _) (mids_cnt _) x.lo.toNat x.hi.toNat x.val g1 g2⟩
theorem none_one (rest : Int) : nLow rest [] = 1 ∧ nMid rest [] = 1 :=
  ⟨Cnt.one (lows_cnt (valF rest [])) (by omega) rest (fun r => rfl), Cnt.one (mids_cnt (valF rest [])) (by omega) rest (fun r => rfl)⟩
theorem some_pos (rest : Int) (ps : List (Pc Int)) : 0 < nLow rest ps ∧ 0 < nMid rest ps := ⟨Cnt.pos (lows_cnt (valF rest ps)) (by omega), Cnt.pos (mids_cnt (valF rest ps)) (by omega)⟩
theorem all_few (rest : Int) : ∀ (n : Nat) (ps : List (Pc Int)), ps.length = n → (refP ps).2 = 0 → nLow rest ps ≤ 1 + 3 * n ∧ nMid rest ps ≤ 1 + 3 * n := by
  intro n
  induction n with
  | zero =>
    intro ps h _
    obtain rfl := List.length_eq_zero_iff.1 h
    have := none_one rest
    omega
  | succ n ih =>
    intro ps h hr
    obtain ⟨qs, x, rfl⟩ : ∃ qs x, ps = qs ++ [x] := ⟨ps.dropLast, ps.getLast (by intro e; rw [e] at h; simp at h), (List.dropLast_concat_getLast _).symm⟩
    have h1 := ih qs (by simpa using h) (ref_front hr)
    have h2 := span_more rest qs x hr
    omega
theorem vals_len (rest : Int) (ps : List (Pc Int)) : (valsF rest ps).length = 1114112 := by unfold valsF; rw [List.length_map, List.length_range]
theorem all_most (rest : Int) (ps : List (Pc Int)) : nLow rest ps ≤ 17408 ∧ nMid rest ps ≤ 272 := by
  have h1 := lows_le (valsF rest ps)
  have h2 := mids_le (valsF rest ps)
  rw [vals_len] at h1 h2
  exact ⟨h1, h2⟩
/-- each low block stands in a middle one -/
theorem low_mid (rest : Int) (ps : List (Pc Int)) : nLow rest ps ≤ 64 * nMid rest ps := by
  obtain ⟨vs, hvs⟩ : ∃ vs, vs = valsF rest ps := ⟨_, rfl⟩
  have hl : vs.length = 1114112 := by rw [hvs]; exact vals_len rest ps
  show (lowsV (valsF rest ps)).1.length ≤ 64 * (midsV (valsF rest ps)).1.length
  rw [← hvs, ← mid_len vs]
  have key : ∀ k ∈ List.range (lowsV vs).1.length, k ∈ (partsV vs).mid := fun k hk => by
    have hk := List.mem_range.1 hk
    have hmem : (lowsV vs).1[k] ∈ (lowsV vs).1 := List.getElem_mem hk
    have h1 : ∃ p, p < vs.length / 64 ∧ (lowsV vs).1[k] = chk vs p := by
      rw [← cut_mem]
      have := (numL_mem (cutN (vs.length / 64) vs) [] ((lowsV vs).1[k])).1 hmem
      simpa using this
    obtain ⟨p, hp, e⟩ := h1
    obtain ⟨m, l, _, _, q2, _, q4, q5⟩ := place_at vs (p := p) (by omega)
    obtain ⟨l1, e1⟩ := List.getElem?_eq_some_iff.1 q5
    have hnd : (lowsV vs).1.Nodup := numL_nodup _ List.nodup_nil
    have : k = l := nd_inj hnd hk l1 (e.trans e1.symm)
    rw [this]
    exact List.mem_of_getElem? q2
  have := sub_len (List.range (lowsV vs).1.length) (partsV vs).mid List.nodup_range key
  rwa [List.length_range] at this
end Go.Proofs.Ytokillomaemocaa

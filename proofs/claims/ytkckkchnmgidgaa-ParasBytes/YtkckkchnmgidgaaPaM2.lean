/-
  The mathematics of layer 15, further: the document's search of the first strong one; pairs lie within one another or apart; the pieces of a split.
-/
import Derived.Test.YtkckkchnmgidgaaPaM
namespace Go.Proofs.Ytkckkchnmgidgaa

theorem cA_drop (cs : List Int) (a k : Nat) : cA (cs.drop a) k = cA cs (a + k) := by simp [cA, List.getD]
theorem cA_take (cs : List Int) (t k : Nat) (h : k < t) : cA (cs.take t) k = cA cs k := by simp [cA, List.getD, h]

/-- the answer of First from place i on, of a piece that ends ahead of t -/
def ansF (cs : List Int) (t d i : Nat) : Option Nat := (frst d ((cs.take t).drop i)).map (· + i)
theorem ansF_end (cs : List Int) (t d i : Nat) (h : t ≤ i) : ansF cs t d i = none := by
  unfold ansF
  rw [List.drop_eq_nil_of_le (by rw [List.length_take]; omega)]
  cases d <;> simp [frst]
theorem ansF_lt (cs : List Int) (t d i j : Nat) (h : ansF cs t d i = some j) : j < t ∧ j < cs.length ∧ i ≤ j := by
  unfold ansF at h
  obtain ⟨x, hx, rfl⟩ := Option.map_eq_some_iff.1 h
  have := frst_lt _ _ _ hx
  rw [List.length_drop, List.length_take] at this
  omega
theorem drop_take (cs : List Int) (t i : Nat) (h : i < t) (ht : t ≤ cs.length) : (cs.take t).drop i = cA cs i :: (cs.take t).drop (i + 1) := by
  have := drop_cons (cs.take t) i (by rw [List.length_take]; omega)
  rw [this, cA_take cs t i h]
theorem shift1 (o : Option Nat) (i : Nat) : (o.map (· + 1)).map (· + i) = o.map (· + (i + 1)) := by
  rw [Option.map_map]; congr 1; funext x; simp; omega
theorem ansF_step (cs : List Int) (t i : Nat) (h : i < t) (ht : t ≤ cs.length) :
    ansF cs t 0 i = if strongC (cA cs i) then some i else ansF cs t (if begC (cA cs i) then 1 else 0) (i + 1) := by
  unfold ansF
  rw [drop_take cs t i h ht, frst]
  split
  · simp
  · rw [shift1]
theorem ansF_in (cs : List Int) (t d i : Nat) (h : i < t) (ht : t ≤ cs.length) :
    ansF cs t (d + 1) i = if begC (cA cs i) then ansF cs t (d + 2) (i + 1) else if cA cs i = 23 then ansF cs t d (i + 1) else if cA cs i = 11 then none else ansF cs t (d + 1) (i + 1) := by
  unfold ansF
  rw [drop_take cs t i h ht, frst]
  split
  · rw [shift1]
  · split
    · rw [shift1]
    · split
      · rfl
      · rw [shift1]
/-- the end of an isolate is not strong and begins none -/
theorem ansF_pdi (cs : List Int) (t i : Nat) (h : i < t) (ht : t ≤ cs.length) (hp : cA cs i = 23) : ansF cs t 0 i = ansF cs t 0 (i + 1) := by
  rw [ansF_step cs t i h ht, hp, if_neg (by decide), if_neg (by decide)]
/-- behind a beginning the search goes on behind its end, as Match tells it -/
theorem ansF_jump (cs : List Int) (t i : Nat) (ht : t ≤ cs.length) : ansF cs t 1 (i + 1) = ansF cs t 0 (endAt cs 1 (i + 1) + 1) := by
  have e : ansF cs t 1 (i + 1) = ((close 1 ((cs.take t).drop (i + 1))).bind fun j => (frst 0 (((cs.take t).drop (i + 1)).drop (j + 1))).map (· + (j + 1))).map (· + (i + 1)) := by
    unfold ansF; rw [frst_close]
  rw [e]
  have hdt : (cs.take t).drop (i + 1) = (cs.drop (i + 1)).take (t - (i + 1)) := by rw [List.drop_take]
  cases hc : close 1 (cs.drop (i + 1)) with
  | none =>
    have he : endAt cs 1 (i + 1) = cs.length := by unfold endAt; rw [hc]; rfl
    rw [he, ansF_end _ _ _ _ (by omega), hdt, close_take, hc]
    rfl
  | some j =>
    have he : endAt cs 1 (i + 1) = j + (i + 1) := by unfold endAt; rw [hc]; rfl
    rw [he]
    by_cases hj : j < t - (i + 1)
    · rw [hdt, close_take, hc]
      simp only [Option.bind_some, if_pos hj]
      unfold ansF
      rw [← hdt, List.drop_drop, Option.map_map]
      have e2 : i + 1 + (j + 1) = j + (i + 1) + 1 := by omega
      rw [e2]
      congr 1
      funext x; simp; omega
    · rw [ansF_end _ _ _ _ (by omega), hdt, close_take, hc]
      simp only [Option.bind_some, if_neg hj]
      rfl
theorem endAt_gt (cs : List Int) (d k : Nat) (hk : k ≤ cs.length) : k ≤ endAt cs d k ∧ endAt cs d k ≤ cs.length := by
  unfold endAt
  cases hc : close d (cs.drop k) with
  | none => simp; exact hk
  | some j =>
    have := close_lt _ _ _ hc
    rw [List.length_drop] at this
    simp; omega

/-! pairs -/
def mA (l : List Int) (i : Nat) : Int := l.getD i 0
/-- what holds of what Match tells of the places below k, n being the list's length -/
structure PairOk (cs : List Int) (k : Nat) (out : List Int) (i : Nat) : Prop where
  no : begC (cA cs i) = false → mA out i = -1 ∨ (cA cs i = 23 ∧ ∃ b : Nat, mA out i = b ∧ b < i ∧ mA out b = i)
  yes : begC (cA cs i) = true → mA out i = cs.length ∨ ∃ e : Nat, mA out i = e ∧ i < e ∧ e < k ∧ cA cs e = 23 ∧ mA out e = i ∧
    ∀ t, i < t → t < e → cA cs t ≠ 11 ∧ (begC (cA cs t) = true → mA out t < e) ∧ (cA cs t = 23 → (i : Int) < mA out t)
structure OpenOk (cs : List Int) (k : Nat) (out : List Int) (ps : List Nat) (p : Nat) : Prop where
  beg : begC (cA cs p) = true
  val : mA out p = cs.length
  btw : ∀ t, p < t → t < k → cA cs t ≠ 11 ∧ (begC (cA cs t) = true → t ∈ ps ∨ mA out t < k) ∧ (cA cs t = 23 → (p : Int) < mA out t)
theorem mA_set (l : List Int) (i j : Nat) (v : Int) (h : i < l.length) : mA (l.set i v) j = if i = j then v else mA l j := by
  unfold mA
  by_cases e : i = j
  · subst e; simp [List.getD, h]
  · simp [List.getD, List.getElem?_set_ne e, e]
theorem pairs_inv (cs : List Int) : ∀ k, k ≤ cs.length → (∀ i, i < k → PairOk cs k (stM cs k).1 i) ∧ (∀ p ∈ (stM cs k).2, OpenOk cs k (stM cs k).1 (stM cs k).2 p) := by
  intro k
  induction k with
  | zero => intro _; exact ⟨fun i hi => by omega, fun p hp => by simp [stM] at hp⟩
  | succ k ih =>
    intro hk
    obtain ⟨h1, h2⟩ := ih (by omega)
    have hlt := pile_lt cs k
    have hlen := stM_len cs k
    have hord := (stM_begs cs k (by omega)).1
    rw [stM]
    unfold stepM
    generalize (stM cs k).1 = out at *
    generalize (stM cs k).2 = ps at *
    have kout : ∀ v j, mA (out.set k v) j = if k = j then v else mA out j := fun v j => mA_set out k j v (by omega)
    -- what a change at k alone keeps
    have keep : ∀ v i, i < k → PairOk cs k out i → PairOk cs (k + 1) (out.set k v) i := by
      intro v i hi h
      refine ⟨fun hb => ?_, fun hb => ?_⟩
      · rw [kout, if_neg (by omega)]
        rcases h.no hb with h | ⟨h, b, h3, h4, h5⟩
        · exact .inl h
        · exact .inr ⟨h, b, h3, h4, by rw [kout, if_neg (by omega)]; exact h5⟩
      · rw [kout, if_neg (by omega)]
        rcases h.yes hb with h | ⟨e, h3, h4, h5, h6, h7, h8⟩
        · exact .inl h
        · refine .inr ⟨e, h3, h4, by omega, h6, by rw [kout, if_neg (by omega)]; exact h7, fun t ht1 ht2 => ?_⟩
          rw [kout, if_neg (by omega)]
          exact h8 t ht1 ht2
    by_cases hb : begC (cA cs k) = true
    · rw [if_pos hb]
      refine ⟨fun i hi => ?_, fun p hp => ?_⟩
      · by_cases hik : i = k
        · subst hik
          refine ⟨fun h => (by rw [hb] at h; cases h), fun _ => .inl ?_⟩
          show mA (out.set i _) i = _
          rw [kout, if_pos rfl]
        · exact keep _ i (by omega) (h1 i (by omega))
      · show OpenOk cs (k + 1) (out.set k cs.length) (ps ++ [k]) p
        rcases List.mem_append.1 hp with hp | hp
        · have ho := h2 p hp
          have := hlt p hp
          refine ⟨ho.beg, by rw [kout, if_neg (by omega)]; exact ho.val, fun t ht1 ht2 => ?_⟩
          by_cases htk : t = k
          · subst htk
            refine ⟨fun e => ?_, fun _ => .inl (by simp), fun e => ?_⟩
            · rw [e] at hb; exact absurd hb (by decide)
            · rw [e] at hb; exact absurd hb (by decide)
          · obtain ⟨q1, q2, q3⟩ := ho.btw t ht1 (by omega)
            rw [kout, if_neg (by omega)]
            refine ⟨q1, fun hq => ?_, q3⟩
            rcases q2 hq with q | q
            · exact .inl (by simp [q])
            · exact .inr (by omega)
        · obtain rfl : p = k := by simpa using hp
          exact ⟨hb, by rw [kout, if_pos rfl], fun t ht1 ht2 => by omega⟩
    · have hb' : begC (cA cs k) = false := by simpa using hb
      rw [if_neg hb]
      by_cases hp : cA cs k = 23 ∧ ps ≠ []
      · rw [if_pos hp]
        obtain ⟨l, t, rfl⟩ : ∃ l t, ps = l ++ [t] := ⟨_, _, (List.dropLast_concat_getLast hp.2).symm⟩
        have ht : (l ++ [t]).getLastD 0 = t := by simp
        have hd : (l ++ [t]).dropLast = l := by simp
        rw [ht, hd]
        rw [List.pairwise_append] at hord
        have htk := hlt t (by simp)
        have htop := h2 t (by simp)
        have kout2 : ∀ j, mA ((out.set k (t : Int)).set t k) j = if t = j then (k : Int) else if k = j then (t : Int) else mA out j := by
          intro j
          rw [mA_set _ _ _ _ (by rw [List.length_set]; omega), kout]
        refine ⟨fun i hi => ?_, fun p hp' => ?_⟩
        · show PairOk cs (k + 1) ((out.set k (t : Int)).set t k) i
          by_cases hik : i = k
          · subst hik
            refine ⟨fun _ => .inr ⟨hp.1, t, by rw [kout2, if_neg (by omega), if_pos rfl], htk, by rw [kout2, if_pos rfl]⟩, fun h => absurd h hb⟩
          · by_cases hit : i = t
            · subst hit
              refine ⟨fun h => (by rw [htop.beg] at h; cases h), fun _ => .inr ⟨k, by rw [kout2, if_pos rfl], htk, by omega, hp.1, by rw [kout2, if_neg (by omega), if_pos rfl], fun u hu1 hu2 => ?_⟩⟩
              obtain ⟨q1, q2, q3⟩ := htop.btw u hu1 hu2
              rw [kout2, if_neg (by omega), if_neg (by omega)]
              refine ⟨q1, fun hq => ?_, q3⟩
              rcases q2 hq with q | q
              · rcases List.mem_append.1 q with q | q
                · have := hord.2.2 u q i (by simp); omega
                · have : u = i := by simpa using q
                  omega
              · exact q
            · have hP := h1 i (by omega)
              refine ⟨fun hbi => ?_, fun hbi => ?_⟩
              · rw [kout2, if_neg (by omega), if_neg (by omega)]
                rcases hP.no hbi with h | ⟨h, b, h3, h4, h5⟩
                · exact .inl h
                · refine .inr ⟨h, b, h3, h4, ?_⟩
                  have hbt : t ≠ b := by
                    rintro rfl
                    rw [htop.val] at h5; omega
                  rw [kout2, if_neg hbt, if_neg (by omega)]
                  exact h5
              · rw [kout2, if_neg (by omega), if_neg (by omega)]
                rcases hP.yes hbi with h | ⟨e, h3, h4, h5, h6, h7, h8⟩
                · exact .inl h
                · have het : t ≠ e := by
                    rintro rfl
                    have := htop.beg; rw [h6] at this; revert this; decide
                  refine .inr ⟨e, h3, h4, by omega, h6, by rw [kout2, if_neg het, if_neg (by omega)]; exact h7, fun u hu1 hu2 => ?_⟩
                  obtain ⟨q1, q2, q3⟩ := h8 u hu1 hu2
                  by_cases hut : t = u
                  · subst hut
                    have := q2 htop.beg
                    rw [htop.val] at this; omega
                  · rw [kout2, if_neg hut, if_neg (by omega)]
                    exact ⟨q1, q2, q3⟩
        · show OpenOk cs (k + 1) ((out.set k (t : Int)).set t k) l p
          have ho := h2 p (by simp [hp'])
          have hpk := hlt p (by simp [hp'])
          have hpt := hord.2.2 p hp' t (by simp)
          refine ⟨ho.beg, by rw [kout2, if_neg (by omega), if_neg (by omega)]; exact ho.val, fun u hu1 hu2 => ?_⟩
          by_cases huk : u = k
          · subst huk
            rw [kout2, if_neg (by omega), if_pos rfl]
            refine ⟨fun e => by rw [e] at hp; exact absurd hp.1 (by decide), fun e => absurd e hb, fun _ => by omega⟩
          · obtain ⟨q1, q2, q3⟩ := ho.btw u hu1 (by omega)
            by_cases hut : t = u
            · subst hut
              rw [kout2, if_pos rfl]
              exact ⟨q1, fun _ => .inr (by omega), fun _ => by omega⟩
            · rw [kout2, if_neg hut, if_neg (by omega)]
              refine ⟨q1, fun hq => ?_, q3⟩
              rcases q2 hq with q | q
              · rcases List.mem_append.1 q with q | q
                · exact .inl q
                · exact absurd (by simpa using q : u = t).symm hut
              · exact .inr (by omega)
      · rw [if_neg hp]
        have hno : ∀ ps' : List Nat, ∀ i, i < k + 1 → PairOk cs (k + 1) (out.set k (-1)) i := by
          intro _ i hi
          by_cases hik : i = k
          · subst hik
            exact ⟨fun _ => .inl (by rw [kout, if_pos rfl]), fun h => absurd h hb⟩
          · exact keep _ i (by omega) (h1 i (by omega))
        by_cases h11 : cA cs k = 11
        · rw [if_pos h11]
          exact ⟨hno ps, fun p hp => by simp at hp⟩
        · rw [if_neg h11]
          refine ⟨hno ps, fun p hp' => ?_⟩
          have ho := h2 p hp'
          have := hlt p hp'
          refine ⟨ho.beg, by rw [kout, if_neg (by omega)]; exact ho.val, fun t ht1 ht2 => ?_⟩
          by_cases htk : t = k
          · subst htk
            refine ⟨h11, fun e => absurd e hb, fun e => absurd ⟨e, fun e2 => by rw [e2] at hp'; simp at hp'⟩ hp⟩
          · obtain ⟨q1, q2, q3⟩ := ho.btw t ht1 (by omega)
            rw [kout, if_neg (by omega)]
            refine ⟨q1, fun hq => ?_, q3⟩
            rcases q2 hq with q | q
            · exact .inl q
            · exact .inr (by omega)
theorem match_pairs (cs : List Int) (i : Nat) (hi : i < cs.length) : PairOk cs cs.length (matchL cs) i := (pairs_inv cs _ (Nat.le_refl _)).1 i hi

/-! paragraphs -/
/-- does the separator at place k have the character behind it too? (l: the runes, or none) -/
def goesB (l cs : List Int) (k : Nat) : Bool := decide (k + 1 < l.length) && (cA l k == 13 && (cA l (k + 1) == 10 && cA cs (k + 1) == 11))
def sepB (l cs : List Int) (k : Nat) : Bool := cA cs k == 11 && !goesB l cs k
/-- where the next piece begins, and the pieces so far -/
def stS (l cs : List Int) : Nat → Nat × List (Nat × Nat)
  | 0 => (0, [])
  | k + 1 => if sepB l cs k then (k + 1, (stS l cs k).2 ++ [((stS l cs k).1, k + 1)]) else stS l cs k
def splitL (l cs : List Int) : List (Nat × Nat) := if (stS l cs cs.length).1 < cs.length then (stS l cs cs.length).2 ++ [((stS l cs cs.length).1, cs.length)] else (stS l cs cs.length).2
theorem stS_le (l cs : List Int) (k : Nat) : (stS l cs k).1 ≤ k := by
  induction k with
  | zero => simp [stS]
  | succ k ih =>
    rw [stS]; split
    · exact Nat.le_refl _
    · omega
theorem stS_len (l cs : List Int) (k : Nat) : (stS l cs k).2.length ≤ (stS l cs k).1 := by
  induction k with
  | zero => simp [stS]
  | succ k ih =>
    rw [stS]; split
    · have := stS_le l cs k
      simp; omega
    · exact ih
theorem splitL_len (l cs : List Int) : (splitL l cs).length ≤ cs.length := by
  have h1 := stS_len l cs cs.length
  have h2 := stS_le l cs cs.length
  unfold splitL
  split
  · simp; omega
  · omega
/-- what the pieces up to place k are like -/
structure CutOk (l cs : List Int) (k : Nat) (st : Nat × List (Nat × Nat)) : Prop where
  last : st.2.getLast?.map (·.2) = if st.2 = [] then none else some st.1
  first : st.2 = [] → st.1 = 0
  seq : ∀ i p, st.2[i]? = some p → p.1 < p.2 ∧ p.2 ≤ k ∧ p.1 = (if i = 0 then 0 else ((st.2[i - 1]?).map (·.2)).getD 0)
  ends : ∀ p ∈ st.2, cA cs (p.2 - 1) = 11
  inn : ∀ p ∈ st.2, ∀ t, p.1 ≤ t → t < p.2 - 1 → cA cs t = 11 → goesB l cs t = true
  rest : ∀ t, st.1 ≤ t → t < k → cA cs t = 11 → goesB l cs t = true
theorem cut_inv (l cs : List Int) : ∀ k, k ≤ cs.length → CutOk l cs k (stS l cs k) := by
  intro k
  induction k with
  | zero => intro _; exact ⟨by simp [stS], by simp [stS], by simp [stS], by simp [stS], by simp [stS], fun t _ h => by omega⟩
  | succ k ih =>
    intro hk
    obtain ⟨h0, h1, h2, h3, h4, h5⟩ := ih (by omega)
    have hle := stS_le l cs k
    rw [stS]
    by_cases hs : sepB l cs k = true
    · rw [if_pos hs]
      unfold sepB at hs
      have hB : cA cs k = 11 := by simp at hs; exact hs.1
      generalize hfr : (stS l cs k).1 = fr at *
      generalize (stS l cs k).2 = out at *
      refine ⟨by simp, by simp, ?_, ?_, ?_, fun t ht1 ht2 => by simp at ht1; omega⟩
      · intro i p hi
        simp only at hi ⊢
        by_cases hio : i < out.length
        · rw [List.getElem?_append_left hio] at hi
          obtain ⟨q1, q2, q3⟩ := h2 i p hi
          refine ⟨q1, by omega, ?_⟩
          rw [q3]
          split
          · rfl
          · rw [List.getElem?_append_left (by omega)]
        · have : i = out.length := by
            have := (List.getElem?_eq_some_iff.1 hi).1
            simp at this; omega
          subst this
          rw [List.getElem?_append_right (by omega)] at hi
          have : p = (fr, k + 1) := by simpa using hi.symm
          subst this
          refine ⟨by simp; omega, by simp, ?_⟩
          simp only
          by_cases ho : out = []
          · subst ho; simp; exact h1 rfl
          · have hl : out.length ≠ 0 := by intro e; exact ho (List.length_eq_zero_iff.1 e)
            rw [if_neg hl, List.getElem?_append_left (by omega)]
            rw [if_neg ho, List.getLast?_eq_getElem?] at h0
            rw [h0]; rfl
      · intro p hp
        rcases List.mem_append.1 hp with hp | hp
        · exact h3 p hp
        · have : p = (fr, k + 1) := by simpa using hp
          subst this
          exact hB
      · intro p hp t ht1 ht2 ht3
        rcases List.mem_append.1 hp with hp | hp
        · exact h4 p hp t ht1 ht2 ht3
        · have : p = (fr, k + 1) := by simpa using hp
          subst this
          exact h5 t ht1 (by simp at ht2; omega) ht3
    · rw [if_neg hs]
      refine ⟨h0, h1, fun i p hi => ?_, h3, h4, fun t ht1 ht2 ht3 => ?_⟩
      · obtain ⟨q1, q2, q3⟩ := h2 i p hi
        exact ⟨q1, by omega, q3⟩
      · by_cases htk : t = k
        · subst htk
          unfold sepB at hs
          rw [ht3] at hs
          simpa using hs
        · exact h5 t ht1 (by omega) ht3
/-- in a piece a B has the line feed behind it that ends the piece -/
theorem goes_end (l cs : List Int) (fr to t : Nat) (hall : ∀ t, fr ≤ t → t < to - 1 → cA cs t = 11 → goesB l cs t = true) (h1 : fr ≤ t) (h2 : t < to - 1) (h3 : cA cs t = 11) :
    t = to - 2 ∧ 0 < l.length ∧ t + 1 < l.length ∧ cA l t = 13 ∧ cA l (t + 1) = 10 := by
  have hg := hall t h1 h2 h3
  unfold goesB at hg
  simp at hg
  obtain ⟨g1, g2, g3, g4⟩ := hg
  refine ⟨?_, by omega, g1, g2, g3⟩
  by_cases hlt : t + 1 < to - 1
  · have hg2 := hall (t + 1) (by omega) hlt g4
    unfold goesB at hg2
    simp at hg2
    rw [g3] at hg2
    exact absurd hg2.2.1 (by decide)
  · omega
/-- ParasCut's words of piece i -/
structure PieceOk (l cs : List Int) (ps : List (Nat × Nat)) (i : Nat) (p : Nat × Nat) : Prop where
  fr : p.1 = if i = 0 then 0 else ((ps[i - 1]?).map (·.2)).getD 0
  lt : p.1 < p.2
  le : p.2 ≤ cs.length
  sep : i + 1 < ps.length → cA cs (p.2 - 1) = 11
  inn : ∀ t, p.1 ≤ t → t < p.2 - 1 → cA cs t = 11 → t = p.2 - 2 ∧ 0 < l.length ∧ t + 1 < l.length ∧ cA l t = 13 ∧ cA l (t + 1) = 10
theorem split_ok (l cs : List Int) : (∀ i p, (splitL l cs)[i]? = some p → PieceOk l cs (splitL l cs) i p) ∧ ((splitL l cs).getLast?.map (·.2)).getD 0 = cs.length := by
  obtain ⟨h0, h1, h2, h3, h4, h5⟩ := cut_inv l cs cs.length (Nat.le_refl _)
  have hle := stS_le l cs cs.length
  unfold splitL
  generalize hfr : (stS l cs cs.length).1 = fr at *
  generalize (stS l cs cs.length).2 = out at *
  have old : ∀ ps i p, out[i]? = some p → (i = 0 ∨ ps[i - 1]? = out[i - 1]?) → PieceOk l cs ps i p := by
    intro ps i p hi hps
    obtain ⟨q1, q2, q3⟩ := h2 i p hi
    have hm := List.mem_of_getElem? hi
    refine ⟨?_, q1, q2, fun _ => h3 p hm, fun t ht1 ht2 ht3 => goes_end l cs p.1 p.2 t (h4 p hm) ht1 ht2 ht3⟩
    rw [q3]
    split
    · rfl
    · rcases hps with h | h
      · omega
      · rw [h]
  split
  · rename_i hlt
    refine ⟨fun i p hi => ?_, by simp⟩
    by_cases hio : i < out.length
    · rw [List.getElem?_append_left hio] at hi
      refine old _ i p hi ?_
      by_cases hi0 : i = 0
      · exact .inl hi0
      · exact .inr (List.getElem?_append_left (by omega))
    · have : i = out.length := by
        have := (List.getElem?_eq_some_iff.1 hi).1
        simp at this; omega
      subst this
      rw [List.getElem?_append_right (by omega)] at hi
      have : p = (fr, cs.length) := by simpa using hi.symm
      subst this
      refine ⟨?_, hlt, Nat.le_refl _, fun h => by simp at h, fun t ht1 ht2 ht3 => goes_end l cs fr cs.length t (fun t a b c => h5 t a (by omega) c) ht1 ht2 ht3⟩
      simp only
      by_cases ho : out = []
      · subst ho; simp; exact h1 rfl
      · have hl : out.length ≠ 0 := by intro e; exact ho (List.length_eq_zero_iff.1 e)
        rw [if_neg hl, List.getElem?_append_left (by omega)]
        rw [if_neg ho, List.getLast?_eq_getElem?] at h0
        rw [h0]; rfl
  · rename_i hge
    refine ⟨fun i p hi => old _ i p hi (.inr rfl), ?_⟩
    rw [h0]
    by_cases ho : out = []
    · rw [if_pos ho]
      have := h1 ho
      simp; omega
    · rw [if_neg ho]
      simp; omega
end Go.Proofs.Ytkckkchnmgidgaa

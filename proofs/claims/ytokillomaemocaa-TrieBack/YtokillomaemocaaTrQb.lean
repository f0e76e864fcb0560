/-
  These texts, one behind the other: PRow2, TrM, TrBuM.
-/
import Derived.Test.YtokillomaemocaaTrQa
/-
  What a row holds behind one or two copies.
-/
namespace Go.PRow
open Go Go.RowKit

theorem spl_end {cur : Array Value} {n m : Nat} {xs ys : List Value} (ht : cur.toList.take n = xs) (hl : xs.length = n) (hy : ys.length = m) : (spl cur n ys).toList.take (n + m) = xs ++ ys := by
  rw [spl_toList, ht, List.take_left' (by rw [List.length_append, hl, hy])]

theorem spl_fill {A : Array Value} {i m d : Nat} {ys D : List Value} (hi : i ≤ A.size) (hy : ys.length = m) (hD : D.length = d) : (spl (spl A i ys) (i + m) D).toList.take (i + m + d) = A.toList.take i ++ ys ++ D := by
  have h1 : (A.toList.take i).length = i := by rw [List.length_take, Array.length_toList]; omega
  have e1 : (spl A i ys).toList.take (i + m) = A.toList.take i ++ ys := by rw [spl_toList, List.take_left' (by rw [List.length_append, h1, hy])]
  rw [spl_toList, e1, List.take_left' (by rw [List.length_append, List.length_append, h1, hy, hD])]

theorem spl_shift {cur : Array Value} {n m i d : Nat} {xs ys D : List Value} (ht : cur.toList.take n = xs) (hi : i ≤ n) (hs : i + m ≤ cur.size) (hy : ys.length = m) (hD : D.length = d) : (spl (spl cur (i + m) D) i ys).toList.take (i + m + d) = xs.take i ++ ys ++ D := by
  have h1 : (cur.toList.take (i + m)).length = i + m := by rw [List.length_take, Array.length_toList]; omega
  have e1 : (spl cur (i + m) D).toList.take i = xs.take i := by
    rw [spl_toList, List.append_assoc, List.take_append_of_le_length (by omega), List.take_take, ← ht, List.take_take]
    congr 1
    omega
  have e2 : (spl cur (i + m) D).toList.drop (i + m) = D ++ cur.toList.drop (i + m + D.length) := by
    rw [spl_toList, List.append_assoc, List.drop_left' h1]
  have h2 : (xs.take i).length = i := by rw [← ht, List.take_take, List.length_take, Array.length_toList]; omega
  rw [spl_toList, e1, hy, e2, ← List.append_assoc, List.take_left' (by rw [List.length_append, List.length_append, h2, hy, hD])]

/-- copied in place, and what is left behind is cleared -/
theorem spl_fit {cur : Array Value} {n i d : Nat} {xs ys D Z : List Value} {m : Nat} (ht : cur.toList.take n = xs) (hi : i ≤ n) (hn : n ≤ cur.size) (hy : ys.length = m) (hD : D.length = d) (hZ : i + m + d + Z.length ≤ cur.size) : (spl (spl (spl cur i ys) (i + m) D) (i + m + d) Z).toList.take (i + m + d) = xs.take i ++ ys ++ D := by
  have h := spl_fill (A := cur) (i := i) (m := m) (d := d) (ys := ys) (D := D) (by omega) hy hD
  rw [spl_toList, List.append_assoc, List.take_append_of_le_length (by
    rw [List.length_take, Array.length_toList, spl_size, spl_size]
    · omega
    · rw [hy]; omega
    · rw [spl_size _ _ _ (by rw [hy]; omega), hD]; omega), List.take_take, Nat.min_self, h, ← ht, List.take_take]
  congr 3
  omega

/-- clear in a walk, where its run is known -/
theorem wpList_clear_run {P : Program} (w : World) {ops : Array Oper} {rest : List Oper} {o : Oper} {a : Act} {Q : Exit → Act → World → Prop} (hgd : o.guard = none) (x : Operand) (t : TypeId)
    (ho : o.op = .call { callee := .builtin .clear, args := #[x], argTypes := #[t] }) (v : Value) (hx : a.eval x = v) {v' : Value} {w' : World}
    (hr : (Builtin.clear_ #[t] o.type #[v]).run P w = .ok v' w') (h : wpList P ops Q rest (a.put o.dst v') w') : wpList P ops Q (o :: rest) a w :=
  wpList_plain hgd fun _ hK => by
    unfold Oper.wp execOp
    simp only [ho, resolve, invoke, builtin, Sem.run_bind, Sem.run_pure, Result.andThen_ok, List.map_toArray, List.map_cons, List.map_nil, hx, hr]
    exact hK _ _ h
end Go.PRow
/-
  The mathematics of a trie: things numbered in the order in which they are first met, rows cut into pieces of 64, and where a number's value lies.
-/
namespace Go.TrM
set_option linter.unusedVariables false
set_option linter.unusedSimpArgs false

/-- one thing numbered: what was met so far, and its number -/
def numS {α : Type} [DecidableEq α] (all : List α) (b : α) : List α × Nat :=
  if b ∈ all then (all, all.idxOf b) else (all ++ [b], all.length)
/-- many things numbered, one behind the other -/
def numL {α : Type} [DecidableEq α] : List α → List α → List α × List Nat
  | all, [] => (all, [])
  | all, b :: bs => ((numL (numS all b).1 bs).1, (numS all b).2 :: (numL (numS all b).1 bs).2)

section
variable {α : Type} [DecidableEq α]

theorem numS_pre (all : List α) (b : α) : ∃ t, (numS all b).1 = all ++ t := by
  unfold numS
  split
  · exact ⟨[], by simp⟩
  · exact ⟨[b], rfl⟩
theorem numS_at (all : List α) (b : α) : (numS all b).1[(numS all b).2]? = some b := by
  unfold numS
  split
  · next h => simp only [List.getElem?_eq_getElem (List.idxOf_lt_length_iff.2 h), List.getElem_idxOf]
  · simp
theorem numS_nodup {all : List α} (h : all.Nodup) (b : α) : (numS all b).1.Nodup := by
  unfold numS
  split
  · exact h
  · next hb =>
    rw [List.nodup_append]
    exact ⟨h, by simp, by rintro a ha c hc rfl; simp at hc; exact hb (hc ▸ ha)⟩
theorem numS_mem (all : List α) (b x : α) : x ∈ (numS all b).1 ↔ x ∈ all ∨ x = b := by
  unfold numS
  split
  · next h => exact ⟨.inl, fun h' => h'.elim id fun e => e ▸ h⟩
  · simp
theorem numS_len (all : List α) (b : α) : (numS all b).1.length ≤ all.length + 1 := by
  unfold numS; split <;> simp
theorem numL_app (a b : List α) : ∀ all : List α, numL all (a ++ b) = ((numL (numL all a).1 b).1, (numL all a).2 ++ (numL (numL all a).1 b).2) := by
  induction a with
  | nil => intro all; rfl
  | cons x a ih => intro all; simp only [List.cons_append, numL, ih]
theorem numL_snoc (all a : List α) (x : α) : numL all (a ++ [x]) = ((numS (numL all a).1 x).1, (numL all a).2 ++ [(numS (numL all a).1 x).2]) := by
  rw [numL_app]; rfl
theorem numL_len : ∀ (bs all : List α), (numL all bs).2.length = bs.length := by
  intro bs
  induction bs with
  | nil => intro all; rfl
  | cons b bs ih => intro all; simp only [numL, List.length_cons, ih]
theorem numL_pre : ∀ (bs all : List α), ∃ t, (numL all bs).1 = all ++ t := by
  intro bs
  induction bs with
  | nil => intro all; exact ⟨[], by simp [numL]⟩
  | cons b bs ih =>
    intro all
    obtain ⟨t, ht⟩ := numS_pre all b
    obtain ⟨u, hu⟩ := ih (numS all b).1
    exact ⟨t ++ u, by simp only [numL]; rw [hu, ht, List.append_assoc]⟩
theorem numL_nodup : ∀ (bs : List α) {all : List α}, all.Nodup → (numL all bs).1.Nodup := by
  intro bs
  induction bs with
  | nil => intro all h; exact h
  | cons b bs ih => intro all h; exact ih (numS_nodup h b)
theorem numL_mem : ∀ (bs all : List α) (x : α), x ∈ (numL all bs).1 ↔ x ∈ all ∨ x ∈ bs := by
  intro bs
  induction bs with
  | nil => intro all x; simp [numL]
  | cons b bs ih =>
    intro all x
    simp only [numL, ih, numS_mem, List.mem_cons, or_assoc]
theorem numL_le : ∀ (bs all : List α), (numL all bs).1.length ≤ all.length + bs.length := by
  intro bs
  induction bs with
  | nil => intro all; simp [numL]
  | cons b bs ih =>
    intro all
    have := ih (numS all b).1
    have := numS_len all b
    simp only [numL, List.length_cons]; omega
theorem numL_at : ∀ (bs all : List α) (i : Nat) (b : α), bs[i]? = some b → ∃ no, (numL all bs).2[i]? = some no ∧ (numL all bs).1[no]? = some b := by
  intro bs
  induction bs with
  | nil => intro all i b h; simp at h
  | cons c bs ih =>
    intro all i b h
    cases i with
    | zero =>
      simp at h
      subst h
      refine ⟨(numS all c).2, by simp [numL], ?_⟩
      obtain ⟨t, ht⟩ := numL_pre bs (numS all c).1
      simp only [numL]
      rw [ht]
      have := numS_at all c
      rw [List.getElem?_append_left (by rw [List.getElem?_eq_some_iff] at this; exact this.1)]
      exact this
    | succ i =>
      simp at h
      obtain ⟨no, h1, h2⟩ := ih (numS all c).1 i b h
      exact ⟨no, by simpa [numL] using h1, h2⟩
theorem numL_lt (bs all : List α) (i no : Nat) (h : (numL all bs).2[i]? = some no) : no < (numL all bs).1.length := by
  have hi : i < bs.length := by
    have := (List.getElem?_eq_some_iff.1 h).1
    rwa [numL_len] at this
  obtain ⟨no', h1, h2⟩ := numL_at bs all i bs[i] (List.getElem?_eq_getElem hi)
  rw [h] at h1
  cases h1
  exact (List.getElem?_eq_some_iff.1 h2).1
theorem numL_mem_lt (bs all : List α) {no : Nat} (h : no ∈ (numL all bs).2) : no < (numL all bs).1.length := by
  obtain ⟨i, hi⟩ := List.mem_iff_getElem?.1 h
  exact numL_lt bs all i no hi
/-- what is there already keeps its number -/
theorem numS_yes {all : List α} {b : α} (h : b ∈ all) : numS all b = (all, all.idxOf b) := by unfold numS; rw [if_pos h]
theorem numS_no {all : List α} {b : α} (h : ¬ b ∈ all) : numS all b = (all ++ [b], all.length) := by unfold numS; rw [if_neg h]
theorem numS_old {bs : List α} {b : α} (h : b ∈ bs) (c : α) : (numS (bs ++ [c]) b).2 = (numS bs b).2 := by
  rw [numS_yes h, numS_yes (by simp [h])]
  simp [List.idxOf_append, h]
theorem numS_new {bs : List α} {b : α} (h : ¬ b ∈ bs) : (numS (bs ++ [b]) b).2 = bs.length := by
  rw [numS_yes (by simp)]
  simp [List.idxOf_append, h]
theorem numL_rep {all : List α} {b : α} (h : b ∈ all) (n : Nat) : numL all (List.replicate n b) = (all, List.replicate n (all.idxOf b)) := by
  induction n with
  | zero => rfl
  | succ n ih => simp only [List.replicate_succ, numL, numS_yes h, ih]
end

/-- a row cut into so many pieces of 64 -/
def cutN {α : Type} : Nat → List α → List (List α)
  | 0, _ => []
  | k + 1, l => l.take 64 :: cutN k (l.drop 64)
section
variable {α : Type}
theorem cutN_len : ∀ (k : Nat) (l : List α), (cutN k l).length = k := by
  intro k
  induction k with
  | zero => intro l; rfl
  | succ k ih => intro l; simp [cutN, ih]
theorem cutN_at : ∀ (k : Nat) (l : List α) (i : Nat), i < k → (cutN k l)[i]? = some ((l.drop (64 * i)).take 64) := by
  intro k
  induction k with
  | zero => intro l i h; omega
  | succ k ih =>
    intro l i h
    cases i with
    | zero => simp [cutN]
    | succ i =>
      simp only [cutN, List.getElem?_cons_succ]
      rw [ih _ _ (by omega), List.drop_drop]
      rw [show 64 + 64 * i = 64 * (i + 1) by omega]
theorem cutN_each {k : Nat} {l : List α} (h : 64 * k ≤ l.length) : ∀ b ∈ cutN k l, b.length = 64 := by
  intro b hb
  obtain ⟨i, hi⟩ := List.mem_iff_getElem?.1 hb
  have hlt : i < k := by have := (List.getElem?_eq_some_iff.1 hi).1; rwa [cutN_len] at this
  rw [cutN_at k l i hlt] at hi
  cases hi
  rw [List.length_take, List.length_drop]
  have : 64 * i + 64 ≤ 64 * k := by have := Nat.mul_le_mul_left 64 (show i + 1 ≤ k by omega); omega
  omega
theorem cutN_app : ∀ (a b : Nat) (x y : List α), x.length = 64 * a → cutN (a + b) (x ++ y) = cutN a x ++ cutN b y := by
  intro a
  induction a with
  | zero => intro b x y h; have : x = [] := List.length_eq_zero_iff.1 (by omega); subst this; simp [cutN]
  | succ a ih =>
    intro b x y h
    rw [show a + 1 + b = (a + b) + 1 by omega]
    simp only [cutN, List.cons_append]
    rw [List.take_append_of_le_length (by omega), List.drop_append_of_le_length (by omega), ih b _ y (by rw [List.length_drop]; omega)]
theorem cutN_flat : ∀ (bs : List (List α)), (∀ b ∈ bs, b.length = 64) → cutN bs.length bs.flatten = bs := by
  intro bs
  induction bs with
  | nil => intro _; rfl
  | cons b bs ih =>
    intro h
    have hb := h b List.mem_cons_self
    simp only [List.length_cons, cutN, List.flatten_cons]
    rw [List.take_append_of_le_length (by omega), List.drop_append_of_le_length (by omega), List.take_of_length_le (by omega), List.drop_of_length_le (by omega), List.nil_append, ih fun c hc => h c (List.mem_cons_of_mem _ hc)]
theorem flat_cutN : ∀ (k : Nat) (l : List α), l.length = 64 * k → (cutN k l).flatten = l := by
  intro k
  induction k with
  | zero => intro l h; have : l = [] := List.length_eq_zero_iff.1 (by omega); subst this; rfl
  | succ k ih =>
    intro l h
    simp only [cutN, List.flatten_cons]
    rw [ih _ (by rw [List.length_drop]; omega), List.take_append_drop]
theorem flat_len : ∀ (bs : List (List α)), (∀ b ∈ bs, b.length = 64) → bs.flatten.length = 64 * bs.length := by
  intro bs
  induction bs with
  | nil => intro _; rfl
  | cons b bs ih =>
    intro h
    have hb := h b List.mem_cons_self
    rw [List.flatten_cons, List.length_append, ih fun c hc => h c (List.mem_cons_of_mem _ hc), List.length_cons]
    omega
theorem flat_at : ∀ (bs : List (List α)), (∀ b ∈ bs, b.length = 64) → ∀ (i j : Nat) (b : List α), bs[i]? = some b → j < 64 → bs.flatten[i * 64 + j]? = b[j]? := by
  intro bs
  induction bs with
  | nil => intro _ i j b h; simp at h
  | cons c bs ih =>
    intro h i j b hb hj
    have hc := h c List.mem_cons_self
    rw [List.flatten_cons]
    cases i with
    | zero =>
      simp at hb
      subst hb
      rw [List.getElem?_append_left (by omega)]
      simp
    | succ i =>
      simp at hb
      rw [List.getElem?_append_right (by omega), ← ih (fun c hc => h c (List.mem_cons_of_mem _ hc)) i j b hb hj]
      congr 1; omega
end

/-- the parts of a function whose values stand in a row -/
structure PartsD (α : Type) where
  top : List Nat
  mid : List Nat
  low : List α
section
variable {α : Type} [DecidableEq α]
/-- the low blocks of a row of values, and the numbers of its places -/
def lowsV (vs : List α) : List (List α) × List Nat := numL [] (cutN (vs.length / 64) vs)
def midsV (vs : List α) : List (List Nat) × List Nat := numL [] (cutN ((lowsV vs).2.length / 64) (lowsV vs).2)
def partsV (vs : List α) : PartsD α := ⟨(midsV vs).2, (midsV vs).1.flatten, (lowsV vs).1.flatten⟩

theorem lows_each (vs : List α) : ∀ b ∈ (lowsV vs).1, b.length = 64 := by
  intro b hb
  rcases (numL_mem _ _ b).1 hb with h' | h'
  · cases h'
  · exact cutN_each (by omega) b h'
theorem laid_len (vs : List α) : (lowsV vs).2.length = vs.length / 64 := by unfold lowsV; rw [numL_len, cutN_len]
theorem mids_each (vs : List α) : ∀ b ∈ (midsV vs).1, b.length = 64 := by
  intro b hb
  rcases (numL_mem _ _ b).1 hb with h' | h'
  · cases h'
  · exact cutN_each (by omega) b h'
theorem top_len (vs : List α) : (partsV vs).top.length = vs.length / 64 / 64 := by show (midsV vs).2.length = _; unfold midsV; rw [numL_len, cutN_len, laid_len]
theorem mids_le (vs : List α) : (midsV vs).1.length ≤ vs.length / 64 / 64 := by
  have := numL_le (cutN ((lowsV vs).2.length / 64) (lowsV vs).2) []
  rw [cutN_len, laid_len] at this
  unfold midsV
  rw [laid_len]
  simpa using this
theorem lows_le (vs : List α) : (lowsV vs).1.length ≤ vs.length / 64 := by
  have := numL_le (cutN (vs.length / 64) vs) []
  rw [cutN_len] at this
  unfold lowsV; simpa using this
theorem mid_len (vs : List α) : (partsV vs).mid.length = 64 * (midsV vs).1.length := flat_len _ (mids_each vs)
theorem low_len (vs : List α) : (partsV vs).low.length = 64 * (lowsV vs).1.length := flat_len _ (lows_each vs)
/-- the number of the low block at a place -/
theorem place_at (vs : List α) {p : Nat} (hp : p / 64 < vs.length / 64 / 64) : ∃ m l, (partsV vs).top[p / 64]? = some m ∧ m < (midsV vs).1.length ∧ (partsV vs).mid[m * 64 + p % 64]? = some l ∧ (lowsV vs).2[p]? = some l ∧ l < (lowsV vs).1.length ∧ (lowsV vs).1[l]? = some ((vs.drop (64 * p)).take 64) := by
  have h1 := cutN_at ((lowsV vs).2.length / 64) (lowsV vs).2 (p / 64) (by rw [laid_len]; exact hp)
  obtain ⟨m, hm1, hm2⟩ := numL_at (cutN ((lowsV vs).2.length / 64) (lowsV vs).2) [] (p / 64) _ h1
  have h2 := cutN_at (vs.length / 64) vs p (by omega)
  obtain ⟨l, hl1, hl2⟩ := numL_at (cutN (vs.length / 64) vs) [] p _ h2
  have hm3 := numL_lt _ _ _ _ hm1
  have hl3 := numL_lt _ _ _ _ hl1
  refine ⟨m, l, hm1, hm3, ?_, hl1, hl3, hl2⟩
  show (midsV vs).1.flatten[m * 64 + p % 64]? = _
  rw [flat_at (midsV vs).1 (mids_each vs) m (p % 64) _ hm2 (by omega), List.getElem?_take]
  rw [if_pos (by omega), List.getElem?_drop, show 64 * (p / 64) + p % 64 = p by omega]
  exact hl1
/-- where a number's value lies -/
theorem value_at {vs : List α} (h : vs.length = 1114112) {r : Nat} (hr : r < 1114112) : ∃ m l v, (partsV vs).top[r / 4096]? = some m ∧ (partsV vs).mid[m * 64 + r / 64 % 64]? = some l ∧ (partsV vs).low[l * 64 + r % 64]? = some v ∧ vs[r]? = some v := by
  obtain ⟨m, l, h1, _, h2, _, _, h3⟩ := place_at vs (p := r / 64) (by omega)
  rw [show r / 64 / 64 = r / 4096 by omega] at h1
  have e : (partsV vs).low[l * 64 + r % 64]? = vs[r]? := by
    show (lowsV vs).1.flatten[_]? = _
    rw [flat_at _ (lows_each vs) l (r % 64) _ h3 (by omega), List.getElem?_take, if_pos (by omega), List.getElem?_drop, show 64 * (r / 64) + r % 64 = r by omega]
  have hv : vs[r]? = some (vs[r]'(by omega)) := List.getElem?_eq_getElem (by omega)
  exact ⟨m, l, vs[r]'(by omega), h1, h2, by rw [e, hv], hv⟩
/-- parts tell the function -/
theorem parts_inj {a b : List α} (ha : a.length = 1114112) (hb : b.length = 1114112) (h : partsV a = partsV b) : a = b := by
  apply List.ext_getElem?
  intro r
  by_cases hr : r < 1114112
  · obtain ⟨m, l, v, h1, h2, h3, h4⟩ := value_at ha hr
    obtain ⟨m', l', v', h1', h2', h3', h4'⟩ := value_at hb hr
    rw [h] at h1 h2 h3
    rw [h1] at h1'; cases h1'
    rw [h2] at h2'; cases h2'
    rw [h3] at h3'; cases h3'
    rw [h4, h4']
  · rw [List.getElem?_eq_none (by omega), List.getElem?_eq_none (by omega)]
end
end Go.TrM
/-
  The mathematics of Build: spans, when they are refused, and what value each number has by them.
-/
namespace Go.Proofs.Ytokillomaemocaa
set_option linter.unusedVariables false
set_option linter.unusedSimpArgs false
def mayC (p : Pc Int) : Bool := decide (0 ≤ p.lo) && (decide (p.lo ≤ p.hi) && decide (p.hi ≤ 1114111))
theorem mayC_iff {p : Pc Int} : mayC p = true ↔ 0 ≤ p.lo ∧ p.lo ≤ p.hi ∧ p.hi ≤ 1114111 := by simp [mayC]
/-- two spans have a number in common -/
def meet (p q : Pc Int) : Bool := decide (p.lo ≤ q.hi) && decide (q.lo ≤ p.hi)
theorem meet_comm (p q : Pc Int) : meet p q = meet q p := by unfold meet; rw [Bool.and_comm]
def Disj (p q : Pc Int) : Prop := meet p q = false
theorem Disj.symm {p q : Pc Int} (h : Disj p q) : Disj q p := (meet_comm q p).trans h
theorem disj_iff {p q : Pc Int} : Disj p q ↔ p.hi < q.lo ∨ q.hi < p.lo := by
  unfold Disj meet
  rw [Bool.and_eq_false_iff, decide_eq_false_iff_not, decide_eq_false_iff_not]
  omega
/-- the first that reaches outside -/
def extI : Nat → List (Pc Int) → Option Nat
  | _, [] => none
  | i, p :: ps => if mayC p then extI (i + 1) ps else some i
/-- the first that meets one ahead of it -/
def metI : Nat → List (Pc Int) → List (Pc Int) → Option Nat
  | _, _, [] => none
  | i, seen, p :: ps => if seen.any (fun q => meet q p) then some i else metI (i + 1) (seen ++ [p]) ps
/-- why spans are refused, and where -/
def refP (ps : List (Pc Int)) : Nat × Nat := match extI 0 ps with
  | some i => (i, 110)
  | none => match metI 0 [] ps with
    | some i => (i, 111)
    | none => (0, 0)
theorem extI_none : ∀ (ps : List (Pc Int)) (i : Nat), extI i ps = none ↔ ∀ p ∈ ps, mayC p = true := by
  intro ps
  induction ps with
  | nil => intro i; simp [extI]
  | cons p t ih =>
    intro i
    unfold extI
    by_cases h : mayC p = true
    · rw [if_pos h, ih]
      constructor
      · intro h2 q hq
        rcases List.mem_cons.1 hq with rfl | hq
        · exact h
        · exact h2 q hq
      · intro h2 q hq; exact h2 q (List.mem_cons_of_mem _ hq)
    · rw [if_neg h]
      constructor
      · intro h2; cases h2
      · intro h2; exact absurd (h2 p List.mem_cons_self) h
theorem extI_at : ∀ (ps : List (Pc Int)) (i k : Nat) (p : Pc Int), ps[k]? = some p → mayC p = false → (∀ j q, j < k → ps[j]? = some q → mayC q = true) → extI i ps = some (i + k) := by
  intro ps
  induction ps with
  | nil => intro i k p h; simp at h
  | cons q t ih =>
    intro i k p h1 h2 h3
    unfold extI
    cases k with
    | zero =>
      simp only [List.getElem?_cons_zero, Option.some.injEq] at h1
      subst h1
      rw [if_neg (by rw [h2]; decide)]
      rfl
    | succ k =>
      rw [if_pos (h3 0 q (by omega) rfl), ih (i + 1) k p (by simpa using h1) h2 (fun j q' hj hq => h3 (j + 1) q' (by omega) (by simpa using hq))]
      congr 1
      omega
theorem metI_none : ∀ (ps : List (Pc Int)) (i : Nat) (seen : List (Pc Int)), metI i seen ps = none ↔ (∀ q ∈ seen, ∀ p ∈ ps, Disj q p) ∧ ps.Pairwise Disj := by
  intro ps
  induction ps with
  | nil => intro i seen; simp [metI]
  | cons p t ih =>
    intro i seen
    unfold metI
    by_cases h : seen.any (fun q => meet q p) = true
    · rw [if_pos h]
      constructor
      · intro h2; cases h2
      · intro h2
        obtain ⟨q, hq, hm⟩ := List.any_eq_true.1 h
        have := h2.1 q hq p List.mem_cons_self
        unfold Disj at this
        rw [hm] at this; cases this
    · rw [if_neg h, ih, List.pairwise_cons]
      have hall : ∀ q ∈ seen, Disj q p := fun q hq => by
        cases hm : meet q p with
        | false => exact hm
        | true => exact absurd (List.any_eq_true.2 ⟨q, hq, hm⟩) h
      constructor
      · rintro ⟨h1, h2⟩
        refine ⟨fun q hq r hr => ?_, fun r hr => h1 p (by simp) r hr, h2⟩
        rcases List.mem_cons.1 hr with rfl | hr
        · exact hall q hq
        · exact h1 q (List.mem_append_left _ hq) r hr
      · rintro ⟨h1, h2, h3⟩
        refine ⟨fun q hq r hr => ?_, h3⟩
        rcases List.mem_append.1 hq with hq | hq
        · exact h1 q hq r (List.mem_cons_of_mem _ hr)
        · rw [List.mem_singleton.1 hq]; exact h2 r hr
theorem metI_at : ∀ (ps : List (Pc Int)) (i k : Nat) (seen : List (Pc Int)) (p : Pc Int), ps[k]? = some p → (∃ q ∈ seen ++ ps.take k, meet q p = true) → (∀ j q, j < k → ps[j]? = some q → ∀ r ∈ seen ++ ps.take j, meet r q = false) → metI i seen ps = some (i + k) := by
  intro ps
  induction ps with
  | nil => intro i k seen p h; simp at h
  | cons q t ih =>
    intro i k seen p h1 h2 h3
    unfold metI
    cases k with
    | zero =>
      simp only [List.getElem?_cons_zero, Option.some.injEq] at h1
      subst h1
      rw [List.take_zero, List.append_nil] at h2
      rw [if_pos (List.any_eq_true.2 h2)]
      rfl
    | succ k =>
      have h0 := h3 0 q (by omega) rfl
      rw [List.take_zero, List.append_nil] at h0
      rw [if_neg (fun e => by
        obtain ⟨r, hr, hm⟩ := List.any_eq_true.1 e
        rw [h0 r hr] at hm; cases hm), ih (i + 1) k (seen ++ [q]) p (by simpa using h1) (by simpa using h2) (fun j q' hj hq r hr => h3 (j + 1) q' (by omega) (by simpa using hq) r (by simpa using hr))]
      congr 1
      omega
theorem refP_ok {ps : List (Pc Int)} : (refP ps).2 = 0 ↔ (∀ p ∈ ps, mayC p = true) ∧ ps.Pairwise Disj := by
  unfold refP
  cases h1 : extI 0 ps with
  | some i =>
    constructor
    · intro h; cases h
    · intro h
      rw [(extI_none ps 0).2 h.1] at h1; cases h1
  | none =>
    have e1 := (extI_none ps 0).1 h1
    cases h2 : metI 0 [] ps with
    | some i =>
      constructor
      · intro h; cases h
      · intro h
        rw [(metI_none ps 0 []).2 ⟨by simp, h.2⟩] at h2; cases h2
    | none => exact ⟨fun _ => ⟨e1, ((metI_none ps 0 []).1 h2).2⟩, fun _ => rfl⟩
/-- the value that a number has by the spans -/
def valF (rest : Int) (ps : List (Pc Int)) (r : Nat) : Int := match ps.find? (fun p => decide (p.lo ≤ (r : Int)) && decide ((r : Int) ≤ p.hi)) with
  | some p => p.val
  | none => rest
def valsF (rest : Int) (ps : List (Pc Int)) : List Int := (List.range 1114112).map (valF rest ps)
theorem valF_in {rest : Int} {ps : List (Pc Int)} (hd : ps.Pairwise Disj) {p : Pc Int} (hp : p ∈ ps) {r : Nat} (h1 : p.lo ≤ (r : Int)) (h2 : (r : Int) ≤ p.hi) : valF rest ps r = p.val := by
  unfold valF
  cases hf : ps.find? (fun p => decide (p.lo ≤ (r : Int)) && decide ((r : Int) ≤ p.hi)) with
  | none =>
    have := List.find?_eq_none.1 hf p hp
    simp [h1, h2] at this
  | some q =>
    have hq := List.mem_of_find?_eq_some hf
    have hqr := List.find?_some hf
    simp only [Bool.and_eq_true, decide_eq_true_eq] at hqr
    show q.val = p.val
    by_cases e : q = p
    · rw [e]
    · exfalso
      have key : ∀ l : List (Pc Int), l.Pairwise Disj → q ∈ l → p ∈ l → Disj q p := by
        intro l hl
        induction hl with
        | nil => intro h; cases h
        | cons ha _ ih =>
          intro hq hp
          rcases List.mem_cons.1 hq with e1 | hq2
          · rcases List.mem_cons.1 hp with e2 | hp2
            · exact absurd (e1.trans e2.symm) e
            · rw [e1]; exact ha _ hp2
          · rcases List.mem_cons.1 hp with e2 | hp2
            · rw [e2]; exact (ha _ hq2).symm
            · exact ih hq2 hp2
      have := disj_iff.1 (key ps hd hq hp)
      omega
theorem valF_out {rest : Int} {ps : List (Pc Int)} {r : Nat} (h : ∀ p ∈ ps, ¬ (p.lo ≤ (r : Int) ∧ (r : Int) ≤ p.hi)) : valF rest ps r = rest := by
  unfold valF
  rw [List.find?_eq_none.2 (fun p hp => by have := h p hp; simpa using this)]
theorem range_more (f : Nat → Int) (n c : Nat) (x : Int) (h : ∀ r, n ≤ r → r < n + c → f r = x) : (List.range n).map f ++ List.replicate c x = (List.range (n + c)).map f := by
  induction c with
  | zero => simp
  | succ c ih =>
    rw [List.replicate_succ', ← List.append_assoc, ih (fun r h1 h2 => h r h1 (by omega)), show n + (c + 1) = (n + c) + 1 by omega, List.range_succ, List.map_append]
    simp [h (n + c) (by omega) (by omega)]
/-- sorted spans of which no two meet: each ends ahead of the next -/
theorem sorted_disj {ps qs : List (Pc Int)} (hp : qs.Perm ps) (hs : qs.Pairwise (fun p q => p.lo ≤ q.lo)) (hm : ∀ p ∈ ps, mayC p = true) (hd : ps.Pairwise Disj) : qs.Pairwise (fun p q => p.hi < q.lo) := by
  have hd2 : qs.Pairwise Disj := hp.symm.pairwise hd (fun h => Disj.symm h)
  have hboth := List.pairwise_and_iff.2 ⟨hs, hd2⟩
  refine hboth.imp_of_mem ?_
  intro p q h1 h2 h
  have m1 := mayC_iff.1 (hm p (hp.subset h1))
  have m2 := mayC_iff.1 (hm q (hp.subset h2))
  have := disj_iff.1 h.2
  have := h.1
  omega
end Go.Proofs.Ytokillomaemocaa

/-
  Plain facts: the byte place and the unit place of each character of a text, and of its end.
-/
import Derived.Test.YtghcheoholkpbaaWRunes
namespace Go.Proofs.Ytghcheoholkpbaa

/-- how many units a character has -/
def wNn (r : Nat) : Nat := (unitsOf (r : Int)).length
theorem wN_nat (r : Nat) : wN (r : Int) = (wNn r : Nat) := (unitsOf_len (r : Int)).symm
theorem wNn_bounds (r : Nat) : 1 ≤ wNn r ∧ wNn r ≤ 2 := unitsOf_pos _
def ustL (sz : Nat) : List (Nat × Nat) → Nat → List (Nat × Nat)
  | [], k => [(sz, k)]
  | p :: t, k => (p.1, k) :: ustL sz t (k + wNn p.2)
/-- byte place and unit place of each character, and of the end -/
def ust (s : ByteArray) : List (Nat × Nat) := ustL s.size (chars s 0) 0
theorem ustL_len (sz : Nat) : ∀ (l : List (Nat × Nat)) (k : Nat), (ustL sz l k).length = l.length + 1 := by
  intro l
  induction l with
  | nil => intro k; rfl
  | cons p t ih => intro k; simp [ustL, ih]
theorem ust_len (s : ByteArray) : (ust s).length = (chars s 0).length + 1 := ustL_len _ _ _
theorem ust_step (s : ByteArray) (pos k : Nat) (h : pos < s.size) : ustL s.size (chars s pos) k = (pos, k) :: ustL s.size (chars s (pos + (Utf8.decode s pos).2)) (k + wNn (Utf8.decode s pos).1) := by
  rw [chars_step s pos h]; rfl
theorem ust_end (s : ByteArray) (pos k : Nat) (h : ¬ pos < s.size) : ustL s.size (chars s pos) k = [(s.size, k)] := by
  rw [chars_end s pos h]; rfl
theorem ust_from (s : ByteArray) : ∀ (f pos k : Nat), s.size - pos ≤ f → pos ≤ s.size → ∀ x ∈ ustL s.size (chars s pos) k, pos ≤ x.1 ∧ k ≤ x.2 ∧ x.1 ≤ s.size := by
  intro f
  induction f with
  | zero =>
    intro pos k h hp x hx
    rw [ust_end s pos k (by omega)] at hx; simp at hx; subst hx
    exact ⟨hp, Nat.le_refl _, Nat.le_refl _⟩
  | succ f ih =>
    intro pos k h hp x hx
    by_cases hi : pos < s.size
    · have hb := dec_bounds s pos hi
      rw [ust_step s pos k hi] at hx
      rcases List.mem_cons.1 hx with rfl | hx
      · exact ⟨Nat.le_refl _, Nat.le_refl _, hp⟩
      · have := ih _ _ (by omega) (by omega) x hx
        omega
    · rw [ust_end s pos k hi] at hx; simp at hx; subst hx
      exact ⟨hp, Nat.le_refl _, Nat.le_refl _⟩
theorem ust_sorted (s : ByteArray) : ∀ (f pos k : Nat), s.size - pos ≤ f → pos ≤ s.size → (ustL s.size (chars s pos) k).Pairwise (fun x y => x.1 < y.1 ∧ x.2 < y.2) := by
  intro f
  induction f with
  | zero => intro pos k h hp; rw [ust_end s pos k (by omega)]; simp
  | succ f ih =>
    intro pos k h hp
    by_cases hi : pos < s.size
    · have hb := dec_bounds s pos hi
      have hw := wNn_bounds (Utf8.decode s pos).1
      rw [ust_step s pos k hi, List.pairwise_cons]
      refine ⟨fun y hy => ?_, ih _ _ (by omega) (by omega)⟩
      have := ust_from s f _ _ (by omega) (by omega) y hy
      exact ⟨by show pos < y.1; omega, by show k < y.2; omega⟩
    · rw [ust_end s pos k hi]; simp
theorem ust_pair (s : ByteArray) : (ust s).Pairwise (fun x y => x.1 < y.1 ∧ x.2 < y.2) := ust_sorted s s.size 0 0 (by omega) (by omega)
theorem ust_two (s : ByteArray) (pre post : List (Nat × Nat)) (x : Nat × Nat) (h : ust s = pre ++ x :: post) : (∀ y ∈ pre, y.1 < x.1 ∧ y.2 < x.2) ∧ (∀ y ∈ post, x.1 < y.1 ∧ x.2 < y.2) := by
  have hp := ust_pair s
  rw [h, List.pairwise_append] at hp
  obtain ⟨_, h2, h3⟩ := hp
  exact ⟨fun y hy => h3 y hy x (List.mem_cons_self ..), (List.pairwise_cons.1 h2).1⟩
theorem ust_last (s : ByteArray) : ∃ pre, ust s = pre ++ [(s.size, (units (nums s 0)).length)] := by
  have key : ∀ (l : List (Nat × Nat)) (k : Nat), ∃ pre, ustL s.size l k = pre ++ [(s.size, k + (units (l.map fun p => ((p.2 : Nat) : Int))).length)] := by
    intro l
    induction l with
    | nil => intro k; exact ⟨[], by simp [ustL, units]⟩
    | cons p t ih =>
      intro k
      obtain ⟨pre, h⟩ := ih (k + wNn p.2)
      refine ⟨(p.1, k) :: pre, ?_⟩
      show (p.1, k) :: ustL s.size t (k + wNn p.2) = _
      rw [h, List.map_cons, units_cons, List.length_append]
      unfold wNn
      rw [List.cons_append, Nat.add_assoc]
  obtain ⟨pre, h⟩ := key (chars s 0) 0
  refine ⟨pre, ?_⟩
  unfold ust nums
  rw [h, Nat.zero_add]

/-- what UnitAt answers at a place of the text -/
def unitR (s : ByteArray) (at' : Int) : Int × Int := match (ust s).find? (fun x => decide ((x.1 : Int) = at')) with | some x => (((x.2 : Nat) : Int), 0) | none => (0, 23)
/-- what ByteAt answers at a place from 0 on -/
def byteR (s : ByteArray) (u : Int) : Int × Int := match (ust s).find? (fun x => decide ((x.2 : Int) = u)) with | some x => (((x.1 : Nat) : Int), 0) | none => if ((units (nums s 0)).length : Int) < u then (0, 2) else (0, 23)
theorem find_at {p : Nat × Nat → Bool} (pre post : List (Nat × Nat)) (x : Nat × Nat) (h1 : ∀ y ∈ pre, p y = false) (h2 : p x = true) : (pre ++ x :: post).find? p = some x := by
  rw [List.find?_append]
  have : pre.find? p = none := List.find?_eq_none.2 (fun y hy => by rw [h1 y hy]; simp)
  rw [this]; simp [h2]
theorem unit_yes (s : ByteArray) (pre post : List (Nat × Nat)) (x : Nat × Nat) (h : ust s = pre ++ x :: post) : unitR s (x.1 : Nat) = (((x.2 : Nat) : Int), 0) := by
  unfold unitR
  obtain ⟨h1, _⟩ := ust_two s pre post x h
  rw [h, find_at pre post x (fun y hy => by have := (h1 y hy).1; simp; omega) (by simp)]
theorem unit_no (s : ByteArray) (at' : Int) (h : ∀ y ∈ ust s, (y.1 : Int) ≠ at') : unitR s at' = (0, 23) := by
  unfold unitR
  rw [List.find?_eq_none.2 (fun y hy => by simpa using h y hy)]
theorem byte_yes (s : ByteArray) (pre post : List (Nat × Nat)) (x : Nat × Nat) (h : ust s = pre ++ x :: post) : byteR s (x.2 : Nat) = (((x.1 : Nat) : Int), 0) := by
  unfold byteR
  obtain ⟨h1, _⟩ := ust_two s pre post x h
  rw [h, find_at pre post x (fun y hy => by have := (h1 y hy).2; simp; omega) (by simp)]
theorem byte_no (s : ByteArray) (u : Int) (h : ∀ y ∈ ust s, (y.2 : Int) ≠ u) : byteR s u = if ((units (nums s 0)).length : Int) < u then (0, 2) else (0, 23) := by
  unfold byteR
  rw [List.find?_eq_none.2 (fun y hy => by simpa using h y hy)]
/-- a place between two -/
theorem unit_between (s : ByteArray) (pre post : List (Nat × Nat)) (x : Nat × Nat) (at' : Int) (h : ust s = pre ++ x :: post) (h1 : ∀ y ∈ pre, (y.1 : Int) < at') (h2 : at' < (x.1 : Int)) : unitR s at' = (0, 23) := by
  refine unit_no s at' (fun y hy => ?_)
  rw [h] at hy
  rcases List.mem_append.1 hy with hy | hy
  · have := h1 y hy; omega
  · rcases List.mem_cons.1 hy with rfl | hy
    · omega
    · have := ((ust_two s pre post x h).2 y hy).1; omega
theorem byte_between (s : ByteArray) (pre post : List (Nat × Nat)) (x : Nat × Nat) (u : Int) (h : ust s = pre ++ x :: post) (h1 : ∀ y ∈ pre, (y.2 : Int) < u) (h2 : u < (x.2 : Int)) : byteR s u = (0, 23) := by
  rw [byte_no s u (fun y hy => ?_)]
  · have hm : x.2 ≤ (units (nums s 0)).length := by
      obtain ⟨pre', e⟩ := ust_last s
      have hx : x ∈ ust s := by rw [h]; simp
      rw [e] at hx
      rcases List.mem_append.1 hx with hx | hx
      · have := ((ust_two s pre' [] _ e).1 x hx).2; omega
      · simp at hx; rw [hx]; exact Nat.le_refl _
    rw [if_neg (by omega)]
  · rw [h] at hy
    rcases List.mem_append.1 hy with hy | hy
    · have := h1 y hy; omega
    · rcases List.mem_cons.1 hy with rfl | hy
      · omega
      · have := ((ust_two s pre post x h).2 y hy).2; omega
theorem byte_past (s : ByteArray) (u : Int) (h1 : ∀ y ∈ ust s, (y.2 : Int) < u) : byteR s u = (0, 2) := by
  rw [byte_no s u (fun y hy => by have := h1 y hy; omega)]
  obtain ⟨pre', e⟩ := ust_last s
  have := h1 _ (by rw [e]; exact List.mem_append_right _ (List.mem_singleton.2 rfl))
  rw [if_pos this]
end Go.Proofs.Ytghcheoholkpbaa

/-
  Rows of numbers of type uint32 that a call owns.
-/
import Derived.Test.YtdbfpmelhokeoaaDoorSuTkD
import Derived.Test.YtdbfpmelhokeoaaDoorSuBy
namespace Go.Proofs.YtdbfpmelhokeoaaDoor.ND
open Go.RowKit Go.PlainAid Go.Lib Go.SuM
set_option linter.unusedVariables false
set_option linter.unusedSimpArgs false
theorem nV_one (l : List Nat) : ∀ u ∈ nV l, u.oneCell' = true := by
  intro u hu
  obtain ⟨_, _, rfl⟩ := List.mem_map.1 hu
  rfl
theorem OwnN.form {w : World} {B : Nat} {v : Value} {l : List Nat} (h : OwnN w B v l) : ∃ a c, v = .slice a l.length c ∧ l.length ≤ c ∧ c ≤ maxLen := by
  rcases h.2 with ⟨rfl, h0⟩ | ⟨g, cap, cur, rfl, _, _, h1, h2, _⟩
  · exact ⟨none, 0, by rw [h0], by omega, by unfold maxLen; omega⟩
  · exact ⟨_, _, rfl, h1, h2⟩
theorem OwnN.below {w w' : World} {B : Nat} {v : Value} {l : List Nat} (h : OwnN w B v l) (hb : Below w.heap.size w w') : OwnN w' B v l := by
  refine ⟨h.1, ?_⟩
  rcases h.2 with h2 | ⟨g, cap, cur, rfl, h1, h2, r⟩
  · exact .inl h2
  · exact .inr ⟨g, cap, cur, rfl, h1, (hb.block g ((Array.getElem?_eq_some_iff.1 h2).1)).trans h2, r⟩
theorem OwnN.nums {w : World} {B : Nat} {a : Option Addr} {c : Nat} {l : List Nat} (h : OwnN w B (.slice a l.length c) l) (hs : ∀ x ∈ l, x < 4294967296) : NumsAt w a l := by
  refine ⟨fun h0 => ?_, hs⟩
  have hp := List.length_pos_iff.2 h0
  rcases h.2 with ⟨e, h0⟩ | ⟨g, cap, cur, e, _, hh, _⟩
  · omega
  · simp only [Value.slice.injEq, true_and] at e
    obtain ⟨rfl, rfl⟩ := e
    refine ⟨g, 0, rfl, (Array.getElem?_eq_some_iff.1 hh).1, fun i hi => ?_⟩
    rw [Nat.zero_add, World.ownsRow.cellAt h i (by omega)]
    unfold nV
    rw [List.getElem?_map, List.getElem?_eq_getElem hi]
    rfl
/-- one number more -/
theorem append_num (w : World) (B : Nat) (v : Value) (l : List Nat) (x : Nat) (h : OwnN w B v l) (hB : B ≤ w.heap.size) (hbig : (l.length + 1) * 4 ≤ 140737488355328) (ty : TypeId) :
    ∃ v' w', (Builtin.append_ #[34, 34] ty #[v, .slice (some ⟨w.heap.size, 0, none⟩) 1 1]).run Tryd.prog (w.alloc (.cells #[.int .u32 (x : Int)] 23)) = .ok v' w' ∧ OwnN w' B v' (l ++ [x]) ∧ Below B w w' ∧ w.grownBy w' v.ownBlock := by
  obtain ⟨i0, hi0, hz0, hzs, hzb⟩ := info_parts infoN
  have hb1 : Below B w (w.alloc (.cells #[.int .u32 (x : Int)] 23)) := (Below.refl _ _).alloc hB _
  obtain ⟨v', w', r1, r2, r3, _⟩ := run_append_own_at (P := Tryd.prog) (w := w.alloc (.cells #[.int .u32 (x : Int)] 23)) B 34 ty 23 i0 _ 1 4 Tryd.underlying34 hi0 hz0 hzs hzb rfl (by decide) v l.length (nV l) (World.ownsRow.alloc h _) ⟨w.heap.size, 0, none⟩ 1 1 [.int .u32 (x : Int)] (by simp) (cell_one_new w _ _) (nV_one [x]) (by unfold maxLen; omega) hbig (Nat.le_trans hB (by simp))
  refine ⟨v', w', r1, ?_, hb1.grown r3 (Nat.le_trans hB (by simp)) (fun k hk => (World.ownsRow.lt h k hk).1), (World.grownBy_alloc w _ _).trans r3⟩
  unfold OwnN
  rw [show nV (l ++ [x]) = nV l ++ [.int .u32 (x : Int)] by unfold nV; rw [List.map_append]; rfl, List.length_append]
  exact r2
theorem laid_nums (l : List Nat) (hs : ∀ x ∈ l, x < 4294967296) (bs : List UInt8) (k : Nat) (hk : k < l.length) : numAt (BA (bs ++ laidL l)) bs.length k = l[k] := by
  unfold numAt
  rw [LS_BA]
  have e : (bs ++ laidL l).drop (bs.length + 4 * k) = (laidL l).drop (4 * k) := by
    rw [List.drop_append, List.drop_of_length_le (by omega), show bs.length + 4 * k - bs.length = 4 * k by omega]
    rfl
  rw [e]
  have : ∀ (l : List Nat) (k : Nat) (hk : k < l.length), ((laidL l).drop (4 * k)).take 4 = le 4 l[k] := by
    intro l
    induction l with
    | nil => intro k hk; exact absurd hk (by simp)
    | cons x l ih =>
      intro k hk
      have e : laidL (x :: l) = le 4 x ++ laidL l := rfl
      rw [e]
      cases k with
      | zero => rw [Nat.mul_zero, List.drop_zero, List.take_left' (le_len _ _)]; rfl
      | succ k =>
        rw [show 4 * (k + 1) = 4 + 4 * k by omega, ← List.drop_drop, List.drop_left' (le_len _ _), ih k (by simpa using hk)]
        rfl
  rw [this l k hk, num_le, Nat.mod_eq_of_lt]
  exact hs _ (List.getElem_mem hk)
theorem laid_back (l : List Nat) (hs : ∀ x ∈ l, x < 4294967296) (bs : List UInt8) : numsL (BA (bs ++ laidL l)) bs.length l.length = l := by
  apply List.ext_getElem (by simp [numsL])
  intro i h1 h2
  have := laid_nums l hs bs i h2
  simp [numsL, this]
theorem nums_laid (s : ByteArray) (n : Nat) (hn : 4 * n ≤ s.size) : laidL (numsL s 0 n) = (LS s).take (4 * n) := by
  induction n with
  | zero => rfl
  | succ n ih =>
    have e : numsL s 0 (n + 1) = numsL s 0 n ++ [numAt s 0 n] := by unfold numsL; rw [List.range_succ, List.map_append]; rfl
    rw [e, laidL_snoc, ih (by omega)]
    have hl : (((LS s).drop (0 + 4 * n)).take 4).length = 4 := by rw [List.length_take, List.length_drop, LS_len]; omega
    have e2 : le 4 (numAt s 0 n) = ((LS s).drop (0 + 4 * n)).take 4 := by
      have := le_num (((LS s).drop (0 + 4 * n)).take 4)
      rw [hl] at this
      exact this
    rw [e2, Nat.zero_add, show 4 * (n + 1) = 4 * n + 4 by omega, List.take_add]
theorem numsL_lt (s : ByteArray) (a n : Nat) : ∀ x ∈ numsL s a n, x < 4294967296 := fun x hx => by
  obtain ⟨i, _, rfl⟩ := List.mem_map.1 hx
  exact numAt_lt s a i
end Go.Proofs.YtdbfpmelhokeoaaDoor.ND

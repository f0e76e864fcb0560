/-
  PointsNot, the mathematics: the equality of floats (not of each with itself), and stretches by it.
-/
import Derived.Test.YtebppdcnfbflkaaPFormM
namespace Go.Proofs.Ytebppdcnfbflkaa
set_option linter.unusedVariables false
set_option linter.unusedSimpArgs false

theorem signed_up (s : Bool) (m k d : Nat) : Ieee.signed s m (k + d) = Ieee.signed s m k * ((2 ^ d : Nat) : Int) := by
  have e : m <<< (k + d) = (m <<< k) * 2 ^ d := by rw [Nat.shiftLeft_eq, Nat.shiftLeft_eq, Nat.pow_add, Nat.mul_assoc]
  unfold Ieee.signed
  cases s
  · simp only [Bool.false_eq_true, if_false, e, Int.natCast_mul]
  · simp only [if_true, e, Int.natCast_mul, Int.neg_mul]
theorem signed_base {s t : Bool} {m n : Nat} {i j b : Int} (hi : b ≤ i) (hj : b ≤ j) : Ieee.signed s m (i - min i j).toNat = Ieee.signed t n (j - min i j).toNat ↔ Ieee.signed s m (i - b).toNat = Ieee.signed t n (j - b).toNat := by
  rw [show (i - b).toNat = (i - min i j).toNat + (min i j - b).toNat by omega, show (j - b).toNat = (j - min i j).toNat + (min i j - b).toNat by omega, signed_up, signed_up]
  refine ⟨fun h => by rw [h], fun h => Int.eq_of_mul_eq_mul_right ?_ h⟩
  have : 0 < 2 ^ (min i j - b).toNat := Nat.two_pow_pos _
  omega
theorem cmp_eq {a b : Int} : compare a b = .eq ↔ a = b := by
  simp only [compare, compareOfLessAndEq]
  split
  · simp; omega
  · split
    · simpa
    · simpa
theorem cmp_eqN {a b : Nat} : compare a b = .eq ↔ a = b := Nat.compare_eq_eq
theorem toNat_inj {a b : Bool} : a.toNat = b.toNat ↔ a = b := by cases a <;> cases b <;> decide
/-- which data are alike -/
theorem dat_iff (x y : Ieee.Datum) : x.order y = some .eq ↔ match x, y with
    | .infinity s, .infinity t => t = s
    | .number s m i, .number t n j => Ieee.signed s m (i - min i j).toNat = Ieee.signed t n (j - min i j).toNat
    | _, _ => False := by
  cases x <;> cases y <;> simp only [Ieee.Datum.order, Option.some.injEq, reduceCtorEq, cmp_eq, cmp_eqN, toNat_inj]
  all_goals first | done | (split <;> simp)
theorem dat_symm {x y : Ieee.Datum} (h : x.order y = some .eq) : y.order x = some .eq := by
  rw [dat_iff] at h ⊢
  cases x <;> cases y <;> simp only at h ⊢
  · rw [Int.min_comm]; exact h.symm
  · exact h.symm
theorem dat_trans {x y z : Ieee.Datum} (h : x.order y = some .eq) (k : y.order z = some .eq) : x.order z = some .eq := by
  rw [dat_iff] at h k ⊢
  cases x <;> cases y <;> cases z <;> simp only at h k ⊢
  · rename_i s m i t n j r o l
    rw [signed_base (b := min i (min j l)) (by omega) (by omega)] at h k ⊢
    exact h.trans k
  · exact k.trans h

variable {α : Type}
theorem strsGo_hi (eqv : α → α → Bool) (ht : ∀ a b c, eqv a b = true → eqv b c = true → eqv a c = true) (qs : List (Pc α)) : ∀ (f : Pc α) (l : α), OkP (f :: qs) → (l = f.val ∨ eqv f.val l = true) → ∀ s ∈ strsGo eqv f l qs, ∃ u, (u = s.val ∨ eqv s.val u = true) ∧ ((s.hi = f.hi ∧ u = l) ∨ (f.hi < s.hi ∧ atP qs s.hi = some u)) := by
  induction qs with
  | nil =>
    intro f l h hl s hs
    rw [List.mem_singleton.1 hs]
    exact ⟨l, hl, .inl ⟨rfl, rfl⟩⟩
  | cons q qs ih =>
    intro f l h hl s hs
    have k1 := h.head; have k2 := h.tail.head; have k3 := h.next q List.mem_cons_self
    have step : ∀ u, ((s.hi = q.hi ∧ u = q.val) ∨ (q.hi < s.hi ∧ atP qs s.hi = some u)) → f.hi < s.hi ∧ atP (q :: qs) s.hi = some u := by
      rintro u (⟨e, rfl⟩ | ⟨e, e2⟩)
      · exact ⟨by omega, by rw [e, atP_cons, if_pos ⟨k2.2.1, Int.le_refl _⟩]⟩
      · exact ⟨by omega, by rw [atP_cons, if_neg (by omega), e2]⟩
    unfold strsGo at hs
    split at hs
    · rename_i hj
      have o : OkP (⟨f.lo, q.hi, f.val⟩ :: qs) := ⟨List.pairwise_cons.2 ⟨fun b hb => h.tail.next b hb, h.tail.tail.1⟩, fun p hp => by
        rcases List.mem_cons.1 hp with rfl | hp
        · exact ⟨k1.1, by show f.lo ≤ q.hi; omega, k2.2.2⟩
        · exact h.tail.tail.2 p hp⟩
      have hv : q.val = f.val ∨ eqv f.val q.val = true := by
        rcases hl with rfl | hl
        · exact .inr hj.2
        · exact .inr (ht _ _ _ hl hj.2)
      obtain ⟨u, hu, hc⟩ := ih ⟨f.lo, q.hi, f.val⟩ q.val o hv s hs
      exact ⟨u, hu, .inr (step u hc)⟩
    · rcases List.mem_cons.1 hs with rfl | hs
      · exact ⟨l, hl, .inl ⟨rfl, rfl⟩⟩
      · obtain ⟨u, hu, hc⟩ := ih q q.val h.tail (.inl rfl) s hs
        exact ⟨u, hu, .inr (step u hc)⟩
/-- the value of a stretch, and its last number's -/
theorem strs_hi (eqv : α → α → Bool) (ht : ∀ a b c, eqv a b = true → eqv b c = true → eqv a c = true) {ps : List (Pc α)} (o : OkP ps) {s : Pc α} (hs : s ∈ strsP eqv ps) : ∃ u, (u = s.val ∨ eqv s.val u = true) ∧ atP ps s.hi = some u := by
  cases ps with
  | nil => cases hs
  | cons p qs =>
    obtain ⟨u, hu, hc⟩ := strsGo_hi eqv ht qs p p.val o (.inl rfl) s hs
    refine ⟨u, hu, ?_⟩
    rcases hc with ⟨e, rfl⟩ | ⟨e, e2⟩
    · rw [e, atP_cons, if_pos ⟨o.head.2.1, Int.le_refl _⟩]
    · rw [atP_cons, if_neg (by omega), e2]
theorem size_put {ps : List (Pc α)} (o : OkP ps) {lo hi : Int} (h1 : lo ≤ hi) (h : ¬ frI ps lo < upI ps hi) (v : α) : sizeP (repP ps lo hi [⟨lo, hi, v⟩]) = sizeP ps + (hi - lo + 1) := by
  obtain ⟨A, M, C, c⟩ := cut3 o h1
  have hM : M = [] := by
    have e1 := c.fr
    have e2 := c.up
    exact List.length_eq_zero_iff.1 (by omega)
  subst hM
  rw [c.rep, c.eq]
  simp only [aheadP, behindP, List.getLast?_nil, List.nil_append, List.append_nil, sizeP_append, sizeP]
  omega
theorem size_from {ps : List (Pc α)} : ∀ (a : Int), 0 ≤ a → a ≤ 1114112 → OkP ps → (∀ p ∈ ps, a ≤ p.lo) → 0 ≤ sizeP ps ∧ a + sizeP ps ≤ 1114112 := by
  induction ps with
  | nil => intro a h0 h1 _ _; simp only [sizeP]; omega
  | cons p ps ih =>
    intro a h0 h1 o h
    have k := o.head
    have k2 := h p List.mem_cons_self
    have := ih (p.hi + 1) (by omega) (by omega) o.tail (fun q hq => by have := o.next q hq; omega)
    simp only [sizeP]
    omega
theorem size_bd {ps : List (Pc α)} (o : OkP ps) : 0 ≤ sizeP ps ∧ sizeP ps ≤ 1114112 := by
  have := size_from 0 (Int.le_refl _) (by omega) o (fun p hp => (o.2 p hp).1)
  omega
end Go.Proofs.Ytebppdcnfbflkaa

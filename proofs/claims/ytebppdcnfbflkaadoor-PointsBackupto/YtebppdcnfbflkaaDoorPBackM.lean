/-
  PointsBack, the mathematics: a number and its text, a range and its text, there and back.
-/
import Derived.Test.YtebppdcnfbflkaaDoorPShowSp
import Derived.Test.YtebppdcnfbflkaaDoorRSpan
namespace Go.Proofs.YtebppdcnfbflkaaDoor
open Go.Lib Go.PHexM
set_option linter.unusedVariables false

theorem dgt_nat {d : Nat} (h : d < 16) : (dgt d).toNat = digAt d := by
  have : ∀ k : Fin 16, (dgt k.1).toNat = digAt k.1 := by decide
  exact this ⟨d, h⟩
theorem dig_dgt {d : Nat} (h : d < 16) : dig (dgt d) = some d := dig_at h (dgt_nat h).symm
theorem dgt_dig {b : UInt8} {d : Nat} (h : dig b = some d) : dgt d = b := by
  apply UInt8.toNat_inj.1
  rw [dgt_nat (dig_lt h)]
  unfold dig at h
  unfold digAt
  split at h
  · simp only [Option.some.injEq] at h; rw [if_pos (by omega)]; omega
  · split at h
    · simp only [Option.some.injEq] at h; rw [if_neg (by omega)]; omega
    · cases h
theorem digs_up : ∀ (i n a : Nat), digs (hexUp i n) a = some (a * 16 ^ i + n % 16 ^ i)
  | 0, n, a => by simp [hexUp, digs, Nat.mod_one]
  | i + 1, n, a => by
    rw [hexUp, digs, dig_dgt (Nat.mod_lt _ (by decide))]
    simp only
    rw [digs_up i n, Nat.pow_succ, Nat.mod_mul, Nat.add_mul]
    congr 1
    rw [Nat.mul_comm (16 ^ i) (n / 16 ^ i % 16), Nat.mul_comm (16 ^ i) 16, ← Nat.mul_assoc]
    omega
theorem up_digs : ∀ (l : List UInt8) (a m : Nat), digs l a = some m → hexUp l.length m = l ∧ m / 16 ^ l.length = a
  | [], a, m, h => by simp only [digs, Option.some.injEq] at h; simp [hexUp, h]
  | b :: l, a, m, h => by
    rw [digs] at h
    cases hd : dig b with
    | none => rw [hd] at h; simp at h
    | some d =>
      rw [hd] at h
      obtain ⟨e1, e2⟩ := up_digs l (a * 16 + d) m h
      have hlt := dig_lt hd
      constructor
      · rw [List.length_cons, hexUp, e1, e2, show (a * 16 + d) % 16 = d by omega, dgt_dig hd]
      · rw [List.length_cons, Nat.pow_succ, ← Nat.div_div_eq_div_mul, e2]; omega
theorem dgt_zero {d : Nat} (h : d < 16) : dgt d = 48 ↔ d = 0 := by
  have : ∀ k : Fin 16, dgt k.1 = 48 ↔ k.1 = 0 := by decide
  exact this ⟨d, h⟩
theorem longOk_iff {l : List UInt8} : longOk l = true ↔ 4 ≤ l.length ∧ l.length ≤ 6 ∧ (4 < l.length → l.head? ≠ some 48) := by
  simp only [longOk, Bool.and_eq_true, decide_eq_true_eq, Bool.not_eq_true', Bool.and_eq_false_iff, decide_eq_false_iff_not, beq_eq_false_iff_ne, ne_eq, and_assoc]
  constructor
  · rintro ⟨h1, h2, h3⟩
    exact ⟨h1, h2, fun h4 => h3.resolve_left (by omega)⟩
  · rintro ⟨h1, h2, h3⟩
    refine ⟨h1, h2, ?_⟩
    by_cases h : 4 < l.length
    · exact .inr (h3 h)
    · exact .inl h
theorem head_up (i n : Nat) : (hexUp (i + 1) n).head? = some (dgt (n / 16 ^ i % 16)) := rfl
theorem showP_ok {n : Nat} (hn : n ≤ 1114111) : longOk (showP n) = true := by
  rw [longOk_iff]
  unfold showP
  rw [hexUp_len]
  refine ⟨by unfold showLen; split <;> (try split) <;> omega, by unfold showLen; split <;> (try split) <;> omega, fun h hh => ?_⟩
  unfold showLen at h hh
  by_cases h1 : n < 65536
  · rw [if_pos h1] at h; omega
  · rw [if_neg h1] at hh
    by_cases h2 : n < 1048576
    · rw [if_pos h2, head_up, Option.some.injEq, dgt_zero (Nat.mod_lt _ (by decide))] at hh
      omega
    · rw [if_neg h2, head_up, Option.some.injEq, dgt_zero (Nat.mod_lt _ (by decide))] at hh
      omega
theorem showLen_lt {n : Nat} (hn : n ≤ 1114111) : n < 16 ^ showLen n := by
  unfold showLen
  split
  · omega
  · split <;> omega
theorem hex_show {n : Nat} (hn : n ≤ 1114111) : hexP (showP n) = some n :=
  hexP_is (showP_ok hn) (by rw [showP, digs_up, Nat.mod_eq_of_lt (showLen_lt hn)]; simp) (by omega)
theorem hexP_parts {l : List UInt8} {n : Nat} (h : hexP l = some n) : longOk l = true ∧ digs l 0 = some n ∧ n ≤ 1114111 := by
  unfold hexP at h
  split at h
  · rename_i hl
    cases hd : digs l 0 with
    | none => rw [hd] at h; simp at h
    | some m =>
      rw [hd] at h
      simp only at h
      split at h
      · cases h
      · simp only [Option.some.injEq] at h
        subst h
        exact ⟨hl, rfl, by omega⟩
  · cases h
theorem show_hex {l : List UInt8} {n : Nat} (h : hexP l = some n) : showP n = l := by
  obtain ⟨h1, h2, h3⟩ := hexP_parts h
  obtain ⟨e1, e2⟩ := up_digs l 0 n h2
  obtain ⟨g1, g2, g3⟩ := longOk_iff.1 h1
  have hn : n < 16 ^ l.length := by
    rcases Nat.lt_or_ge n (16 ^ l.length) with h | h
    · exact h
    · have := Nat.div_pos h (Nat.pow_pos (by decide : 0 < 16)); omega
  have hlen : showLen n = l.length := by
    have hh : l.head? = (hexUp l.length n).head? := by rw [e1]
    rcases (by omega : l.length = 4 ∨ l.length = 5 ∨ l.length = 6) with e | e | e
    · rw [e] at hn ⊢; unfold showLen; rw [if_pos (by omega)]
    · have g := g3 (by omega)
      rw [e] at hn hh ⊢
      rw [hh, head_up, Ne, Option.some.injEq, dgt_zero (Nat.mod_lt _ (by decide))] at g
      unfold showLen; rw [if_neg (by omega), if_pos (by omega)]
    · have g := g3 (by omega)
      rw [e] at hn hh ⊢
      rw [hh, head_up, Ne, Option.some.injEq, dgt_zero (Nat.mod_lt _ (by decide))] at g
      unfold showLen; rw [if_neg (by omega), if_neg (by omega)]
  rw [showP, hlen, e1]

theorem up_nodot (i n : Nat) : ∀ b ∈ hexUp i n, b ≠ 46 := by
  induction i with
  | zero => intro b hb; simp [hexUp] at hb
  | succ i ih =>
    intro b hb
    rw [hexUp, List.mem_cons] at hb
    rcases hb with rfl | hb
    · have : ∀ k : Fin 16, dgt k.1 ≠ 46 := by decide
      exact this ⟨_, Nat.mod_lt _ (by decide)⟩
    · exact ih b hb
theorem occ_dot {s : List UInt8} {j : Nat} (h : occAt s [46, 46] j = true) : s[j]? = some 46 ∧ s = s.take j ++ [46, 46] ++ s.drop (j + 2) := by
  unfold occAt at h
  rw [List.isPrefixOf_iff_prefix] at h
  obtain ⟨r, hr⟩ := h
  constructor
  · have : (s.drop j)[0]? = some 46 := by rw [← hr]; rfl
    simpa using this
  · have e : s.drop (j + 2) = r := by
      rw [← List.drop_drop, ← hr]; rfl
    rw [e, List.append_assoc, hr, List.take_append_drop]
theorem index_up (i n : Nat) : index (hexUp i n) [46, 46] = -1 := by
  refine index_none fun j _ => ?_
  cases h : occAt (hexUp i n) [46, 46] j with
  | false => rfl
  | true => exact absurd rfl (up_nodot i n 46 (List.mem_of_getElem? (occ_dot h).1))
theorem index_two (i n : Nat) (y : List UInt8) : index (hexUp i n ++ [46, 46] ++ y) [46, 46] = (i : Nat) := by
  refine index_first (by simp [hexUp_len]) ?_ fun j hj => ?_
  · unfold occAt
    rw [List.isPrefixOf_iff_prefix, List.append_assoc, List.drop_left' (hexUp_len i n)]
    exact List.prefix_append ..
  · cases h : occAt (hexUp i n ++ [46, 46] ++ y) [46, 46] j with
    | false => rfl
    | true =>
      have := (occ_dot h).1
      rw [List.append_assoc, List.getElem?_append_left (by rw [hexUp_len]; exact hj)] at this
      exact absurd rfl (up_nodot i n 46 (List.mem_of_getElem? this))
theorem spanS_list (a b : Nat) : (spanS a b).data.toList = if a = b then showP a else showP a ++ [46, 46] ++ showP b := by
  unfold spanS
  split
  · rfl
  · simp [hexS, showP, ByteArray.data_append]
theorem span_show {a b : Nat} (hab : a ≤ b) (hb : b ≤ 1114111) : spanV (spanS a b).data.toList = spanE a b 0 := by
  rw [spanS_list]
  split
  · rename_i e
    subst e
    rw [spanV_none (l := showP a) (index_up _ _)]
    exact spanV2_ok (hex_show hb) (hex_show hb) (by omega)
  · rw [spanV_some (l := showP a ++ [46, 46] ++ showP b) (j := showLen a) (index_two _ _ _)]
    have e1 : (showP a ++ [46, 46] ++ showP b).take (showLen a) = showP a := by
      rw [List.append_assoc]; exact List.take_left' (hexUp_len _ _)
    have e2 : (showP a ++ [46, 46] ++ showP b).drop (showLen a + 2) = showP b := by
      rw [List.drop_left' (by simp [showP, hexUp_len])]
    rw [e1, e2]
    exact spanV2_ok (hex_show (by omega)) (hex_show hb) (by omega)
theorem show_span {l : List UInt8} {x y : Int} (h : spanV l = spanE x y 0) :
    ∃ a b : Nat, x = a ∧ y = b ∧ a ≤ b ∧ b ≤ 1114111 ∧ ((x ≠ y ∨ l.length ≤ 6) → (spanS a b).data.toList = l) := by
  have key : ∀ u v : List UInt8, spanV2 u v = spanE x y 0 → ∃ a b : Nat, x = a ∧ y = b ∧ a ≤ b ∧ hexP u = some a ∧ hexP v = some b := by
    intro u v h
    cases hu : hexP u with
    | none => rw [spanV2_a hu] at h; simp [spanE] at h
    | some p =>
      cases hv : hexP v with
      | none => rw [spanV2_b hu hv] at h; simp [spanE] at h
      | some q =>
        by_cases hlt : q < p
        · rw [spanV2_lt hu hv hlt] at h; simp [spanE] at h
        · rw [spanV2_ok hu hv hlt] at h
          simp [spanE] at h
          exact ⟨p, q, h.1.symm, h.2.symm, by omega, rfl, rfl⟩
  rcases index_spec l [46, 46] with ⟨hi, -⟩ | ⟨j, hj, -, ho, -⟩
  · rw [spanV_none hi] at h
    obtain ⟨a, b, rfl, rfl, hab, ha, hb⟩ := key _ _ h
    obtain rfl : a = b := by rw [ha] at hb; exact Option.some.inj hb
    exact ⟨a, a, rfl, rfl, hab, (hexP_parts ha).2.2, fun _ => by rw [spanS_list, if_pos rfl]; exact show_hex ha⟩
  · rw [spanV_some hj] at h
    obtain ⟨a, b, rfl, rfl, hab, ha, hb⟩ := key _ _ h
    have hl := (occ_dot ho).2
    refine ⟨a, b, rfl, rfl, hab, (hexP_parts hb).2.2, fun hc => ?_⟩
    have l1 := (longOk_iff.1 (hexP_parts ha).1).1
    have l2 := (longOk_iff.1 (hexP_parts hb).1).1
    have hne : a ≠ b := by
      rcases hc with hc | hc
      · intro e; exact hc (by rw [e])
      · have := congrArg List.length hl
        simp only [List.length_append, List.length_cons, List.length_nil] at this
        omega
    rw [spanS_list, if_neg hne, show_hex ha, show_hex hb]
    exact hl.symm
end Go.Proofs.YtebppdcnfbflkaaDoor

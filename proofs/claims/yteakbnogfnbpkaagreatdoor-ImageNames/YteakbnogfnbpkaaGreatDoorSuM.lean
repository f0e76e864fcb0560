/-
  The mathematics of the sum: a step of the register on any natural number, n steps, the sum of bytes as steps over one great number.
-/
namespace Go.SuM
set_option linter.unusedVariables false
/-- a step over a bit 0 -/
def st (x : Nat) : Nat := x / 2 ^^^ (if x % 2 = 1 then 3988292384 else 0)
/-- n steps -/
def stn : Nat → Nat → Nat
  | 0, x => x
  | n + 1, x => stn n (st x)
theorem st_xor (x y : Nat) : st (x ^^^ y) = st x ^^^ st y := by
  unfold st
  have h1 : (x ^^^ y) / 2 = x / 2 ^^^ y / 2 := Nat.xor_div_two
  have h2 : (x ^^^ y) % 2 = (x + y) % 2 := by
    have h := Nat.testBit_xor x y 0
    simp only [Nat.testBit_zero] at h
    rcases Nat.mod_two_eq_zero_or_one x with hx | hx <;> rcases Nat.mod_two_eq_zero_or_one y with hy | hy <;> rcases Nat.mod_two_eq_zero_or_one (x ^^^ y) with hz | hz <;> simp [hx, hy, hz] at h <;> omega
  rw [h1, h2]
  rcases Nat.mod_two_eq_zero_or_one x with hx | hx <;> rcases Nat.mod_two_eq_zero_or_one y with hy | hy
  · rw [if_neg (by omega), if_neg (by omega), if_neg (by omega)]; simp
  · rw [if_pos (by omega), if_neg (by omega), if_pos (by omega)]; simp [Nat.xor_assoc]
  · rw [if_pos (by omega), if_pos (by omega), if_neg (by omega), Nat.xor_zero]; ac_rfl
  · rw [if_neg (by omega), if_pos (by omega), if_pos (by omega), Nat.xor_zero]
    have : x / 2 ^^^ 3988292384 ^^^ (y / 2 ^^^ 3988292384) = x / 2 ^^^ y / 2 ^^^ (3988292384 ^^^ 3988292384) := by ac_rfl
    rw [this, Nat.xor_self, Nat.xor_zero]
theorem st_zero : st 0 = 0 := by decide
theorem st_two (h : Nat) : st (2 * h) = h := by
  unfold st
  rw [if_neg (by omega), Nat.xor_zero]; omega
theorem st_lt {x : Nat} (h : x < 4294967296) : st x < 4294967296 := by
  unfold st
  refine Nat.xor_lt_two_pow (n := 32) (by omega) ?_
  split <;> decide
theorem st_ne {x : Nat} (h : x < 4294967296) (h0 : st x = 0) : x = 0 := by
  unfold st at h0
  by_cases hx : x % 2 = 1
  · rw [if_pos hx] at h0
    have : x / 2 = 3988292384 := by
      have := congrArg (· ^^^ 3988292384) h0
      simpa [Nat.xor_assoc] using this
    omega
  · rw [if_neg hx, Nat.xor_zero] at h0
    omega
theorem stn_zero (n : Nat) : stn n 0 = 0 := by
  induction n with
  | zero => rfl
  | succ n ih => rw [stn, st_zero, ih]
theorem stn_xor (n x y : Nat) : stn n (x ^^^ y) = stn n x ^^^ stn n y := by
  induction n generalizing x y with
  | zero => rfl
  | succ n ih => rw [stn, st_xor, ih]; rfl
theorem stn_add (m n x : Nat) : stn (m + n) x = stn n (stn m x) := by
  induction m generalizing x with
  | zero => rw [Nat.zero_add]; rfl
  | succ m ih => rw [Nat.succ_add, stn, ih]; rfl
theorem stn_succ (n x : Nat) : stn (n + 1) x = st (stn n x) := by rw [stn_add]; rfl
theorem stn_lt {x : Nat} (n : Nat) (h : x < 4294967296) : stn n x < 4294967296 := by
  induction n generalizing x with
  | zero => exact h
  | succ n ih => exact ih (st_lt h)
theorem stn_ne {x : Nat} (n : Nat) (h : x < 4294967296) (h0 : stn n x = 0) : x = 0 := by
  induction n generalizing x with
  | zero => exact h0
  | succ n ih => exact st_ne h (ih (st_lt h) h0)
theorem stn_pow (n h : Nat) : stn n (2 ^ n * h) = h := by
  induction n generalizing h with
  | zero => simp [stn]
  | succ n ih => rw [stn, Nat.pow_succ, Nat.mul_comm (2 ^ n) 2, Nat.mul_assoc, st_two, ih]
theorem stn_inj {x y : Nat} (n : Nat) (hx : x < 4294967296) (hy : y < 4294967296) (h : stn n x = stn n y) : x = y := by
  have h1 : stn n (x ^^^ y) = 0 := by rw [stn_xor, h, Nat.xor_self]
  have h2 := stn_ne n (Nat.xor_lt_two_pow (n := 32) hx hy) h1
  have h3 := congrArg (· ^^^ y) h2
  simpa [Nat.xor_assoc] using h3
/-- a sum of parts that do not meet -/
theorem add_xor (n a b : Nat) (h : b < 2 ^ n) : 2 ^ n * a + b = 2 ^ n * a ^^^ b := by
  apply Nat.eq_of_testBit_eq
  intro i
  rw [Nat.testBit_two_pow_mul_add _ h, Nat.testBit_xor, Nat.testBit_two_pow_mul]
  by_cases hi : i < n
  · rw [if_pos hi]
    have : ¬ i ≥ n := by omega
    simp [this]
  · rw [if_neg hi, Nat.testBit_lt_two_pow (x := b) (Nat.lt_of_lt_of_le h (Nat.pow_le_pow_right (by decide) (by omega)))]
    have : i ≥ n := by omega
    simp [this]
theorem split_xor (n x : Nat) : x = 2 ^ n * (x / 2 ^ n) ^^^ x % 2 ^ n := by
  rw [← add_xor n _ _ (Nat.mod_lt _ (Nat.two_pow_pos n))]
  exact (Nat.div_add_mod x (2 ^ n)).symm
theorem stn_split (n x : Nat) : stn n x = x / 2 ^ n ^^^ stn n (x % 2 ^ n) := by
  conv => lhs; rw [split_xor n x]
  rw [stn_xor, stn_pow]
/-- the table of sixteen -/
def fours : List Nat := [0, 498536548, 997073096, 651767980, 1994146192, 1802195444, 1303535960, 1342533948, 3988292384, 4027552580, 3604390888, 3412177804, 2607071920, 2262029012, 2685067896, 3183342108]
def fourAt (l : Nat) : Nat := (fours[l]?).getD 0
theorem four_eq : ∀ l : Fin 16, stn 4 l.val = fourAt l.val := by decide
theorem four (x : Nat) : stn 4 x = x / 16 ^^^ fourAt (x % 16) := by
  rw [stn_split 4 x]
  show x / 16 ^^^ stn 4 (x % 16) = _
  rw [four_eq ⟨x % 16, Nat.mod_lt _ (by decide)⟩]
theorem fourAt_lt (l : Nat) (h : l < 16) : fourAt l < 4294967296 := by
  have : ∀ l : Fin 16, fourAt l.val < 4294967296 := by decide
  exact this ⟨l, h⟩
/-- the number of bytes, the lowest first -/
def num : List UInt8 → Nat
  | [] => 0
  | b :: l => b.toNat + 256 * num l
theorem num_cons (b : UInt8) (l : List UInt8) : num (b :: l) = b.toNat ^^^ 2 ^ 8 * num l := by
  rw [Nat.xor_comm, ← add_xor 8 _ _ b.toNat_lt]
  show b.toNat + 256 * num l = 256 * num l + b.toNat
  omega
theorem num_lt (l : List UInt8) : num l < 2 ^ (8 * l.length) := by
  induction l with
  | nil => decide
  | cons b l ih =>
    have hb := b.toNat_lt
    have e : 2 ^ (8 * (b :: l).length) = 256 * 2 ^ (8 * l.length) := by
      rw [List.length_cons, Nat.mul_add, Nat.pow_add, Nat.mul_comm]
    rw [e]
    show b.toNat + 256 * num l < _
    omega
theorem num_app (a b : List UInt8) : num (a ++ b) = num a ^^^ 2 ^ (8 * a.length) * num b := by
  rw [Nat.xor_comm, ← add_xor _ _ _ (num_lt a)]
  induction a with
  | nil => simp [num]
  | cons x a ih =>
    have e : 2 ^ (8 * (x :: a).length) = 256 * 2 ^ (8 * a.length) := by
      rw [List.length_cons, Nat.mul_add, Nat.pow_add, Nat.mul_comm]
    rw [e]
    show x.toNat + 256 * num (a ++ b) = 256 * 2 ^ (8 * a.length) * num b + (x.toNat + 256 * num a)
    rw [ih, Nat.mul_assoc]
    omega
/-- the register behind bytes -/
def regR (r : Nat) (l : List UInt8) : Nat := l.foldl (fun r b => stn 8 (r ^^^ b.toNat)) r
theorem regR_num (r : Nat) (l : List UInt8) : regR r l = stn (8 * l.length) (r ^^^ num l) := by
  induction l generalizing r with
  | nil => simp [regR, num, stn]
  | cons b l ih =>
    have e : 8 * (b :: l).length = 8 + 8 * l.length := by rw [List.length_cons]; omega
    show regR (stn 8 (r ^^^ b.toNat)) l = _
    rw [ih, e, stn_add, num_cons, ← Nat.xor_assoc, stn_xor 8 (r ^^^ b.toNat) (2 ^ 8 * num l), stn_pow]
theorem regR_app (r : Nat) (a b : List UInt8) : regR r (a ++ b) = regR (regR r a) b := by
  unfold regR; rw [List.foldl_append]
theorem regR_snoc (r : Nat) (a : List UInt8) (b : UInt8) : regR r (a ++ [b]) = stn 8 (regR r a ^^^ b.toNat) := regR_app r a [b]
theorem u8_lt (b : UInt8) : b.toNat < 4294967296 := Nat.lt_of_lt_of_le b.toNat_lt (by decide)
theorem regR_lt {r : Nat} (l : List UInt8) (h : r < 4294967296) : regR r l < 4294967296 := by
  induction l generalizing r with
  | nil => exact h
  | cons b l ih => exact ih (stn_lt _ (Nat.xor_lt_two_pow (n := 32) h (u8_lt b)))
/-- all bits turned -/
def inv (x : Nat) : Nat := 4294967295 - x
theorem inv_xor {x : Nat} (h : x < 4294967296) : inv x = 4294967295 ^^^ x := by
  have h1 : (4294967295 : Nat) = (4294967295 ^^^ x) ^^^ x := by rw [Nat.xor_assoc, Nat.xor_self, Nat.xor_zero]
  have h2 : BitVec.ofNat 32 (inv x) = BitVec.ofNat 32 (4294967295 ^^^ x) := by
    have e1 : BitVec.ofNat 32 (4294967295 ^^^ x) = BitVec.ofNat 32 4294967295 ^^^ BitVec.ofNat 32 x := BitVec.ofNat_xor
    have e2 : BitVec.ofNat 32 4294967295 = BitVec.allOnes 32 := by decide
    rw [e1, e2, BitVec.allOnes_xor]
    apply BitVec.eq_of_toNat_eq
    rw [BitVec.toNat_not, BitVec.toNat_ofNat, BitVec.toNat_ofNat]
    unfold inv
    omega
  have h3 := congrArg BitVec.toNat h2
  rw [BitVec.toNat_ofNat, BitVec.toNat_ofNat] at h3
  have h4 : 4294967295 ^^^ x < 2 ^ 32 := Nat.xor_lt_two_pow (by decide) h
  unfold inv at *
  omega
theorem inv_lt (x : Nat) : inv x < 4294967296 := by unfold inv; omega
theorem inv_inv {x : Nat} (h : x < 4294967296) : inv (inv x) = x := by unfold inv; omega
/-- the sum of more behind a sum -/
def more (c : Nat) (l : List UInt8) : Nat := inv (regR (inv c) l)
theorem more_lt (c : Nat) (l : List UInt8) : more c l < 4294967296 := inv_lt _
theorem more_app (c : Nat) (a b : List UInt8) : more c (a ++ b) = more (more c a) b := by
  unfold more
  rw [regR_app, inv_inv (regR_lt _ (inv_lt _))]
theorem more_nil {c : Nat} (h : c < 4294967296) : more c [] = c := inv_inv h
theorem more_joined {a : Nat} (ha : a < 4294967296) (b : Nat) (hb : b < 4294967296) (l : List UInt8) : more a l = stn (8 * l.length) (a ^^^ b) ^^^ more b l := by
  have h : ∀ c, c < 4294967296 → more c l = 4294967295 ^^^ stn (8 * l.length) (4294967295 ^^^ c ^^^ num l) := by
    intro c hc
    unfold more
    rw [inv_xor (regR_lt _ (inv_lt _)), regR_num, inv_xor hc]
  rw [h a ha, h b hb]
  have e : 4294967295 ^^^ a ^^^ num l = (a ^^^ b) ^^^ (4294967295 ^^^ b ^^^ num l) := by
    have : (a ^^^ b) ^^^ (4294967295 ^^^ b ^^^ num l) = 4294967295 ^^^ a ^^^ num l ^^^ (b ^^^ b) := by ac_rfl
    rw [this, Nat.xor_self, Nat.xor_zero]
  rw [e, stn_xor]
  ac_rfl
/-- the steps of n bytes 0 -/
def zer (n x : Nat) : Nat := stn (8 * n) x
theorem joined_ok (a : List UInt8) (l : List UInt8) : zer l.length (more 0 a) ^^^ more 0 l = more 0 (a ++ l) := by
  rw [more_app, more_joined (more_lt 0 a) 0 (by decide) l, Nat.xor_zero]; rfl
end Go.SuM

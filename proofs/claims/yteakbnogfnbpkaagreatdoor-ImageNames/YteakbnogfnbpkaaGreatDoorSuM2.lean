/-
  The mathematics of the loops: products, n bytes 0, a linear map, bytes of a number, bursts.
-/
import Derived.Test.YteakbnogfnbpkaaGreatDoorSuM
namespace Go.SuM
set_option linter.unusedVariables false
/-- what holds in the loop of a product with the power m of x -/
structure TimesI (m a k a' b' p : Nat) : Prop where
  sum : p ^^^ stn (m + k) a' = stn m a
  pow : b' = stn (m + k) 2147483648
  al : a' < 4294967296
  pl : p < 4294967296
  div : a' % 2 ^ k = 0
  kl : k ≤ 32
theorem TimesI.start {m a : Nat} (ha : a < 4294967296) : TimesI m a 0 a (stn m 2147483648) 0 :=
  ⟨by rw [Nat.zero_xor]; rfl, rfl, ha, by decide, Nat.mod_one _, by decide⟩
theorem TimesI.bl {m a k a' b' p : Nat} (h : TimesI m a k a' b' p) : b' < 4294967296 := by rw [h.pow]; exact stn_lt _ (by decide)
theorem TimesI.lt {m a k a' b' p : Nat} (h : TimesI m a k a' b' p) (h0 : a' ≠ 0) : k < 32 := by
  rcases Nat.lt_or_ge k 32 with h1 | h1
  · exact h1
  · have hk : k = 32 := Nat.le_antisymm h.kl h1
    have := h.div; have := h.al
    rw [hk] at *
    omega
theorem TimesI.stop {m a k b' p : Nat} (h : TimesI m a k 0 b' p) : p = stn m a := by
  have := h.sum; rwa [stn_zero, Nat.xor_zero] at this
theorem low_div {a' k : Nat} (hk : k < 32) (h : a' % 2 ^ k = 0) : (2 * a' % 4294967296) % 2 ^ (k + 1) = 0 := by
  have h2 : 2 * a' % 2 ^ (k + 1) = 0 := by
    rw [Nat.pow_succ, Nat.mul_comm (2 ^ k) 2, Nat.mul_mod_mul_left, h]
  have e : (4294967296 : Nat) = 2 ^ (k + 1) * 2 ^ (31 - k) := by rw [← Nat.pow_add, show k + 1 + (31 - k) = 32 by omega]
  rw [e, Nat.mod_mul_right_mod, h2]
theorem TimesI.one {m a k a' b' p : Nat} (h : TimesI m a k a' b' p) (h0 : a' ≠ 0) (h1 : a' / 2147483648 = 1) : TimesI m a (k + 1) (2 * a' % 4294967296) (st b') (p ^^^ b') := by
  have hk := h.lt h0
  have hal := h.al
  refine ⟨?_, by rw [h.pow, ← Nat.add_assoc, stn_succ], Nat.mod_lt _ (by decide), Nat.xor_lt_two_pow (n := 32) h.pl h.bl, low_div hk h.div, hk⟩
  rw [← h.sum]
  have e : a' = 2 ^ 31 * 1 ^^^ (a' - 2147483648) := by rw [← add_xor 31 _ _ (by omega)]; omega
  have e2 : 2 * a' % 4294967296 = 2 * (a' - 2147483648) := by omega
  rw [e2, show m + (k + 1) = (m + k) + 1 by omega, stn, st_two]
  conv => rhs; rw [e]
  rw [stn_xor, ← Nat.xor_assoc, h.pow]
theorem TimesI.nil {m a k a' b' p : Nat} (h : TimesI m a k a' b' p) (h0 : a' ≠ 0) (h1 : a' / 2147483648 ≠ 1) : TimesI m a (k + 1) (2 * a' % 4294967296) (st b') p := by
  have hk := h.lt h0
  have hal := h.al
  refine ⟨?_, by rw [h.pow, ← Nat.add_assoc, stn_succ], Nat.mod_lt _ (by decide), h.pl, low_div hk h.div, hk⟩
  rw [← h.sum]
  have e2 : 2 * a' % 4294967296 = 2 * a' := by omega
  rw [e2, show m + (k + 1) = (m + k) + 1 by omega, stn, st_two]
/-- what holds in the loop over n's digits -/
structure ZerosI (n0 r0 j n r pw : Nat) : Prop where
  sum : stn (8 * 2 ^ j * n) r = stn (8 * n0) r0
  pow : pw = stn (8 * 2 ^ j) 2147483648
  rl : r < 4294967296
theorem ZerosI.start {n0 r0 : Nat} (h : r0 < 4294967296) : ZerosI n0 r0 0 n0 r0 8388608 :=
  ⟨by simp, by decide, h⟩
theorem ZerosI.stop {n0 r0 j r pw : Nat} (h : ZerosI n0 r0 j 0 r pw) : r = zer n0 r0 := by
  have := h.sum; rwa [Nat.mul_zero] at this
theorem ZerosI.one {n0 r0 j n r pw : Nat} (h : ZerosI n0 r0 j n r pw) (h1 : n % 2 = 1) : ZerosI n0 r0 (j + 1) (n / 2) (stn (8 * 2 ^ j) r) (stn (8 * 2 ^ j) pw) := by
  refine ⟨?_, ?_, stn_lt _ h.rl⟩
  · rw [← h.sum, ← stn_add]
    congr 1
    obtain ⟨q, rfl⟩ : ∃ q, n = 2 * q + 1 := ⟨n / 2, by omega⟩
    rw [show (2 * q + 1) / 2 = q by omega, Nat.pow_succ, Nat.mul_add, Nat.mul_one, Nat.mul_assoc, Nat.mul_assoc, Nat.mul_assoc]
    omega
  · rw [h.pow, ← stn_add]
    congr 1
    rw [Nat.pow_succ]; omega
theorem ZerosI.nil {n0 r0 j n r pw : Nat} (h : ZerosI n0 r0 j n r pw) (h1 : n % 2 ≠ 1) : ZerosI n0 r0 (j + 1) (n / 2) r (stn (8 * 2 ^ j) pw) := by
  refine ⟨?_, ?_, h.rl⟩
  · rw [← h.sum]
    congr 1
    obtain ⟨q, rfl⟩ : ∃ q, n = 2 * q := ⟨n / 2, by omega⟩
    rw [show (2 * q) / 2 = q by omega, Nat.pow_succ, Nat.mul_assoc, Nat.mul_assoc, Nat.mul_assoc]
  · rw [h.pow, ← stn_add]
    congr 1
    rw [Nat.pow_succ]; omega
/-- a bit more of a linear map's answer -/
theorem by_one (m a i : Nat) (h : a / 2 ^ i % 2 = 1) : stn m (a % 2 ^ (i + 1)) = stn m (a % 2 ^ i) ^^^ stn m (2 ^ i) := by
  rw [Nat.mod_pow_succ, h, Nat.mul_one, Nat.add_comm, ← Nat.mul_one (2 ^ i), Nat.mul_one (2 ^ i)]
  have := add_xor i 1 (a % 2 ^ i) (Nat.mod_lt _ (Nat.two_pow_pos i))
  rw [Nat.mul_one] at this
  rw [this, stn_xor, Nat.xor_comm]
theorem by_nil (m a i : Nat) (h : a / 2 ^ i % 2 ≠ 1) : stn m (a % 2 ^ (i + 1)) = stn m (a % 2 ^ i) := by
  have h0 : a / 2 ^ i % 2 = 0 := by omega
  rw [Nat.mod_pow_succ, h0, Nat.mul_zero, Nat.add_zero]
/-- the document's step: a bit goes in -/
def sb (r b : Nat) : Nat := st (r ^^^ b)
theorem bits_in (r b k reg : Nat) (h : reg ^^^ b / 2 ^ k = stn k (r ^^^ b)) : sb reg (b / 2 ^ k % 2) ^^^ b / 2 ^ (k + 1) = stn (k + 1) (r ^^^ b) := by
  rw [stn_succ, ← h]
  unfold sb
  have e : b / 2 ^ k = 2 ^ 1 * (b / 2 ^ (k + 1)) ^^^ b / 2 ^ k % 2 := by
    have := split_xor 1 (b / 2 ^ k)
    rw [Nat.div_div_eq_div_mul, ← Nat.pow_add] at this
    exact this
  conv => rhs; rw [e]
  rw [Nat.xor_comm (2 ^ 1 * _), ← Nat.xor_assoc, st_xor (reg ^^^ b / 2 ^ k % 2), show 2 ^ 1 * (b / 2 ^ (k + 1)) = 2 * (b / 2 ^ (k + 1)) from rfl, st_two]
/-- the bytes of a number, the lowest first -/
def le : Nat → Nat → List UInt8
  | 0, _ => []
  | k + 1, x => UInt8.ofNat x :: le k (x / 256)
theorem le_len (k x : Nat) : (le k x).length = k := by
  induction k generalizing x with
  | zero => rfl
  | succ k ih => rw [le, List.length_cons, ih]
theorem num_le (k x : Nat) : num (le k x) = x % 2 ^ (8 * k) := by
  induction k generalizing x with
  | zero => rw [Nat.mul_zero, Nat.pow_zero, Nat.mod_one]; rfl
  | succ k ih =>
    show (UInt8.ofNat x).toNat + 256 * num (le k (x / 256)) = _
    rw [ih, show 8 * (k + 1) = 8 + 8 * k by omega, Nat.pow_add, Nat.mod_mul]
    simp
theorem le_num (l : List UInt8) : le l.length (num l) = l := by
  induction l with
  | nil => rfl
  | cons b l ih =>
    have hb := b.toNat_lt
    show UInt8.ofNat (b.toNat + 256 * num l) :: le l.length ((b.toNat + 256 * num l) / 256) = _
    rw [show (b.toNat + 256 * num l) / 256 = num l by omega, ih]
    congr 1
    apply UInt8.toNat_inj.1
    simp
theorem num_inj {a b : List UInt8} (hl : a.length = b.length) (h : num a = num b) : a = b := by
  rw [← le_num a, ← le_num b, h, hl]
theorem le_snoc (k x : Nat) : le (k + 1) x = le k x ++ [UInt8.ofNat (x / 256 ^ k)] := by
  induction k generalizing x with
  | zero => simp [le]
  | succ k ih =>
    rw [le, ih (x / 256), le, List.cons_append, Nat.div_div_eq_div_mul, Nat.pow_succ, Nat.mul_comm]
theorem le_mod (k x : Nat) : le k (x % 2 ^ (8 * k)) = le k x := by
  apply num_inj (by rw [le_len, le_len])
  rw [num_le, num_le, Nat.mod_mod]
/-- a sealed text -/
def sealL (l : List UInt8) : List UInt8 := l ++ le 4 (more 0 l)
theorem seal_reg (l : List UInt8) : regR 4294967295 (sealL l) = stn 32 4294967295 := by
  have hR : regR (inv 0) l < 4294967296 := regR_lt _ (inv_lt _)
  unfold sealL
  rw [regR_app, regR_num _ (le 4 _), num_le, le_len]
  have e : more 0 l % 2 ^ (8 * 4) = more 0 l := Nat.mod_eq_of_lt (more_lt 0 l)
  rw [e]
  unfold more
  rw [inv_xor hR]
  show stn 32 (regR 4294967295 l ^^^ (4294967295 ^^^ regR 4294967295 l)) = _
  congr 1
  have : regR 4294967295 l ^^^ (4294967295 ^^^ regR 4294967295 l) = 4294967295 ^^^ (regR 4294967295 l ^^^ regR 4294967295 l) := by ac_rfl
  rw [this, Nat.xor_self, Nat.xor_zero]
/-- a bit of bytes -/
def bitOf (l : List UInt8) (i : Nat) : Bool := ((l[i / 8]?).getD 0).toNat.testBit (i % 8)
theorem num_bit (l : List UInt8) (i : Nat) : (num l).testBit i = bitOf l i := by
  induction l generalizing i with
  | nil => simp [num, bitOf]
  | cons b l ih =>
    show (b.toNat + 256 * num l).testBit i = _
    rw [Nat.add_comm, show 256 * num l + b.toNat = 2 ^ 8 * num l + b.toNat from rfl, Nat.testBit_two_pow_mul_add _ b.toNat_lt]
    by_cases h : i < 8
    · rw [if_pos h, bitOf, show i / 8 = 0 by omega, show i % 8 = i by omega]; rfl
    · rw [if_neg h, ih, bitOf, bitOf, show i / 8 = (i - 8) / 8 + 1 by omega, show i % 8 = (i - 8) % 8 by omega]; rfl
/-- the bits in which two texts are unlike -/
def dif (a b : List UInt8) : Nat := num a ^^^ num b
theorem dif_bit (a b : List UInt8) (i : Nat) : (dif a b).testBit i = (bitOf a i != bitOf b i) := by
  unfold dif
  rw [Nat.testBit_xor, num_bit, num_bit]
/-- f is the first bit of x, l the last one -/
structure Ends (x f l : Nat) : Prop where
  fb : x.testBit f = true
  fm : ∀ i, i < f → x.testBit i = false
  lb : x.testBit l = true
  lm : ∀ i, l < i → x.testBit i = false
theorem Ends.le {x f l : Nat} (h : Ends x f l) : f ≤ l := by
  rcases Nat.lt_or_ge l f with q | q
  · have := h.fm l q; rw [h.lb] at this; cases this
  · exact q
theorem Ends.uni {x f l f' l' : Nat} (h : Ends x f l) (g : Ends x f' l') : f = f' ∧ l = l' := by
  constructor
  · rcases Nat.lt_trichotomy f f' with q | q | q
    · have := g.fm f q; rw [h.fb] at this; cases this
    · exact q
    · have := h.fm f' q; rw [g.fb] at this; cases this
  · rcases Nat.lt_trichotomy l l' with q | q | q
    · have := h.lm l' q; rw [g.lb] at this; cases this
    · exact q
    · have := g.lm l q; rw [h.lb] at this; cases this
theorem Ends.win {x f l : Nat} (h : Ends x f l) : x = 2 ^ f * (x / 2 ^ f) ∧ x / 2 ^ f < 2 ^ (l - f + 1) ∧ x / 2 ^ f ≠ 0 := by
  have hfl := h.le
  refine ⟨?_, ?_, ?_⟩
  · apply Nat.eq_of_testBit_eq
    intro i
    rw [Nat.testBit_two_pow_mul]
    by_cases hi : f ≤ i
    · rw [Nat.testBit_div_two_pow, show i - f + f = i by omega]; simp [hi]
    · rw [h.fm i (by omega)]; simp [hi]
  · apply Nat.lt_pow_two_of_testBit
    intro i hi
    rw [Nat.testBit_div_two_pow]
    exact h.lm _ (by omega)
  · intro q
    have := h.fb
    have e : (x / 2 ^ f).testBit 0 = x.testBit f := by rw [Nat.testBit_div_two_pow, Nat.zero_add]
    rw [q, this] at e
    simp at e
/-- no two sealed texts of one length are unlike within 32 bits -/
theorem apart {a b : List UInt8} (hl : a.length = b.length) (ha : regR 4294967295 a = stn 32 4294967295) (hb : regR 4294967295 b = stn 32 4294967295) {f l : Nat} (h : Ends (dif a b) f l) (hw : l - f + 1 ≤ 32) : False := by
  have h0 : stn (8 * a.length) (dif a b) = 0 := by
    have e1 := ha; have e2 := hb
    rw [regR_num] at e1 e2
    rw [← hl] at e2
    have e3 : dif a b = (4294967295 ^^^ num a) ^^^ (4294967295 ^^^ num b) := by
      have : (4294967295 ^^^ num a) ^^^ (4294967295 ^^^ num b) = num a ^^^ num b ^^^ (4294967295 ^^^ 4294967295) := by ac_rfl
      rw [this, Nat.xor_self, Nat.xor_zero]; rfl
    rw [e3, stn_xor, e1, e2, Nat.xor_self]
  obtain ⟨w1, w2, w3⟩ := h.win
  have hfl : f < 8 * a.length := by
    rcases Nat.lt_or_ge f (8 * a.length) with q | q
    · exact q
    · have hx : dif a b < 2 ^ (8 * a.length) := Nat.xor_lt_two_pow (num_lt a) (by rw [hl]; exact num_lt b)
      have := h.fb
      rw [Nat.testBit_lt_two_pow (Nat.lt_of_lt_of_le hx (Nat.pow_le_pow_right (by decide) q))] at this
      cases this
  rw [w1, show 8 * a.length = f + (8 * a.length - f) by omega, stn_add, stn_pow] at h0
  exact w3 (stn_ne _ (Nat.lt_of_lt_of_le w2 (Nat.pow_le_pow_right (n := 2) (by decide) hw)) h0)
theorem dif_zero {a b : List UInt8} (hl : a.length = b.length) (h : dif a b = 0) : a = b := by
  apply num_inj hl
  have h3 := congrArg (· ^^^ num b) h
  simpa [dif, Nat.xor_assoc] using h3
end Go.SuM

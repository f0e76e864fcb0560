/-
  Burst.
-/
import Derived.Test.YtdbfpmelhokeoaaDoorSuT
import Derived.Test.YtdbfpmelhokeoaaDoorSuO2
namespace Go.Proofs.YtdbfpmelhokeoaaDoor
open Go.RowKit Go.PlainAid Go.Lib Go.SuM
set_option linter.unusedVariables false
set_option linter.unusedSimpArgs false
def gat (l : List UInt8) (j : Nat) : Nat := ((l[j]?).getD 0).toNat
theorem gat_lt (l : List UInt8) (j : Nat) : gat l j < 256 := UInt8.toNat_lt _
theorem dif_gat (a b : List UInt8) (i : Nat) : (dif a b).testBit i = (gat a (i / 8) ^^^ gat b (i / 8)).testBit (i % 8) := by
  rw [dif_bit, Nat.testBit_xor]; rfl
theorem xor_lt8 {x y : Nat} (hx : x < 256) (hy : y < 256) : x ^^^ y < 256 := Nat.xor_lt_two_pow (n := 8) hx hy
theorem xor_ne {x y : Nat} (h : x ≠ y) : x ^^^ y ≠ 0 := by
  intro e
  apply h
  have h3 := congrArg (· ^^^ y) e
  simpa [Nat.xor_assoc] using h3
theorem ends_of {a b : List UInt8} {p q : Nat} (h1 : ∀ j, j < p → gat a j = gat b j) (h2 : gat a p ≠ gat b p) (h3 : ∀ j, q < j → gat a j = gat b j) (h4 : gat a q ≠ gat b q) :
    SuM.Ends (dif a b) (8 * p + tz8 (gat a p ^^^ gat b p)) (8 * q + len8 (gat a q ^^^ gat b q) - 1) := by
  have hx := xor_lt8 (gat_lt a p) (gat_lt b p)
  have hy := xor_lt8 (gat_lt a q) (gat_lt b q)
  have t := tz_ok ⟨_, hx⟩
  have l := len_ok ⟨_, hy⟩
  simp only at t l
  obtain ⟨t1, t2⟩ := (t ⟨0, by decide⟩).1 (xor_ne h2)
  obtain ⟨l1, l2, l3⟩ := (l ⟨0, by decide⟩).1 (xor_ne h4)
  refine ⟨?_, fun i hi => ?_, ?_, fun i hi => ?_⟩
  · rw [dif_gat, show (8 * p + tz8 (gat a p ^^^ gat b p)) / 8 = p by omega, show (8 * p + tz8 (gat a p ^^^ gat b p)) % 8 = tz8 (gat a p ^^^ gat b p) by omega]
    exact t1
  · rw [dif_gat]
    by_cases hip : i / 8 < p
    · rw [h1 _ hip, Nat.xor_self]; simp
    · have e : i / 8 = p := by omega
      rw [e]
      exact (t ⟨i % 8, Nat.mod_lt _ (by decide)⟩).2 (by show i % 8 < _; omega)
  · rw [dif_gat, show (8 * q + len8 (gat a q ^^^ gat b q) - 1) / 8 = q by omega, show (8 * q + len8 (gat a q ^^^ gat b q) - 1) % 8 = len8 (gat a q ^^^ gat b q) - 1 by omega]
    exact l1
  · rw [dif_gat]
    by_cases hiq : q < i / 8
    · rw [h3 _ hiq, Nat.xor_self]; simp
    · have e : i / 8 = q := by omega
      rw [e]
      exact (l ⟨i % 8, Nat.mod_lt _ (by decide)⟩).2 (by show _ ≤ i % 8; omega)
theorem gat_get (s : ByteArray) (j : Nat) (h : j < s.size) : (s[j].toNat : Nat) = gat (LS s) j := by
  unfold gat LS
  have h' : j < s.data.toList.length := by rw [Array.length_toList]; exact h
  rw [List.getElem?_eq_getElem h']
  rfl
theorem gat_out (s : ByteArray) (j : Nat) (h : s.size ≤ j) : gat (LS s) j = 0 := by
  unfold gat
  rw [List.getElem?_eq_none (by rw [LS_len]; exact h)]
  rfl
theorem ne_first {a b : ByteArray} (hl : a.size = b.size) (h : a ≠ b) : ∃ j, j < a.size ∧ gat (LS a) j ≠ gat (LS b) j := by
  refine Classical.byContradiction fun hc => h ?_
  have hc' : ∀ j, j < a.size → gat (LS a) j = gat (LS b) j := fun j hj => Classical.byContradiction fun q => hc ⟨j, hj, q⟩
  rw [← BA_LS a, ← BA_LS b]
  congr 1
  apply List.ext_getElem (by rw [LS_len, LS_len, hl])
  intro j h1 h2
  have := hc' j (by rw [LS_len] at h1; exact h1)
  unfold gat at this
  rw [List.getElem?_eq_getElem h1, List.getElem?_eq_getElem h2] at this
  exact UInt8.toNat_inj.1 this
theorem burst_len (a b : ByteArray) (hl : a.size ≠ b.size) (w : World) : Calls Tryd.prog 42 #[.string a, .string b] w fun e w' => e = .returned (.tuple #[.int .i64 0, .int .i64 0, .int .i64 2]) ∧ w' = w := by
  have h : ((a.size : Int) != (b.size : Int)) = true := by rw [bne_iff_ne]; omega
  clear hl
  go_enter Tryd.func42, Tryd.ntmps42
  go_wp2
  refine bodyPost_ret (v := .tuple #[.int .i64 0, .int .i64 0, .int .i64 2]) (by simp [results, Tryd.results42, go_sem]) rfl ⟨rfl, rfl⟩
theorem burst_same (a : ByteArray) (w : World) : Calls Tryd.prog 42 #[.string a, .string a] w fun e w' => e = .returned (.tuple #[.int .i64 0, .int .i64 0, .int .i64 0]) ∧ w' = w := by
  go_enter Tryd.func42, Tryd.ntmps42
  go_wp2
  refine bodyPost_ret (v := .tuple #[.int .i64 0, .int .i64 0, .int .i64 0]) (by simp [results, Tryd.results42, go_sem]) rfl ⟨rfl, rfl⟩
theorem up_one {P : Nat → Prop} {p : Nat} (h : ∀ j, j < p → P j) (h1 : P p) : ∀ j, j < p + 1 → P j := fun j hj => by
  rcases Nat.lt_or_ge j p with q | q
  · exact h j q
  · obtain rfl : j = p := by omega
    exact h1
theorem down_one {P : Nat → Prop} {q : Nat} (h : ∀ j, q < j → P j) (h1 : P q) : ∀ j, q - 1 < j → P j := fun j hj => by
  rcases Nat.lt_or_ge q j with k | k
  · exact h j k
  · obtain rfl : j = q := by omega
    exact h1
theorem u8x (a b : Nat) (ha : a < 256) (hb : b < 256) : bits .xor .u8 (a : Int) (b : Int) = ((a ^^^ b : Nat) : Int) := u8_xor_nat a b ha hb
set_option maxHeartbeats 2000000 in
theorem burst_any (a b : ByteArray) (hl : a.size = b.size) (hne : a ≠ b) (hs : a.size ≤ 1152921504606846975) (w : World) : Calls Tryd.prog 42 #[.string a, .string b] w fun e w' => (∃ f l : Nat, SuM.Ends (dif (LS a) (LS b)) f l ∧ e = .returned (.tuple #[.int .i64 (f : Int), .int .i64 ((l - f + 1 : Nat) : Int), .int .i64 0])) ∧ Below w.heap.size w w' := by
  obtain ⟨j0, hj0, hd0⟩ := ne_first hl hne
  have hlen : ((a.size : Int) != (b.size : Int)) = false := by rw [bne_eq_false_iff_eq]; omega
  have hq := tol_false hne
  have HL := hide hl
  have HD := hide (And.intro hj0 hd0)
  clear hd0 hne hl
  go_enter Tryd.func42, Tryd.ntmps42
  go_wp2
  go_loopw [7] (fun v7 wr => ∃ p : Nat, p ≤ j0 ∧ v7 = .int .i64 (p : Int) ∧ (∀ j, j < p → gat (LS a) j = gat (LS b) j) ∧ Below w.heap.size w wr) (fun v7 _ => j0 - (intOf v7).toNat)
  case atStart => exact ⟨0, Nat.zero_le _, rfl, fun j h => by omega, Below.refl _ _⟩
  case round =>
    obtain ⟨p, hp, rfl, hpj, hb⟩ := hrel
    have hpa : p < a.size := by omega
    have hpb : p < b.size := by have := unhide HL; omega
    have ga := gat_get a p hpa
    have gb := gat_get b p hpb
    have HPJ := hide hpj
    have HB := hide hb
    clear hpj hb
    by_cases he : gat (LS a) p = gat (LS b) p
    · have hlt : p < j0 := by
        rcases Nat.lt_or_ge p j0 with h | h
        · exact h
        · obtain rfl : p = j0 := by omega
          exact absurd he (unhide HD).2
      have heq : ((a[p].toNat : Int) == (b[p].toNat : Int)) = true := by rw [ga, gb, he]; simp
      have HE := hide he
      clear he ga gb
      go_wp2
      go_quiet (fail)
      go_wp2
      go_roundw
      case rel => exact ⟨p + 1, by omega, by go_num, up_one (unhide HPJ) (unhide HE), (unhide HB).trans (below_drewN _ _ _)⟩
      case measure => simp [intOf]; omega
    · have heq : ((a[p].toNat : Int) == (b[p].toNat : Int)) = false := by rw [ga, gb, beq_eq_false_iff_ne]; omega
      have HE := hide he
      have HX := hide (u8x _ _ (gat_lt (LS a) p) (gat_lt (LS b) p))
      clear he
      go_wp2
      go_quiet (fail)
      go_wp2
      go_loopw [8] (fun v8 wr => ∃ q : Nat, j0 ≤ q ∧ q < a.size ∧ v8 = .int .i64 (q : Int) ∧ (∀ j, q < j → gat (LS a) j = gat (LS b) j) ∧ Below w.heap.size w wr) (fun v8 _ => (intOf v8).toNat - j0)
      case atStart => exact ⟨a.size - 1, by omega, by omega, int_eq (by omega), fun j h => by rw [gat_out a j (by omega), gat_out b j (by have := unhide HL; omega)], (unhide HB).trans (below_drewN _ _ _)⟩
      case round =>
        obtain ⟨q, hq1, hq2, rfl, hqj, hb⟩ := hrel
        have hqb : q < b.size := by have := unhide HL; omega
        have qa := gat_get a q hq2
        have qb := gat_get b q hqb
        have HQJ := hide hqj
        have HB2 := hide hb
        clear hqj hb
        by_cases he2 : gat (LS a) q = gat (LS b) q
        · have hlt : j0 < q := by
            rcases Nat.lt_or_ge j0 q with h | h
            · exact h
            · obtain rfl : q = j0 := by omega
              exact absurd he2 (unhide HD).2
          have heq2 : ((a[q].toNat : Int) == (b[q].toNat : Int)) = true := by rw [qa, qb, he2]; simp
          have HE2 := hide he2
          clear he2 qa qb ga gb
          go_wp2
          go_quiet (fail)
          go_wp2
          go_roundw
          case rel => exact ⟨q - 1, by omega, by omega, int_eq (by omega), down_one (unhide HQJ) (unhide HE2), (unhide HB2).trans (below_drewN _ _ _)⟩
          case measure => simp [intOf]; omega
        · have heq2 : ((a[q].toNat : Int) == (b[q].toNat : Int)) = false := by rw [qa, qb, beq_eq_false_iff_ne]; omega
          have hx1 := u8x _ _ (gat_lt (LS a) p) (gat_lt (LS b) p)
          have hx2 := u8x _ _ (gat_lt (LS a) q) (gat_lt (LS b) q)
          have hl1 := xor_lt8 (gat_lt (LS a) p) (gat_lt (LS b) p)
          have hl2 := xor_lt8 (gat_lt (LS a) q) (gat_lt (LS b) q)
          have HN := hide (ends_of (unhide HPJ) (unhide HE) (unhide HQJ) he2)
          have hfl := (unhide HN).le
          have HT := hide (tz8_any _ hl1)
          have HL8 := hide (len8_any _ hl2)
          have ht8 := tz8_le _ hl1
          have hl8 := len8_le _ hl2
          have hl80 : 0 < len8 (gat (LS a) q ^^^ gat (LS b) q) := by
            have := (len_ok ⟨_, hl2⟩ ⟨0, by decide⟩).1 (xor_ne he2)
            exact this.2.1
          clear he2 HX
          generalize gat (LS a) p ^^^ gat (LS b) p = x1 at *
          generalize gat (LS a) q ^^^ gat (LS b) q = x2 at *
          generalize tz8 x1 = t1 at *
          generalize len8 x2 = l2 at *
          go_wp2
          go_quiet (fail)
          go_wp2
          have HB3 := hide ((unhide HB2).trans (below_drewN w.heap.size wr nq))
          generalize wr.drewN nq = W0 at *
          go_quiet ((go_at_call 67; exact Calls.quiet_of_same (unhide HT _)))
          have HB4 := hide ((unhide HB3).trans (below_drewN w.heap.size W0 nq))
          generalize W0.drewN nq = W4 at *
          go_wp2
          go_quiet ((go_at_call 68; exact Calls.quiet_of_same (unhide HL8 _)))
          go_wp2
          refine bodyPost_ret (v := .tuple #[.int .i64 ((8 * p + t1 : Nat) : Int), .int .i64 ((8 * q + l2 - 1 - (8 * p + t1) + 1 : Nat) : Int), .int .i64 0]) (by simp [results, Tryd.results42, go_sem]; omega) rfl ⟨⟨_, _, unhide HN, rfl⟩, ?_⟩
          exact (unhide HB4).trans (below_drewN _ _ _)
end Go.Proofs.YtdbfpmelhokeoaaDoor

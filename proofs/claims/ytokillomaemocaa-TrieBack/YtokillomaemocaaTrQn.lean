/-
  These texts, one behind the other: TrTkM, TrTk.
-/
import Derived.Test.YtokillomaemocaaTrQc
import Derived.Laws.Bits64b
import Derived.Laws.BitsLemmas
/-
  A set of numbers as words of 64 bits: what is in it, a stretch within one word, and what it becomes.
-/
namespace Go.TrTk
set_option linter.unusedVariables false
/-- is r in the set? -/
def has (ws : List Nat) (r : Nat) : Bool := ((ws[r / 64]?).getD 0).testBit (r % 64)
/-- the bits from a on, d more than one -/
def mask (a d : Nat) : Nat := (2 ^ (d + 1) - 1) * 2 ^ a
theorem mask_bit (a d i : Nat) : (mask a d).testBit i = decide (a ≤ i ∧ i ≤ a + d) := by
  unfold mask
  rw [← Nat.shiftLeft_eq, Nat.testBit_shiftLeft, Nat.testBit_two_pow_sub_one]
  by_cases h : a ≤ i
  · by_cases h2 : i ≤ a + d
    · have : i - a < d + 1 := by omega
      simp [h, h2, this]
    · have : ¬ i - a < d + 1 := by omega
      simp [h, h2, this]
  · simp [h]
theorem mask_lt {a d : Nat} (h : a + d < 64) : mask a d < 2 ^ 64 := by
  unfold mask
  have h1 : (2 ^ (d + 1) - 1) * 2 ^ a < 2 ^ (d + 1) * 2 ^ a := Nat.mul_lt_mul_of_pos_right (Nat.sub_lt (Nat.two_pow_pos _) (by decide)) (Nat.two_pow_pos _)
  rw [← Nat.pow_add] at h1
  exact Nat.lt_of_lt_of_le h1 (Nat.pow_le_pow_right (by decide) (by omega))
theorem shr_ones {d : Nat} (h : d ≤ 63) : (2 ^ 64 - 1) / 2 ^ (63 - d) = 2 ^ (d + 1) - 1 := by
  rw [← Nat.shiftRight_eq_div_pow]
  apply Nat.eq_of_testBit_eq
  intro i
  rw [Nat.testBit_shiftRight, Nat.testBit_two_pow_sub_one, Nat.testBit_two_pow_sub_one]
  exact decide_eq_decide.2 (by omega)
theorem and_zero (w a d : Nat) : w &&& mask a d = 0 ↔ ∀ i, a ≤ i → i ≤ a + d → w.testBit i = false := by
  constructor
  · intro h i h1 h2
    have := congrArg (fun n => n.testBit i) h
    simp only [Nat.testBit_and, mask_bit, Nat.zero_testBit] at this
    simpa [h1, h2] using this
  · intro h
    apply Nat.eq_of_testBit_eq
    intro i
    rw [Nat.testBit_and, mask_bit, Nat.zero_testBit]
    by_cases h1 : a ≤ i ∧ i ≤ a + d
    · rw [h i h1.1 h1.2]; rfl
    · simp [h1]
/-- the stretch from f to e, within one word, put into the set -/
theorem has_set {ws : List Nat} {f e : Nat} (hw : f / 64 < ws.length) (hfe : f ≤ e) (hs : e / 64 = f / 64) (r : Nat) : has (ws.set (f / 64) ((ws[f / 64]?).getD 0 ||| mask (f % 64) (e - f))) r = (has ws r || decide (f ≤ r ∧ r ≤ e)) := by
  unfold has
  rw [List.getElem?_set]
  by_cases h : f / 64 = r / 64
  · rw [if_pos h, if_pos hw, Option.getD_some, Nat.testBit_or, mask_bit, h]
    congr 1
    exact decide_eq_decide.2 (by omega)
  · rw [if_neg h]
    have : ¬ (f ≤ r ∧ r ≤ e) := by
      intro ⟨h1, h2⟩
      have a1 := Nat.div_le_div_right (c := 64) h1
      have a2 := Nat.div_le_div_right (c := 64) h2
      omega
    simp [this]
theorem has_none {ws : List Nat} {f e : Nat} (hfe : f ≤ e) (hs : e / 64 = f / 64) : ((ws[f / 64]?).getD 0) &&& mask (f % 64) (e - f) = 0 ↔ ∀ r, f ≤ r → r ≤ e → has ws r = false := by
  rw [and_zero]
  constructor
  · intro h r h1 h2
    have a1 := Nat.div_le_div_right (c := 64) h1
    have a2 := Nat.div_le_div_right (c := 64) h2
    have hq : r / 64 = f / 64 := by omega
    unfold has
    rw [hq]
    exact h (r % 64) (by omega) (by omega)
  · intro h i h1 h2
    have := h (64 * (f / 64) + i) (by omega) (by omega)
    unfold has at this
    rwa [show (64 * (f / 64) + i) / 64 = f / 64 by omega, show (64 * (f / 64) + i) % 64 = i by omega] at this
end Go.TrTk
/-
  Numbers taken into a set of them.
-/
namespace Go.Proofs.Ytokillomaemocaa.Tk
open Go.RowKit Go.PlainAid Go.Lib Go.PRow Go.TrTk
set_option linter.unusedVariables false
set_option linter.unusedSimpArgs false
theorem hide {p : Prop} (h : p) : Hid p := h
theorem unhide {p : Prop} (h : Hid p) : p := h
/-- the words ws at g -/
structure WsAt (w : World) (g : Nat) (ws : List Nat) : Prop where
  hh : w.heap[g]? = some (.cells (ws.map fun (x : Nat) => Value.int .u64 (x : Int)).toArray 202 (0, 0))
  len : ws.length = 17408
  small : ∀ i : Nat, (ws[i]?).getD 0 < 18446744073709551616
theorem WsAt.cell {w : World} {g : Nat} {ws : List Nat} (h : WsAt w g ws) {i : Nat} (hi : i < 17408) : w.cell? ⟨g, i, none⟩ = some (.int .u64 (((ws[i]?).getD 0 : Nat) : Int)) := by
  have : ws[i]? = some (ws[i]'(by rw [h.len]; exact hi)) := List.getElem?_eq_getElem _
  simp [World.cell?, h.hh, this]
theorem or63 (f : Nat) (h : f < 1114112) : bits .or .i32 (f : Int) 63 = ((64 * (f / 64) + 63 : Nat) : Int) := by
  have := (bits_nat .i32 31 (by decide) (fun n h0 h1 => wraps_i32 n h0 h1) f 63 (by omega) (by decide)).2
  rw [show ((63 : Int)) = ((63 : Nat) : Int) from rfl, this]
  congr 1
  have e : f ||| 63 = 64 * (f / 64) + 63 := by
    apply Nat.eq_of_testBit_eq
    intro i
    rw [Nat.testBit_or, show 63 = 2 ^ 6 - 1 from rfl, Nat.testBit_two_pow_sub_one, show 64 * (f / 64) + (2 ^ 6 - 1) = 2 ^ 6 * (f / 2 ^ 6) + (2 ^ 6 - 1) from rfl, Nat.testBit_two_pow_mul_add _ (by decide)]
    by_cases hi : i < 6
    · rw [if_pos hi, Nat.testBit_two_pow_sub_one]
      simp [hi]
    · rw [if_neg hi, Nat.testBit_div_two_pow]
      have : i - 6 + 6 = i := by omega
      simp [hi, this]
  exact e
theorem mask_wrap {a d : Nat} (h : a + d < 64) : IntKind.u64.wrap (18446744073709551615 / 2 ^ (63 - d) * 2 ^ a) = ((mask a d : Nat) : Int) := by
  have e : (18446744073709551615 : Int) / 2 ^ (63 - d) * 2 ^ a = ((mask a d : Nat) : Int) := by
    have h1 := shr_ones (d := d) (by omega)
    have h2 : (18446744073709551615 / 2 ^ (63 - d) : Nat) = 2 ^ (d + 1) - 1 := h1
    unfold mask
    rw [← h2, Int.natCast_mul, Int.natCast_ediv, Int.natCast_pow, Int.natCast_pow]
    rfl
  rw [e, IntKind.wrap_u64]
  have := mask_lt h
  have h64 : (2 : Nat) ^ 64 = 18446744073709551616 := rfl
  omega
theorem WsAt.set {w : World} {g : Nat} {ws : List Nat} (h : WsAt w g ws) {i x : Nat} (hi : i < 17408) (hx : x < 18446744073709551616) : WsAt (w.setCell ⟨g, i, none⟩ (.int .u64 (x : Int))) g (ws.set i x) := by
  refine ⟨?_, by rw [List.length_set]; exact h.len, fun j => ?_⟩
  · simp only [World.setCell, Array.getElem?_modify, if_true, h.hh, Option.map_some]
    simp [List.map_set]
  · rw [List.getElem?_set]
    split
    · split
      · exact hx
      · decide
    · exact h.small j
theorem or_lt {a b : Nat} (ha : a < 18446744073709551616) (hb : b < 18446744073709551616) : a ||| b < 18446744073709551616 := Nat.or_lt_two_pow (n := 64) ha hb
set_option maxRecDepth 100000 in
set_option maxHeartbeats 4000000 in
theorem take_any (Q : Ending → World → Prop) (w : World) (B g cap : Nat) (hB : B ≤ g) (ws : List Nat) (h : WsAt w g ws) (f0 t : Nat) (hf : f0 ≤ t) (ht : t < 1114112)
    (hT : Hid (∀ w' us, WsAt w' g us → (∀ r, has us r = (has ws r || decide (f0 ≤ r ∧ r ≤ t))) → (∀ r, f0 ≤ r → r ≤ t → has ws r = false) → Below B w w' → w'.heap.size = w.heap.size → Q (.returned (.bool true)) w'))
    (hF : Hid (∀ w', (∃ r, f0 ≤ r ∧ r ≤ t ∧ has ws r = true) → Below B w w' → w'.heap.size = w.heap.size → Q (.returned (.bool false)) w')) :
    Calls Try.prog 85 #[.slice (some ⟨g, 0, none⟩) 17408 cap, .int .i32 f0, .int .i32 t] w Q := by
  have HW := hide h
  clear h
  go_enter Try.func85, Try.ntmps85
  go_wp2_with fail
  go_loopw [1] (fun v1 wr => ∃ (f : Nat) (us : List Nat), f0 ≤ f ∧ f ≤ t + 1 ∧ v1 = .int .i32 f ∧ WsAt wr g us ∧ (∀ r, has us r = (has ws r || decide (f0 ≤ r ∧ r < f))) ∧ (∀ r, f0 ≤ r → r < f → has ws r = false) ∧ Below B w wr ∧ wr.heap.size = w.heap.size) (fun v1 _ => t + 1 - (RowKit.intOf v1).toNat)
  case atStart => exact ⟨f0, ws, Nat.le_refl _, by omega, rfl, unhide HW, fun r => by rw [decide_eq_false (by omega), Bool.or_false], fun r h1 h2 => by omega, Below.refl _ _, rfl⟩
  case round =>
    obtain ⟨f, us, hf1, hf2, rfl, hU, hr1, hr2, hb1, hz1⟩ := hrel
    by_cases hlt : f ≤ t
    · have hle : (f : Int) ≤ (t : Int) := by omega
      have ho := or63 f (by omega)
      have hc := hU.cell (i := f / 64) (by omega)
      have hsm := hU.small (f / 64)
      have hfz : wr.frozen? ⟨g, f / 64, none⟩ = false := by simp [World.frozen?, hU.hh]
      have HU := hide (And.intro hU (And.intro hr1 (And.intro hr2 (And.intro hb1 hz1))))
      clear hU HW hr1 hr2 hb1 hz1
      obtain ⟨e, he1, he2, he3, heI⟩ : ∃ e, f ≤ e ∧ e / 64 = f / 64 ∧ e ≤ t ∧ (e = t ∧ t ≤ 64 * (f / 64) + 63 ∨ e = 64 * (f / 64) + 63 ∧ 64 * (f / 64) + 63 < t) := by
        by_cases q : t ≤ 64 * (f / 64) + 63
        · exact ⟨t, hlt, by omega, Nat.le_refl _, .inl ⟨rfl, q⟩⟩
        · exact ⟨64 * (f / 64) + 63, by omega, by omega, by omega, .inr ⟨rfl, by omega⟩⟩
      have hmw := mask_wrap (a := f % 64) (d := e - f) (by omega)
      have hml : mask (f % 64) (e - f) < 18446744073709551616 := mask_lt (by omega)
      have han := bits_and_u64_nat _ _ hsm hml
      have hor := bits_or_u64_nat _ _ hsm hml
      have HNO := hide (has_none (ws := us) he1 he2)
      have HSE := hide (fun r => has_set (ws := us) (by rw [(unhide HU).1.len]; omega) he1 he2 r)
      have HSW := hide ((unhide HU).1.set (i := f / 64) (by omega) (or_lt hsm hml))
      generalize mask (f % 64) (e - f) = M at *
      generalize (us[f / 64]?).getD 0 = u at *
      have hwe : IntKind.i32.wrap ((e : Int) + 1) = ((e + 1 : Nat) : Int) := by rw [IntKind.wrap_i32]; omega
      have HE := hide (And.intro he1 (And.intro he2 he3))
      rcases heI with ⟨rfl, hq⟩ | ⟨rfl, hq⟩
      · have hq' : ¬ (64 * ((f : Int) / 64) + 63 < (e : Int)) := by omega
        have hk : (63 - ((e : Int) - (f : Int))).toNat = 63 - (e - f) := by omega
        by_cases hz : u &&& M = 0
        · have hz' : (((u &&& M : Nat) : Int) != 0) = false := by rw [hz]; rfl
          have HZ := hide hz
          clear hz
          go_wp2_with (first | (rw [hk, hmw]) | (rw [han]))
          obtain ⟨hU, hr1, hr2, hb1, hz1⟩ := unhide HU
          have hn := (unhide HNO).1 (unhide HZ)
          refine ⟨⟨e + 1, us.set (f / 64) (u ||| M), by omega, by omega, by (congr 1; try omega), unhide HSW, fun r => ?_, fun r h1 h2 => ?_, hb1.setCell hB _, by rw [World.size_setCell]; exact hz1⟩, by simp [RowKit.intOf]; omega⟩
          · rw [unhide HSE r, hr1 r, Bool.or_assoc, ← Bool.decide_or]
            congr 1
            exact decide_eq_decide.2 (by omega)
          · by_cases h3 : r < f
            · exact hr2 r h1 h3
            · have := hn r (by omega) (by omega)
              rw [hr1 r] at this
              exact (Bool.or_eq_false_iff.1 this).1
        · have hz' : (((u &&& M : Nat) : Int) != 0) = true := by simpa using hz
          have HZ := hide hz
          clear hz
          go_wp2_with (first | (rw [hk, hmw]) | (rw [han]))
          obtain ⟨hU, hr1, hr2, hb1, hz1⟩ := unhide HU
          refine unhide hF wr ?_ hb1 hz1
          have hn : ¬ ∀ r, f ≤ r → r ≤ e → has us r = false := fun q => unhide HZ ((unhide HNO).2 q)
          obtain ⟨r, hr⟩ := Classical.not_forall.1 hn
          obtain ⟨q1, hr⟩ := Classical.not_forall.1 hr
          obtain ⟨q2, hr⟩ := Classical.not_forall.1 hr
          rw [hr1 r, decide_eq_false (by omega), Bool.or_false] at hr
          exact ⟨r, by omega, by omega, by simpa using hr⟩
      · have hq' : 64 * ((f : Int) / 64) + 63 < (t : Int) := by omega
        have hk : (63 - (64 * ((f : Int) / 64) + 63 - (f : Int))).toNat = 63 - (64 * (f / 64) + 63 - f) := by omega
        by_cases hz : u &&& M = 0
        · have hz' : (((u &&& M : Nat) : Int) != 0) = false := by rw [hz]; rfl
          have HZ := hide hz
          clear hz
          go_wp2_with (first | (rw [hk, hmw]) | (rw [han]))
          obtain ⟨hU, hr1, hr2, hb1, hz1⟩ := unhide HU
          have hn := (unhide HNO).1 (unhide HZ)
          refine ⟨⟨(64 * (f / 64) + 63) + 1, us.set (f / 64) (u ||| M), by omega, by omega, by (congr 1; try omega), unhide HSW, fun r => ?_, fun r h1 h2 => ?_, hb1.setCell hB _, by rw [World.size_setCell]; exact hz1⟩, by simp [RowKit.intOf]; omega⟩
          · rw [unhide HSE r, hr1 r, Bool.or_assoc, ← Bool.decide_or]
            congr 1
            exact decide_eq_decide.2 (by omega)
          · by_cases h3 : r < f
            · exact hr2 r h1 h3
            · have := hn r (by omega) (by omega)
              rw [hr1 r] at this
              exact (Bool.or_eq_false_iff.1 this).1
        · have hz' : (((u &&& M : Nat) : Int) != 0) = true := by simpa using hz
          have HZ := hide hz
          clear hz
          go_wp2_with (first | (rw [hk, hmw]) | (rw [han]))
          obtain ⟨hU, hr1, hr2, hb1, hz1⟩ := unhide HU
          refine unhide hF wr ?_ hb1 hz1
          have hn : ¬ ∀ r, f ≤ r → r ≤ (64 * (f / 64) + 63) → has us r = false := fun q => unhide HZ ((unhide HNO).2 q)
          obtain ⟨r, hr⟩ := Classical.not_forall.1 hn
          obtain ⟨q1, hr⟩ := Classical.not_forall.1 hr
          obtain ⟨q2, hr⟩ := Classical.not_forall.1 hr
          rw [hr1 r, decide_eq_false (by omega), Bool.or_false] at hr
          exact ⟨r, by omega, by omega, by simpa using hr⟩
    · have hle : ¬ ((f : Int) ≤ (t : Int)) := by omega
      have HQ := hide (And.intro hU (And.intro hr1 (And.intro hr2 (And.intro hb1 hz1))))
      clear hU hr1 hr2 hb1 hz1 HW
      go_wp2
      obtain ⟨hU, hr1, hr2, hb1, hz1⟩ := unhide HQ
      exact unhide hT wr us hU (fun r => by rw [hr1 r]; congr 1; exact decide_eq_decide.2 (by omega)) (fun r h1 h2 => hr2 r h1 (by omega)) hb1 hz1
end Go.Proofs.Ytokillomaemocaa.Tk

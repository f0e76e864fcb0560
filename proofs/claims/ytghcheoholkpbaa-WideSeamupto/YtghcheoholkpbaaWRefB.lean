/-
  The document's answer for layer 2: UnitAt, ByteAt; and what the program's answer there, for every place.
-/
import Derived.Test.YtghcheoholkpbaaWRefA
import Derived.Test.YtghcheoholkpbaaRefSpots
namespace Go.Proofs.Ytghcheoholkpbaa
open Go.RowKit Go.PlainAid Go.Lib
set_option linter.unusedVariables false

theorem chars_mem (s : ByteArray) : ∀ (k i : Nat), s.size - i ≤ k → ∀ p ∈ chars s i, p.1 < s.size ∧ p.2 = (Utf8.decode s p.1).1 := by
  intro k
  induction k with
  | zero => intro i h p hp; rw [chars_end s i (by omega)] at hp; simp at hp
  | succ k ih =>
    intro i h p hp
    by_cases hi : i < s.size
    · have hb := dec_bounds s i hi
      rw [chars_step s i hi] at hp
      rcases List.mem_cons.1 hp with e | e
      · subst e; exact ⟨hi, rfl⟩
      · exact ih _ (by omega) p e
    · rw [chars_end s i hi] at hp; simp at hp
/-- one more of the Spots -/
theorem drop_char (s : ByteArray) (i : Nat) (hi : i < (places s).length) : ∃ x, (places s)[i]? = some x ∧ (chars s 0).drop i = (x, (Utf8.decode s x).1) :: (chars s 0).drop (i + 1) := by
  have hi' : i < (chars s 0).length := by rw [places_length] at hi; exact hi
  refine ⟨((chars s 0)[i]).1, ?_, ?_⟩
  · unfold places; rw [List.getElem?_map, List.getElem?_eq_getElem hi']; rfl
  · rw [List.drop_eq_getElem_cons hi']
    have := (chars_mem s s.size 0 (by omega) _ (List.getElem_mem hi')).2
    rw [← this]
/-- what UnitAt answers, and ByteAt -/
def unitV2 (s : ByteArray) (z : Int) : Int × Int := if z < 0 ∨ (s.size : Int) < z then (0, 2) else unitR s z
def byteV2 (s : ByteArray) (z : Int) : Int × Int := if z < 0 then (0, 2) else byteR s z
theorem unitAt_any (s : ByteArray) (z : Int) (w : World) (hs : s.size ≤ 1099511627776) :
    Calls Try.prog 40 #[.string s, .int .i64 z] w fun e w' => e = .returned (.tuple #[.int .i64 (unitV2 s z).1, .int .i64 (unitV2 s z).2]) ∧ Below w.heap.size w w' := by
  unfold unitV2
  by_cases h : z < 0 ∨ (s.size : Int) < z
  · rw [if_pos h]; exact unitAt_out s z w h
  · rw [if_neg h]; exact unitAt_in s z w hs (by omega) (by omega)
theorem byteAt_any (s : ByteArray) (z : Int) (w : World) (hs : s.size ≤ 1099511627776) :
    Calls Try.prog 42 #[.string s, .int .i64 z] w fun e w' => e = .returned (.tuple #[.int .i64 (byteV2 s z).1, .int .i64 (byteV2 s z).2]) ∧ Below w.heap.size w w' := by
  unfold byteV2
  by_cases h : z < 0
  · rw [if_pos h]; exact byteAt_out s z w h
  · rw [if_neg h]; exact byteAt_in s z w hs (by omega)
theorem ret_pair {a b : Int} {p : Int × Int} (h : p = (a, b)) : Ending.returned (.tuple #[.int .i64 a, .int .i64 b]) = .returned (.tuple #[.int .i64 p.1, .int .i64 p.2]) := by rw [h]
theorem pre_snoc {pre : List (Nat × Nat)} {x n : Nat} {f : Nat × Nat → Nat} {z : Int} (h : ∀ y ∈ pre, (f y : Int) ≠ z) (hx : (f (x, n) : Int) ≠ z) : ∀ y ∈ pre ++ [(x, n)], (f y : Int) ≠ z := by
  intro y hy
  rcases List.mem_append.1 hy with hy | hy
  · exact h y hy
  · simp at hy; rw [hy]; exact hx

set_option maxRecDepth 100000 in
set_option maxHeartbeats 2000000 in
theorem rUnitAt_any (s : ByteArray) (z : Int) (w : World) (hs : s.size ≤ 1099511627776) :
    Calls Try.prog 41 #[.string s, .int .i64 z] w fun e w' => e = .returned (.tuple #[.int .i64 (unitV2 s z).1, .int .i64 (unitV2 s z).2]) ∧ Below w.heap.size w w' := by
  by_cases hz : z < 0 ∨ (s.size : Int) < z
  · have HV : Hid (unitV2 s z = (0, 2)) := by show _ = _; unfold unitV2; rw [if_pos hz]
    have hd : (decide (z < 0) = true) ∨ (decide (z < 0) = false ∧ decide ((s.size : Int) < z) = true) := by
      by_cases h' : z < 0
      · left; simpa using h'
      · right; exact ⟨by simpa using h', by simp; omega⟩
    rcases hd with d1 | ⟨d1, d2⟩
    all_goals
      go_enter Try.func41, Try.ntmps41
      go_wp2
      go_returns
      exact ⟨ret_pair (unhide HV), Below.refl _ _⟩
  · have HV : Hid (unitV2 s z = unitR s z) := by show _ = _; unfold unitV2; rw [if_neg hz]
    have d1 : decide (z < 0) = false := by simp; omega
    have d2 : decide ((s.size : Int) < z) = false := by simp; omega
    have hcl := chars_length s 0
    have hpl := places_length s
    have HSP := hide (fun w => refSpots_any s w hs)
    go_enter Try.func41, Try.ntmps41
    go_wp2_with fail
    refine (unhide HSP _).mono ?_
    rintro e w1 ⟨v1, rfl, hrow1, hb1⟩
    obtain ⟨a, c, rfl, hnl, hsp⟩ := sc_row hrow1
    have HSA := hide hsp
    have HDC := hide (fun i hi => drop_char s i hi)
    clear hsp hrow1 hnl HSP
    generalize hN : (places s).length = N at *
    have HN := hide hN
    clear hN
    go_wp2
    go_loop [7, 8] (fun v7 v8 => ∃ (i n : Nat) (pre : List (Nat × Nat)), i ≤ N ∧ v8 = .int .i64 i ∧ v7 = .int .i64 n ∧ n ≤ 2 * i ∧ Hid (ust s = pre ++ ustL s.size ((chars s 0).drop i) n) ∧ Hid (∀ y ∈ pre, (y.1 : Int) ≠ z)) (fun _ v8 => N - (intOf v8).toNat)
    case atStart => exact ⟨0, 0, [], Nat.zero_le _, rfl, rfl, Nat.le_refl _, rfl, hide (by simp)⟩
    case round =>
      obtain ⟨i, n, pre, hi, rfl, rfl, hn, HU, HPRE⟩ := hrel
      by_cases hlt : i < N
      · obtain ⟨x, hx, hdr⟩ := unhide HDC i hlt
        obtain ⟨g, rfl, s0, s1, s2, s3⟩ := unhide HSA i x hx
        have hu : ust s = pre ++ (x, n) :: ustL s.size ((chars s 0).drop (i + 1)) (n + wNn (Utf8.decode s x).1) := by rw [HU.out, hdr]; rfl
        have hw := wN_nat (Utf8.decode s x).1
        have hwb := wNn_bounds (Utf8.decode s x).1
        clear hdr hx HU
        by_cases he : (x : Int) = z
        · have HUY := hide (unit_yes s pre _ (x, n) hu)
          have hq : ((x : Int) == z) = true := by simpa using he
          have HE := hide he
          clear he hu
          go_wp2
          go_returns
          exact ⟨ret_pair (by rw [unhide HV, ← unhide HE]; exact unhide HUY), hb1⟩
        · have hq : ((x : Int) == z) = false := by simpa using he
          have HU2 : Hid (ust s = (pre ++ [(x, n)]) ++ ustL s.size ((chars s 0).drop (i + 1)) (n + wNn (Utf8.decode s x).1)) := by show _ = _; rw [hu, List.append_assoc]; rfl
          have HP2 := hide (pre_snoc (f := fun y => y.1) (n := n) (unhide HPRE) he)
          clear he hu
          generalize (Utf8.decode s x).1 = R at *
          go_wp2_with (go_at_call 19; refine (rWidth_any _ _).mono ?_; rintro e w' ⟨rfl, rfl⟩; rw [hw])
          go_round
          case rel => exact ⟨i + 1, n + wNn R, _, by omega, by go_num, by go_num, by omega, HU2, HP2⟩
          case measure => simp [intOf]; omega
      · have hdn : (chars s 0).drop i = [] := List.drop_eq_nil_of_le (by omega)
        have hu : ust s = pre ++ [(s.size, n)] := by rw [HU.out, hdn]; rfl
        by_cases he : z = (s.size : Int)
        · have HUY := hide (unit_yes s pre [] (s.size, n) hu)
          have hq : (z == (s.size : Int)) = true := by simpa using he
          have HE := hide he
          clear he hu hdn HU
          go_wp2
          go_returns
          exact ⟨ret_pair (by rw [unhide HV, unhide HE]; exact unhide HUY), hb1⟩
        · have hq : (z == (s.size : Int)) = false := by simpa using he
          have HUN := hide (unit_no s z (by rw [hu]; exact pre_snoc (f := fun y => y.1) (n := n) (unhide HPRE) (fun e => he e.symm)))
          clear he hu hdn HU
          go_wp2
          go_returns
          exact ⟨ret_pair (by rw [unhide HV]; exact unhide HUN), hb1⟩

set_option maxRecDepth 100000 in
set_option maxHeartbeats 2000000 in
theorem rByteAt_any (s : ByteArray) (z : Int) (w : World) (hs : s.size ≤ 1099511627776) :
    Calls Try.prog 43 #[.string s, .int .i64 z] w fun e w' => e = .returned (.tuple #[.int .i64 (byteV2 s z).1, .int .i64 (byteV2 s z).2]) ∧ Below w.heap.size w w' := by
  have hcl := chars_length s 0
  have hpl := places_length s
  have HSP := hide (fun w => refSpots_any s w hs)
  go_enter Try.func43, Try.ntmps43
  go_wp2_with fail
  refine (unhide HSP _).mono ?_
  rintro e w1 ⟨v1, rfl, hrow1, hb1⟩
  obtain ⟨a, c, rfl, hnl, hsp⟩ := sc_row hrow1
  have HSA := hide hsp
  have HDC := hide (fun i hi => drop_char s i hi)
  clear hsp hrow1 hnl HSP
  generalize hN : (places s).length = N at *
  have HN := hide hN
  clear hN
  go_wp2
  go_loop [7, 8] (fun v7 v8 => ∃ (i n : Nat) (pre : List (Nat × Nat)), i ≤ N ∧ v8 = .int .i64 i ∧ v7 = .int .i64 n ∧ n ≤ 2 * i ∧ Hid (ust s = pre ++ ustL s.size ((chars s 0).drop i) n) ∧ Hid (∀ y ∈ pre, (y.2 : Int) ≠ z)) (fun _ v8 => N - (intOf v8).toNat)
  case atStart => exact ⟨0, 0, [], Nat.zero_le _, rfl, rfl, Nat.le_refl _, rfl, hide (by simp)⟩
  case round =>
    obtain ⟨i, n, pre, hi, rfl, rfl, hn, HU, HPRE⟩ := hrel
    by_cases hlt : i < N
    · obtain ⟨x, hx, hdr⟩ := unhide HDC i hlt
      obtain ⟨g, rfl, s0, s1, s2, s3⟩ := unhide HSA i x hx
      have hu : ust s = pre ++ (x, n) :: ustL s.size ((chars s 0).drop (i + 1)) (n + wNn (Utf8.decode s x).1) := by rw [HU.out, hdr]; rfl
      have hw := wN_nat (Utf8.decode s x).1
      have hwb := wNn_bounds (Utf8.decode s x).1
      clear hdr hx HU
      by_cases he : (n : Int) = z
      · have HUY := hide (byte_yes s pre _ (x, n) hu)
        have hq : ((n : Int) == z) = true := by simpa using he
        have HV : Hid (byteV2 s z = byteR s z) := by show _ = _; unfold byteV2; rw [if_neg (by omega)]
        have HE := hide he
        clear he hu
        go_wp2
        go_returns
        exact ⟨ret_pair (by rw [unhide HV, ← unhide HE]; exact unhide HUY), hb1⟩
      · have hq : ((n : Int) == z) = false := by simpa using he
        have HU2 : Hid (ust s = (pre ++ [(x, n)]) ++ ustL s.size ((chars s 0).drop (i + 1)) (n + wNn (Utf8.decode s x).1)) := by show _ = _; rw [hu, List.append_assoc]; rfl
        have HP2 := hide (pre_snoc (f := fun y => y.2) (x := x) (unhide HPRE) he)
        clear he hu
        generalize (Utf8.decode s x).1 = R at *
        go_wp2_with (go_at_call 19; refine (rWidth_any _ _).mono ?_; rintro e w' ⟨rfl, rfl⟩; rw [hw])
        go_round
        case rel => exact ⟨i + 1, n + wNn R, _, by omega, by go_num, by go_num, by omega, HU2, HP2⟩
        case measure => simp [intOf]; omega
    · have hdn : (chars s 0).drop i = [] := List.drop_eq_nil_of_le (by omega)
      have hu : ust s = pre ++ [(s.size, n)] := by rw [HU.out, hdn]; rfl
      have htot : n = (units (nums s 0)).length := by
        obtain ⟨pre', e⟩ := ust_last s
        rw [hu] at e
        have := List.append_inj_right' e rfl
        simpa using this
      by_cases he : (n : Int) = z
      · have HUY := hide (byte_yes s pre [] (s.size, n) hu)
        have hq : ((n : Int) == z) = true := by simpa using he
        have HV : Hid (byteV2 s z = byteR s z) := by show _ = _; unfold byteV2; rw [if_neg (by omega)]
        have HE := hide he
        clear he hu hdn HU htot
        go_wp2
        go_returns
        exact ⟨ret_pair (by rw [unhide HV, ← unhide HE]; exact unhide HUY), hb1⟩
      · have hq : ((n : Int) == z) = false := by simpa using he
        have hbn := byte_no s z (by rw [hu]; exact pre_snoc (f := fun y => y.2) (x := s.size) (unhide HPRE) he)
        rw [← htot] at hbn
        by_cases hz : z < 0
        · have HV : Hid (byteV2 s z = (0, 2)) := by show _ = _; unfold byteV2; rw [if_pos hz]
          have d1 : decide (z < 0) = true := by simpa using hz
          clear he hu hdn HU htot hbn
          go_wp2
          go_returns
          exact ⟨ret_pair (unhide HV), hb1⟩
        · have d1 : decide (z < 0) = false := by simp; omega
          by_cases hg : (n : Int) < z
          · have HV : Hid (byteV2 s z = (0, 2)) := by show _ = _; unfold byteV2; rw [if_neg hz, hbn, if_pos hg]
            have d2 : decide ((n : Int) < z) = true := by simpa using hg
            clear he hu hdn HU htot hbn
            go_wp2
            go_returns
            exact ⟨ret_pair (unhide HV), hb1⟩
          · have HV : Hid (byteV2 s z = (0, 23)) := by show _ = _; unfold byteV2; rw [if_neg hz, hbn, if_neg hg]
            have d2 : decide ((n : Int) < z) = false := by simp; omega
            clear he hu hdn HU htot hbn
            go_wp2
            go_returns
            exact ⟨ret_pair (unhide HV), hb1⟩

end Go.Proofs.Ytghcheoholkpbaa

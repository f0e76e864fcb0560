/-
  UtfJoined: what two texts stand for, one behind the other, is what the first stands for and then the second, where the document says so: for every two texts that hold together at most 1048576 letters.
-/
import Derived.Test.YtgffibonikcecabLives
import Derived.Test.YtgffibonikcecabJoin
import Derived.Test.YtgffibonikcecabBulk
import Derived.Deep.QuietTactic
import Derived.BigQuiet
import Derived.ProofKit
import Derived.OpenShut
import Derived.ShutString
import Derived.ChangeOld
import Derived.JoinedCond
namespace Go.Proofs.Ytgffibonikcecab.utfJoined
open Go.ChangeShapes Go.WideShapes Go.ChangeAt Go.RowKit Go.PlainAid Go.Lib
open Go.ChangeMaps (open_string shut_string)
set_option linter.unusedVariables false

theorem below2 {a b c : World} (h : Below a.heap.size a b) (k : Below b.heap.size b c) : Below a.heap.size a c := h.trans (k.mono h.size)
/-- the k-th rune of a text, as a number -/
def runeAt (s : ByteArray) (k : Nat) : Int := (((chars s 0).map (·.2)).getD k 0 : Nat)
theorem runeVals_at (s : ByteArray) (k : Nat) (h : k < (chars s 0).length) : (runeVals s)[k]? = some (.int .i32 (runeAt s k)) := by
  simp [runeVals, runeAt, List.getElem?_eq_getElem h, List.getD]
theorem check_right {s : ByteArray} {a : Nat} {c : Int} (h : checkV s a c) : c = 0 → ∀ i ∈ (chars s 0).map (·.1), whyN (s.extract i s.size) = 0 := by
  intro hc
  rcases h with ⟨h, _, _⟩ | ⟨pre, rest, _, _, h3, h4⟩
  · exact h
  · exact absurd (h4.symm.trans hc) h3

set_option maxRecDepth 100000 in
set_option maxHeartbeats 4000000 in
theorem walk (s t : ByteArray) (w : World) (hs : s.size ≤ 1048576) (ht : t.size ≤ 1048576) :
    Calls Try.prog 5 #[.string s, .string t] w fun e w' => e = .returned (.bool true) ∧ Below w.heap.size w w' := by
  go_enter Try.func5, Try.ntmps5
  go_wp2_with fail
  refine (check_any s _ (by unfold maxLen; omega)).mono ?_
  rintro e w1 ⟨a, c, hcv, rfl, hb1⟩
  have hb := get_bt t
  have b0 := bt_nonneg t 0
  have b1 := bt_le t 0
  have bn := bt_bN t 0
  have BN := hide bn
  clear bn
  by_cases hA : c ≠ 0 ∧ 0 < t.size ∧ 128 ≤ bt t 0 ∧ bt t 0 ≤ 191
  · obtain ⟨h1, h2, h3, h4⟩ := hA
    have h1' : (c != 0) = true := by simp [h1]
    have he := empty_no t h2
    clear h1 hcv
    go_wp2_with (go_at_call 9; refine (lives_any _).mono ?_; rintro e w' ⟨rfl, hb2⟩)
    go_ret
    exact ⟨rfl, below2 hb1 hb2⟩
  · have hM : runeVals (s ++ t) = runeVals s ++ runeVals t := by
      refine runeVals_append s t ?_
      by_cases hc : c = 0
      · exact .inl (check_right hcv hc)
      · right
        by_cases h0 : 0 < t.size
        · right
          have := unhide BN
          omega
        · left; omega
    have HM := hide hM
    clear hM hcv
    have hcs : (c != 0) = false ∨ ((c != 0) = true ∧ (t.toList.isEmpty = true ∨ (t.toList.isEmpty = false ∧ 0 < t.size ∧ (bt t 0 < 128 ∨ (128 ≤ bt t 0 ∧ 191 < bt t 0))))) := by
      by_cases hc : c = 0
      · left; simp [hc]
      · right
        refine ⟨by simp [hc], ?_⟩
        by_cases h0 : 0 < t.size
        · right
          exact ⟨empty_no t h0, h0, by omega⟩
        · left; exact empty_yes t (by omega)
    clear hA
    rcases hcs with q1 | ⟨q1, q2 | ⟨q2, q3, q4 | ⟨q4, q5⟩⟩⟩
    all_goals
      go_wp2_with fail
      refine (runes_any s _ (by omega)).mono ?_
      rintro e w2 ⟨cap2, rfl, hown2, hb2⟩
      have hl1 := chars_length s 0
      have hl2 := chars_length t 0
      have hr2 := own_zero hown2
      have hv1 := fun k h => runeVals_at s k h
      have hv2 := fun k h => runeVals_at t k h
      have hlM : (chars (s ++ t) 0).length = (chars s 0).length + (chars t 0).length := by
        have := congrArg List.length (unhide HM)
        rw [List.length_append, runeVals_len, runeVals_len, runeVals_len] at this; exact this
      have HV1 := hide hv1
      have HV2 := hide hv2
      have HR2 := hide hr2
      have hB2 := below2 hb1 hb2
      clear hown2 hr2 hv1 hv2 hb1 hb2
      generalize hn1 : (chars s 0).length = n1 at *
      generalize hn2 : (chars t 0).length = n2 at *
      clear hn1
      go_wp2_with fail
      refine (runes_any t _ (by omega)).mono ?_
      rintro e w3 ⟨cap3, rfl, hown3, hb3⟩
      rw [hn2] at hown3 ⊢
      clear hn2
      have HR3 := hide (own_zero hown3)
      have HR2' := hide (row_below (unhide HR2) hb3)
      have hB3 := below2 hB2 hb3
      clear hown3 HR2 hB2 hb3
      have hsum : (s ++ t).size ≤ 2097152 := by rw [ByteArray.size_append]; omega
      go_wp2_with fail
      refine (runes_any (s ++ t) _ (by omega)).mono ?_
      rintro e w4 ⟨cap4, rfl, hown4, hb4⟩
      rw [hlM] at hown4 ⊢
      rw [unhide HM] at hown4
      have hr4 := own_zero hown4
      have hr3 := row_below (unhide HR3) hb4
      have hr2 := row_below (unhide HR2') hb4
      have hB4 := below2 hB3 hb4
      have hcells : ∀ k, k < n1 → w4.cell? ⟨w3.heap.size, k, none⟩ = some (.int .i32 (runeAt s k)) ∧ w4.cell? ⟨w1.heap.size, k, none⟩ = some (.int .i32 (runeAt s k)) := by
        intro k hk
        refine ⟨(hr4.cellAt k (by omega)).trans ?_, (hr2.cellAt k (by omega)).trans (unhide HV1 k hk)⟩
        have h1 := unhide HV1 k hk
        rw [List.getElem?_append_left (List.getElem?_eq_some_iff.1 h1).1]; exact h1
      have hcells2 : ∀ k, k < n2 → w4.cell? ⟨w3.heap.size, n1 + k, none⟩ = some (.int .i32 (runeAt t k)) ∧ w4.cell? ⟨w2.heap.size, k, none⟩ = some (.int .i32 (runeAt t k)) := by
        intro k hk
        have hl : (runeVals s).length = n1 := by have := hr2.1; omega
        refine ⟨(hr4.cellAt (n1 + k) (by omega)).trans ?_, (hr3.cellAt k (by omega)).trans (unhide HV2 k hk)⟩
        rw [List.getElem?_append_right (by omega), hl, Nat.add_sub_cancel_left]; exact unhide HV2 k hk
      have HC1 := hide hcells
      have HC2 := hide hcells2
      clear hcells hcells2 hr4 hr3 hr2 hown4 HR3 HR2' hb4 hB3 HV1 HV2 HM hlM
      go_wp2
      go_loopw [10] (fun v10 wr => ∃ k m : Nat, k ≤ n1 + n2 ∧ v10 = .int .i64 k ∧ wr = w4.drewN m) (fun v10 _ => n1 + n2 - (intOf v10).toNat)
      case atStart => exact ⟨0, 0, Nat.zero_le _, rfl, rfl⟩
      case round =>
        obtain ⟨k, m, hk, rfl, rfl⟩ := hrel
        by_cases hkl : k < n1 + n2
        · by_cases hk1 : k < n1
          · obtain ⟨c1, c2⟩ := unhide HC1 k hk1
            have hd : decide ((n1 : Int) ≤ (k : Int)) = false := by simp; omega
            generalize runeAt s k = r at *
            have hrr : (r != r) = false := by simp
            have hkk : decide ((k : Int) < (n1 : Int)) = true := by simp; omega
            have hdN : decide (n1 ≤ k) = false := by simp; omega
            have hkN : ¬ n1 ≤ k := by omega
            go_wp2
            go_quiet (fail)
            go_wp2
            go_roundw
            case rel => exact ⟨k + 1, _, by omega, by go_num, rfl⟩
            case measure => simp [intOf]; omega
          · obtain ⟨c1, c2⟩ := unhide HC2 (k - n1) (by omega)
            rw [show n1 + (k - n1) = k by omega] at c1
            have hT : ((k : Int) - (n1 : Int)).toNat = k - n1 := by omega
            have hd : decide ((k : Int) < (n1 : Int)) = false := by simp; omega
            have hk2 : (n1 : Int) ≤ (k : Int) := by omega
            have hk3 : (k : Int) - (n1 : Int) < (n2 : Int) := by omega
            have hk4 : 0 ≤ (k : Int) - (n1 : Int) := by omega
            generalize runeAt t (k - n1) = r at *
            have hrr : (r != r) = false := by simp
            have hkk : decide ((n1 : Int) ≤ (k : Int)) = true := by simp; omega
            have hdN : decide (k < n1) = false := by simp; omega
            have hkN : n1 ≤ k := by omega
            go_wp2
            go_quiet (fail)
            go_wp2
            go_roundw
            case rel => exact ⟨k + 1, _, by omega, by go_num, rfl⟩
            case measure => simp [intOf]; omega
        · go_wp2_with (go_at_call 9; refine (lives_any _).mono ?_; rintro e w' ⟨rfl, hb5⟩)
          go_ret
          exact ⟨rfl, below2 (below_drewN hB4 m) hb5⟩

theorem own : ownKnob Try.prog.godebug = none := by kernel_rfl
theorem laidOut : laidOutB Try.prog = true := by kernel_rfl

set_option maxRecDepth 100000 in
theorem contract (H : Type) (enc : TypeId × Value → H) (W : World) (base : Nat) (args : Array Value) (ds gs : List (DataW H)) (before : List MemPlace)
    (hval : ∀ (j : Nat) t v, Try.f5.params[j]? = some t → args[j]? = some v → Value.okWide Try.prog W .any base t v)
    (hW : DataW.Whole enc Try.prog Try.f5.params.toList Rows.utfJoinedSpec.vars false W args.toList ds gs before) (hk : Rows.uptoSmall H (ds ++ gs) = true) :
    Calls Try.prog 5 args W fun e W' => ∃ v, e = .returned v ∧ Rows.utfJoinedSpec.post enc Try.prog Try.f5 false true false false W args v W' := by
  have hW' := hW
  obtain ⟨p, q, hA0, hV, rfl, hfz, hnd⟩ := hW
  have hA : DataW.TrodAll enc Try.prog W 0 (fun _ => true) true Try.f5.params.toList args.toList ds p := hA0
  rw [Try.params5] at hA hval
  obtain ⟨v0, vs0, d0, ds0, p0, q0, hargs, rfl, rfl, h0, r0⟩ := trodAll_cons hA
  obtain ⟨v1, vs1, d1, ds1, p1, q1, rfl, rfl, rfl, h1, r1⟩ := trodAll_cons r0
  obtain ⟨rfl, rfl, rfl⟩ := trodAll_nil r1
  obtain rfl : args = #[v0, v1] := by cases args; simp_all
  obtain ⟨rfl, rfl⟩ := trodVars_none hV
  obtain ⟨a0, rfl, rfl, rfl, w0⟩ := open_string Try.underlying9 (hval 0 9 v0 rfl rfl) h0
  obtain ⟨a1, rfl, rfl, rfl, w1⟩ := open_string Try.underlying9 (hval 1 9 v1 rfl rfl) h1
  have hk' : Rows.uptoSmall H [.lit (.string a0.data.toList), .lit (.string a1.data.toList)] = true := hk
  have hb := bulk_bound hk'
  simp only [Rows.uptoBulkAll] at hb
  rw [bulk_string a0] at hb
  rw [bulk_string a1] at hb
  have c0 : a0.size ≤ 1048576 := by omega
  have c1 : a1.size ≤ 1048576 := by omega
  clear hA0
  have hwk := walk a0 a1 W c0 c1
  refine hwk.mono fun e W' ⟨he, bel⟩ => ?_
  subst he
  exact ⟨_, rfl, _, _, _, [], _, [], hW', trodAll_mk1 (shut_bool Try.underlying4 _), (trodAll_cons_mk (shut_string Try.underlying9 w0) (trodAll_cons_mk (shut_string Try.underlying9 w1) trodAll_mk0)), rfl, bel.frame _, fun h => by cases h⟩

set_option maxRecDepth 100000 in
theorem lifted (os : Os) (started : os.Started) (H : Type) (enc : TypeId × Value → H) (F : Stop.Interp) :
    ReturnsInHanded {} Try.checked os 5 .any ((Rows.OpenSpec.upto Rows.utfJoinedSpec).pre6 enc Try.prog Try.f5 Rows.utfJoinedUptoRow.domain false) (((Rows.OpenSpec.upto Rows.utfJoinedSpec).at F).post enc Try.prog Try.f5 false true false false) := by
  refine returnsInHanded_of_cond (C := Try.checked) (s := Rows.OpenSpec.upto Rows.utfJoinedSpec) (k := Rows.uptoSmall) rfl own started (by kernel_rfl) Try.func5
    (OpenSpec.witness (enc := enc) (C := Try.checked) (s := Rows.OpenSpec.upto Rows.utfJoinedSpec) (k := Rows.uptoSmall) rfl false ⟨#[], #[.string ByteArray.empty, .string ByteArray.empty], []⟩ 8 (by kernel_rfl) (by kernel_rfl) (by kernel_rfl)
      (x := ([.lit (.string []), .lit (.string [])], [], [])) (by kernel_rfl) rfl (by kernel_rfl)) ?_
  intro W base args ds gs before hval hW _ hk _
  exact contract H enc W base args ds gs before hval hW hk

theorem over : Rows.utfJoinedUptoRow.holds Try.pinned (Rows.OpenSpec.upto Rows.utfJoinedSpec) :=
  OpenClaim.holds_of_cond 5 Try.f5 rfl rfl rfl rfl rfl rfl rfl ⟨rfl, rfl, rfl, rfl, rfl⟩ rfl rfl rfl rfl rfl (by kernel_rfl) Try.func5 (by kernel_rfl)
    (of_decide_eq_true (by kernel_rfl)) (by unfold Func.isWrapper; first | (rw [if_pos (by decide +kernel)]; kernel_rfl) | (rw [if_neg (by decide +kernel)]; exact ⟨rfl, rfl⟩))
    (fun os started H enc _ F => lifted os started H enc F)

end Go.Proofs.Ytgffibonikcecab.utfJoined
namespace Go.Proofs.Ytgffibonikcecab
theorem utfJoined_upto : Rows.UtfJoinedUptoSaid := utfJoined.over
end Go.Proofs.Ytgffibonikcecab


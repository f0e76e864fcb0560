/-
  UtfOrder: of two texts with no wrong byte the one is less than the other, byte by byte, just if it is character by character: for every two texts that hold together at most 1048576 letters.
-/
import Derived.Test.YtgffibonikcecabOrd
import Derived.Test.YtgffibonikcecabBulk
import Derived.Deep.QuietTactic
import Derived.BigQuiet
import Derived.ProofKit
import Derived.OpenShut
import Derived.ShutString
import Derived.ChangeOld
import Derived.JoinedCond
namespace Go.Proofs.Ytgffibonikcecab.utfOrder
open Go.ChangeShapes Go.WideShapes Go.ChangeAt Go.RowKit Go.PlainAid Go.Lib
open Go.ChangeMaps (open_string shut_string)
set_option linter.unusedVariables false

theorem below2 {a b c : World} (h : Below a.heap.size a b) (k : Below b.heap.size b c) : Below a.heap.size a c := h.trans (k.mono h.size)
abbrev rs (s : ByteArray) : List Nat := (chars s 0).map (·.2)
theorem runeVals_at (s : ByteArray) (k x : Nat) (h : (rs s)[k]? = some x) : (runeVals s)[k]? = some (.int .i32 (x : Nat)) := by
  obtain ⟨h1, h2⟩ := List.getElem?_eq_some_iff.1 h
  have h1' : k < (chars s 0).length := by simpa using h1
  subst h2
  simp [runeVals, List.getElem?_eq_getElem h1']
theorem check_zero (s : ByteArray) {a : Nat} {c : Int} (hv : checkV s a c) (hc : c = 0) : a = s.size ∧ ∀ i ∈ places s, Utf8.decode s i ≠ (65533, 1) := by
  rcases hv with ⟨h, h1, _⟩ | ⟨pre, rest, _, _, h3, h4⟩
  · exact ⟨h1, fun i hi => (why_iff s i (places_lt s i hi)).1 (h i hi)⟩
  · exact absurd (h4.symm.trans hc) h3
theorem drewN_add (w : World) (m k : Nat) : (w.drewN m).drewN k = w.drewN (m + k) := by simp [World.drewN, Nat.add_assoc]

/-- what the law's loop finds: the place at which two lists part -/
theorem lex_at (a b : List Nat) (k : Nat) (h : ∀ j, j < k → a[j]? = b[j]?) (h1 : k ≤ a.length) (h2 : k ≤ b.length) :
    (k = a.length → lex a b = decide (k < b.length)) ∧ (k = b.length → lex a b = false) ∧
    (∀ x y, a[k]? = some x → b[k]? = some y → x ≠ y → lex a b = decide ((x : Int) < (y : Int))) := by
  rw [lex_drop a b k h h1 h2]
  refine ⟨fun e => ?_, fun e => ?_, fun x y ha hb hn => ?_⟩
  · rw [List.drop_of_length_le (by omega)]
    by_cases hk : k < b.length
    · rw [List.drop_eq_getElem_cons hk]; simp [lex, hk]
    · rw [List.drop_of_length_le (by omega)]; simp [lex, hk]
  · rw [e, List.drop_of_length_le (Nat.le_refl b.length)]
    cases a.drop b.length <;> rfl
  · obtain ⟨i1, rfl⟩ := List.getElem?_eq_some_iff.1 ha
    obtain ⟨i2, rfl⟩ := List.getElem?_eq_some_iff.1 hb
    rw [List.drop_eq_getElem_cons i1, List.drop_eq_getElem_cons i2]
    simp [lex, hn]

set_option maxRecDepth 100000 in
set_option maxHeartbeats 4000000 in
theorem walk (s t : ByteArray) (w : World) (hs : s.size ≤ 1048576) (ht : t.size ≤ 1048576) :
    Calls Try.prog 6 #[.string s, .string t] w fun e w' => e = .returned (.bool true) ∧ Below w.heap.size w w' := by
  go_enter Try.func6, Try.ntmps6
  go_wp2_with fail
  refine (check_any s _ (by unfold maxLen; omega)).mono ?_
  rintro e w1 ⟨a, c, hcv, rfl, hb1⟩
  have HV := hide hcv
  clear hcv
  go_wp2_with fail
  refine (check_any t _ (by unfold maxLen; omega)).mono ?_
  rintro e w2 ⟨a', c', hcv', rfl, hb2⟩
  have hB2 := below2 hb1 hb2
  clear hb1 hb2
  by_cases hA : c = 0 ∧ c' = 0
  · obtain ⟨rfl, rfl⟩ := hA
    have hL := less_texts s t (check_zero s (unhide HV) rfl).2 (check_zero t hcv' rfl).2
    have HL : Hid (Op.bytesLess s.toList t.toList = lex (rs s) (rs t)) := hL
    clear hL hcv' HV
    have hl1 := chars_length s 0
    have hl2 := chars_length t 0
    go_wp2_with fail
    refine (runes_any s _ (by omega)).mono ?_
    rintro e w3 ⟨cap3, rfl, hown3, hb3⟩
    have hB3 := below2 hB2 hb3
    have HR3 := hide (own_zero hown3)
    clear hb3 hB2 hown3
    go_wp2_with fail
    refine (runes_any t _ (by omega)).mono ?_
    rintro e w4 ⟨cap4, rfl, hown4, hb4⟩
    have hB4 := below2 hB3 hb4
    have hr4 := own_zero hown4
    have hr3 := row_below (unhide HR3) hb4
    have hlA : (rs s).length = (chars s 0).length := by simp
    have hlB : (rs t).length = (chars t 0).length := by simp
    have hcells : ∀ k x, (rs s)[k]? = some x → w4.cell? ⟨w2.heap.size, k, none⟩ = some (.int .i32 (x : Nat)) := by
      intro k x hx
      have := runeVals_at s k x hx
      have hk := (List.getElem?_eq_some_iff.1 hx).1
      exact (hr3.cellAt k (by omega)).trans this
    have hcells2 : ∀ k x, (rs t)[k]? = some x → w4.cell? ⟨w3.heap.size, k, none⟩ = some (.int .i32 (x : Nat)) := by
      intro k x hx
      have := runeVals_at t k x hx
      have hk := (List.getElem?_eq_some_iff.1 hx).1
      exact (hr4.cellAt k (by omega)).trans this
    clear hr4 hr3 hown4 HR3 hb4 hB3
    generalize (chars s 0).length = n1 at *
    generalize (chars t 0).length = n2 at *
    have HC1 := hide hcells
    have HC2 := hide hcells2
    clear hcells hcells2
    generalize rs s = A at *
    generalize rs t = B at *
    subst hlA hlB
    go_wp2
    go_loopw [11] (fun v11 wr => ∃ k m : Nat, k ≤ A.length ∧ k ≤ B.length ∧ (∀ j, j < k → A[j]? = B[j]?) ∧ v11 = .int .i64 k ∧ wr = w4.drewN m) (fun v11 _ => A.length - (intOf v11).toNat)
    case atStart => exact ⟨0, 0, Nat.zero_le _, Nat.zero_le _, fun j hj => by omega, rfl, rfl⟩
    case round =>
      obtain ⟨k, m, hk1, hk2, hall, rfl, rfl⟩ := hrel
      have hx := lex_at A B k hall hk1 hk2
      have HX := hide hx
      have HALL := hide hall
      clear hx hall
      obtain ⟨WX, hWX⟩ : ∃ WX, w4.drewN m = WX := ⟨_, rfl⟩
      have hBX : Below w.heap.size w WX := by rw [← hWX]; exact below_drewN hB4 m
      rw [hWX]
      have HWX := hide hWX
      clear hWX
      generalize hN1 : A.length = n1 at *
      generalize hN2 : B.length = n2 at *
      have HN1 := hide hN1
      have HN2 := hide hN2
      clear hN1 hN2
      by_cases h1 : k < n1
      · by_cases h2 : k < n2
        · obtain ⟨x, hx⟩ : ∃ x, A[k]? = some x := ⟨_, List.getElem?_eq_getElem (by rw [unhide HN1]; exact h1)⟩
          obtain ⟨y, hy⟩ : ∃ y, B[k]? = some y := ⟨_, List.getElem?_eq_getElem (by rw [unhide HN2]; exact h2)⟩
          have c1 : WX.cell? ⟨w2.heap.size, k, none⟩ = some (.int .i32 (x : Nat)) := by rw [← unhide HWX]; exact unhide HC1 k x hx
          have c2 : WX.cell? ⟨w3.heap.size, k, none⟩ = some (.int .i32 (y : Nat)) := by rw [← unhide HWX]; exact unhide HC2 k y hy
          have d1 : decide ((k : Int) < (n1 : Int)) = true := by simp; omega
          have d2 : decide ((k : Int) < (n2 : Int)) = true := by simp; omega
          have d1' : decide (k < n1) = true := by simp; omega
          have d2' : decide (k < n2) = true := by simp; omega
          by_cases hxy : x = y
          · subst hxy
            have hr : (((x : Nat) : Int) == ((x : Nat) : Int)) = true := by simp
            have HS := hide (hx.trans hy.symm)
            clear hx hy
            generalize ((x : Nat) : Int) = r at *
            go_wp2
            go_quiet (fail)
            go_wp2
            go_roundw
            case rel =>
              refine ⟨k + 1, m + nq, by omega, by omega, ?_, by go_num, by rw [← unhide HWX]; exact drewN_add w4 m nq⟩
              intro j hj
              by_cases hjk : j = k
              · rw [hjk]; exact unhide HS
              · exact unhide HALL j (by omega)
            case measure => simp [intOf]; omega
          · have hless := (unhide HX).2.2 x y hx hy hxy
            rw [← unhide HL] at hless
            have hr : (((x : Nat) : Int) == ((y : Nat) : Int)) = false := by simp; omega
            have hkn : ((k : Int) == (n1 : Int)) = false := by simp; omega
            have hbb : (Op.bytesLess s.toList t.toList == decide (((x : Nat) : Int) < ((y : Nat) : Int))) = true := by rw [hless]; simp
            clear hx hy hless
            generalize ((x : Nat) : Int) = r1 at *
            generalize ((y : Nat) : Int) = r2 at *
            generalize hd : decide (r1 < r2) = dd at *
            go_wp2
            go_quiet (fail)
            go_wp2
            go_quiet (fail)
            go_wp2_with (go_at_call 9; refine (lives_any _).mono ?_; rintro e w' ⟨rfl, hb5⟩)
            go_ret
            exact ⟨rfl, below2 (below_drewN hBX _) hb5⟩
        · have hless := (unhide HX).2.1 (by omega)
          rw [← unhide HL] at hless
          have d1 : decide ((k : Int) < (n1 : Int)) = true := by simp; omega
          have d2 : decide ((k : Int) < (n2 : Int)) = false := by simp; omega
          have d1' : decide (k < n1) = true := by simp; omega
          have d2' : decide (k < n2) = false := by simp; omega
          have hbb : (Op.bytesLess s.toList t.toList == false) = true := by rw [hless]; rfl
          clear hless
          go_wp2
          go_quiet (fail)
          go_wp2
          go_quiet (fail)
          go_wp2_with (go_at_call 9; refine (lives_any _).mono ?_; rintro e w' ⟨rfl, hb5⟩)
          go_ret
          exact ⟨rfl, below2 (below_drewN hBX _) hb5⟩
      · have hless := (unhide HX).1 (by omega)
        rw [← unhide HL] at hless
        have d1 : decide ((k : Int) < (n1 : Int)) = false := by simp; omega
        have d1' : decide (k < n1) = false := by simp; omega
        have hkn : ((k : Int) == (n1 : Int)) = true := by simp; omega
        have hknN : (k == n1) = true := by simp; omega
        by_cases h2 : k < n2
        · have d2 : decide ((k : Int) < (n2 : Int)) = true := by simp; omega
          have d2' : decide (k < n2) = true := by simp; omega
          have hbb : (Op.bytesLess s.toList t.toList == true) = true := by rw [hless, d2']; rfl
          clear hless
          go_wp2
          go_quiet (fail)
          go_wp2
          go_quiet (fail)
          go_wp2_with (go_at_call 9; refine (lives_any _).mono ?_; rintro e w' ⟨rfl, hb5⟩)
          go_ret
          exact ⟨rfl, below2 (below_drewN hBX _) hb5⟩
        · have d2 : decide ((k : Int) < (n2 : Int)) = false := by simp; omega
          have d2' : decide (k < n2) = false := by simp; omega
          have hbb : (Op.bytesLess s.toList t.toList == false) = true := by rw [hless, d2']; rfl
          clear hless
          go_wp2
          go_quiet (fail)
          go_wp2
          go_quiet (fail)
          go_wp2_with (go_at_call 9; refine (lives_any _).mono ?_; rintro e w' ⟨rfl, hb5⟩)
          go_ret
          exact ⟨rfl, below2 (below_drewN hBX _) hb5⟩
  · have hcs : (c != 0) = true ∨ ((c != 0) = false ∧ (c' != 0) = true) := by
      by_cases hc : c = 0
      · right; exact ⟨by simp [hc], by simp; exact fun e => hA ⟨hc, e⟩⟩
      · left; simp [hc]
    clear hA hcv' HV
    rcases hcs with q1 | ⟨q1, q2⟩
    all_goals
      go_wp2_with (go_at_call 9; refine (lives_any _).mono ?_; rintro e w' ⟨rfl, hb5⟩)
      go_ret
      exact ⟨rfl, below2 hB2 hb5⟩

theorem own : ownKnob Try.prog.godebug = none := by kernel_rfl
theorem laidOut : laidOutB Try.prog = true := by kernel_rfl

set_option maxRecDepth 100000 in
theorem contract (H : Type) (enc : TypeId × Value → H) (W : World) (base : Nat) (args : Array Value) (ds gs : List (DataW H)) (before : List MemPlace)
    (hval : ∀ (j : Nat) t v, Try.f6.params[j]? = some t → args[j]? = some v → Value.okWide Try.prog W .any base t v)
    (hW : DataW.Whole enc Try.prog Try.f6.params.toList Rows.utfOrderSpec.vars false W args.toList ds gs before) (hk : Rows.uptoSmall H (ds ++ gs) = true) :
    Calls Try.prog 6 args W fun e W' => ∃ v, e = .returned v ∧ Rows.utfOrderSpec.post enc Try.prog Try.f6 false true false false W args v W' := by
  have hW' := hW
  obtain ⟨p, q, hA0, hV, rfl, hfz, hnd⟩ := hW
  have hA : DataW.TrodAll enc Try.prog W 0 (fun _ => true) true Try.f6.params.toList args.toList ds p := hA0
  rw [Try.params6] at hA hval
  obtain ⟨v0, vs0, d0, ds0, p0, q0, hargs, rfl, rfl, h0, r0⟩ := trodAll_cons hA
  obtain ⟨v1, vs1, d1, ds1, p1, q1, rfl, rfl, rfl, h1, r1⟩ := trodAll_cons r0
  obtain ⟨rfl, rfl, rfl⟩ := trodAll_nil r1
  obtain rfl : args = #[v0, v1] := by cases args; simp_all
  obtain ⟨rfl, rfl⟩ := trodVars_none hV
  obtain ⟨a0, rfl, rfl, rfl, w0⟩ := open_string Try.underlying9 (hval 0 9 v0 rfl rfl) h0
  obtain ⟨a1, rfl, rfl, rfl, w1⟩ := open_string Try.underlying9 (hval 1 9 v1 rfl rfl) h1
  have hk' : Rows.uptoSmall H [.lit (.string a0.data.toList), .lit (.string a1.data.toList)] = true := hk
  have hb := bulk_bound hk'
  simp only [Rows.uptoBulkAll] at hb
  rw [bulk_string a0] at hb
  rw [bulk_string a1] at hb
  have c0 : a0.size ≤ 1048576 := by omega
  have c1 : a1.size ≤ 1048576 := by omega
  clear hA0
  have hwk := walk a0 a1 W c0 c1
  refine hwk.mono fun e W' ⟨he, bel⟩ => ?_
  subst he
  exact ⟨_, rfl, _, _, _, [], _, [], hW', trodAll_mk1 (shut_bool Try.underlying4 _), (trodAll_cons_mk (shut_string Try.underlying9 w0) (trodAll_cons_mk (shut_string Try.underlying9 w1) trodAll_mk0)), rfl, bel.frame _, fun h => by cases h⟩

set_option maxRecDepth 100000 in
theorem lifted (os : Os) (started : os.Started) (H : Type) (enc : TypeId × Value → H) (F : Stop.Interp) :
    ReturnsInHanded {} Try.checked os 6 .any ((Rows.OpenSpec.upto Rows.utfOrderSpec).pre6 enc Try.prog Try.f6 Rows.utfOrderUptoRow.domain false) (((Rows.OpenSpec.upto Rows.utfOrderSpec).at F).post enc Try.prog Try.f6 false true false false) := by
  refine returnsInHanded_of_cond (C := Try.checked) (s := Rows.OpenSpec.upto Rows.utfOrderSpec) (k := Rows.uptoSmall) rfl own started (by kernel_rfl) Try.func6
    (OpenSpec.witness (enc := enc) (C := Try.checked) (s := Rows.OpenSpec.upto Rows.utfOrderSpec) (k := Rows.uptoSmall) rfl false ⟨#[], #[.string ByteArray.empty, .string ByteArray.empty], []⟩ 8 (by kernel_rfl) (by kernel_rfl) (by kernel_rfl)
      (x := ([.lit (.string []), .lit (.string [])], [], [])) (by kernel_rfl) rfl (by kernel_rfl)) ?_
  intro W base args ds gs before hval hW _ hk _
  exact contract H enc W base args ds gs before hval hW hk

theorem over : Rows.utfOrderUptoRow.holds Try.pinned (Rows.OpenSpec.upto Rows.utfOrderSpec) :=
  OpenClaim.holds_of_cond 6 Try.f6 rfl rfl rfl rfl rfl rfl rfl ⟨rfl, rfl, rfl, rfl, rfl⟩ rfl rfl rfl rfl rfl (by kernel_rfl) Try.func6 (by kernel_rfl)
    (of_decide_eq_true (by kernel_rfl)) (by unfold Func.isWrapper; first | (rw [if_pos (by decide +kernel)]; kernel_rfl) | (rw [if_neg (by decide +kernel)]; exact ⟨rfl, rfl⟩))
    (fun os started H enc _ F => lifted os started H enc F)

end Go.Proofs.Ytgffibonikcecab.utfOrder
namespace Go.Proofs.Ytgffibonikcecab
theorem utfOrder_upto : Rows.UtfOrderUptoSaid := utfOrder.over
end Go.Proofs.Ytgffibonikcecab


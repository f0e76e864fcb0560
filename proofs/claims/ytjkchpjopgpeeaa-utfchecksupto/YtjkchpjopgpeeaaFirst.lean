/-
  First, Last of package utf, for every text.
-/
import Derived.Test.YtjkchpjopgpeeaaChars
namespace Go.Proofs.Ytjkchpjopgpeeaa
open Go.RowKit Go.PlainAid Go.Lib
attribute [local go_sem] World.iter

/-- the Spot of the character at byte i -/
abbrev spotOf (s : ByteArray) (i : Nat) : Value := spotV i ((Utf8.decode s i).2 : Nat) ((Utf8.decode s i).1 : Nat) (whyN (s.extract i s.size))

set_option maxRecDepth 100000 in
set_option maxHeartbeats 400000 in
theorem first_nil (s : ByteArray) (w : World) (h0 : s.size = 0) :
    Calls Try.prog 10 #[.string s] w fun e w' => e = .returned (spotV 0 0 0 0) ∧ Below w.heap.size w w' := by
  have hlt : ¬ 0 < s.size := by omega
  have hnx := fun ty => run_next_end (P := Try.prog) (w.alloc (spotCells 0 0 0 0)) s 0 ty hlt
  simp only [World.size_alloc, World.iter] at hnx
  clear h0
  go_enter Try.func10, Try.ntmps10
  go_wp2
  refine wp_loop_rounds 1 ?_
  rw [rounds_succ]
  go_wp2
  go_returns
  exact ⟨rfl, by go_grown⟩

set_option maxRecDepth 100000 in
set_option maxHeartbeats 400000 in
theorem first_exact (s : ByteArray) (w : World) (hs : s.size ≤ maxLen) (h0 : 0 < s.size) :
    Calls Try.prog 10 #[.string s] w fun e w' => e = .returned (spotOf s 0) ∧
      w' = ((w.alloc (spotCells 0 ((Utf8.decode s 0).2 : Nat) ((Utf8.decode s 0).1 : Nat) (whyN s))).alloc (.stringIter s (Utf8.decode s 0).2)).alloc (spotCells 0 ((Utf8.decode s 0).2 : Nat) ((Utf8.decode s 0).1 : Nat) (whyN s)) := by
  have hnx := fun ty => run_next_any (P := Try.prog) (w.alloc (spotCells 0 0 0 0)) s 0 ty h0
  simp only [World.size_alloc, World.iter] at hnx
  have hd := spot_dec s 0 h0
  have HD : Hid (spotW s 0 (Utf8.decode s 0).1 = (Utf8.decode s 0).2 ∧ spotC s 0 (Utf8.decode s 0).1 = whyN (s.extract 0 s.size)) := hd
  clear hd
  go_enter Try.func10, Try.ntmps10
  go_wp2
  refine wp_loop_rounds 1 ?_
  rw [rounds_succ]
  go_wp2_with (go_at_call 28; refine (spotAt_any s 0 _ _ hs h0).mono ?_; rintro e w' ⟨rfl, rfl⟩)
  go_returns
  have e : s.extract 0 s.size = s := by simp
  have h2 := HD.out.2
  rw [e] at h2
  refine ⟨?_, ?_⟩
  · rw [HD.out.1, HD.out.2]; rfl
  · rw [HD.out.1, h2]

theorem first_any (s : ByteArray) (w : World) (hs : s.size ≤ maxLen) (h0 : 0 < s.size) :
    Calls Try.prog 10 #[.string s] w fun e w' => e = .returned (spotOf s 0) ∧ Below w.heap.size w w' :=
  (first_exact s w hs h0).mono fun e w' ⟨he, hw⟩ => ⟨he, by subst hw; go_grown⟩

/-- where a right sequence that ends s would begin -/
def leadF (s : ByteArray) : Nat → Nat → Nat
  | 0, i => i
  | f + 1, i => if 0 < i ∧ s.size < i + 4 ∧ tailB (bt s i) then leadF s f (i - 1) else i
def leadAt (s : ByteArray) : Nat := leadF s 4 (s.size - 1)
theorem leadF_le (s : ByteArray) : ∀ f i, leadF s f i ≤ i := by
  intro f
  induction f with
  | zero => intro i; exact Nat.le_refl _
  | succ f ih =>
    intro i
    unfold leadF
    split
    · have := ih (i - 1); omega
    · exact Nat.le_refl _

set_option maxRecDepth 100000 in
set_option maxHeartbeats 400000 in
theorem lastLead_any (s : ByteArray) (w : World) (hs : s.size ≤ maxLen) (h0 : 0 < s.size) :
    Calls Try.prog 29 #[.string s] w fun e w' => e = .returned (.int .i64 (leadAt s)) ∧ w' = w := by
  unfold maxLen at hs
  have hb := get_bt s
  go_enter Try.func29, Try.ntmps29
  go_wp2
  go_loop [3] (fun v => ∃ i f : Nat, v = .int .i64 i ∧ i < s.size ∧ s.size ≤ i + 4 ∧ i + 4 = s.size + f - 1 ∧ Hid (leadF s f i = leadAt s)) (fun v => (intOf v).toNat)
  case atStart => exact ⟨s.size - 1, 4, by simp; omega, by omega, by omega, by omega, rfl⟩
  case round =>
    obtain ⟨i, f, rfl, hi, hi4, hf, HF⟩ := hrel
    obtain ⟨f, rfl⟩ : ∃ g, f = g + 1 := ⟨f - 1, by omega⟩
    have c0 := bt_nonneg s i
    have c1 := bt_le s i
    by_cases hp : 0 < i
    · by_cases hq : s.size < i + 4
      · have hq' : (s.size : Int) - 4 < (i : Int) := by omega
        cases htl : tailB (bt s i)
        · have HE : Hid (leadAt s = i) := by
            show _ = _
            rw [← HF.out]; unfold leadF; rw [if_neg (by rw [htl]; simp)]
          have HT : Hid (tailB (bt s i) = false) := htl
          clear htl
          go_wp2_with (go_at_call 44; refine (isTail_any _ _).mono ?_; rintro e w' ⟨rfl, rfl⟩; rw [HT.out])
          go_ret
          exact ⟨ret_int (by rw [HE.out]), rfl⟩
        · have HE : Hid (leadF s f (i - 1) = leadAt s) := by
            show _ = _
            rw [← HF.out]; conv => rhs; unfold leadF
            rw [if_pos ⟨hp, hq, htl⟩]
          have HT : Hid (tailB (bt s i) = true) := htl
          clear htl
          go_wp2_with (go_at_call 44; refine (isTail_any _ _).mono ?_; rintro e w' ⟨rfl, rfl⟩; rw [HT.out])
          go_round
          case rel => exact ⟨i - 1, f, by simp; omega, by omega, by omega, by omega, HE⟩
          case measure => simp [intOf]; omega
      · have HE : Hid (leadAt s = i) := by
          show _ = _
          rw [← HF.out]; unfold leadF; rw [if_neg (by omega)]
        have hq' : ¬ (s.size : Int) - 4 < (i : Int) := by omega
        have hq2 : decide ((s.size : Int) - 4 < (i : Int)) = false := by simp; omega
        go_wp2
        go_ret
        exact ⟨ret_int (by rw [HE.out]), rfl⟩
    · have HE : Hid (leadAt s = i) := by
        show _ = _
        rw [← HF.out]; unfold leadF; rw [if_neg (by omega)]
      go_wp2
      go_ret
      exact ⟨ret_int (by rw [HE.out]), rfl⟩

end Go.Proofs.Ytjkchpjopgpeeaa

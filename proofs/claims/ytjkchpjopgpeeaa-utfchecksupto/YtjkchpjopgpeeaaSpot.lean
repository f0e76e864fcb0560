/-
  The Spot of a character: what spotAt, First of package utf answer, for every text.
-/
import Derived.Test.YtjkchpjopgpeeaaWhy
namespace Go.Proofs.Ytjkchpjopgpeeaa
open Go.RowKit Go.PlainAid

theorem bcell {W w1 : World} (hb : Below W.heap.size W w1) : (∀ b o, b < W.heap.size → w1.cell? ⟨b, o, none⟩ = W.cell? ⟨b, o, none⟩) ∧ (∀ b o, b < W.heap.size → w1.frozen? ⟨b, o, none⟩ = W.frozen? ⟨b, o, none⟩) :=
  ⟨fun b o h => hb.cell (p := ⟨b, o, none⟩) h, fun b o h => hb.frozen (p := ⟨b, o, none⟩) h⟩

abbrev spotV (a b c d : Int) : Value := .agg #[.int .i64 a, .int .i64 b, .int .i32 c, .int .i64 d]

/-- the width and the code of the Spot that spotAt makes of r at the place at -/
def spotW (s : ByteArray) (at' : Nat) (r : Int) : Int := if r = 65533 ∧ whyN (s.extract at' s.size) ≠ 0 then 1 else widthN r
def spotC (s : ByteArray) (at' : Nat) (r : Int) : Int := if r = 65533 ∧ whyN (s.extract at' s.size) ≠ 0 then whyN (s.extract at' s.size) else 0

theorem extract_size (s : ByteArray) (i : Nat) : (s.extract i s.size).size = s.size - i := by simp [ByteArray.size_extract]

abbrev spotCells (a b c d : Int) : Obj := .cells #[.int .i64 a, .int .i64 b, .int .i32 c, .int .i64 d] 27

set_option maxHeartbeats 400000 in
theorem spotAt_any (s : ByteArray) (i : Nat) (r : Int) (w : World) (hs : s.size ≤ maxLen) (hi : i < s.size) :
    Calls Try.prog 28 #[.string s, .int .i64 i, .int .i32 r] w fun e w' => e = .returned (spotV i (spotW s i r) r (spotC s i r)) ∧ w' = w.alloc (spotCells i (spotW s i r) r (spotC s i r)) := by
  have hx := extract_size s i
  have HX : Hid ((s.extract i s.size).size = s.size - i) := hx
  clear hx
  by_cases hr : r = 65533
  · have hr' : (r == 65533) = true := beq_iff_eq.2 hr
    have HR : Hid (r = 65533) := hr
    clear hr
    by_cases hz : whyN (s.extract i s.size) = 0
    · have HZ : Hid (whyN (s.extract i s.size) = 0) := hz
      have hz' : (whyN (s.extract i s.size) != 0) = false := by simp [hz]
      clear hz
      have eW : Hid (spotW s i r = widthN r) := by show _ = _; rw [spotW, if_neg (fun h => h.2 HZ.out)]
      have eC : Hid (spotC s i r = 0) := by show _ = _; rw [spotC, if_neg (fun h => h.2 HZ.out)]
      go_enter Try.func28, Try.ntmps28
      go_wp2_with (first | (go_at_call 43; refine (width_any _ _).mono ?_; rintro e w' ⟨rfl, rfl⟩) | (go_at_call 42; refine (whyWrong_any _ _ (by rw [HX.out]; omega) (by rw [HX.out]; omega)).mono ?_; rintro e w' ⟨rfl, rfl⟩))
      go_returns
      exact ⟨by rw [eW.out, eC.out], by rw [eW.out, eC.out]⟩
    · have HZ : Hid (¬ whyN (s.extract i s.size) = 0) := hz
      have hz' : (whyN (s.extract i s.size) != 0) = true := by simp [hz]
      clear hz
      have eW : Hid (spotW s i r = 1) := by show _ = _; rw [spotW, if_pos ⟨HR.out, HZ.out⟩]
      have eC : Hid (spotC s i r = whyN (s.extract i s.size)) := by show _ = _; rw [spotC, if_pos ⟨HR.out, HZ.out⟩]
      go_enter Try.func28, Try.ntmps28
      go_wp2_with (go_at_call 42; refine (whyWrong_any _ _ (by rw [HX.out]; omega) (by rw [HX.out]; omega)).mono ?_; rintro e w' ⟨rfl, rfl⟩)
      go_returns
      exact ⟨by rw [eW.out, eC.out], by rw [eW.out, eC.out]⟩
  · have hr' : (r == 65533) = false := beq_eq_false_iff_ne.2 hr
    have eW : Hid (spotW s i r = widthN r) := by show _ = _; rw [spotW, if_neg (fun h => hr h.1)]
    have eC : Hid (spotC s i r = 0) := by show _ = _; rw [spotC, if_neg (fun h => hr h.1)]
    clear hr
    go_enter Try.func28, Try.ntmps28
    go_wp2_with (go_at_call 43; refine (width_any _ _).mono ?_; rintro e w' ⟨rfl, rfl⟩)
    go_returns
    exact ⟨by rw [eW.out, eC.out], by rw [eW.out, eC.out]⟩

end Go.Proofs.Ytjkchpjopgpeeaa

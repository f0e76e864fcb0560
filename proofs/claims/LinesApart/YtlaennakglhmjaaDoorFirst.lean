/-
  First, Last of package utf, for every text.
-/
import Derived.Test.YtlaennakglhmjaaDoorChars
namespace Go.Proofs.YtlaennakglhmjaaDoor
open Go.RowKit Go.PlainAid Go.Lib
attribute [local go_sem] World.iter

/-- the Spot of the character at byte i -/
abbrev spotOf (s : ByteArray) (i : Nat) : Value := spotV i ((Utf8.decode s i).2 : Nat) ((Utf8.decode s i).1 : Nat) (whyN (s.extract i s.size))

set_option maxRecDepth 100000 in
set_option maxHeartbeats 400000 in
theorem first_nil (s : ByteArray) (w : World) (h0 : s.size = 0) :
    Calls Tryd.prog 57 #[.string s] w fun e w' => e = .returned (spotV 0 0 0 0) ∧ Below w.heap.size w w' := by
  have hlt : ¬ 0 < s.size := by omega
  have hnx := fun ty => run_next_end (P := Tryd.prog) (w.alloc (spotCells 0 0 0 0)) s 0 ty hlt
  simp only [World.size_alloc, World.iter] at hnx
  clear h0
  go_enter Tryd.func57, Tryd.ntmps57
  go_wp2
  refine wp_loop_rounds 1 ?_
  rw [rounds_succ]
  go_wp2
  go_returns
  exact ⟨rfl, by go_grown⟩

set_option maxRecDepth 100000 in
set_option maxHeartbeats 400000 in
theorem first_exact (s : ByteArray) (w : World) (hs : s.size ≤ maxLen) (h0 : 0 < s.size) :
    Calls Tryd.prog 57 #[.string s] w fun e w' => e = .returned (spotOf s 0) ∧
      w' = ((w.alloc (spotCells 0 ((Utf8.decode s 0).2 : Nat) ((Utf8.decode s 0).1 : Nat) (whyN s))).alloc (.stringIter s (Utf8.decode s 0).2)).alloc (spotCells 0 ((Utf8.decode s 0).2 : Nat) ((Utf8.decode s 0).1 : Nat) (whyN s)) := by
  have hnx := fun ty => run_next_any (P := Tryd.prog) (w.alloc (spotCells 0 0 0 0)) s 0 ty h0
  simp only [World.size_alloc, World.iter] at hnx
  have hd := spot_dec s 0 h0
  have HD : Hid (spotW s 0 (Utf8.decode s 0).1 = (Utf8.decode s 0).2 ∧ spotC s 0 (Utf8.decode s 0).1 = whyN (s.extract 0 s.size)) := hd
  clear hd
  go_enter Tryd.func57, Tryd.ntmps57
  go_wp2
  refine wp_loop_rounds 1 ?_
  rw [rounds_succ]
  go_wp2_with (go_at_call 70; refine (spotAt_any s 0 _ _ hs h0).mono ?_; rintro e w' ⟨rfl, rfl⟩)
  go_returns
  have e : s.extract 0 s.size = s := by simp
  have h2 := HD.out.2
  rw [e] at h2
  refine ⟨?_, ?_⟩
  · rw [HD.out.1, HD.out.2]; rfl
  · rw [HD.out.1, h2]

theorem first_any (s : ByteArray) (w : World) (hs : s.size ≤ maxLen) (h0 : 0 < s.size) :
    Calls Tryd.prog 57 #[.string s] w fun e w' => e = .returned (spotOf s 0) ∧ Below w.heap.size w w' :=
  (first_exact s w hs h0).mono fun e w' ⟨he, hw⟩ => ⟨he, by subst hw; go_grown⟩

/-- where a right sequence that ends s would begin -/
def leadF (s : ByteArray) : Nat → Nat → Nat
  | 0, i => i
  | f + 1, i => if 0 < i ∧ s.size < i + 4 ∧ tailB (bt s i) then leadF s f (i - 1) else i
def leadAt (s : ByteArray) : Nat := leadF s 4 (s.size - 1)
theorem leadF_le (s : ByteArray) : ∀ f i, leadF s f i ≤ i := by
  intro f
  induction f with
  | zero => intro i; exact Nat.le_refl _
  | succ f ih =>
    intro i
    unfold leadF
    split
    · have := ih (i - 1); omega
    · exact Nat.le_refl _

end Go.Proofs.YtlaennakglhmjaaDoor

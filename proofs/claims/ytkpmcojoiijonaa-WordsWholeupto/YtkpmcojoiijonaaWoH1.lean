/-
  What stands between the words of a text is blank, the words are not; the law's blank.
-/
import Derived.Test.YtkpmcojoiijonaaWoM2
namespace Go.Proofs.Ytkpmcojoiijonaa
open Go.RowKit Go.PlainAid Go.Lib
attribute [local go_sem] World.iter
set_option linter.unusedVariables false

/-- the characters from the place i to the place j -/
inductive Steps (s : ByteArray) : Nat → Nat → List Int → Prop
  | nil (i : Nat) : Steps s i i []
  | cons (i j : Nat) (l : List Int) (h : i < s.size) (k : Steps s (i + (Utf8.decode s i).2) j l) : Steps s i j ((((Utf8.decode s i).1 : Nat) : Int) :: l)
theorem Steps.le {s : ByteArray} {i j : Nat} {l : List Int} (h : Steps s i j l) : i ≤ j ∧ (i ≤ s.size → j ≤ s.size) := by
  induction h with
  | nil i => exact ⟨Nat.le_refl _, fun h => h⟩
  | cons i j l h k ih =>
    have hb := dec_bounds s i h
    exact ⟨by omega, fun _ => ih.2 (by omega)⟩
theorem Steps.snoc {s : ByteArray} {i j : Nat} {l : List Int} (h : Steps s i j l) (hj : j < s.size) : Steps s i (j + (Utf8.decode s j).2) (l ++ [(((Utf8.decode s j).1 : Nat) : Int)]) := by
  induction h with
  | nil i => exact .cons i _ [] hj (.nil _)
  | cons i j l h k ih => exact .cons i _ _ h (ih hj)
theorem dec_ext (s : ByteArray) (i j : Nat) (hj : j ≤ s.size) (k : Nat) (hk : i + k + (Utf8.decode s (i + k)).2 ≤ j) (hk' : i + k < j) : Utf8.decode (s.extract i j) k = Utf8.decode s (i + k) := by
  have e : s.extract 0 j = s.extract 0 i ++ s.extract i j := (extract_join s 0 i j (by omega) (by omega) hj).symm
  have e1 : (s.extract 0 i).size = i := by rw [ex_size _ _ _ (by omega)]; omega
  have h1 := dec_right (s.extract 0 i) (s.extract i j) k (by rw [ex_size _ _ _ hj]; omega)
  rw [← e, e1] at h1
  rw [← h1]
  exact dec_ahead s j (i + k) hj hk hk'
theorem Steps.chars {s : ByteArray} {j : Nat} (hj : j ≤ s.size) : ∀ {i : Nat} {l : List Int}, Steps s i j l → ∀ b, b ≤ i → (chars (s.extract b j) (i - b)).map (fun p => ((p.2 : Nat) : Int)) = l := by
  intro i l h
  induction h with
  | nil i =>
    intro b hb
    rw [chars_end _ _ (by rw [ex_size _ _ _ hj]; omega)]; rfl
  | cons i j l h k ih =>
    intro b hb
    have hbd := dec_bounds s i h
    have hle := k.le.1
    have hd := dec_ext s b j hj (i - b) (by rw [show b + (i - b) = i by omega]; exact hle) (by omega)
    rw [show b + (i - b) = i by omega] at hd
    rw [chars_step _ _ (by rw [ex_size _ _ _ hj]; omega), hd, List.map_cons]
    have := ih hj b (by omega)
    rw [show i + (Utf8.decode s i).2 - b = i - b + (Utf8.decode s i).2 by omega] at this
    rw [this]
theorem Steps.nums {s : ByteArray} {i j : Nat} {l : List Int} (h : Steps s i j l) (hj : j ≤ s.size) : nums (s.extract i j) 0 = l := by
  have := Steps.chars hj h i (Nat.le_refl _)
  rw [Nat.sub_self] at this
  exact this
def allB (t : ByteArray) : Prop := ∀ z ∈ nums t 0, blankB z = true
def noneB (t : ByteArray) : Prop := ∀ z ∈ nums t 0, blankB z = false
/-- the words from a place on: between them all is blank, within them nothing -/
def GoodW (s : ByteArray) : Nat → Bool → List (Nat × Nat) → Prop
  | e, _, [] => e ≤ s.size ∧ allB (s.extract e s.size)
  | e, fst, x :: ws => e ≤ x.1 ∧ (fst = false → e < x.1) ∧ allB (s.extract e x.1) ∧ x.1 < x.2 ∧ x.2 ≤ s.size ∧ noneB (s.extract x.1 x.2) ∧ GoodW s x.2 false ws
theorem good_words (s : ByteArray) : ∀ (k pos f : Nat) (b : Bool) (e : Nat) (fst : Bool) (lb lw : List Int), s.size - pos ≤ k → pos ≤ s.size →
    (∀ z ∈ lb, blankB z = true) → (∀ z ∈ lw, blankB z = false) →
    (b = true → Steps s e f lb ∧ Steps s f pos lw ∧ f < pos ∧ (fst = false → e < f)) → (b = false → Steps s e pos lb ∧ (fst = false → e < pos)) → GoodW s e fst (wordsG s (chars s pos) f b) := by
  intro k
  induction k with
  | zero =>
    intro pos f b e fst lb lw hk hp hlb hlw ht hf
    obtain rfl : pos = s.size := by omega
    rw [wordsG_end s _ f b (by omega)]
    cases b with
    | true =>
      obtain ⟨h1, h2, h3, h4⟩ := ht rfl
      refine ⟨h1.le.1, h4, ?_, h3, Nat.le_refl _, ?_, Nat.le_refl _, ?_⟩
      · intro z hz; rw [h1.nums (by omega)] at hz; exact hlb z hz
      · intro z hz; rw [h2.nums (by omega)] at hz; exact hlw z hz
      · intro z hz; rw [(Steps.nil (s := s) s.size).nums (Nat.le_refl _)] at hz; simp at hz
    | false =>
      obtain ⟨h1, h2⟩ := hf rfl
      refine ⟨h1.le.1, ?_⟩
      intro z hz; rw [h1.nums (by omega)] at hz; exact hlb z hz
  | succ k ih =>
    intro pos f b e fst lb lw hk hp hlb hlw ht hf
    by_cases hlt : pos < s.size
    · have hbd := dec_bounds s pos hlt
      rw [wordsG_step s pos f b hlt]
      cases hbl : blankB (((Utf8.decode s pos).1 : Nat) : Int) with
      | true =>
        rw [if_pos rfl]
        cases b with
        | true =>
          obtain ⟨h1, h2, h3, h4⟩ := ht rfl
          rw [if_pos rfl]
          refine ⟨h1.le.1, h4, ?_, h3, hp, ?_, ?_⟩
          · intro z hz; rw [h1.nums (by omega)] at hz; exact hlb z hz
          · intro z hz; rw [h2.nums hp] at hz; exact hlw z hz
          · exact ih (pos + (Utf8.decode s pos).2) f false pos false [(((Utf8.decode s pos).1 : Nat) : Int)] [] (by omega) (by omega) (by intro z hz; rw [List.mem_singleton.1 hz]; exact hbl) (by intro z hz; cases hz) (fun h => by cases h) (fun _ => ⟨.cons pos _ [] hlt (.nil _), fun _ => by omega⟩)
        | false =>
          obtain ⟨h1, h2⟩ := hf rfl
          rw [if_neg (by simp)]
          exact ih (pos + (Utf8.decode s pos).2) f false e fst (lb ++ [(((Utf8.decode s pos).1 : Nat) : Int)]) [] (by omega) (by omega) (by
            intro z hz
            rcases List.mem_append.1 hz with h | h
            · exact hlb z h
            · rw [List.mem_singleton.1 h]; exact hbl) (by intro z hz; cases hz) (fun h => by cases h) (fun _ => ⟨h1.snoc hlt, fun h => by have := h2 h; omega⟩)
      | false =>
        rw [if_neg (by simp)]
        cases b with
        | true =>
          obtain ⟨h1, h2, h3, h4⟩ := ht rfl
          rw [if_pos rfl]
          exact ih (pos + (Utf8.decode s pos).2) f true e fst lb (lw ++ [(((Utf8.decode s pos).1 : Nat) : Int)]) (by omega) (by omega) hlb (by
            intro z hz
            rcases List.mem_append.1 hz with h | h
            · exact hlw z h
            · rw [List.mem_singleton.1 h]; exact hbl) (fun _ => ⟨h1, h2.snoc hlt, by omega, h4⟩) (fun h => by cases h)
        | false =>
          obtain ⟨h1, h2⟩ := hf rfl
          rw [if_neg (by simp)]
          exact ih (pos + (Utf8.decode s pos).2) pos true e fst lb [(((Utf8.decode s pos).1 : Nat) : Int)] (by omega) (by omega) hlb (by intro z hz; rw [List.mem_singleton.1 hz]; exact hbl) (fun _ => ⟨h1, .cons pos _ [] hlt (.nil _), by omega, h2⟩) (fun h => by cases h)
    · obtain rfl : pos = s.size := by omega
      rw [wordsG_end s _ f b (by omega)]
      cases b with
      | true =>
        obtain ⟨h1, h2, h3, h4⟩ := ht rfl
        refine ⟨h1.le.1, h4, ?_, h3, Nat.le_refl _, ?_, Nat.le_refl _, ?_⟩
        · intro z hz; rw [h1.nums (by omega)] at hz; exact hlb z hz
        · intro z hz; rw [h2.nums (by omega)] at hz; exact hlw z hz
        · intro z hz; rw [(Steps.nil (s := s) s.size).nums (Nat.le_refl _)] at hz; simp at hz
      | false =>
        obtain ⟨h1, h2⟩ := hf rfl
        refine ⟨h1.le.1, ?_⟩
        intro z hz; rw [h1.nums (by omega)] at hz; exact hlb z hz
theorem good_all (s : ByteArray) : GoodW s 0 true (wordsL s) :=
  good_words s s.size 0 0 false 0 true [] [] (by omega) (Nat.zero_le _) (by intro z hz; cases hz) (by intro z hz; cases hz) (fun h => by cases h) (fun _ => ⟨.nil _, fun h => by cases h⟩)

set_option maxRecDepth 100000 in
set_option maxHeartbeats 1000000 in
theorem lawBlank_yes (s : ByteArray) (w : World) (hs : s.size ≤ 1099511627776) (h : allB s) :
    Calls Try.prog 38 #[.string s] w fun e w' => e = .returned (.bool true) ∧ Below w.heap.size w w' := by
  have HA := hide h
  clear h
  go_enter Try.func38, Try.ntmps38
  go_wp2
  go_loopw [4] (fun _ wr => ∃ (pos : Nat) (pre : List (Nat × Nat)), Hid (pre ++ chars s pos = chars s 0) ∧ wr.heap[w.heap.size]? = some (.stringIter s pos) ∧ Below w.heap.size w wr) (fun _ wr => s.size - wr.iterPos w.heap.size)
  case atStart => exact ⟨0, [], rfl, heap_alloc_new w _, (Below.refl _ _).alloc (Nat.le_refl _) _⟩
  case round =>
    obtain ⟨pos, pre, HP, hit, hB⟩ := hrel
    by_cases hlt : pos < s.size
    · have hnx := fun ty => run_next_any_at (P := Try.prog) wr w.heap.size s pos ty hit hlt
      have hbd := dec_bounds s pos hlt
      have hst := chars_step s pos hlt
      have HP2 : Hid (pre ++ [(pos, (Utf8.decode s pos).1)] ++ chars s (pos + (Utf8.decode s pos).2) = chars s 0) := by
        show _ = _
        rw [← HP.out, hst]; simp
      have hbl : blankB (((Utf8.decode s pos).1 : Nat) : Int) = true := by
        apply unhide HA
        refine List.mem_map.2 ⟨(pos, (Utf8.decode s pos).1), ?_, rfl⟩
        rw [← HP.out, hst]; simp
      have HB := hide hbl
      have hit2 := iterAt_heap wr w.heap.size s pos (pos + (Utf8.decode s pos).2) hit
      have hB2 : Below w.heap.size w (wr.iterAt w.heap.size s (pos + (Utf8.decode s pos).2)) := below_iterAt hB (Nat.le_refl _) s _
      have hmeas : s.size - (pos + (Utf8.decode s pos).2) < s.size - wr.iterPos w.heap.size := by rw [iterPos_of hit]; omega
      generalize hW3 : wr.iterAt w.heap.size s (pos + (Utf8.decode s pos).2) = W3 at *
      clear hW3 hst hbl
      go_wp2_with (go_at_call 13; refine (blank_any _ W3).mono ?_; rintro e w' ⟨rfl, hw⟩; obtain rfl : W3 = w' := hw.symm; rw [unhide HB])
      go_roundw
      case rel => exact ⟨_, _, HP2, hit2, hB2⟩
      case measure => rw [iterPos_of hit2]; exact hmeas
    · have hnx := fun ty => run_next_end_at (P := Try.prog) wr w.heap.size s pos ty hit hlt
      go_wp2
      go_ret
      exact ⟨rfl, hB⟩
end Go.Proofs.Ytkpmcojoiijonaa

/-
  The words of a text with a space in its midst; the words of written classes.
-/
import Derived.Test.YtkpmcojoiijonaaWoV
namespace Go.Proofs.Ytkpmcojoiijonaa
open Go.RowKit Go.PlainAid Go.Lib
set_option linter.unusedVariables false

def wordsE (e : Nat) : List (Nat × Nat) → Nat → Bool → List (Nat × Nat)
  | [], f, true => [(f, e)]
  | [], _, false => []
  | (p, r) :: l, f, true => if blankB r then (f, p) :: wordsE e l f false else wordsE e l f true
  | (p, r) :: l, f, false => if blankB r then wordsE e l f false else wordsE e l p true
theorem wordsG_E (s : ByteArray) : ∀ (l : List (Nat × Nat)) (f : Nat) (b : Bool), wordsG s l f b = wordsE s.size l f b := by
  intro l
  induction l with
  | nil => intro f b; cases b <;> rfl
  | cons x l ih =>
    intro f b
    obtain ⟨p, r⟩ := x
    cases b <;> rw [wordsG, wordsE] <;> split <;> simp only [ih]
theorem wordsE_false (e : Nat) : ∀ (l : List (Nat × Nat)) (f g : Nat), wordsE e l f false = wordsE e l g false := by
  intro l
  induction l with
  | nil => intro f g; rfl
  | cons x l ih =>
    intro f g
    obtain ⟨p, r⟩ := x
    rw [wordsE, wordsE]
    split
    · exact ih f g
    · rfl
theorem wordsE_cut (e p : Nat) (r : Nat) (m : List (Nat × Nat)) (hr : blankB r = true) (g : Nat) : ∀ (l : List (Nat × Nat)) (f : Nat) (b : Bool), wordsE e (l ++ (p, r) :: m) f b = wordsE p l f b ++ wordsE e m g false := by
  intro l
  induction l with
  | nil =>
    intro f b
    cases b
    · show (if blankB r then wordsE e m f false else wordsE e m p true) = [] ++ wordsE e m g false
      rw [if_pos hr, wordsE_false e m f g]; rfl
    · show (if blankB r then (f, p) :: wordsE e m f false else wordsE e m f true) = [(f, p)] ++ wordsE e m g false
      rw [if_pos hr, wordsE_false e m f g]; rfl
  | cons x l ih =>
    intro f b
    obtain ⟨q, t⟩ := x
    cases b <;> rw [List.cons_append, wordsE, wordsE] <;> split <;> simp only [ih, List.cons_append]
theorem wordsE_shift (k e : Nat) : ∀ (l : List (Nat × Nat)) (f : Nat) (b : Bool), wordsE (k + e) (l.map fun p => (k + p.1, p.2)) (k + f) b = (wordsE e l f b).map fun x => (k + x.1, k + x.2) := by
  intro l
  induction l with
  | nil => intro f b; cases b <;> rfl
  | cons x l ih =>
    intro f b
    obtain ⟨q, t⟩ := x
    cases b <;> rw [List.map_cons, wordsE, wordsE] <;> split <;> simp only [ih, List.map_cons]
/-- the words, as texts -/
def wordT (s : ByteArray) : List ByteArray := (wordsL s).map fun x => s.extract x.1 x.2
theorem ex_bN (s : ByteArray) (a b j : Nat) (h1 : a + j < b) (h2 : b ≤ s.size) : bN (s.extract a b) j = bN s (a + j) := by
  unfold bN
  rw [get_in _ _ (by simp [ByteArray.size_extract]; omega), get_in s (a + j) (by omega)]
  simp [ByteArray.getElem_extract]
theorem ex_size (s : ByteArray) (a b : Nat) (h2 : b ≤ s.size) : (s.extract a b).size = b - a := by simp [ByteArray.size_extract]; omega
theorem ex_left (s t : ByteArray) (a b : Nat) (h1 : a ≤ b) (h2 : b ≤ s.size) : (s ++ t).extract a b = s.extract a b := by
  have hz : (s ++ t).size = s.size + t.size := ByteArray.size_append
  refine bytes_ext (by rw [ex_size _ _ _ (by omega), ex_size _ _ _ h2]) (fun k hk => ?_)
  rw [ex_size _ _ _ (by omega)] at hk
  rw [ex_bN _ _ _ _ (by omega) (by omega), ex_bN _ _ _ _ (by omega) h2, bN_append, if_pos (by omega)]
theorem ex_right (s t : ByteArray) (a b : Nat) (h1 : a ≤ b) (h2 : b ≤ t.size) : (s ++ t).extract (s.size + a) (s.size + b) = t.extract a b := by
  have hz : (s ++ t).size = s.size + t.size := ByteArray.size_append
  refine bytes_ext (by rw [ex_size _ _ _ (by omega), ex_size _ _ _ h2]; omega) (fun k hk => ?_)
  rw [ex_size _ _ _ (by omega)] at hk
  rw [ex_bN _ _ _ _ (by omega) (by omega), ex_bN _ _ _ _ (by omega) h2, bN_append, if_neg (by omega)]
  congr 1; omega
abbrev sp1 : ByteArray := ⟨#[32]⟩
theorem chars_sp (b : ByteArray) : chars (sp1 ++ b) 0 = (0, 32) :: (chars b 0).map fun p => (1 + p.1, p.2) := by
  have hz : (sp1 ++ b).size = 1 + b.size := ByteArray.size_append
  have hd : Utf8.decode (sp1 ++ b) 0 = (32, 1) := by
    have h1 := dec_left sp1 b 0 (by decide) (.inl (by decide +kernel))
    rw [h1]; decide +kernel
  rw [chars_step _ 0 (by omega), hd]
  have := chars_right sp1 b b.size 0 (by omega)
  have e1 : sp1.size = 1 := rfl
  rw [e1] at this
  simp only [Nat.zero_add, Nat.add_zero] at this ⊢
  rw [this]
theorem words_space (a b : ByteArray) : wordsL (a ++ sp1 ++ b) = wordsL a ++ (wordsL b).map fun x => (a.size + 1 + x.1, a.size + 1 + x.2) := by
  have hassoc : a ++ sp1 ++ b = a ++ (sp1 ++ b) := ByteArray.append_assoc
  have hz : (a ++ (sp1 ++ b)).size = a.size + 1 + b.size := by rw [ByteArray.size_append, ByteArray.size_append]; show a.size + (1 + b.size) = _; omega
  have hb0 : bN (sp1 ++ b) 0 = 32 := by rw [bN_append, if_pos (by decide)]; decide
  have hl := chars_left a (sp1 ++ b) (.inr (.inr (by rw [hb0]; decide))) a.size 0 (by omega) (by omega) (fun _ hj => hj)
  rw [hassoc]
  unfold wordsL
  rw [wordsG_E, wordsG_E, wordsG_E, hl, chars_sp, List.map_cons, List.map_map, wordsE_cut _ _ _ _ (by decide) (a.size + 1 + 0), hz]
  congr 1
  have := wordsE_shift (a.size + 1) b.size (chars b 0) 0 false
  rw [← this]
  congr 1
  refine List.map_congr_left fun p _ => ?_
  show (a.size + (1 + p.1), p.2) = (a.size + 1 + p.1, p.2)
  rw [Nat.add_assoc]
theorem wordT_space (a b : ByteArray) : wordT (a ++ sp1 ++ b) = wordT a ++ wordT b := by
  unfold wordT
  rw [words_space, List.map_append, List.map_map]
  have hz : (a ++ sp1).size = a.size + 1 := by rw [ByteArray.size_append]; rfl
  have hassoc : a ++ sp1 ++ b = a ++ (sp1 ++ b) := ByteArray.append_assoc
  congr 1
  · refine List.map_congr_left fun x hx => ?_
    have := words_mem a x hx
    show (a ++ sp1 ++ b).extract x.1 x.2 = _
    rw [hassoc, ex_left a _ _ _ (by omega) (by omega)]
  · refine List.map_congr_left fun x hx => ?_
    have := words_mem b x hx
    show (a ++ sp1 ++ b).extract (a.size + 1 + x.1) (a.size + 1 + x.2) = _
    rw [← hz, ex_right _ b _ _ (by omega) (by omega)]
theorem wcls_T (s : ByteArray) : (wordsL s).map (wcls s) = (wordT s).map fun t => classN (looseB t) := by
  unfold wordT; rw [List.map_map]
  refine List.map_congr_left fun x _ => ?_
  simp only [Function.comp_apply]
  exact wcls_r s x
theorem short_word : ∀ k : Fin 23, wordT (shortS ((k.1 + 1 : Nat) : Int)) = [shortS ((k.1 + 1 : Nat) : Int)] ∧ classN (looseB (shortS ((k.1 + 1 : Nat) : Int))) = ((k.1 + 1 : Nat) : Int) := by decide +kernel
theorem okB_range (c : Int) (h0 : 0 ≤ c) (h : okB c = true) : 1 ≤ c ∧ c ≤ 23 := by
  have h' : argE (shortS c) = 0 := by unfold okB at h; simpa using h
  by_cases h1 : 24 ≤ c
  · rw [short_out c h1] at h'; exact absurd h' (by decide)
  · by_cases h2 : c = 0
    · subst h2; exact absurd h' (by decide)
    · omega
theorem one_word (c : Int) (h0 : 0 ≤ c) (h : okB c = true) : wordT (shortS c) = [shortS c] ∧ classN (looseB (shortS c)) = c := by
  have hr := okB_range c h0 h
  have := short_word ⟨c.toNat - 1, by omega⟩
  have e : ((c.toNat - 1 + 1 : Nat) : Int) = c := by omega
  rw [e] at this
  exact this
theorem wr_words : ∀ (n : Nat) (zs : List Int), zs.length = n → FitsB zs → (∀ c ∈ zs, okB c = true) → wordT (wrT zs) = zs.map shortS := by
  intro n
  induction n with
  | zero =>
    intro zs hz _ _
    have : zs = [] := List.eq_nil_of_length_eq_zero hz
    subst this
    rw [wrT_nil]; decide +kernel
  | succ n ih =>
    intro zs hz hf ho
    have hne : zs ≠ [] := by intro h; subst h; simp at hz
    obtain ⟨ys, c, rfl⟩ : ∃ ys c, zs = ys ++ [c] := ⟨zs.dropLast, zs.getLast hne, (List.dropLast_concat_getLast hne).symm⟩
    have hl : ys.length = n := by simpa using hz
    have h1 := ih ys hl (fun x hx => hf x (by simp [hx])) (fun x hx => ho x (by simp [hx]))
    have h2 := one_word c (hf c (by simp)).1 (ho c (by simp))
    rw [wrT_snoc, List.map_append]
    by_cases hy : ys = []
    · subst hy
      rw [if_pos rfl, h2.1]; rfl
    · rw [if_neg hy, wordT_space, h1, h2.1]; rfl
/-- the classes of what was written -/
theorem wr_back (zs : List Int) (hf : FitsB zs) (ho : ∀ c ∈ zs, okB c = true) : clsL (wrT zs) = zs ∧ clsP (wrT zs) = 0 ∧ clsE (wrT zs) = 0 := by
  have hw := wr_words _ zs rfl hf ho
  have hm : (wordsL (wrT zs)).map (wcls (wrT zs)) = zs := by
    rw [wcls_T, hw, List.map_map]
    refine (List.map_congr_left (g := id) fun c hc => ?_).trans (List.map_id zs)
    simp only [Function.comp_apply, id]
    exact (one_word c (hf c hc).1 (ho c hc)).2
  have hb : badW (wrT zs) = none := by
    apply bad_none
    intro x hx h0
    have hmem : wcls (wrT zs) x ∈ (wordsL (wrT zs)).map (wcls (wrT zs)) := List.mem_map_of_mem hx
    rw [hm] at hmem
    have := okB_range _ (hf _ hmem).1 (ho _ hmem)
    omega
  unfold clsL clsP clsE
  rw [hb]
  exact ⟨hm, rfl, rfl⟩
end Go.Proofs.Ytkpmcojoiijonaa

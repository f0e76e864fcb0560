/-
  These texts, one behind the other: LInvM, LInvL, LInvF, ClBaH, ClBaL, ClBaT.
-/
import Derived.Test.YthgaadjkjnibaaaGreatDoorLb
import Derived.Test.YthgaadjkjnibaaaGreatDoorNo
import Derived.Test.YthgaadjkjnibaaaGreatDoorLs
import Derived.Test.YthgaadjkjnibaaaGreatDoorOv
/-
  What is cut out of a line that was put together of clean fields: the fields. (For RowsAgain, BracketsBack and their like.)
-/
namespace Go.Proofs.YthgaadjkjnibaaaGreatDoor
set_option linter.unusedVariables false

def blk8 (b : UInt8) : Prop := b = 32 ∨ b = 9
instance (b : UInt8) : Decidable (blk8 b) := by unfold blk8; infer_instance
/-- what is there of a field, and the blanks behind it, once these bytes have come -/
def wk : List UInt8 → List UInt8 → List UInt8 → List UInt8 × List UInt8
  | cur, pend, [] => (cur, pend)
  | cur, pend, b :: l => if b = 32 ∨ b = 9 then (if cur = [] then wk [] [] l else wk cur (pend ++ [b]) l) else wk (cur ++ pend ++ [b]) [] l
theorem mach_wk (n : Nat) (rest : List UInt8) : ∀ (f cur pend : List UInt8), (∀ b ∈ f, b ≠ 59 ∧ b ≠ 35) → mach n cur pend (f ++ rest) = mach n (wk cur pend f).1 (wk cur pend f).2 rest := by
  intro f
  induction f with
  | nil => intro cur pend _; rfl
  | cons b f ih =>
    intro cur pend h
    have hb := h b (by simp)
    have ht : ∀ x ∈ f, x ≠ 59 ∧ x ≠ 35 := fun x hx => h x (by simp [hx])
    rw [List.cons_append, mach, wk]
    by_cases h1 : b = 32 ∨ b = 9
    · rw [if_pos h1, if_pos h1]
      by_cases h2 : cur = []
      · rw [if_pos h2, if_pos h2]; exact ih _ _ ht
      · rw [if_neg h2, if_neg h2]; exact ih _ _ ht
    · rw [if_neg h1, if_neg hb.1, if_neg hb.2, if_neg h1]; exact ih _ _ ht
theorem wk_append (f g : List UInt8) : ∀ cur pend, wk cur pend (f ++ g) = wk (wk cur pend f).1 (wk cur pend f).2 g := by
  induction f with
  | nil => intro cur pend; rfl
  | cons b f ih =>
    intro cur pend
    rw [List.cons_append, wk, wk]
    by_cases h1 : b = 32 ∨ b = 9
    · rw [if_pos h1, if_pos h1]
      by_cases h2 : cur = []
      · rw [if_pos h2, if_pos h2]; exact ih _ _
      · rw [if_neg h2, if_neg h2]; exact ih _ _
    · rw [if_neg h1, if_neg h1]; exact ih _ _
theorem wk_sum (f : List UInt8) : ∀ cur pend, cur ≠ [] → (wk cur pend f).1 ++ (wk cur pend f).2 = cur ++ pend ++ f := by
  induction f with
  | nil => intro cur pend _; simp [wk]
  | cons b f ih =>
    intro cur pend hc
    rw [wk]
    by_cases h1 : b = 32 ∨ b = 9
    · rw [if_pos h1, if_neg hc, ih _ _ hc]; simp
    · rw [if_neg h1, ih _ _ (by simp)]; simp
/-- a field that Cut tells: without ';' and '#', no blank at either end -/
structure Clean (f : List UInt8) : Prop where
  plain : ∀ b ∈ f, b ≠ 59 ∧ b ≠ 35
  head : ∀ b, f.head? = some b → ¬ blk8 b
  last : ∀ b, f.getLast? = some b → ¬ blk8 b
theorem wk_clean {f : List UInt8} (h : Clean f) : wk [] [] f = (f, []) := by
  cases f with
  | nil => rfl
  | cons b l =>
    have hb : ¬ (b = 32 ∨ b = 9) := h.head b rfl
    rw [wk, if_neg hb]
    show wk [b] [] l = (b :: l, [])
    by_cases hl : l = []
    · subst hl; rfl
    · obtain ⟨m, c, rfl⟩ : ∃ m c, l = m ++ [c] := ⟨l.dropLast, l.getLast hl, (List.dropLast_concat_getLast hl).symm⟩
      have hc : ¬ (c = 32 ∨ c = 9) := h.last c (by rw [← List.cons_append, List.getLast?_concat])
      rw [wk_append]
      have hs := wk_sum m [b] [] (by simp)
      show wk (wk [b] [] m).1 (wk [b] [] m).2 [c] = _
      rw [wk, if_neg hc, hs]
      simp [wk]
theorem mach_clean {f : List UInt8} (h : Clean f) (n : Nat) (rest : List UInt8) : mach n [] [] (f ++ 59 :: rest) = (f :: (mach (n + 1) [] [] rest).1, (mach (n + 1) [] [] rest).2) := by
  rw [mach_wk n _ f [] [] h.plain, wk_clean h]
  show mach n f [] (59 :: rest) = _
  rw [mach, if_neg (by decide), if_pos rfl]
theorem mach_cleanE {f : List UInt8} (h : Clean f) (n : Nat) (hn : 0 < n ∨ f ≠ []) : mach n [] [] f = ([f], []) := by
  have := mach_wk n [] f [] [] h.plain
  rw [List.append_nil, wk_clean h] at this
  rw [this]
  show (lastF n f, []) = _
  unfold lastF
  rw [if_pos hn]
/-- fields with ';' between them -/
def semi : List (List UInt8) → List UInt8
  | [] => []
  | [f] => f
  | f :: g :: l => f ++ 59 :: semi (g :: l)
theorem mach_semi : ∀ (fs : List (List UInt8)) (n : Nat), (∀ f ∈ fs, Clean f) → (0 < n ∨ 2 ≤ fs.length) → fs ≠ [] → mach n [] [] (semi fs) = (fs, [])
  | [], _, _, _, h => absurd rfl h
  | [f], n, hc, hn, _ => by
    have hn' : 0 < n := by
      rcases hn with h | h
      · exact h
      · simp at h
    exact mach_cleanE (hc f (by simp)) n (.inl hn')
  | f :: g :: l, n, hc, hn, _ => by
    show mach n [] [] (f ++ 59 :: semi (g :: l)) = _
    rw [mach_clean (hc f (by simp)), mach_semi (g :: l) (n + 1) (fun x hx => hc x (by simp [hx])) (.inl (by omega)) (by simp)]

/-- and the other way: each field that is told is clean -/
theorem mach_each : ∀ (l : List UInt8) (n : Nat) (cur pend : List UInt8), Clean cur → (∀ b ∈ pend, blk8 b) → (cur = [] → pend = []) → ∀ f ∈ (mach n cur pend l).1, Clean f
  | [], n, cur, pend, hc, hp, h0, f, hf => by
    unfold mach lastF at hf
    simp only at hf
    split at hf
    · rw [List.mem_singleton.1 hf]; exact hc
    · cases hf
  | b :: l, n, cur, pend, hc, hp, h0, f, hf => by
    rw [mach] at hf
    by_cases h1 : b = 32 ∨ b = 9
    · rw [if_pos h1] at hf
      by_cases h2 : cur = []
      · rw [if_pos h2] at hf
        exact mach_each l n [] [] ⟨fun b hb => (by cases hb), fun b hb => (by cases hb), fun b hb => (by cases hb)⟩ (fun b hb => by cases hb) (fun _ => rfl) f hf
      · rw [if_neg h2] at hf
        refine mach_each l n cur (pend ++ [b]) hc (fun x hx => ?_) (fun h => absurd h h2) f hf
        rcases List.mem_append.1 hx with hx | hx
        · exact hp x hx
        · rw [List.mem_singleton.1 hx]; exact h1
    · rw [if_neg h1] at hf
      by_cases h59 : b = 59
      · rw [if_pos h59] at hf
        rcases List.mem_cons.1 hf with rfl | hf
        · exact hc
        · exact mach_each l (n + 1) [] [] ⟨fun b hb => (by cases hb), fun b hb => (by cases hb), fun b hb => (by cases hb)⟩ (fun b hb => by cases hb) (fun _ => rfl) f hf
      · rw [if_neg h59] at hf
        by_cases h35 : b = 35
        · rw [if_pos h35] at hf
          unfold lastF at hf
          split at hf
          · rw [List.mem_singleton.1 hf]; exact hc
          · cases hf
        · rw [if_neg h35] at hf
          refine mach_each l n (cur ++ pend ++ [b]) [] ⟨fun x hx => ?_, fun x hx => ?_, fun x hx => ?_⟩ (fun x hx => by cases hx) (fun _ => rfl) f hf
          · rcases List.mem_append.1 hx with hx | hx
            · rcases List.mem_append.1 hx with hx | hx
              · exact hc.plain x hx
              · rcases hp x hx with rfl | rfl <;> exact ⟨by decide, by decide⟩
            · rw [List.mem_singleton.1 hx]; exact ⟨h59, h35⟩
          · cases cur with
            | nil => rw [h0 rfl] at hx; simp at hx; rw [← hx]; exact h1
            | cons c cur => exact hc.head x (by simpa using hx)
          · have : x = b := by simpa using hx.symm
            rw [this]; exact h1
end Go.Proofs.YthgaadjkjnibaaaGreatDoor
/-
  A line of clean fields is scanned as these fields; where the one line of a text lies.
-/
namespace Go.Proofs.YthgaadjkjnibaaaGreatDoor
open Go.RowKit Go.PlainAid Go.Lib Go.Shelf
set_option linter.unusedVariables false

theorem dropWhile_keepI {α : Type} (p : α → Bool) (b : α) (hb : p b = false) : ∀ x : List α, ∃ y, (x ++ [b]).dropWhile p = y ++ [b]
  | [] => ⟨[], by simp [hb]⟩
  | a :: x => by
    rw [List.cons_append, List.dropWhile_cons]
    cases ha : p a
    · exact ⟨a :: x, by simp⟩
    · obtain ⟨y, hy⟩ := dropWhile_keepI p b hb x
      exact ⟨y, by simpa using hy⟩
theorem trim_headI (b : UInt8) (l : List UInt8) (hb : ¬ blk8 b) : ∃ l', trimB (b :: l) = b :: l' := by
  unfold trimB trimS trimLeftS trimRightS
  have hn : b ≠ 32 ∧ b ≠ 9 := ⟨fun h => hb (.inl h), fun h => hb (.inr h)⟩
  have hp : ([32, 9] : List UInt8).contains b = false := by simp [hn.1, hn.2]
  obtain ⟨y, hy⟩ := dropWhile_keepI (fun x => ([32, 9] : List UInt8).contains x) b hp l.reverse
  have e1 : (b :: l).dropWhile (fun x => ([32, 9] : List UInt8).contains x) = b :: l := by rw [List.dropWhile_cons, hp]; rfl
  refine ⟨y.reverse, ?_⟩
  first
  | (rw [e1, List.reverse_cons, hy]; simp)
  | (rw [List.reverse_cons, hy, List.reverse_append, List.reverse_singleton, List.singleton_append, List.dropWhile_cons, hp]; simp)
theorem scan_semi (no : Int) {fs : List (List UInt8)} {b : UInt8} {f0 : List UInt8} {rest : List (List UInt8)} (hf : fs = (b :: f0) :: rest) (hc : ∀ f ∈ fs, Clean f) (h2 : 2 ≤ fs.length) (h64 : b ≠ 64) (hg : (chkS (S (semi fs))).2 = 0) : scanS no (S (semi fs)) = (⟨no, 1, [], fs, []⟩, 0) := by
  have hL : L (S (semi fs)) = semi fs := rfl
  have hm := mach_semi fs 0 hc (.inr h2) (by rw [hf]; simp)
  have hcut : cutS (S (semi fs)) = (fs, []) := by unfold cutS; rw [hL]; exact hm
  obtain ⟨tl, ht⟩ : ∃ tl, semi fs = b :: tl := by
    rw [hf]
    cases rest with
    | nil => exact ⟨f0, rfl⟩
    | cons g l => exact ⟨f0 ++ 59 :: semi (g :: l), rfl⟩
  have hb : ¬ blk8 b := (hc (b :: f0) (by rw [hf]; simp)).head b rfl
  obtain ⟨l', hl'⟩ := trim_headI b tl hb
  unfold scanS
  rw [if_neg (by rw [hg]; simp), hL, ht, hl', if_neg (by simp [hasPrefix, Ne.symm h64]), ← ht]
  unfold plainS
  rw [hcut, if_pos (by rw [hf]; simp)]
theorem bN_SI (l : List UInt8) (i : Nat) (b : UInt8) (h : l[i]? = some b) : bN (S l) i = b.toNat := by
  obtain ⟨hi, e⟩ := List.getElem?_eq_some_iff.1 h
  unfold bN
  have : (S l).get! i = b := by
    show l.toArray[i]! = b
    rw [Array.getElem!_eq_getD, Array.getD_eq_getD_getElem?]
    simp [hi, e]
  rw [this]
/-- where the line of a text of one line lies -/
theorem lines_one {l : List UInt8} {b c : UInt8} (hb : l.head? = some b) (hb7 : b.toNat < 128) (hc : l.getLast? = some c) (hc13 : c ≠ 13) (h10 : ∀ x ∈ l, x ≠ 10) :
    linesL (S (l ++ [10])) = [(1, 0, l.length)] ∧ (S (l ++ [10])).extract 0 l.length = S l := by
  have hn : l ≠ [] := by intro e; rw [e] at hb; cases hb
  have hl0 : 0 < l.length := List.length_pos_iff.2 hn
  have hs : (S (l ++ [10])).size = l.length + 1 := by rw [S_size]; simp
  have at_ : ∀ j x, l[j]? = some x → bN (S (l ++ [10])) j = x.toNat := fun j x hx => bN_SI _ j x (by rw [List.getElem?_append_left (List.getElem?_eq_some_iff.1 hx).1]; exact hx)
  have e0 : bN (S (l ++ [10])) 0 = b.toNat := at_ 0 b (by rw [← List.head?_eq_getElem?]; exact hb)
  have e10 : bN (S (l ++ [10])) l.length = 10 := bN_SI _ _ 10 (by simp)
  have hm : markN (S (l ++ [10])) = 0 := by rw [markN_eq, if_neg (by omega)]
  have hj : ∀ j, 0 ≤ j → j < l.length → bN (S (l ++ [10])) j ≠ 10 := fun j _ hj => by
    have hx : l[j]? = some l[j] := List.getElem?_eq_getElem hj
    rw [at_ j _ hx]
    intro e
    exact h10 l[j] (List.getElem_mem hj) (UInt8.toNat_inj.1 (by rw [e]; rfl))
  obtain ⟨f1, f2, f3⟩ := linesI_found (S (l ++ [10])) 1 0 l.length (Nat.zero_le _) (by omega) e10 hj
  have h13 : ¬ bN (S (l ++ [10])) (l.length - 1) = 13 := by
    have hx : l[l.length - 1]? = some c := by rw [← List.getLast?_eq_getElem?]; exact hc
    rw [at_ _ _ hx]
    intro e
    exact hc13 (UInt8.toNat_inj.1 (by rw [e]; rfl))
  rw [if_neg (fun h => h13 h.2)] at f2
  refine ⟨?_, ?_⟩
  · rw [← linesL_I, hm, f1, f2, show l.length + 1 = (S (l ++ [10])).size by omega, linesI_end]
  · rw [sl_S]
    congr 1
    show ((l ++ [10]).drop 0).take (l.length - 0) = l
    simp
end Go.Proofs.YthgaadjkjnibaaaGreatDoor
/-
  A field of a line that is right is right itself.
-/
namespace Go.Proofs.YthgaadjkjnibaaaGreatDoor
set_option linter.unusedVariables false

def EndB (c : List UInt8) : Prop := c = [] ∨ ∃ b l, c = b :: l ∧ b.toNat < 128
def BegB (a : List UInt8) : Prop := a = [] ∨ ∃ l b, a = l ++ [b] ∧ b.toNat < 128
/-- where a field that is told lies -/
theorem mach_at : ∀ (l : List UInt8) (n : Nat) (cur pend f : List UInt8), f ∈ (mach n cur pend l).1 → (cur = [] → pend = []) → (∀ b ∈ pend, b = 32 ∨ b = 9) →
    (∃ c, cur ++ pend ++ l = f ++ c ∧ EndB c) ∨ (∃ a c, l = a ++ f ++ c ∧ a ≠ [] ∧ BegB a ∧ EndB c)
  | [], n, cur, pend, f, hf, h0, hp => by
    unfold mach lastF at hf
    simp only at hf
    split at hf
    · rw [List.mem_singleton.1 hf]
      refine .inl ⟨pend, by simp, ?_⟩
      cases pend with
      | nil => exact .inl rfl
      | cons b p => exact .inr ⟨b, p, rfl, by rcases hp b (by simp) with rfl | rfl <;> decide⟩
    · cases hf
  | b :: l, n, cur, pend, f, hf, h0, hp => by
    have here : ∀ {c : List UInt8}, b.toNat < 128 → EndB (pend ++ b :: l) := fun hb => by
      cases pend with
      | nil => exact .inr ⟨b, l, rfl, hb⟩
      | cons d p => exact .inr ⟨d, p ++ b :: l, rfl, by rcases hp d (by simp) with rfl | rfl <;> decide⟩
    rw [mach] at hf
    by_cases h1 : b = 32 ∨ b = 9
    · have hb7 : b.toNat < 128 := by rcases h1 with rfl | rfl <;> decide
      rw [if_pos h1] at hf
      by_cases h2 : cur = []
      · rw [if_pos h2] at hf
        rcases mach_at l n [] [] f hf (fun _ => rfl) (fun x hx => by cases hx) with ⟨c, e, hc⟩ | ⟨a, c, e, ha, hb, hc⟩
        · exact .inr ⟨[b], c, by rw [show l = f ++ c from e]; simp, by simp, .inr ⟨[], b, rfl, hb7⟩, hc⟩
        · refine .inr ⟨b :: a, c, by rw [e]; simp, by simp, ?_, hc⟩
          rcases hb with rfl | ⟨l', b', rfl, h⟩
          · exact absurd rfl ha
          · exact .inr ⟨b :: l', b', rfl, h⟩
      · rw [if_neg h2] at hf
        rcases mach_at l n cur (pend ++ [b]) f hf (fun h => absurd h h2) (fun x hx => by
          rcases List.mem_append.1 hx with hx | hx
          · exact hp x hx
          · rw [List.mem_singleton.1 hx]; exact h1) with ⟨c, e, hc⟩ | ⟨a, c, e, ha, hb, hc⟩
        · exact .inl ⟨c, by rw [← e]; simp, hc⟩
        · refine .inr ⟨b :: a, c, by rw [e]; simp, by simp, ?_, hc⟩
          rcases hb with rfl | ⟨l', b', rfl, h⟩
          · exact absurd rfl ha
          · exact .inr ⟨b :: l', b', rfl, h⟩
    · rw [if_neg h1] at hf
      by_cases h59 : b = 59
      · have hb7 : b.toNat < 128 := by rw [h59]; decide
        rw [if_pos h59] at hf
        rcases List.mem_cons.1 hf with rfl | hf
        · exact .inl ⟨pend ++ b :: l, by simp, here (c := []) hb7⟩
        · rcases mach_at l (n + 1) [] [] f hf (fun _ => rfl) (fun x hx => by cases hx) with ⟨c, e, hc⟩ | ⟨a, c, e, ha, hb, hc⟩
          · exact .inr ⟨[b], c, by rw [show l = f ++ c from e]; simp, by simp, .inr ⟨[], b, rfl, hb7⟩, hc⟩
          · refine .inr ⟨b :: a, c, by rw [e]; simp, by simp, ?_, hc⟩
            rcases hb with rfl | ⟨l', b', rfl, h⟩
            · exact absurd rfl ha
            · exact .inr ⟨b :: l', b', rfl, h⟩
      · rw [if_neg h59] at hf
        by_cases h35 : b = 35
        · rw [if_pos h35] at hf
          unfold lastF at hf
          split at hf
          · rw [List.mem_singleton.1 hf]
            exact .inl ⟨pend ++ b :: l, by simp, here (c := []) (by rw [h35]; decide)⟩
          · cases hf
        · rw [if_neg h35] at hf
          rcases mach_at l n (cur ++ pend ++ [b]) [] f hf (fun _ => rfl) (fun x hx => by cases hx) with ⟨c, e, hc⟩ | ⟨a, c, e, ha, hb, hc⟩
          · exact .inl ⟨c, by rw [← e]; simp, hc⟩
          · refine .inr ⟨b :: a, c, by rw [e]; simp, by simp, ?_, hc⟩
            rcases hb with rfl | ⟨l', b', rfl, h⟩
            · exact absurd rfl ha
            · exact .inr ⟨b :: l', b', rfl, h⟩
theorem S_appI (a b : List UInt8) : S (a ++ b) = S a ++ S b := by
  apply ByteArray.ext
  rw [ByteArray.data_append]
  simp
theorem bN_head (b : UInt8) (l : List UInt8) : bN (S (b :: l)) 0 = b.toNat := rfl
theorem S_pos (b : UInt8) (l : List UInt8) : 0 < (S (b :: l)).size := by rw [S_size]; simp
theorem dec_tailN (s : ByteArray) (i : Nat) (hi : i < s.size) (h : bN s i / 64 = 2) : Utf8.decode s i = (65533, 1) := by
  rw [decode_decB s i hi]
  unfold decB
  rw [if_neg (by omega), if_neg (by omega), if_neg (by omega), if_neg (by omega)]
theorem dec_lowN (s : ByteArray) (i : Nat) (hi : i < s.size) (h : bN s i < 128) : Utf8.decode s i = (bN s i, 1) := by
  rw [decode_decB s i hi]
  unfold decB
  rw [if_pos h]
/-- a right text doesn't begin with a tail -/
theorem good_head {f : List UInt8} (h : goodT (S f)) : (S f).size = 0 ∨ ¬ bN (S f) 0 / 64 = 2 := by
  cases f with
  | nil => exact .inl rfl
  | cons b l =>
    refine .inr fun ht => ?_
    have hd := dec_tailN (S (b :: l)) 0 (S_pos b l) ht
    have hm : (0, 65533) ∈ chars (S (b :: l)) 0 := by rw [chars_step _ 0 (S_pos b l), hd]; simp
    have := (h _ hm).1
    simp only at this
    rw [hd] at this
    exact this ⟨trivial, rfl⟩
theorem end_ok {c : List UInt8} (h : EndB c) : (S c).size = 0 ∨ ¬ bN (S c) 0 / 64 = 2 := by
  rcases h with rfl | ⟨b, l, rfl, h⟩
  · exact .inl rfl
  · refine .inr ?_
    rw [bN_head]; omega
theorem good_behind {z : UInt8} {f : List UInt8} (hz : z.toNat < 128) (h : goodT (S (z :: f))) : goodT (S f) := by
  have e : S (z :: f) = S [z] ++ S f := S_appI [z] f
  have hf : (S f).size = 0 ∨ ¬ bN (S f) 0 / 64 = 2 := by
    cases f with
    | nil => exact .inl rfl
    | cons b l =>
      refine .inr fun ht => ?_
      have h0 : Utf8.decode (S (z :: b :: l)) 0 = (z.toNat, 1) := by rw [dec_lowN _ 0 (S_pos _ _) (by rw [bN_head]; exact hz), bN_head]
      have hd : Utf8.decode (S (z :: b :: l)) 1 = (65533, 1) := by
        have := dec_right (S [z]) (S (b :: l)) 0 (S_pos b l)
        rw [← e] at this
        rw [show (S [z]).size + 0 = 1 from rfl] at this
        rw [this]
        exact dec_tailN _ 0 (S_pos b l) ht
      have hm : (1, 65533) ∈ chars (S (z :: b :: l)) 0 := by
        rw [chars_step _ 0 (S_pos _ _), h0]
        show (1, 65533) ∈ (0, z.toNat) :: chars (S (z :: b :: l)) 1
        rw [chars_step _ 1 (by rw [S_size]; simp), hd]
        simp
      have := (h _ hm).1
      simp only at this
      rw [hd] at this
      exact this ⟨trivial, rfl⟩
  rw [e] at h
  exact (goodT_parts h hf).2
/-- a field of a right line is right -/
theorem good_field {l f : List UInt8} (h : goodT (S l)) (hf : f ∈ (mach 0 [] [] l).1) : goodT (S f) := by
  rcases mach_at l 0 [] [] f hf (fun _ => rfl) (fun x hx => by cases hx) with ⟨c, e, hc⟩ | ⟨a, c, e, ha, hb, hc⟩
  · have e' : l = f ++ c := e
    rw [e', S_appI] at h
    exact (goodT_parts h (end_ok hc)).1
  · rw [e, S_appI] at h
    have h1 := (goodT_parts h (end_ok hc)).1
    rcases hb with rfl | ⟨l', b', rfl, hb⟩
    · exact absurd rfl ha
    · rw [List.append_assoc, List.singleton_append, S_appI] at h1
      have h2 := (goodT_parts h1 (.inr (by rw [bN_head]; omega))).2
      exact good_behind hb h2
/-- and its characters are no more than the line's -/
theorem len_field {l f : List UInt8} (h : goodT (S l)) (hf : f ∈ (mach 0 [] [] l).1) : (chars (S f) 0).length ≤ (chars (S l) 0).length := by
  rcases mach_at l 0 [] [] f hf (fun _ => rfl) (fun x hx => by cases hx) with ⟨c, e, hc⟩ | ⟨a, c, e, ha, hb, hc⟩
  · have e' : l = f ++ c := e
    rw [e', S_appI, chars_len_appI (end_ok hc)]; omega
  · have hg := good_field h hf
    rw [e, S_appI, chars_len_appI (end_ok hc), S_appI, chars_len_appI (good_head hg)]; omega
end Go.Proofs.YthgaadjkjnibaaaGreatDoor
/-
  Hexadecimal numbers and ranges as they are written, and read again.
-/
namespace Go.Proofs.YthgaadjkjnibaaaGreatDoor
open Go.RowKit Go.PlainAid Go.Lib Go.PHexM Go.Shelf Go.PRow
set_option linter.unusedVariables false
set_option linter.unusedSimpArgs false

theorem dig_dgt : ∀ d : Fin 16, dig (dgt d.1) = some d.1 := by decide +kernel
theorem digs_hexUp (i : Nat) : ∀ n a, digs (hexUp i n) a = some (a * 16 ^ i + n % 16 ^ i) := by
  induction i with
  | zero => intro n a; simp [hexUp, digs, Nat.mod_one]
  | succ i ih =>
    intro n a
    have hd := dig_dgt ⟨n / 16 ^ i % 16, Nat.mod_lt _ (by decide)⟩
    show (match dig (dgt (n / 16 ^ i % 16)) with | none => none | some d => digs (hexUp i n) (a * 16 + d)) = _
    rw [hd]
    show digs (hexUp i n) (a * 16 + n / 16 ^ i % 16) = _
    rw [ih, Nat.pow_succ, Nat.mod_mul]
    congr 1
    have e1 : (a * 16 + n / 16 ^ i % 16) * 16 ^ i = a * (16 ^ i * 16) + 16 ^ i * (n / 16 ^ i % 16) := by
      rw [Nat.add_mul, Nat.mul_assoc, Nat.mul_comm 16 (16 ^ i), Nat.mul_comm (n / 16 ^ i % 16)]
    rw [e1]
    omega
theorem dgt_ne : ∀ d : Fin 16, d.1 ≠ 0 → dgt d.1 ≠ 48 := by decide +kernel
theorem show_long (n : Nat) (h : n ≤ 1114111) : longOk (showP n) = true := by
  unfold showP showLen
  by_cases h1 : n < 65536
  · rw [if_pos h1]; unfold longOk; simp [hexUp_len]
  · rw [if_neg h1]
    by_cases h2 : n < 1048576
    · rw [if_pos h2]
      have hd : dgt (n / 16 ^ 4 % 16) ≠ 48 := dgt_ne ⟨n / 16 ^ 4 % 16, Nat.mod_lt _ (by decide)⟩ (by show n / 65536 % 16 ≠ 0; omega)
      unfold longOk
      rw [hexUp_len]
      show (decide (4 ≤ 5) && decide (5 ≤ 6) && !(decide (4 < 5) && (some (dgt (n / 16 ^ 4 % 16)) == some 48))) = true
      simp [hd]
    · rw [if_neg h2]
      have hd : dgt (n / 16 ^ 5 % 16) ≠ 48 := dgt_ne ⟨n / 16 ^ 5 % 16, Nat.mod_lt _ (by decide)⟩ (by show n / 1048576 % 16 ≠ 0; omega)
      unfold longOk
      rw [hexUp_len]
      show (decide (4 ≤ 6) && decide (6 ≤ 6) && !(decide (4 < 6) && (some (dgt (n / 16 ^ 5 % 16)) == some 48))) = true
      simp [hd]
theorem hexP_show (n : Nat) (h : n ≤ 1114111) : hexP (showP n) = some n := by
  unfold hexP
  rw [show_long n h, if_pos rfl]
  unfold showP
  rw [digs_hexUp, Nat.zero_mul, Nat.zero_add]
  have e : n % 16 ^ showLen n = n := by
    apply Nat.mod_eq_of_lt
    unfold showLen
    split
    · show n < 65536; omega
    · split
      · show n < 1048576; omega
      · show n < 16777216; omega
  rw [e]
  show (if 1114111 < n then none else some n) = some n
  rw [if_neg (by omega)]
theorem hexUp_mem (i : Nat) : ∀ n b, b ∈ hexUp i n → ∃ d : Fin 16, b = dgt d.1 := by
  induction i with
  | zero => intro n b h; cases h
  | succ i ih =>
    intro n b h
    rcases List.mem_cons.1 h with h | h
    · exact ⟨⟨n / 16 ^ i % 16, Nat.mod_lt _ (by decide)⟩, h⟩
    · exact ih n b h
theorem chk_plain (t : ByteArray) (h : ∀ j, j < t.size → 32 ≤ bN t j ∧ bN t j ≤ 126) (hs : t.size ≤ 4096) : ∀ (k pos : Nat), t.size - pos ≤ k → chk t pos (chars t pos) = (0, 0) := by
  intro k
  induction k with
  | zero => intro pos hk; rw [chars_end t pos (by omega)]; rfl
  | succ k ih =>
    intro pos hk
    by_cases hp : pos < t.size
    · have hb := h pos hp
      have hd : Utf8.decode t pos = (bN t pos, 1) := by
        rw [decode_decB t pos hp]
        unfold decB
        rw [if_pos (by omega)]
      rw [chars_step t pos hp, hd, chk, if_neg (by omega), if_neg (by omega), if_neg (by simp [ctrlB]; omega)]
      exact ih (pos + 1) (by omega)
    · rw [chars_end t pos hp]; rfl

/-- a byte that stands in what is written, and is no sign of a line's -/
def okB7 (b : UInt8) : Prop := b ≠ 32 ∧ b ≠ 59 ∧ b ≠ 64 ∧ b ≠ 35 ∧ b ≠ 9 ∧ b ≠ 10 ∧ b ≠ 13 ∧ 32 ≤ b.toNat ∧ b.toNat ≤ 126
theorem dgt_ok7 : ∀ d : Fin 16, okB7 (dgt d.1) ∧ dgt d.1 ≠ 46 := by unfold okB7; decide +kernel
theorem show_ok7 {n : Nat} {b : UInt8} (h : b ∈ showP n) : okB7 b ∧ b ≠ 46 := by
  obtain ⟨d, rfl⟩ := hexUp_mem _ _ _ h
  exact dgt_ok7 d
theorem clean_ok7 {l : List UInt8} (h : ∀ b ∈ l, okB7 b) : Clean l := by
  refine ⟨fun b hb => ⟨(h b hb).2.1, (h b hb).2.2.2.1⟩, fun b hb => ?_, fun b hb => ?_⟩
  · have := h b (List.mem_of_mem_head? hb)
    unfold blk8
    exact fun e => e.elim this.1 this.2.2.2.2.1
  · have := h b (List.mem_of_mem_getLast? hb)
    unfold blk8
    exact fun e => e.elim this.1 this.2.2.2.2.1
theorem showP_len (n : Nat) : 4 ≤ (showP n).length ∧ (showP n).length ≤ 6 := by
  unfold showP
  rw [hexUp_len]
  unfold showLen
  (repeat' split) <;> omega
/-- a range's text -/
def spanL (a b : Nat) : List UInt8 := if a = b then showP a else showP a ++ 46 :: (46 :: showP b)
theorem spanS_L (a b : Nat) : spanS a b = S (spanL a b) := by
  unfold spanS spanL
  split
  · rfl
  · apply ByteArray.ext
    apply Array.toList_inj.1
    simp [ByteArray.data_append, hexS, showP]
theorem spanL_ok {a b : Nat} {c : UInt8} (h : c ∈ spanL a b) : okB7 c := by
  have h46 : okB7 46 := by unfold okB7; decide
  unfold spanL at h
  split at h
  · exact (show_ok7 h).1
  · rcases List.mem_append.1 h with h | h
    · exact (show_ok7 h).1
    · rcases List.mem_cons.1 h with rfl | h
      · exact h46
      · rcases List.mem_cons.1 h with rfl | h
        · exact h46
        · exact (show_ok7 h).1
theorem spanL_len (a b : Nat) : 4 ≤ (spanL a b).length ∧ (spanL a b).length ≤ 14 := by
  have h1 := showP_len a
  have h2 := showP_len b
  unfold spanL
  split
  · omega
  · simp only [List.length_append, List.length_cons]; omega
theorem dots_no : ∀ (l : List UInt8), (∀ b ∈ l, b ≠ 46) → Lib.index l [46, 46] = -1
  | [], _ => by decide
  | b :: l, h => by
    have hb : b ≠ 46 := h b (by simp)
    have h0 : ([46, 46] : List UInt8).isPrefixOf (b :: l) = false := by
      simp [List.isPrefixOf, Ne.symm hb]
    unfold Lib.index
    rw [h0, dots_no l (fun c hc => h c (by simp [hc]))]
    simp
theorem dots_at (r : List UInt8) : ∀ (l : List UInt8), (∀ b ∈ l, b ≠ 46) → Lib.index (l ++ 46 :: (46 :: r)) [46, 46] = (l.length : Int)
  | [], _ => by
    show Lib.index (46 :: (46 :: r)) [46, 46] = 0
    unfold Lib.index
    simp [List.isPrefixOf]
  | b :: l, h => by
    have hb : b ≠ 46 := h b (by simp)
    have h0 : ([46, 46] : List UInt8).isPrefixOf (b :: (l ++ 46 :: (46 :: r))) = false := by
      simp [List.isPrefixOf, Ne.symm hb]
    show Lib.index (b :: (l ++ 46 :: (46 :: r))) [46, 46] = _
    unfold Lib.index
    rw [h0, dots_at r l (fun c hc => h c (by simp [hc]))]
    have : ((l.length : Int) == -1) = false := by rw [beq_eq_false_iff_ne]; omega
    simp [this]
theorem cut_no {l : List UInt8} (h : ∀ b ∈ l, b ≠ 46) : Lib.cut l [46, 46] = (l, [], false) := by
  unfold Lib.cut
  rw [dots_no l h, if_neg (by decide)]
theorem cut_at {l r : List UInt8} (h : ∀ b ∈ l, b ≠ 46) : Lib.cut (l ++ 46 :: (46 :: r)) [46, 46] = (l, r, true) := by
  unfold Lib.cut
  rw [dots_at r l h, if_pos (by omega)]
  have e : ((l.length : Int)).toNat = l.length := by omega
  rw [e, List.take_left' rfl]
  have e2 : (l ++ 46 :: (46 :: r)).drop (l.length + ([46, 46] : List UInt8).length) = r := by
    rw [show l ++ 46 :: (46 :: r) = (l ++ [46, 46]) ++ r by simp]
    exact List.drop_left' (by simp)
  rw [e2]
/-- a range that was written is read -/
theorem span_back (a b : Nat) (h : a ≤ b) (hb : b ≤ 1114111) : spanT (spanL a b) = ((a : Int), (b : Int), 0) := by
  have ha : a ≤ 1114111 := by omega
  unfold spanT spanL
  by_cases e : a = b
  · subst e
    rw [if_pos rfl, cut_no (fun c hc => (show_ok7 hc).2)]
    simp only [Bool.false_eq_true, if_false]
    unfold spanT2
    rw [hexP_show a ha]
    simp only
    rw [if_neg (by omega)]
  · rw [if_neg e, cut_at (fun c hc => (show_ok7 hc).2)]
    simp only [if_true]
    unfold spanT2
    rw [hexP_show a ha, hexP_show b hb]
    simp only
    rw [if_neg (by omega)]
end Go.Proofs.YthgaadjkjnibaaaGreatDoor
/-
  The lines that Write writes, as they are read.
-/
namespace Go.Proofs.YthgaadjkjnibaaaGreatDoor
open Go.RowKit Go.PlainAid Go.Lib Go.PHexM Go.Shelf Go.PRow
set_option linter.unusedVariables false
set_option linter.unusedSimpArgs false

/-- a class' name in a line -/
def nmB (m : Bool) (c : Int) : ByteArray := if m then longS c else shortS c
def nmL (m : Bool) (c : Int) : List UInt8 := L (nmB m c)
theorem okB7_iff (b : UInt8) : okB7 b ↔ (b != 32 && b != 59 && b != 64 && b != 35 && b != 9 && b != 10 && b != 13 && decide (32 ≤ b.toNat) && decide (b.toNat ≤ 126)) = true := by
  unfold okB7
  simp only [Bool.and_eq_true, bne_iff_ne, decide_eq_true_eq]
  constructor
  · rintro ⟨h1, h2, h3, h4, h5, h6, h7, h8, h9⟩
    exact ⟨⟨⟨⟨⟨⟨⟨⟨h1, h2⟩, h3⟩, h4⟩, h5⟩, h6⟩, h7⟩, h8⟩, h9⟩
  · rintro ⟨⟨⟨⟨⟨⟨⟨⟨h1, h2⟩, h3⟩, h4⟩, h5⟩, h6⟩, h7⟩, h8⟩, h9⟩
    exact ⟨h1, h2, h3, h4, h5, h6, h7, h8, h9⟩
def okL7 (l : List UInt8) : Bool := l.all fun b => (b != 32 && b != 59 && b != 64 && b != 35 && b != 9 && b != 10 && b != 13 && decide (32 ≤ b.toNat) && decide (b.toNat ≤ 126))
theorem okL7_mem {l : List UInt8} (h : okL7 l = true) : ∀ b ∈ l, okB7 b := fun b hb => (okB7_iff b).2 (List.all_eq_true.1 h b hb)
theorem names_long : ∀ c : Fin 23, okL7 (nmL true ((c.1 + 1 : Nat) : Int)) = true ∧ (nmL true ((c.1 + 1 : Nat) : Int)).length ≠ 0 ∧ (nmL true ((c.1 + 1 : Nat) : Int)).length ≤ 40 ∧ classN (looseB (nmB true ((c.1 + 1 : Nat) : Int))) = ((c.1 + 1 : Nat) : Int) := by decide +kernel
theorem names_short : ∀ c : Fin 23, okL7 (nmL false ((c.1 + 1 : Nat) : Int)) = true ∧ (nmL false ((c.1 + 1 : Nat) : Int)).length ≠ 0 ∧ (nmL false ((c.1 + 1 : Nat) : Int)).length ≤ 40 ∧ classN (looseB (nmB false ((c.1 + 1 : Nat) : Int))) = ((c.1 + 1 : Nat) : Int) := by decide +kernel
theorem names_ok (m : Bool) {c : Int} (h1 : 1 ≤ c) (h2 : c ≤ 23) : (∀ b ∈ nmL m c, okB7 b) ∧ nmL m c ≠ [] ∧ (nmL m c).length ≤ 40 ∧ classN (looseB (S (nmL m c))) = c := by
  obtain ⟨k, rfl⟩ : ∃ k : Nat, c = ((k + 1 : Nat) : Int) := ⟨(c - 1).toNat, by omega⟩
  have hk : k < 23 := by omega
  have e : S (nmL m ((k + 1 : Nat) : Int)) = nmB m ((k + 1 : Nat) : Int) := rfl
  rw [e]
  cases m
  · obtain ⟨a, b, c, d⟩ := names_short ⟨k, hk⟩
    exact ⟨okL7_mem a, fun e => b (by rw [e]; rfl), c, d⟩
  · obtain ⟨a, b, c, d⟩ := names_long ⟨k, hk⟩
    exact ⟨okL7_mem a, fun e => b (by rw [e]; rfl), c, d⟩

/-- a piece that is written and read -/
structure OkI7 (p : Pc Int) : Prop where
  lo : 0 ≤ p.lo
  le : p.lo ≤ p.hi
  hi : p.hi ≤ 1114111
  c1 : 1 ≤ p.val
  c2 : p.val ≤ 23
/-- the fields of a line -/
def fldL (m : Bool) (p : Pc Int) : List UInt8 := spanL p.lo.toNat p.hi.toNat ++ 59 :: (32 :: nmL m p.val)
/-- a line without its end -/
def lineL (m : Bool) (p : Pc Int) : List UInt8 := (if m then [35, 32, 64, 109, 105, 115, 115, 105, 110, 103, 58, 32] else []) ++ fldL m p
/-- the line, read -/
def dL (no : Int) (m : Bool) (p : Pc Int) : LineD := ⟨no, if m then 3 else 1, [], [spanL p.lo.toNat p.hi.toNat, nmL m p.val], []⟩
theorem fld_mach {p : Pc Int} (h : OkI7 p) (m : Bool) : mach 0 [] [] (fldL m p) = ([spanL p.lo.toNat p.hi.toNat, nmL m p.val], []) := by
  obtain ⟨n1, n2, _, _⟩ := names_ok m h.c1 h.c2
  unfold fldL
  rw [mach_clean (clean_ok7 fun b hb => spanL_ok hb) 0]
  have h1 : ∀ r, mach (0 + 1) [] [] (32 :: r) = mach (0 + 1) [] [] r := fun r => by
    show (if _ then _ else _) = _
    rw [if_pos (.inl rfl), if_pos rfl]
  rw [h1, mach_cleanE (clean_ok7 n1) (0 + 1) (.inl (by decide))]
theorem fld_ne (m : Bool) (p : Pc Int) : ∃ b r, fldL m p = b :: r ∧ b ∈ spanL p.lo.toNat p.hi.toNat := by
  unfold fldL
  cases h : spanL p.lo.toNat p.hi.toNat with
  | nil => have := (spanL_len p.lo.toNat p.hi.toNat).1; rw [h] at this; simp at this
  | cons b r => exact ⟨b, _, rfl, by simp⟩
theorem fld_last {p : Pc Int} (h : OkI7 p) (m : Bool) : ∃ r b, fldL m p = r ++ [b] ∧ okB7 b := by
  obtain ⟨n1, n2, _, _⟩ := names_ok m h.c1 h.c2
  refine ⟨spanL p.lo.toNat p.hi.toNat ++ 59 :: (32 :: (nmL m p.val).dropLast), (nmL m p.val).getLast n2, ?_, n1 _ (List.getLast_mem n2)⟩
  unfold fldL
  rw [List.append_assoc, List.cons_append, List.cons_append, List.dropLast_concat_getLast]
/-- the bytes of a line -/
theorem fld_mem {p : Pc Int} (h : OkI7 p) (m : Bool) {b : UInt8} (hb : b ∈ fldL m p) : b ≠ 10 ∧ 32 ≤ b.toNat ∧ b.toNat ≤ 126 := by
  obtain ⟨n1, _, _, _⟩ := names_ok m h.c1 h.c2
  unfold fldL at hb
  rcases List.mem_append.1 hb with hb | hb
  · have := spanL_ok hb; exact ⟨this.2.2.2.2.2.1, this.2.2.2.2.2.2.2⟩
  · rcases List.mem_cons.1 hb with rfl | hb
    · decide
    · rcases List.mem_cons.1 hb with rfl | hb
      · decide
      · have := n1 b hb; exact ⟨this.2.2.2.2.2.1, this.2.2.2.2.2.2.2⟩
theorem line_mem {p : Pc Int} (h : OkI7 p) (m : Bool) {b : UInt8} (hb : b ∈ lineL m p) : b ≠ 10 ∧ 32 ≤ b.toNat ∧ b.toNat ≤ 126 := by
  unfold lineL at hb
  rcases List.mem_append.1 hb with hb | hb
  · cases m
    · simp at hb
    · have : ∀ b ∈ ([35, 32, 64, 109, 105, 115, 115, 105, 110, 103, 58, 32] : List UInt8), b ≠ 10 ∧ 32 ≤ b.toNat ∧ b.toNat ≤ 126 := by decide +kernel
      exact this b (by simpa using hb)
  · exact fld_mem h m hb
theorem line_len {p : Pc Int} (h : OkI7 p) (m : Bool) : 4 ≤ (lineL m p).length ∧ (lineL m p).length ≤ 68 := by
  obtain ⟨_, _, n3, _⟩ := names_ok m h.c1 h.c2
  have h1 := spanL_len p.lo.toNat p.hi.toNat
  have h2 : (if m then [35, 32, 64, 109, 105, 115, 115, 105, 110, 103, 58, 32] else ([] : List UInt8)).length ≤ 12 := by cases m <;> decide
  unfold lineL fldL
  simp only [List.length_append, List.length_cons]
  omega
theorem dropWhile_headI {α : Type} (f : α → Bool) (b : α) (r : List α) (h : f b = false) : (b :: r).dropWhile f = b :: r := by rw [List.dropWhile_cons, h]; rfl
theorem trim_id {b c : UInt8} {r s : List UInt8} (e : b :: r = s ++ [c]) (hb : ¬ blk8 b) (hc : ¬ blk8 c) : trimB (32 :: b :: r) = b :: r ∧ trimB (b :: r) = b :: r := by
  have k : ∀ x : UInt8, ¬ blk8 x → ([32, 9] : List UInt8).contains x = false := fun x hx => by
    have hn : x ≠ 32 ∧ x ≠ 9 := ⟨fun h => hx (.inl h), fun h => hx (.inr h)⟩
    simp [hn.1, hn.2]
  have hr : trimRightS (b :: r) [32, 9] = b :: r := by
    unfold trimRightS
    rw [e, List.reverse_append, List.reverse_singleton, List.singleton_append, dropWhile_headI _ _ _ (k c hc), List.reverse_cons, List.reverse_reverse]
  have hr2 : trimRightS (32 :: b :: r) [32, 9] = 32 :: b :: r := by
    unfold trimRightS
    rw [e, ← List.cons_append, List.reverse_append, List.reverse_singleton, List.singleton_append, dropWhile_headI _ _ _ (k c hc), List.reverse_cons, List.reverse_reverse]
  unfold trimB trimS
  rw [hr, hr2]
  unfold trimLeftS
  refine ⟨?_, dropWhile_headI _ _ _ (k b hb)⟩
  rw [List.dropWhile_cons, show ([32, 9] : List UInt8).contains 32 = true by decide, if_pos rfl]
  exact dropWhile_headI _ _ _ (k b hb)
theorem blk_ok7 {b : UInt8} (h : okB7 b) : ¬ blk8 b := fun e => e.elim h.1 h.2.2.2.2.1
/-- what stands behind the sign of a missing line -/
theorem note_mach {p : Pc Int} (h : OkI7 p) : mach 0 [] [] (lineL true p) = ([], 64 :: 109 :: 105 :: 115 :: 115 :: 105 :: 110 :: 103 :: 58 :: 32 :: fldL true p) := by
  obtain ⟨r, c, e, hc⟩ := fld_last h true
  have e2 : 64 :: 109 :: 105 :: 115 :: 115 :: 105 :: 110 :: 103 :: 58 :: 32 :: fldL true p = ([64, 109, 105, 115, 115, 105, 110, 103, 58, 32] ++ r) ++ [c] := by rw [e]; simp
  have ht := (trim_id e2 (by unfold blk8; decide) (blk_ok7 hc)).1
  have hl : lineL true p = 35 :: 32 :: 64 :: 109 :: 105 :: 115 :: 115 :: 105 :: 110 :: 103 :: 58 :: 32 :: fldL true p := rfl
  rw [hl]
  show (if _ then _ else _) = _
  rw [if_neg (by decide), if_neg (by decide), if_pos rfl, ht]
  rfl
theorem line_chk {p : Pc Int} (h : OkI7 p) (m : Bool) : (chkS (S (lineL m p))).2 = 0 := by
  have hp := chk_plain (S (lineL m p)) (fun j hj => by
    have hj' : j < (lineL m p).length := by rw [S_size] at hj; exact hj
    rw [bN_SI _ j _ (List.getElem?_eq_getElem hj')]
    exact (line_mem h m (List.getElem_mem hj')).2) (by rw [S_size]; have := (line_len h m).2; omega) (S (lineL m p)).size 0 (by omega)
  unfold chkS
  rw [hp]
theorem line_scan7 {p : Pc Int} (h : OkI7 p) (m : Bool) (no : Int) : scanS no (S (lineL m p)) = (dL no m p, 0) := by
  have hL : L (S (lineL m p)) = lineL m p := rfl
  have hck := line_chk h m
  obtain ⟨b, r, hb, hbm⟩ := fld_ne m p
  have hbo := spanL_ok hbm
  obtain ⟨s, c, hs, hc⟩ := fld_last h m
  unfold scanS
  rw [if_neg (by rw [hck]; simp), hL]
  cases m
  · have e0 : lineL false p = b :: r := by rw [← hb]; rfl
    obtain ⟨l', hl'⟩ := trim_headI b r (blk_ok7 hbo)
    rw [e0, hl', if_neg (by simp [hasPrefix, Ne.symm hbo.2.2.1]), ← e0]
    have hcut : cutS (S (lineL false p)) = ([spanL p.lo.toNat p.hi.toNat, nmL false p.val], []) := by unfold cutS; rw [hL]; exact fld_mach h false
    unfold plainS
    rw [hcut, if_pos (by simp)]
    rfl
  · have e0 : lineL true p = 35 :: (32 :: 64 :: 109 :: 105 :: 115 :: 115 :: 105 :: 110 :: 103 :: 58 :: 32 :: fldL true p) := rfl
    obtain ⟨l', hl'⟩ := trim_headI 35 (32 :: 64 :: 109 :: 105 :: 115 :: 115 :: 105 :: 110 :: 103 :: 58 :: 32 :: fldL true p) (by unfold blk8; decide)
    rw [e0, hl', if_neg (by simp [hasPrefix]), ← e0]
    have hcut : cutS (S (lineL true p)) = ([], 64 :: 109 :: 105 :: 115 :: 115 :: 105 :: 110 :: 103 :: 58 :: 32 :: fldL true p) := by unfold cutS; rw [hL]; exact note_mach h
    have hcut2 : cutS (S (32 :: fldL true p)) = ([spanL p.lo.toNat p.hi.toNat, nmL true p.val], []) := by
      unfold cutS
      show mach 0 [] [] (32 :: fldL true p) = _
      show (if _ then _ else _) = _
      rw [if_pos (.inl rfl), if_pos rfl]
      exact fld_mach h true
    unfold plainS
    rw [hcut, if_neg (by simp), if_pos (by simp [hasPrefix, List.isPrefixOf])]
    have hd : (64 :: 109 :: 105 :: 115 :: 115 :: 105 :: 110 :: 103 :: 58 :: 32 :: fldL true p).drop 9 = 32 :: fldL true p := rfl
    simp only [hd, hcut2]
    rfl
/-- a text of one line -/
theorem line_text {p : Pc Int} (h : OkI7 p) (m : Bool) : readS (S (lineL m p ++ [10])) = ([dL 1 m p], none) ∧ (linesL (S (lineL m p ++ [10]))).length = 1 ∧ 0 < (S (lineL m p ++ [10])).size ∧ bN (S (lineL m p ++ [10])) ((S (lineL m p ++ [10])).size - 1) = 10 ∧ bN (S (lineL m p ++ [10])) 0 < 128 := by
  have hln := line_len h m
  obtain ⟨s, c, hs, hc⟩ := fld_last h m
  obtain ⟨b, r, hb⟩ : ∃ b r, lineL m p = b :: r := by
    cases hl : lineL m p with
    | nil => rw [hl] at hln; simp at hln
    | cons b r => exact ⟨b, r, rfl⟩
  have hbm := line_mem h m (b := b) (by rw [hb]; simp)
  have hlast : (lineL m p).getLast? = some c := by
    unfold lineL
    rw [hs, ← List.append_assoc, List.getLast?_concat]
  have hlo := lines_one (l := lineL m p) (b := b) (c := c) (by rw [hb]; rfl) (by omega) hlast hc.2.2.2.2.2.2.1 (fun x hx => (line_mem h m hx).1)
  have hsz : (S (lineL m p ++ [10])).size = (lineL m p).length + 1 := by rw [S_size]; simp
  have h0 : bN (S (lineL m p ++ [10])) 0 = b.toNat := bN_SI _ 0 b (by rw [hb]; rfl)
  refine ⟨?_, by rw [hlo.1]; rfl, by omega, ?_, by rw [h0]; omega⟩
  · have hscan : scanX (S (lineL m p ++ [10])) (1, 0, (lineL m p).length) = (dL 1 m p, 0) := by
      unfold scanX
      rw [hlo.2]
      exact line_scan7 h m 1
    unfold readS
    rw [hlo.1, rd_ok _ _ (fun y hy => by
      simp only [List.mem_singleton] at hy
      subst hy
      rw [hscan]), List.map_cons, List.map_nil, hscan]
  · rw [hsz, Nat.add_sub_cancel]
    exact bN_SI _ _ 10 (by simp)
/-- a text of many lines -/
def textI : List (Bool × Pc Int) → List UInt8
  | [] => []
  | i :: l => lineL i.1 i.2 ++ [10] ++ textI l
/-- its lines, read, the first of which has the number k + 1 -/
def dsI : List (Bool × Pc Int) → Int → List LineD
  | [], _ => []
  | i :: l, k => dL (k + 1) i.1 i.2 :: dsI l (k + 1)
theorem dsI_shift : ∀ (l : List (Bool × Pc Int)) (k : Int), (dsI l k).map (fun d => withNo d (d.no + ((1 : Nat) : Int))) = dsI l (k + 1)
  | [], _ => rfl
  | i :: l, k => by
    show withNo (dL (k + 1) i.1 i.2) (k + 1 + ((1 : Nat) : Int)) :: (dsI l (k + 1)).map _ = _
    rw [dsI_shift l (k + 1)]
    rfl
theorem mark_textI (l : List (Bool × Pc Int)) (h : ∀ i ∈ l, OkI7 i.2) : markN (S (textI l)) = 0 := by
  cases l with
  | nil => rw [markN_eq, if_neg (by show ¬ _; intro e; revert e; decide)]
  | cons i l =>
    have hi := h i (by simp)
    have hln := line_len hi i.1
    obtain ⟨b, r, hb⟩ : ∃ b r, lineL i.1 i.2 = b :: r := by
      cases hl : lineL i.1 i.2 with
      | nil => rw [hl] at hln; simp at hln
      | cons b r => exact ⟨b, r, rfl⟩
    have hbm := line_mem hi i.1 (b := b) (by rw [hb]; simp)
    have h0 : bN (S (textI (i :: l))) 0 = b.toNat := bN_SI _ 0 b (by show (lineL i.1 i.2 ++ [10] ++ textI l)[0]? = _; rw [hb]; rfl)
    rw [markN_eq, if_neg (by rw [h0]; omega)]
theorem read_textI : ∀ (l : List (Bool × Pc Int)), (∀ i ∈ l, OkI7 i.2) → readS (S (textI l)) = (dsI l 0, none)
  | [], _ => by
    have hn : linesL (S (textI [])) = [] := by decide +kernel
    unfold readS
    rw [hn]
    rfl
  | i :: l, h => by
    have hi := h i (by simp)
    obtain ⟨k1, k2, k3, k4, _⟩ := line_text hi i.1
    have ih := read_textI l fun j hj => h j (by simp [hj])
    have hr := ((read_app (S (lineL i.1 i.2 ++ [10])) (S (textI l)) k3 k4 (mark_textI l fun j hj => h j (by simp [hj]))).2 (by rw [k1])).2.2 (by rw [ih])
    have e : S (textI (i :: l)) = S (lineL i.1 i.2 ++ [10]) ++ S (textI l) := (S_appI _ _)
    rw [e, hr, k1, ih, k2, dsI_shift]
    rfl
end Go.Proofs.YthgaadjkjnibaaaGreatDoor
/-
  What Write writes of a table that was read is read as a table that says the same.
-/
namespace Go.Proofs.YthgaadjkjnibaaaGreatDoor
open Go.RowKit Go.PlainAid Go.Lib Go.PHexM Go.Shelf Go.PRow
set_option linter.unusedVariables false
set_option linter.unusedSimpArgs false

theorem scan_back7 {p : Pc Int} (h : OkI7 p) (m : Bool) (no un : Int) : scanT (dL no m p) un = (p.lo, p.hi, p.val, 0) := by
  obtain ⟨_, _, _, n4⟩ := names_ok m h.c1 h.c2
  have h1 := h.lo
  have h2 := h.le
  have h3 := h.hi
  have h4 := h.c1
  have hs := span_back p.lo.toNat p.hi.toNat (by omega) (by omega)
  have e1 : ((p.lo.toNat : Nat) : Int) = p.lo := by omega
  have e2 : ((p.hi.toNat : Nat) : Int) = p.hi := by omega
  rw [e1, e2] at hs
  show (if (spanT (spanL p.lo.toNat p.hi.toNat)).2.2 = 0 then ((spanT (spanL p.lo.toNat p.hi.toNat)).1, (spanT (spanL p.lo.toNat p.hi.toNat)).2.1, classN (looseB (S (nmL m p.val))), noneE (classN (looseB (S (nmL m p.val))))) else (0, 0, 0, (spanT (spanL p.lo.toNat p.hi.toNat)).2.2)) = _
  rw [hs, n4, if_pos rfl]
  have e3 : noneE p.val = 0 := by unfold noneE; rw [if_neg (by omega)]
  rw [e3]
/-- what missing lines say of all numbers, one behind the other -/
def foldU (us ms : List (Pc Int)) : List (Pc Int) := ms.foldl (fun us p => repP us p.lo p.hi [p]) us
theorem foldU_snoc (us ms : List (Pc Int)) (p : Pc Int) : foldU us (ms ++ [p]) = repP (foldU us ms) p.lo p.hi [p] := by simp [foldU]
theorem dsI_app : ∀ (a b : List (Bool × Pc Int)) (k : Int), dsI (a ++ b) k = dsI a k ++ dsI b (k + a.length)
  | [], b, k => by simp [dsI]
  | i :: a, b, k => by
    show dL (k + 1) i.1 i.2 :: dsI (a ++ b) (k + 1) = dL (k + 1) i.1 i.2 :: (dsI a (k + 1) ++ _)
    rw [dsI_app a b (k + 1)]
    have e : k + 1 + (a.length : Int) = k + ((i :: a).length : Int) := by rw [List.length_cons]; omega
    rw [e]
theorem tell_ms : ∀ (ms : List (Pc Int)) (t : TabD) (k : Int) (rest : List LineD), (∀ p ∈ ms, OkI7 p) → tellT t (dsI (ms.map fun p => (true, p)) k ++ rest) = tellT ⟨t.ns, foldU t.us ms, t.ms ++ ms⟩ rest
  | [], t, k, rest, _ => by
    have e : (⟨t.ns, foldU t.us [], t.ms ++ []⟩ : TabD) = t := by rw [List.append_nil]; rfl
    rw [e]
    rfl
  | p :: ms, t, k, rest, h => by
    have hp := h p (by simp)
    have hst : stepT t (dL (k + 1) true p) = (⟨t.ns, repP t.us p.lo p.hi [p], t.ms ++ [p]⟩, 0) := by
      show missT t (scanT (dL (k + 1) true p) 71) = _
      rw [scan_back7 hp]
      rfl
    show tellT t (dL (k + 1) true p :: (dsI (ms.map fun p => (true, p)) (k + 1) ++ rest)) = _
    rw [tellT_yes _ _ _ (by rw [hst]), hst, tell_ms ms _ (k + 1) rest fun q hq => h q (by simp [hq])]
    have e : (t.ms ++ [p]) ++ ms = t.ms ++ p :: ms := by simp
    simp only
    rw [e]
    rfl
/-- named pieces with the numbers of their lines -/
def numN : List (Pc Int) → Int → List (Pc (Int × Int))
  | [], _ => []
  | p :: l, k => ⟨p.lo, p.hi, (p.val, k + 1)⟩ :: numN l (k + 1)
theorem numN_at (x : Int) : ∀ (l : List (Pc Int)) (k : Int), (atP (numN l k) x).map (·.1) = atP l x
  | [], _ => rfl
  | p :: l, k => by
    show (atP (⟨p.lo, p.hi, (p.val, k + 1)⟩ :: numN l (k + 1)) x).map (·.1) = _
    rw [atP_cons, atP_cons]
    split
    · rfl
    · exact numN_at x l (k + 1)
theorem numN_mem {q : Pc (Int × Int)} : ∀ {l : List (Pc Int)} {k : Int}, q ∈ numN l k → ∃ p ∈ l, q.lo = p.lo ∧ q.hi = p.hi
  | [], _, h => by cases h
  | p :: l, k, h => by
    rcases List.mem_cons.1 h with rfl | h
    · exact ⟨p, by simp, rfl, rfl⟩
    · obtain ⟨r, hr, e⟩ := numN_mem h
      exact ⟨r, by simp [hr], e⟩
theorem numN_ok : ∀ {l : List (Pc Int)} (k : Int), OkP l → OkP (numN l k)
  | [], _, _ => OkP.nil
  | p :: l, k, o => by
    have ih := numN_ok (k + 1) o.tail
    refine ⟨List.pairwise_cons.2 ⟨fun q hq => ?_, ih.1⟩, fun q hq => ?_⟩
    · obtain ⟨r, hr, e1, e2⟩ := numN_mem hq
      rw [e1]
      exact o.next r hr
    · rcases List.mem_cons.1 hq with rfl | hq
      · exact o.head
      · exact ih.2 q hq
theorem tell_ns : ∀ (ps : List (Pc Int)) (t : TabD) (k : Int), OkP (t.ns ++ numN ps k) → (∀ p ∈ ps, OkI7 p) → tellT t (dsI (ps.map fun p => (false, p)) k) = (⟨t.ns ++ numN ps k, t.us, t.ms⟩, none)
  | [], t, k, _, _ => by
    have e : (⟨t.ns ++ numN [] k, t.us, t.ms⟩ : TabD) = t := by
      show (⟨t.ns ++ [], t.us, t.ms⟩ : TabD) = t
      rw [List.append_nil]
    rw [e]
    rfl
  | p :: ps, t, k, o, h => by
    have hp := h p (by simp)
    have e0 : t.ns ++ numN (p :: ps) k = (t.ns ++ [⟨p.lo, p.hi, (p.val, k + 1)⟩]) ++ numN ps (k + 1) := by
      show t.ns ++ (_ :: numN ps (k + 1)) = _
      simp
    rw [e0] at o ⊢
    have h1 := hp.lo
    have h2 := hp.le
    have h3 := hp.hi
    have hon : OkP t.ns := ⟨o.1.sublist ((List.sublist_append_left _ _).trans (List.sublist_append_left _ _)), fun q hq => o.2 q (by simp [hq])⟩
    have hbh : ∀ q ∈ t.ns, q.hi < p.lo := fun q hq => (List.pairwise_append.1 (List.pairwise_append.1 o.1).1).2.2 q hq ⟨p.lo, p.hi, (p.val, k + 1)⟩ (by simp)
    have hfr : frI t.ns p.lo = t.ns.length := by
      unfold frI
      rw [List.countP_eq_length]
      intro q hq
      exact decide_eq_true (hbh q hq)
    have hup := upI_le t.ns p.hi
    have hst : stepT t (dL (k + 1) false p) = (⟨t.ns ++ [⟨p.lo, p.hi, (p.val, k + 1)⟩], t.us, t.ms⟩, 0) := by
      show nameT t (dL (k + 1) false p) (scanT (dL (k + 1) false p) 70) = _
      rw [scan_back7 hp]
      unfold nameT
      simp only
      rw [if_neg (by decide), if_neg (by rw [hfr]; omega), rep_snoc hon h2 hbh]
      rfl
    show tellT t (dL (k + 1) false p :: dsI (ps.map fun p => (false, p)) (k + 1)) = _
    rw [tellT_yes _ _ _ (by rw [hst]), hst, tell_ns ps _ (k + 1) o fun q hq => h q (by simp [hq])]

theorem ite_rng7 {c : Prop} [Decidable c] {a b : Int} (ha : 0 ≤ a ∧ a ≤ 23) (hb : 0 ≤ b ∧ b ≤ 23) : 0 ≤ (if c then a else b) ∧ (if c then a else b) ≤ 23 := by split <;> assumption
theorem classN_rng (t : ByteArray) : 0 ≤ classN t ∧ classN t ≤ 23 := by
  unfold classN
  repeat refine ite_rng7 (by decide) ?_
  decide
theorem scanT_rng (d : LineD) (un : Int) (hun : un ≠ 0) (h : (scanT d un).2.2.2 = 0) : 1 ≤ (scanT d un).2.2.1 ∧ (scanT d un).2.2.1 ≤ 23 := by
  have h0 := scanT_class d un hun h
  have h1 : 0 ≤ (scanT d un).2.2.1 ∧ (scanT d un).2.2.1 ≤ 23 := by
    unfold scanT
    split
    · split
      · exact classN_rng _
      · exact ⟨Int.le_refl _, show (0 : Int) ≤ 23 by decide⟩
    · exact ⟨Int.le_refl _, show (0 : Int) ≤ 23 by decide⟩
  omega
/-- what is so of every table that was read -/
structure FromT (t : TabD) : Prop where
  us : t.us = foldU [⟨0, 1114111, 1⟩] t.ms
  ms : ∀ p ∈ t.ms, OkI7 p
  ns : ∀ x v, atP t.ns x = some v → 1 ≤ v.1 ∧ v.1 ≤ 23
theorem step_from {t : TabD} (o : OkT t) (g : FromT t) (d : LineD) : FromT (stepT t d).1 := by
  unfold stepT
  split
  · exact g
  split
  · unfold nameT
    split
    · exact g
    split
    · exact g
    · next h h2 =>
      have h' : (scanT d 70).2.2.2 = 0 := by simpa using h
      have hm := mayB_iff.1 (scanT_may d 70 (by decide) h')
      have hc := scanT_rng d 70 (by decide) h'
      refine ⟨g.us, g.ms, fun x v hv => ?_⟩
      simp only at hv
      rw [at_rep o.1 hm.2.1 (.inr ⟨_, rfl⟩)] at hv
      split at hv
      · cases hv; exact hc
      · exact g.ns x v hv
  split
  · exact g
  · unfold missT
    split
    · exact g
    · next h =>
      have h' : (scanT d 71).2.2.2 = 0 := by simpa using h
      have hm := mayB_iff.1 (scanT_may d 71 (by decide) h')
      have hc := scanT_rng d 71 (by decide) h'
      refine ⟨?_, fun p hp => ?_, g.ns⟩
      · simp only
        rw [foldU_snoc, ← g.us]
      · rcases List.mem_append.1 hp with hp | hp
        · exact g.ms p hp
        · rcases List.mem_singleton.1 hp with rfl
          exact ⟨hm.1, hm.2.1, hm.2.2, hc.1, hc.2⟩
theorem tell_from : ∀ (ds : List LineD) {t : TabD}, OkT t → FromT t → FromT (tellT t ds).1 := by
  intro ds
  induction ds with
  | nil => intro t _ g; exact g
  | cons d ds ih =>
    intro t o g
    by_cases h1 : (stepT t d).2 = 0
    · rw [tellT_yes t d ds h1]; exact ih (step_ok7 o d) (step_from o g d)
    · rw [tellT_no t d ds h1]; exact step_from o g d
theorem empty_from : FromT emptyT := ⟨rfl, (fun p hp => by cases hp), (fun x v h => by cases h)⟩
theorem tabS_from (s : ByteArray) : FromT (tabS s).1 := by
  unfold tabS
  split
  · exact empty_from
  · exact tell_from _ empty_ok7 empty_from

theorem lineW_L (m : Bool) (p : Pc Int) : L (lineW (nmB m p.val) p) = fldL m p ++ [10] := by
  unfold lineW fldL
  rw [spanS_L]
  simp [ByteArray.data_append, nmL]
theorem textM_I : ∀ ms : List (Pc Int), textM ms = textI (ms.map fun p => (true, p))
  | [] => rfl
  | p :: ms => by
    have e : L (missB ++ lineW (longS p.val) p) = lineL true p ++ [10] := by
      have := lineW_L true p
      unfold lineL
      rw [show nmB true p.val = longS p.val from rfl] at this
      show L (missB ++ lineW (longS p.val) p) = [35, 32, 64, 109, 105, 115, 115, 105, 110, 103, 58, 32] ++ fldL true p ++ [10]
      rw [List.append_assoc, ← this]
      simp [ByteArray.data_append]
    show L (missB ++ lineW (longS p.val) p) ++ textM ms = lineL true p ++ [10] ++ textI (ms.map fun p => (true, p))
    rw [e, textM_I ms]
theorem textN_I : ∀ ns : List (Pc Int), textN ns = textI (ns.map fun p => (false, p))
  | [] => rfl
  | p :: ns => by
    have e : L (lineW (shortS p.val) p) = lineL false p ++ [10] := lineW_L false p
    show L (lineW (shortS p.val) p) ++ textN ns = lineL false p ++ [10] ++ textI (ns.map fun p => (false, p))
    rw [e, textN_I ns]
theorem textI_app : ∀ a b : List (Bool × Pc Int), textI (a ++ b) = textI a ++ textI b
  | [], b => rfl
  | i :: a, b => by
    show lineL i.1 i.2 ++ [10] ++ textI (a ++ b) = lineL i.1 i.2 ++ [10] ++ textI a ++ textI b
    rw [textI_app a b]
    simp only [List.append_assoc]
/-- the pieces that a table names -/
theorem named_items {t : TabD} (o : OkT t) (g : FromT t) : ∀ p ∈ namedP t, OkI7 p := by
  intro p hp
  have ow := named_ok o
  have k := ow.2 p hp
  have h1 := mem_at ow hp (Int.le_refl _) k.2.1
  rw [at_named o] at h1
  cases ha : atP t.ns p.lo with
  | none => rw [ha] at h1; cases h1
  | some a =>
    rw [ha] at h1
    have e : a.1 = p.val := Option.some.inj h1
    have r := g.ns _ _ ha
    exact ⟨k.1, k.2.1, k.2.2, by omega, by omega⟩
/-- two tables that say the same, but for the lines -/
structure Like7 (t u : TabD) : Prop where
  ns : ∀ x, (atP u.ns x).map (·.1) = (atP t.ns x).map (·.1)
  us : u.us = t.us
  ms : u.ms = t.ms
theorem like_named {t u : TabD} (ot : OkT t) (ou : OkT u) (h : Like7 t u) : namedP u = namedP t :=
  sep_one (named_ok ou) (named_ok ot) (strs_sep VC.eqv eqC_iff _) (strs_sep VC.eqv eqC_iff _) fun x => by rw [at_named ou, at_named ot, h.ns]
theorem like_whole {t u : TabD} (ot : OkT t) (ou : OkT u) (h : Like7 t u) : wholeP u = wholeP t :=
  sep_one (whole_ok ou) (whole_ok ot) (whole_sep u) (whole_sep t) fun x => by rw [at_whole ou, at_whole ot, h.ns, h.us]
theorem like_write {t u : TabD} (ot : OkT t) (ou : OkT u) (h : Like7 t u) : writeT u = writeT t := by
  unfold writeT
  rw [h.ms, like_named ot ou h]
/-- a text that was read, written and read again -/
theorem back_tab (s : ByteArray) : (tabS (S (writeT (tabS s).1))).2 = none ∧ Like7 (tabS s).1 (tabS (S (writeT (tabS s).1))).1 := by
  obtain ⟨t, ht⟩ : ∃ t, (tabS s).1 = t := ⟨_, rfl⟩
  have ot : OkT t := by rw [← ht]; exact tabS_ok s
  have gt : FromT t := by rw [← ht]; exact tabS_from s
  rw [ht]
  have hn := named_items ot gt
  have hw : writeT t = textI (t.ms.map (fun p => (true, p)) ++ (namedP t).map fun p => (false, p)) := by
    unfold writeT
    rw [textI_app, textM_I, textN_I]
  have hall : ∀ i ∈ t.ms.map (fun p => (true, p)) ++ (namedP t).map fun p => (false, p), OkI7 i.2 := by
    intro i hi
    rcases List.mem_append.1 hi with hi | hi
    · obtain ⟨p, hp, rfl⟩ := List.mem_map.1 hi
      exact gt.ms p hp
    · obtain ⟨p, hp, rfl⟩ := List.mem_map.1 hi
      exact hn p hp
  have hr := read_textI _ hall
  rw [← hw] at hr
  obtain ⟨k, hk⟩ : ∃ k : Int, (0 : Int) + ((t.ms.map fun p => (true, p)).length : Int) = k := ⟨_, rfl⟩
  have htab : tabS (S (writeT t)) = (⟨numN (namedP t) k, t.us, t.ms⟩, none) := by
    unfold tabS
    rw [hr]
    simp only
    rw [dsI_app, hk, tell_ms t.ms emptyT 0 _ gt.ms]
    have e1 : foldU emptyT.us t.ms = t.us := gt.us.symm
    have e2 : emptyT.ms ++ t.ms = t.ms := rfl
    rw [e1, e2, tell_ns (namedP t) ⟨emptyT.ns, t.us, t.ms⟩ k (numN_ok k (named_ok ot)) hn]
    rfl
  rw [htab]
  refine ⟨rfl, fun x => ?_, rfl, rfl⟩
  show (atP (numN (namedP t) k) x).map (·.1) = _
  rw [numN_at, at_named ot]
theorem back_len (s : ByteArray) (h : s.size ≤ 40000) : (S (writeT (tabS s).1)).size ≤ 1073741824 := by
  obtain ⟨_, _, h3⟩ := tabS_more s
  have h4 : (namedP (tabS s).1).length ≤ 1114112 := VC.okP_len (named_ok (tabS_ok s))
  have h1 := textM_len (tabS s).1.ms
  have h2 := textN_len (namedP (tabS s).1)
  rw [S_size]
  unfold writeT
  rw [List.length_append]
  omega
end Go.Proofs.YthgaadjkjnibaaaGreatDoor

/-
  Stretches and gaps of pieces, by numbers.
-/
import Derived.Test.YtokillomaemocaaPMath
namespace Go.Proofs.Ytokillomaemocaa
set_option linter.unusedVariables false
variable {α : Type}

/-- the stretches of pieces: f: the one that has begun, l: its last piece's value -/
def strsGo (eqv : α → α → Bool) (f : Pc α) (l : α) : List (Pc α) → List (Pc α)
  | [] => [f]
  | q :: qs => if f.hi + 1 = q.lo ∧ eqv l q.val = true then strsGo eqv ⟨f.lo, q.hi, f.val⟩ q.val qs else f :: strsGo eqv q q.val qs
def strsP (eqv : α → α → Bool) : List (Pc α) → List (Pc α)
  | [] => []
  | p :: ps => strsGo eqv p p.val ps

/-- how many numbers the pieces have -/
def sizeP : List (Pc α) → Int
  | [] => 0
  | p :: ps => (p.hi - p.lo + 1) + sizeP ps
theorem sizeP_append (A B : List (Pc α)) : sizeP (A ++ B) = sizeP A + sizeP B := by
  induction A with
  | nil => simp [sizeP]
  | cons p A ih => simp only [List.cons_append, sizeP, ih]; omega

theorem strsGo_ok (eqv : α → α → Bool) (qs : List (Pc α)) : ∀ (f : Pc α) (l : α), OkP (f :: qs) → OkP (strsGo eqv f l qs) ∧ ∀ r ∈ strsGo eqv f l qs, f.lo ≤ r.lo := by
  induction qs with
  | nil => intro f l h; exact ⟨h, fun r hr => by rw [List.mem_singleton.1 hr]; exact Int.le_refl _⟩
  | cons q qs ih =>
    intro f l h
    have k1 := h.head; have k2 := h.tail.head; have k3 := h.next q List.mem_cons_self
    unfold strsGo
    split
    · exact ih ⟨f.lo, q.hi, f.val⟩ q.val ⟨List.pairwise_cons.2 ⟨fun b hb => h.tail.next b hb, h.tail.tail.1⟩, fun p hp => by
        rcases List.mem_cons.1 hp with rfl | hp
        · exact ⟨k1.1, by show f.lo ≤ q.hi; omega, k2.2.2⟩
        · exact h.tail.tail.2 p hp⟩
    · obtain ⟨o, g⟩ := ih q q.val h.tail
      refine ⟨⟨List.pairwise_cons.2 ⟨fun b hb => by have := g b hb; omega, o.1⟩, fun p hp => ?_⟩, fun r hr => ?_⟩
      · rcases List.mem_cons.1 hp with rfl | hp
        · exact k1
        · exact o.2 p hp
      · rcases List.mem_cons.1 hr with rfl | hr
        · exact Int.le_refl _
        · have := g r hr; omega
theorem strs_ok (eqv : α → α → Bool) {ps : List (Pc α)} (h : OkP ps) : OkP (strsP eqv ps) := by
  cases ps with
  | nil => exact h
  | cons p ps => exact (strsGo_ok eqv ps p p.val h).1

theorem strsGo_size (eqv : α → α → Bool) (qs : List (Pc α)) : ∀ (f : Pc α) (l : α), sizeP (strsGo eqv f l qs) = (f.hi - f.lo + 1) + sizeP qs := by
  induction qs with
  | nil => intro f l; simp [strsGo, sizeP]
  | cons q qs ih =>
    intro f l
    unfold strsGo
    split
    · rw [ih]; simp only [sizeP]; omega
    · simp only [sizeP, ih]
theorem strs_size (eqv : α → α → Bool) (ps : List (Pc α)) : sizeP (strsP eqv ps) = sizeP ps := by
  cases ps with
  | nil => rfl
  | cons p ps => exact strsGo_size eqv ps p p.val
theorem strsGo_len (eqv : α → α → Bool) (qs : List (Pc α)) : ∀ (f : Pc α) (l : α), (strsGo eqv f l qs).length ≤ qs.length + 1 := by
  induction qs with
  | nil => intro f l; simp [strsGo]
  | cons q qs ih =>
    intro f l
    unfold strsGo
    split
    · have := ih ⟨f.lo, q.hi, f.val⟩ q.val; simp; omega
    · have := ih q q.val; simp; omega
theorem strs_len (eqv : α → α → Bool) (ps : List (Pc α)) : (strsP eqv ps).length ≤ ps.length := by
  cases ps with
  | nil => exact Nat.le_refl _
  | cons p ps => exact strsGo_len eqv ps p p.val

theorem strsGo_at (eqv : α → α → Bool) (he : ∀ a b, eqv a b = true → a = b) (x : Int) (qs : List (Pc α)) : ∀ (f : Pc α), OkP (f :: qs) → atP (strsGo eqv f f.val qs) x = atP (f :: qs) x := by
  induction qs with
  | nil => intro f h; rfl
  | cons q qs ih =>
    intro f h
    have k1 := h.head; have k2 := h.tail.head; have k3 := h.next q List.mem_cons_self
    unfold strsGo
    split
    · rename_i hj
      have hv := he _ _ hj.2
      have o : OkP (⟨f.lo, q.hi, f.val⟩ :: qs) := ⟨List.pairwise_cons.2 ⟨fun b hb => h.tail.next b hb, h.tail.tail.1⟩, fun p hp => by
        rcases List.mem_cons.1 hp with rfl | hp
        · exact ⟨k1.1, by show f.lo ≤ q.hi; omega, k2.2.2⟩
        · exact h.tail.tail.2 p hp⟩
      have := ih ⟨f.lo, q.hi, f.val⟩ o
      rw [← hv]
      rw [this, atP_cons, atP_cons, atP_cons, ← hv]
      by_cases c1 : f.lo ≤ x ∧ x ≤ f.hi
      · rw [if_pos c1, if_pos ⟨c1.1, by show x ≤ q.hi; omega⟩]
      · rw [if_neg c1]
        by_cases c2 : q.lo ≤ x ∧ x ≤ q.hi
        · rw [if_pos c2, if_pos ⟨by show f.lo ≤ x; omega, c2.2⟩]
        · rw [if_neg c2, if_neg (by show ¬ (f.lo ≤ x ∧ x ≤ q.hi); omega)]
    · rw [atP_cons, atP_cons, ih q h.tail]
theorem strs_at (eqv : α → α → Bool) (he : ∀ a b, eqv a b = true → a = b) {ps : List (Pc α)} (h : OkP ps) (x : Int) : atP (strsP eqv ps) x = atP ps x := by
  cases ps with
  | nil => rfl
  | cons p ps => exact strsGo_at eqv he x ps p h

/-- none of them goes on as its neighbour -/
def SepP : List (Pc α) → Prop
  | [] => True
  | p :: ps => (∀ q, ps.head? = some q → ¬ (p.hi + 1 = q.lo ∧ p.val = q.val)) ∧ SepP ps

theorem strsGo_sep (eqv : α → α → Bool) (he : ∀ a b, eqv a b = true ↔ a = b) (qs : List (Pc α)) : ∀ (f : Pc α), SepP (strsGo eqv f f.val qs) ∧ ∃ r, (strsGo eqv f f.val qs).head? = some r ∧ r.lo = f.lo ∧ r.val = f.val := by
  induction qs with
  | nil => intro f; exact ⟨⟨fun q h => by simp at h, trivial⟩, f, rfl, rfl, rfl⟩
  | cons q qs ih =>
    intro f
    unfold strsGo
    split
    · rename_i hj
      have hv := (he _ _).1 hj.2
      have := ih ⟨f.lo, q.hi, f.val⟩
      rw [← hv]
      exact this
    · rename_i hj
      obtain ⟨s, r, hr, h1, h2⟩ := ih q
      refine ⟨⟨fun a ha => ?_, s⟩, f, rfl, rfl, rfl⟩
      rw [hr] at ha
      obtain rfl := Option.some.inj ha
      rw [h1, h2]
      intro c
      exact hj ⟨c.1, (he _ _).2 c.2⟩
theorem strs_sep (eqv : α → α → Bool) (he : ∀ a b, eqv a b = true ↔ a = b) (ps : List (Pc α)) : SepP (strsP eqv ps) := by
  cases ps with
  | nil => trivial
  | cons p ps => exact (strsGo_sep eqv he ps p).1

theorem at_head {p : Pc α} {ps : List (Pc α)} (h : OkP (p :: ps)) : atP (p :: ps) p.lo = some p.val := by
  rw [atP_cons, if_pos ⟨Int.le_refl _, h.head.2.1⟩]
theorem at_ge {p : Pc α} {ps : List (Pc α)} (h : OkP (p :: ps)) {x : Int} {v : α} (e : atP (p :: ps) x = some v) : p.lo ≤ x := by
  apply Decidable.byContradiction
  intro hx
  rw [atP_none (fun q hq => .inl (by
    have k := h.head
    rcases List.mem_cons.1 hq with rfl | hq
    · omega
    · have := h.next q hq; omega))] at e
  cases e

theorem sep_one : ∀ {xs ys : List (Pc α)}, OkP xs → OkP ys → SepP xs → SepP ys → (∀ x, atP xs x = atP ys x) → xs = ys := by
  intro xs
  induction xs with
  | nil =>
    intro ys _ oy _ _ h
    cases ys with
    | nil => rfl
    | cons q ys => have := h q.lo; rw [at_head oy] at this; cases this
  | cons p xs ih =>
    intro ys ox oy sx sy h
    cases ys with
    | nil => have := h p.lo; rw [at_head ox] at this; cases this
    | cons q ys =>
      have k1 := ox.head; have k2 := oy.head
      have e1 : p.lo = q.lo := by
        have a := at_ge oy ((h p.lo).symm.trans (at_head ox))
        have b := at_ge ox ((h q.lo).trans (at_head oy))
        omega
      have e2 : p.val = q.val := by
        have a := h p.lo
        rw [at_head ox, e1, at_head oy] at a
        exact Option.some.inj a
      have key : ∀ {p q : Pc α} {xs ys : List (Pc α)}, OkP (p :: xs) → OkP (q :: ys) → SepP (p :: xs) → p.lo = q.lo → p.val = q.val → (∀ x, atP (p :: xs) x = atP (q :: ys) x) → ¬ p.hi < q.hi := by
        intro p q xs ys ox oy sx e1 e2 h hlt
        have k1 := ox.head; have k2 := oy.head
        have a := h (p.hi + 1)
        rw [atP_cons, if_neg (by omega), atP_cons, if_pos (by omega)] at a
        cases xs with
        | nil => cases a
        | cons r xs =>
          have b := at_ge ox.tail a
          have c := ox.next r List.mem_cons_self
          have d : p.hi + 1 = r.lo := by omega
          rw [d, at_head ox.tail] at a
          exact sx.1 r rfl ⟨d, by rw [e2]; exact (Option.some.inj a).symm⟩
      have e3 : p.hi = q.hi := by
        have a := key ox oy sx e1 e2 h
        have b := key oy ox sy e1.symm e2.symm (fun x => (h x).symm)
        omega
      have e4 : xs = ys := by
        refine ih ox.tail oy.tail sx.2 sy.2 fun x => ?_
        rcases Int.lt_or_le p.hi x with hx | hx
        · have a := h x
          rw [atP_cons, if_neg (by omega), atP_cons, if_neg (by omega)] at a
          exact a
        · rw [atP_none (ps := xs) (fun r hr => .inl (by have := ox.next r hr; omega)), atP_none (ps := ys) (fun r hr => .inl (by have := oy.next r hr; omega))]
      obtain ⟨a, b, c⟩ := p
      obtain ⟨a', b', c'⟩ := q
      simp only at e1 e2 e3
      subst e1; subst e2; subst e3; subst e4
      rfl

/-- the gaps ahead of pieces' ends -/
def gapsPre (a : Int) : List (Pc α) → List (Int × Int)
  | [] => []
  | p :: ps => (if a ≤ p.lo - 1 then [(a, p.lo - 1)] else []) ++ gapsPre (p.hi + 1) ps
def endP (a : Int) : List (Pc α) → Int
  | [] => a
  | p :: ps => endP (p.hi + 1) ps
def lastGap (a : Int) : List (Int × Int) := if a ≤ 1114111 then [(a, 1114111)] else []
def gapsP (ps : List (Pc α)) : List (Int × Int) := gapsPre 0 ps ++ lastGap (endP 0 ps)

theorem gapsPre_append (A B : List (Pc α)) : ∀ a, gapsPre a (A ++ B) = gapsPre a A ++ gapsPre (endP a A) B := by
  induction A with
  | nil => intro a; rfl
  | cons p A ih => intro a; simp only [List.cons_append, gapsPre, endP, ih, List.append_assoc]
theorem endP_append (A B : List (Pc α)) : ∀ a, endP a (A ++ B) = endP (endP a A) B := by
  induction A with
  | nil => intro a; rfl
  | cons p A ih => intro a; exact ih _
theorem endP_snoc (A : List (Pc α)) (p : Pc α) (a : Int) : endP a (A ++ [p]) = p.hi + 1 := by rw [endP_append]; rfl
theorem gapsPre_snoc (A : List (Pc α)) (p : Pc α) (a : Int) : gapsPre a (A ++ [p]) = gapsPre a A ++ (if endP a A ≤ p.lo - 1 then [(endP a A, p.lo - 1)] else []) := by rw [gapsPre_append]; simp [gapsPre]
theorem gapsPre_len (A : List (Pc α)) : ∀ a, (gapsPre a A).length ≤ A.length := by
  induction A with
  | nil => intro a; simp [gapsPre]
  | cons p A ih =>
    intro a
    have := ih (p.hi + 1)
    simp only [gapsPre, List.length_append, List.length_cons]
    split <;> simp <;> omega

/-- the end of pieces that are in order -/
theorem endP_le {B : List (Pc α)} {p : Pc α} : ∀ {A : List (Pc α)}, OkP (A ++ p :: B) → ∀ a, a ≤ p.lo → 0 ≤ a → endP a A ≤ p.lo ∧ 0 ≤ endP a A := by
  intro A
  induction A with
  | nil => intro _ a h h0; exact ⟨h, h0⟩
  | cons q A ih =>
    intro o a _ _
    have k := o.head
    have := o.next p (by simp)
    exact ih o.tail (q.hi + 1) (by omega) (by omega)
theorem endP_max : ∀ {A : List (Pc α)}, OkP A → ∀ a, 0 ≤ a → a ≤ 1114112 → 0 ≤ endP a A ∧ endP a A ≤ 1114112 := by
  intro A
  induction A with
  | nil => intro _ a h h0; exact ⟨h, h0⟩
  | cons q A ih =>
    intro o a _ _
    have k := o.head
    exact ih o.tail (q.hi + 1) (by omega) (by omega)

/-- gaps from a on begin at a or behind it, and are none that are turned round -/
theorem gapsPre_ge : ∀ {B : List (Pc α)}, OkP B → ∀ a, (∀ p ∈ B, a ≤ p.lo) → ∀ g ∈ gapsPre a B, a ≤ g.1 ∧ g.1 ≤ g.2 := by
  intro B
  induction B with
  | nil => intro _ a _ g hg; simp [gapsPre] at hg
  | cons q B ih =>
    intro o a h g hg
    have k := o.head
    have k2 := h q List.mem_cons_self
    simp only [gapsPre, List.mem_append] at hg
    rcases hg with hg | hg
    · split at hg
      · rw [List.mem_singleton.1 hg]; exact ⟨Int.le_refl _, by assumption⟩
      · exact nomatch hg
    · have := ih o.tail (q.hi + 1) (fun p hp => by have := o.next p hp; omega) g hg
      omega

end Go.Proofs.Ytokillomaemocaa

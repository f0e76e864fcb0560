/-
  Maps by pieces: rising ranges with a value each; what is laid, cut and looked up, by numbers.
-/
import Derived.WalkKit
namespace Go.Proofs.Ytokillomaemocaa
set_option linter.unusedVariables false

/-- a piece: its first and its last number, its value -/
structure Pc (α : Type) where
  lo : Int
  hi : Int
  val : α

variable {α : Type}

def OkP (ps : List (Pc α)) : Prop := ps.Pairwise (fun a b => a.hi < b.lo) ∧ ∀ p ∈ ps, 0 ≤ p.lo ∧ p.lo ≤ p.hi ∧ p.hi ≤ 1114111

/-- how many pieces lie ahead of lo; how many begin at hi or ahead of it -/
def frI (ps : List (Pc α)) (lo : Int) : Nat := ps.countP (fun p => decide (p.hi < lo))
def upI (ps : List (Pc α)) (hi : Int) : Nat := ps.countP (fun p => decide (p.lo ≤ hi))

theorem frI_le (ps : List (Pc α)) (lo : Int) : frI ps lo ≤ ps.length := List.countP_le_length
theorem upI_le (ps : List (Pc α)) (hi : Int) : upI ps hi ≤ ps.length := List.countP_le_length

theorem OkP.tail {p : Pc α} {ps : List (Pc α)} (h : OkP (p :: ps)) : OkP ps := ⟨(List.pairwise_cons.1 h.1).2, fun q hq => h.2 q (List.mem_cons_of_mem _ hq)⟩
theorem OkP.head {p : Pc α} {ps : List (Pc α)} (h : OkP (p :: ps)) : 0 ≤ p.lo ∧ p.lo ≤ p.hi ∧ p.hi ≤ 1114111 := h.2 p List.mem_cons_self
theorem OkP.next {p : Pc α} {ps : List (Pc α)} (h : OkP (p :: ps)) : ∀ q ∈ ps, p.hi < q.lo := (List.pairwise_cons.1 h.1).1
theorem noMem {β : Type} {Q : β → Prop} : ∀ p ∈ ([] : List β), Q p := by simp
theorem OkP.nil : OkP ([] : List (Pc α)) := ⟨List.Pairwise.nil, noMem⟩

/-- the pieces ahead of a range, those that meet it, those behind it -/
structure Cut3 (ps : List (Pc α)) (lo hi : Int) (A M C : List (Pc α)) : Prop where
  eq : ps = A ++ M ++ C
  fr : frI ps lo = A.length
  up : upI ps hi = A.length + M.length
  ha : ∀ p ∈ A, p.hi < lo
  hm : ∀ p ∈ M, lo ≤ p.hi ∧ p.lo ≤ hi
  hc : ∀ p ∈ C, hi < p.lo

theorem cut3 {ps : List (Pc α)} (h : OkP ps) {lo hi : Int} (hr : lo ≤ hi) : ∃ A M C, Cut3 ps lo hi A M C := by
  induction ps with
  | nil => exact ⟨[], [], [], rfl, rfl, rfl, noMem, noMem, noMem⟩
  | cons p ps ih =>
    obtain ⟨A, M, C, e, f, u, a, m, c⟩ := ih h.tail
    have k := h.head
    by_cases h1 : p.hi < lo
    · refine ⟨p :: A, M, C, by rw [e]; rfl, ?_, ?_, ?_, m, c⟩
      · simp [frI, h1] at f ⊢; omega
      · have : p.lo ≤ hi := by omega
        simp [upI, this] at u ⊢; omega
      · intro q hq
        rcases List.mem_cons.1 hq with rfl | hq
        · exact h1
        · exact a q hq
    · have hall : ∀ q ∈ ps, lo ≤ q.hi := fun q hq => by have := h.next q hq; have := (h.tail.2 q hq); omega
      have f0 : frI ps lo = 0 := by
        unfold frI
        rw [List.countP_eq_zero]
        intro q hq
        have := hall q hq
        simp; omega
      have hA : A = [] := List.length_eq_zero_iff.1 (by omega)
      subst hA
      by_cases h2 : p.lo ≤ hi
      · refine ⟨[], p :: M, C, by rw [e]; rfl, ?_, ?_, noMem, ?_, c⟩
        · simp [frI, h1] at f ⊢; omega
        · simp [upI, h2] at u ⊢; omega
        · intro q hq
          rcases List.mem_cons.1 hq with rfl | hq
          · exact ⟨by omega, h2⟩
          · exact m q hq
      · have hall2 : ∀ q ∈ ps, hi < q.lo := fun q hq => by have := h.next q hq; omega
        have u0 : upI ps hi = 0 := by
          unfold upI
          rw [List.countP_eq_zero]
          intro q hq
          have := hall2 q hq
          simp; omega
        refine ⟨[], [], p :: ps, rfl, ?_, ?_, noMem, noMem, ?_⟩
        · simp [frI, h1] at f0 ⊢; exact f0
        · simp [upI, h2] at u0 ⊢; exact u0
        · intro q hq
          rcases List.mem_cons.1 hq with rfl | hq
          · omega
          · exact hall2 q hq

/-- those that meet it -/
def midP (ps : List (Pc α)) (lo hi : Int) : List (Pc α) := (ps.take (upI ps hi)).drop (frI ps lo)
theorem Cut3.mid {ps A M C : List (Pc α)} {lo hi : Int} (h : Cut3 ps lo hi A M C) : midP ps lo hi = M := by
  unfold midP
  rw [h.fr, h.up]
  have e := h.eq
  rw [e, ← List.length_append, List.take_left' rfl, List.drop_left' rfl]
theorem Cut3.pre {ps A M C : List (Pc α)} {lo hi : Int} (h : Cut3 ps lo hi A M C) : ps.take (frI ps lo) = A := by
  rw [h.fr]
  have e := h.eq
  rw [e, List.append_assoc, List.take_left' rfl]
theorem Cut3.post {ps A M C : List (Pc α)} {lo hi : Int} (h : Cut3 ps lo hi A M C) : ps.drop (upI ps hi) = C := by
  rw [h.up]
  have e := h.eq
  rw [e, ← List.length_append, List.drop_left' rfl]

/-- what of the first one that meets a range lies ahead of it; what of the last one lies behind it -/
def aheadP (M : List (Pc α)) (lo : Int) : List (Pc α) := match M with | [] => [] | p :: _ => if p.lo < lo then [⟨p.lo, lo - 1, p.val⟩] else []
def behindP (M : List (Pc α)) (hi : Int) : List (Pc α) := match M.getLast? with | none => [] | some p => if hi < p.hi then [⟨hi + 1, p.hi, p.val⟩] else []

def repP (ps : List (Pc α)) (lo hi : Int) (wi : List (Pc α)) : List (Pc α) := ps.take (frI ps lo) ++ (aheadP (midP ps lo hi) lo ++ wi ++ behindP (midP ps lo hi) hi) ++ ps.drop (upI ps hi)

theorem Cut3.rep {ps A M C : List (Pc α)} {lo hi : Int} (h : Cut3 ps lo hi A M C) (wi : List (Pc α)) : repP ps lo hi wi = A ++ (aheadP M lo ++ wi ++ behindP M hi) ++ C := by
  unfold repP
  rw [h.mid, h.pre, h.post]

/-- the value of a number -/
def atP (ps : List (Pc α)) (x : Int) : Option α := (ps.find? (fun p => decide (p.lo ≤ x) && decide (x ≤ p.hi))).map (·.val)
theorem atP_nil (x : Int) : atP ([] : List (Pc α)) x = none := rfl
theorem atP_cons (p : Pc α) (ps : List (Pc α)) (x : Int) : atP (p :: ps) x = if p.lo ≤ x ∧ x ≤ p.hi then some p.val else atP ps x := by
  unfold atP
  rw [List.find?_cons]
  by_cases h : p.lo ≤ x ∧ x ≤ p.hi
  · simp [h]
  · rw [if_neg h]
    have : (decide (p.lo ≤ x) && decide (x ≤ p.hi)) = false := by simpa using h
    rw [this]
theorem atP_append (A B : List (Pc α)) (x : Int) : atP (A ++ B) x = (atP A x).or (atP B x) := by
  induction A with
  | nil => simp [atP_nil]
  | cons p A ih =>
    rw [List.cons_append, atP_cons, atP_cons, ih]
    split <;> simp
theorem atP_none {ps : List (Pc α)} {x : Int} (h : ∀ p ∈ ps, x < p.lo ∨ p.hi < x) : atP ps x = none := by
  induction ps with
  | nil => rfl
  | cons p ps ih =>
    rw [atP_cons, if_neg (by have := h p List.mem_cons_self; omega)]
    exact ih fun q hq => h q (List.mem_cons_of_mem _ hq)

theorem Cut3.okM {ps A M C : List (Pc α)} {lo hi : Int} (h : Cut3 ps lo hi A M C) (o : OkP ps) : OkP M := by
  have e := h.eq
  subst e
  exact ⟨(List.pairwise_append.1 (List.pairwise_append.1 o.1).1).2.1, fun p hp => o.2 p (by simp [hp])⟩

/-- at one number: the first of those that meet it -/
theorem at_mid {ps : List (Pc α)} (o : OkP ps) (x : Int) : atP ps x = (midP ps x x).head?.map (·.val) := by
  obtain ⟨A, M, C, h⟩ := cut3 o (Int.le_refl x)
  rw [h.mid, h.eq, atP_append, atP_append, atP_none (fun p hp => .inr (h.ha p hp)), atP_none (ps := C) (fun p hp => .inl (h.hc p hp))]
  cases M with
  | nil => rfl
  | cons p M =>
    have := h.hm p List.mem_cons_self
    rw [atP_cons, if_pos (by omega)]
    rfl

theorem aheadP_mem {M : List (Pc α)} {lo : Int} {q : Pc α} (h : q ∈ aheadP M lo) : ∃ p M', M = p :: M' ∧ p.lo < lo ∧ q = ⟨p.lo, lo - 1, p.val⟩ := by
  cases M with
  | nil => exact nomatch h
  | cons p M' =>
    unfold aheadP at h
    simp only at h
    split at h
    · exact ⟨p, M', rfl, by assumption, by simpa using h⟩
    · exact nomatch h
theorem behindP_mem {M : List (Pc α)} {hi : Int} {q : Pc α} (h : q ∈ behindP M hi) : ∃ p M', M = M' ++ [p] ∧ hi < p.hi ∧ q = ⟨hi + 1, p.hi, p.val⟩ := by
  unfold behindP at h
  split at h
  · exact nomatch h
  · rename_i p hp
    obtain ⟨M', e⟩ := List.getLast?_eq_some_iff.1 hp
    split at h
    · exact ⟨p, M', e, by assumption, by simpa using h⟩
    · exact nomatch h
theorem behindP_snoc (M : List (Pc α)) (p : Pc α) (hi : Int) : behindP (M ++ [p]) hi = if hi < p.hi then [⟨hi + 1, p.hi, p.val⟩] else [] := by
  unfold behindP
  rw [List.getLast?_concat]
theorem snoc_cases (M : List (Pc α)) : M = [] ∨ ∃ M' p, M = M' ++ [p] := by
  rcases List.eq_nil_or_concat M with h | ⟨M', p, h⟩
  · exact .inl h
  · exact .inr ⟨M', p, by simpa using h⟩

/-- what is new in a range: nothing, or one piece that fills it -/
def Fills (wi : List (Pc α)) (lo hi : Int) : Prop := wi = [] ∨ ∃ v, wi = [⟨lo, hi, v⟩]

theorem rep_ok {ps : List (Pc α)} (o : OkP ps) {lo hi : Int} (h0 : 0 ≤ lo) (h1 : lo ≤ hi) (h2 : hi ≤ 1114111) {wi : List (Pc α)} (hw : Fills wi lo hi) : OkP (repP ps lo hi wi) := by
  obtain ⟨A, M, C, h⟩ := cut3 o h1
  rw [h.rep]
  have e := h.eq
  subst e
  have p0 := List.pairwise_append.1 o.1
  have p1 := List.pairwise_append.1 p0.1
  have hA : ∀ p ∈ A, 0 ≤ p.lo ∧ p.lo ≤ p.hi ∧ p.hi < lo := fun p hp => ⟨(o.2 p (by simp [hp])).1, (o.2 p (by simp [hp])).2.1, h.ha p hp⟩
  have hC : ∀ p ∈ C, hi < p.lo ∧ p.lo ≤ p.hi ∧ p.hi ≤ 1114111 := fun p hp => ⟨h.hc p hp, (o.2 p (by simp [hp])).2⟩
  have hM : ∀ p ∈ M, 0 ≤ p.lo ∧ p.lo ≤ p.hi ∧ p.hi ≤ 1114111 := fun p hp => o.2 p (by simp [hp])
  have hah : ∀ q ∈ aheadP M lo, q.hi < lo ∧ 0 ≤ q.lo ∧ q.lo ≤ q.hi ∧ ∀ p ∈ A, p.hi < q.lo := fun q hq => by
    obtain ⟨p, M', e, k, rfl⟩ := aheadP_mem hq
    have hp : p ∈ M := by rw [e]; exact List.mem_cons_self
    exact ⟨by show lo - 1 < lo; omega, (hM p hp).1, by show p.lo ≤ lo - 1; omega, fun a ha => p1.2.2 a ha p hp⟩
  have hwi : ∀ q ∈ wi, q.lo = lo ∧ q.hi = hi := fun q hq => by
    rcases hw with rfl | ⟨v, rfl⟩
    · exact nomatch hq
    · rw [List.mem_singleton.1 hq]; exact ⟨rfl, rfl⟩
  have hbe : ∀ q ∈ behindP M hi, hi < q.lo ∧ q.lo ≤ q.hi ∧ q.hi ≤ 1114111 ∧ ∀ c ∈ C, q.hi < c.lo := fun q hq => by
    obtain ⟨p, M', e, k, rfl⟩ := behindP_mem hq
    have hp : p ∈ M := by rw [e]; simp
    exact ⟨by show hi < hi + 1; omega, by show hi + 1 ≤ p.hi; omega, (hM p hp).2.2, fun c hc => p0.2.2 p (by simp [hp]) c hc⟩
  have one1 : (aheadP M lo).Pairwise (fun a b => a.hi < b.lo) := by
    unfold aheadP
    split
    · exact List.Pairwise.nil
    · split
      · exact List.pairwise_singleton _ _
      · exact List.Pairwise.nil
  have one2 : (behindP M hi).Pairwise (fun a b => a.hi < b.lo) := by
    unfold behindP
    split
    · exact List.Pairwise.nil
    · split
      · exact List.pairwise_singleton _ _
      · exact List.Pairwise.nil
  have one3 : wi.Pairwise (fun a b => a.hi < b.lo) := by
    rcases hw with rfl | ⟨v, rfl⟩
    · exact List.Pairwise.nil
    · exact List.pairwise_singleton _ _
  refine ⟨List.pairwise_append.2 ⟨List.pairwise_append.2 ⟨p1.1, List.pairwise_append.2 ⟨List.pairwise_append.2 ⟨one1, one3, ?_⟩, one2, ?_⟩, ?_⟩, p0.2.1, ?_⟩, ?_⟩
  · intro a ha b hb
    have := hah a ha; have := hwi b hb; omega
  · intro a ha b hb
    have k := hbe b hb
    rcases List.mem_append.1 ha with ha | ha
    · have := hah a ha; omega
    · have := hwi a ha; omega
  · intro a ha b hb
    have k := hA a ha
    rcases List.mem_append.1 hb with hb | hb
    · rcases List.mem_append.1 hb with hb | hb
      · exact (hah b hb).2.2.2 a ha
      · have := hwi b hb; omega
    · have := hbe b hb; omega
  · intro a ha b hb
    have k := hC b hb
    rcases List.mem_append.1 ha with ha | ha
    · have := hA a ha; omega
    · rcases List.mem_append.1 ha with ha | ha
      · rcases List.mem_append.1 ha with ha | ha
        · have := hah a ha; omega
        · have := hwi a ha; omega
      · exact (hbe a ha).2.2.2 b hb
  · intro p hp
    rcases List.mem_append.1 hp with hp | hp
    · rcases List.mem_append.1 hp with hp | hp
      · have := hA p hp; omega
      · rcases List.mem_append.1 hp with hp | hp
        · rcases List.mem_append.1 hp with hp | hp
          · have := hah p hp; omega
          · have := hwi p hp; omega
        · have := hbe p hp; omega
    · have := hC p hp; omega

theorem at_rep {ps : List (Pc α)} (o : OkP ps) {lo hi : Int} (h1 : lo ≤ hi) {wi : List (Pc α)} (hw : Fills wi lo hi) (x : Int) :
    atP (repP ps lo hi wi) x = if lo ≤ x ∧ x ≤ hi then wi.head?.map (·.val) else atP ps x := by
  obtain ⟨A, M, C, h⟩ := cut3 o h1
  have oM := h.okM o
  rw [h.rep, h.eq]
  simp only [atP_append]
  have hwo : ¬ (lo ≤ x ∧ x ≤ hi) → atP wi x = none := fun hx => by
    rcases hw with rfl | ⟨v, rfl⟩
    · rfl
    · rw [atP_cons, if_neg hx]; rfl
  rcases Int.lt_or_le x lo with hx | hx
  · rw [if_neg (by omega), hwo (by omega), atP_none (ps := C) (fun p hp => .inl (by have := h.hc p hp; omega)), atP_none (ps := behindP M hi) (fun p hp => .inl (by
      obtain ⟨p, M', e, k, rfl⟩ := behindP_mem hp
      show x < hi + 1
      omega))]
    have : atP (aheadP M lo) x = atP M x := by
      cases M with
      | nil => rfl
      | cons p M' =>
        have k := h.hm p List.mem_cons_self
        have kn : atP M' x = none := atP_none fun q hq => .inl (by have := oM.next q hq; omega)
        unfold aheadP
        simp only
        split
        · rw [atP_cons, atP_cons, kn]
          simp only [atP_nil]
          by_cases hl : p.lo ≤ x
          · rw [if_pos (by omega), if_pos (by omega)]
          · rw [if_neg (by omega), if_neg (by omega)]
        · rw [atP_cons, kn, if_neg (by omega)]; rfl
    rw [this]
    simp
  · have kA : atP A x = none := atP_none fun p hp => .inr (by have := h.ha p hp; omega)
    have kh : atP (aheadP M lo) x = none := atP_none fun p hp => .inr (by
      obtain ⟨p, M', e, k, rfl⟩ := aheadP_mem hp
      show lo - 1 < x
      omega)
    rw [kA, kh]
    rcases Int.lt_or_le hi x with hy | hy
    · rw [if_neg (by omega), hwo (by omega)]
      have : atP (behindP M hi) x = atP M x := by
        rcases snoc_cases M with rfl | ⟨M', p, rfl⟩
        · rfl
        · have k := h.hm p (by simp)
          have kn : atP M' x = none := atP_none fun q hq => .inr (by
            have h5 := (List.pairwise_append.1 oM.1).2.2 q hq p (by simp)
            omega)
          rw [behindP_snoc, atP_append, kn]
          split
          · rw [atP_cons, atP_cons]
            simp only [atP_nil]
            by_cases hl : x ≤ p.hi
            · rw [if_pos (by omega), if_pos (by omega)]; rfl
            · rw [if_neg (by omega), if_neg (by omega)]; rfl
          · rw [atP_cons, if_neg (by omega)]; rfl
      rw [this]
      simp
    · rw [if_pos ⟨hx, hy⟩, atP_none (ps := C) (fun p hp => .inl (by have := h.hc p hp; omega)), atP_none (ps := behindP M hi) (fun p hp => .inl (by
        obtain ⟨p, M', e, k, rfl⟩ := behindP_mem hp
        show x < hi + 1
        omega))]
      rcases hw with rfl | ⟨v, rfl⟩
      · rfl
      · rw [atP_cons, if_pos ⟨hx, hy⟩]; rfl

end Go.Proofs.Ytokillomaemocaa

/-
  One map over another, by numbers: the gaps of the upper one, what of the lower one lies in them, all of it sorted.
-/
import Derived.Test.YtnhcbcbceaeceaaPoQa
namespace Go.Proofs.Ytnhcbcbceaeceaa
set_option linter.unusedVariables false
variable {α : Type}

/-- gaps from a on -/
def gapsFrom (a : Int) : List (Pc α) → List (Int × Int)
  | [] => lastGap a
  | p :: ps => (if a ≤ p.lo - 1 then [(a, p.lo - 1)] else []) ++ gapsFrom (p.hi + 1) ps
theorem gapsFrom_eq (ps : List (Pc α)) : ∀ a, gapsFrom a ps = gapsPre a ps ++ lastGap (endP a ps) := by
  induction ps with
  | nil => intro a; rfl
  | cons p ps ih => intro a; simp only [gapsFrom, gapsPre, endP, ih, List.append_assoc]
theorem gapsP_from (ps : List (Pc α)) : gapsP ps = gapsFrom 0 ps := (gapsFrom_eq ps 0).symm

structure GapsOk (a : Int) (gs : List (Int × Int)) : Prop where
  rise : gs.Pairwise (fun g h => g.2 < h.1)
  each : ∀ g ∈ gs, a ≤ g.1 ∧ g.1 ≤ g.2 ∧ g.2 ≤ 1114111

theorem lastGap_mem {a : Int} {g : Int × Int} (h : g ∈ lastGap a) : a ≤ 1114111 ∧ g = (a, 1114111) := by
  unfold lastGap at h
  split at h
  · exact ⟨by assumption, by simpa using h⟩
  · cases h
theorem gapsFrom_ok : ∀ {ps : List (Pc α)}, OkP ps → ∀ a, 0 ≤ a → (∀ p ∈ ps, a ≤ p.lo) → GapsOk a (gapsFrom a ps) := by
  intro ps
  induction ps with
  | nil =>
    intro _ a h0 _
    refine ⟨?_, fun g hg => ?_⟩
    · show (lastGap a).Pairwise _
      unfold lastGap
      split
      · exact List.pairwise_singleton _ _
      · exact List.Pairwise.nil
    · obtain ⟨h1, rfl⟩ := lastGap_mem hg
      exact ⟨Int.le_refl _, h1, Int.le_refl _⟩
  | cons p ps ih =>
    intro o a h0 ha
    have k := o.head
    have ka := ha p List.mem_cons_self
    obtain ⟨r, e⟩ := ih o.tail (p.hi + 1) (by omega) (fun q hq => by have := o.next q hq; omega)
    refine ⟨?_, fun g hg => ?_⟩
    · show ((if a ≤ p.lo - 1 then [(a, p.lo - 1)] else []) ++ gapsFrom (p.hi + 1) ps).Pairwise _
      refine List.pairwise_append.2 ⟨?_, r, fun g hg h hh => ?_⟩
      · split
        · exact List.pairwise_singleton _ _
        · exact List.Pairwise.nil
      · have := (e h hh).1
        split at hg
        · rcases List.mem_singleton.1 hg with rfl
          show p.lo - 1 < h.1
          omega
        · cases hg
    · rcases List.mem_append.1 (show g ∈ (if a ≤ p.lo - 1 then [(a, p.lo - 1)] else []) ++ gapsFrom (p.hi + 1) ps from hg) with hg | hg
      · split at hg
        · next h1 =>
          rcases List.mem_singleton.1 hg with rfl
          exact ⟨Int.le_refl _, h1, by show p.lo - 1 ≤ 1114111; omega⟩
        · cases hg
      · have := e g hg; omega
theorem gapsFrom_at : ∀ {ps : List (Pc α)}, OkP ps → ∀ a x, (∀ p ∈ ps, a ≤ p.lo) → a ≤ x → x ≤ 1114111 → (atP ps x = none ↔ ∃ g ∈ gapsFrom a ps, g.1 ≤ x ∧ x ≤ g.2) := by
  intro ps
  induction ps with
  | nil =>
    intro _ a x _ h1 h2
    refine ⟨fun _ => ⟨(a, 1114111), ?_, h1, h2⟩, fun _ => rfl⟩
    show (a, 1114111) ∈ lastGap a
    unfold lastGap
    rw [if_pos (by omega)]
    exact List.mem_singleton.2 rfl
  | cons p ps ih =>
    intro o a x ha h1 h2
    have k := o.head
    have ka := ha p List.mem_cons_self
    have hn : ∀ q ∈ ps, p.hi + 1 ≤ q.lo := fun q hq => by have := o.next q hq; omega
    have oks := gapsFrom_ok o.tail (p.hi + 1) (by omega) hn
    rw [atP_cons]
    show _ ↔ ∃ g ∈ (if a ≤ p.lo - 1 then [(a, p.lo - 1)] else []) ++ gapsFrom (p.hi + 1) ps, _
    rcases Int.lt_or_le x p.lo with hx | hx
    · rw [if_neg (by omega)]
      refine ⟨fun _ => ⟨(a, p.lo - 1), List.mem_append_left _ ?_, h1, by show x ≤ p.lo - 1; omega⟩, fun _ => atP_none fun q hq => .inl (by have := hn q hq; omega)⟩
      rw [if_pos (by omega)]
      exact List.mem_singleton.2 rfl
    · rcases Int.lt_or_le p.hi x with hy | hy
      · rw [if_neg (by omega), ih o.tail (p.hi + 1) x hn (by omega) h2]
        refine ⟨fun ⟨g, hg, h⟩ => ⟨g, List.mem_append_right _ hg, h⟩, fun ⟨g, hg, h⟩ => ?_⟩
        rcases List.mem_append.1 hg with hg | hg
        · split at hg
          · rcases List.mem_singleton.1 hg with rfl
            have : x ≤ p.lo - 1 := h.2
            omega
          · cases hg
        · exact ⟨g, hg, h⟩
      · rw [if_pos ⟨hx, hy⟩]
        refine ⟨fun h => (by cases h), fun ⟨g, hg, h⟩ => ?_⟩
        exfalso
        rcases List.mem_append.1 hg with hg | hg
        · split at hg
          · rcases List.mem_singleton.1 hg with rfl
            have : x ≤ p.lo - 1 := h.2
            omega
          · cases hg
        · have := (oks.each g hg).1
          omega
theorem gapsP_ok {ps : List (Pc α)} (o : OkP ps) : GapsOk 0 (gapsP ps) := by
  rw [gapsP_from]
  exact gapsFrom_ok o 0 (Int.le_refl _) fun p hp => (o.2 p hp).1
theorem gapsP_at {ps : List (Pc α)} (o : OkP ps) {x : Int} (h1 : 0 ≤ x) (h2 : x ≤ 1114111) : atP ps x = none ↔ ∃ g ∈ gapsP ps, g.1 ≤ x ∧ x ≤ g.2 := by
  rw [gapsP_from]
  exact gapsFrom_at o 0 x (fun p hp => (o.2 p hp).1) h1 h2

/-- what is told of gaps is a front of all of them -/
theorem gap_front {ss pre : List (Pc α)} {x : Pc α} (h : pre ++ [x] <+: ss) (hl : endP 0 pre ≤ x.lo - 1) : gapsPre 0 pre ++ [(endP 0 pre, x.lo - 1)] <+: gapsP ss := by
  obtain ⟨t, rfl⟩ := h
  unfold gapsP
  rw [gapsPre_append, gapsPre_snoc, if_pos hl, List.append_assoc, List.append_assoc]
  exact List.prefix_append_right_inj _ |>.2 (List.prefix_append _ _)
theorem gap_end {ss : List (Pc α)} (hl : endP 0 ss ≤ 1114111) : gapsPre 0 ss ++ [(endP 0 ss, 1114111)] = gapsP ss := by
  unfold gapsP lastGap
  rw [if_pos hl]
theorem gap_none {ss : List (Pc α)} (hl : ¬ endP 0 ss ≤ 1114111) : gapsPre 0 ss = gapsP ss := by
  unfold gapsP lastGap
  rw [if_neg hl, List.append_nil]

/-- a number has a value just if a piece has it -/
theorem at_mem {ps : List (Pc α)} {x : Int} {v : α} (h : atP ps x = some v) : ∃ p ∈ ps, p.lo ≤ x ∧ x ≤ p.hi ∧ p.val = v := by
  induction ps with
  | nil => cases h
  | cons p ps ih =>
    rw [atP_cons] at h
    split at h
    · next hx => exact ⟨p, List.mem_cons_self, hx.1, hx.2, Option.some.inj h⟩
    · obtain ⟨q, hq, r⟩ := ih h
      exact ⟨q, List.mem_cons_of_mem _ hq, r⟩
theorem mem_at {ps : List (Pc α)} (o : OkP ps) {p : Pc α} (hp : p ∈ ps) {x : Int} (h1 : p.lo ≤ x) (h2 : x ≤ p.hi) : atP ps x = some p.val := by
  induction ps with
  | nil => cases hp
  | cons q ps ih =>
    rw [atP_cons]
    rcases List.mem_cons.1 hp with rfl | hp
    · rw [if_pos ⟨h1, h2⟩]
    · have := o.next p hp
      have := o.head
      rw [if_neg (by omega)]
      exact ih o.tail hp
theorem at_out {ps : List (Pc α)} (o : OkP ps) {x : Int} (h : x < 0 ∨ 1114111 < x) : atP ps x = none :=
  atP_none fun p hp => by have := o.2 p hp; omega

/-- pieces that have no number in common -/
def Far (p q : Pc α) : Prop := p.hi < q.lo ∨ q.hi < p.lo
theorem far_of {p q : Pc α} (h1 : p.lo ≤ p.hi) (h2 : q.lo ≤ q.hi) (h : ∀ x, p.lo ≤ x → x ≤ p.hi → q.lo ≤ x → x ≤ q.hi → False) : Far p q := by
  unfold Far
  rcases Int.lt_or_le p.hi q.lo with a | a
  · exact .inl a
  · rcases Int.lt_or_le q.hi p.lo with b | b
    · exact .inr b
    · exfalso
      rcases Int.lt_or_le p.lo q.lo with c | c
      · exact h q.lo (by omega) a (Int.le_refl _) h2
      · exact h p.lo (Int.le_refl _) h1 c (by omega)

/-- what of the lower pieces lies in gaps -/
def clipG (lo hi : Int) (p : Pc α) : Pc α := ⟨max p.lo lo, min p.hi hi, p.val⟩
def partsP (ls : List (Pc α)) (gs : List (Int × Int)) : List (Pc α) := gs.flatMap fun g => (midP ls g.1 g.2).map (clipG g.1 g.2)
theorem partsP_snoc (ls : List (Pc α)) (gs : List (Int × Int)) (g : Int × Int) : partsP ls (gs ++ [g]) = partsP ls gs ++ (midP ls g.1 g.2).map (clipG g.1 g.2) := by
  simp [partsP]
theorem mid_mem {ls : List (Pc α)} (o : OkP ls) {lo hi : Int} (h : lo ≤ hi) {p : Pc α} : p ∈ midP ls lo hi ↔ p ∈ ls ∧ lo ≤ p.hi ∧ p.lo ≤ hi := by
  obtain ⟨A, M, C, c⟩ := cut3 o h
  rw [c.mid]
  constructor
  · intro hp
    exact ⟨by rw [c.eq]; simp [hp], c.hm p hp⟩
  · rintro ⟨hp, h1, h2⟩
    rw [c.eq] at hp
    simp only [List.mem_append] at hp
    rcases hp with (hp | hp) | hp
    · have := c.ha p hp; omega
    · exact hp
    · have := c.hc p hp; omega
theorem parts_mem {ls : List (Pc α)} (o : OkP ls) {gs : List (Int × Int)} {a : Int} (hg : GapsOk a gs) {q : Pc α} : q ∈ partsP ls gs ↔ ∃ g ∈ gs, ∃ p ∈ ls, g.1 ≤ p.hi ∧ p.lo ≤ g.2 ∧ q = clipG g.1 g.2 p := by
  unfold partsP
  rw [List.mem_flatMap]
  constructor
  · rintro ⟨g, h, hq⟩
    obtain ⟨p, hp, rfl⟩ := List.mem_map.1 hq
    have := (mid_mem o (hg.each g h).2.1).1 hp
    exact ⟨g, h, p, this.1, this.2.1, this.2.2, rfl⟩
  · rintro ⟨g, h, p, hp, h1, h2, rfl⟩
    exact ⟨g, h, List.mem_map.2 ⟨p, (mid_mem o (hg.each g h).2.1).2 ⟨hp, h1, h2⟩, rfl⟩⟩
theorem clipG_in {lo hi x : Int} {p : Pc α} : ((clipG lo hi p).lo ≤ x ∧ x ≤ (clipG lo hi p).hi) ↔ (p.lo ≤ x ∧ x ≤ p.hi ∧ lo ≤ x ∧ x ≤ hi) := by
  unfold clipG
  simp only
  omega
theorem mid_far {ls : List (Pc α)} (o : OkP ls) {lo hi : Int} (h : lo ≤ hi) : ((midP ls lo hi).map (clipG lo hi)).Pairwise Far := by
  obtain ⟨A, M, C, c⟩ := cut3 o h
  rw [c.mid]
  have oM := c.okM o
  refine List.pairwise_map.2 (oM.1.imp fun {p q} h => ?_)
  unfold Far clipG
  simp only
  omega
theorem clipG_ok {lo hi : Int} {p : Pc α} (h0 : lo ≤ hi) (hp : p.lo ≤ p.hi) (h1 : lo ≤ p.hi) (h2 : p.lo ≤ hi) : (clipG lo hi p).lo ≤ (clipG lo hi p).hi ∧ lo ≤ (clipG lo hi p).lo ∧ (clipG lo hi p).hi ≤ hi := by
  unfold clipG
  simp only
  omega
theorem parts_far {ls : List (Pc α)} (o : OkP ls) : ∀ {gs : List (Int × Int)} {a : Int}, GapsOk a gs → (partsP ls gs).Pairwise Far := by
  intro gs
  induction gs with
  | nil => intro a _; exact List.Pairwise.nil
  | cons g gs ih =>
    intro a h
    have hg := h.each g List.mem_cons_self
    have hr := List.pairwise_cons.1 h.rise
    have h' : GapsOk a gs := ⟨hr.2, fun k hk => h.each k (List.mem_cons_of_mem _ hk)⟩
    show ((midP ls g.1 g.2).map (clipG g.1 g.2) ++ partsP ls gs).Pairwise Far
    refine List.pairwise_append.2 ⟨mid_far o hg.2.1, ih h', fun p hp q hq => ?_⟩
    obtain ⟨p', hp', rfl⟩ := List.mem_map.1 hp
    have m1 := (mid_mem o hg.2.1).1 hp'
    obtain ⟨k, hk, q', hq', k1, k2, rfl⟩ := (parts_mem o h').1 hq
    have kk := h'.each k hk
    have a1 := clipG_ok hg.2.1 (o.2 p' m1.1).2.1 m1.2.1 m1.2.2
    have a2 := clipG_ok kk.2.1 (o.2 q' hq').2.1 k1 k2
    have := hr.1 k hk
    exact .inl (by omega)

/-- the upper pieces and what of the lower ones lies in the upper ones' gaps have no number in common -/
theorem over_far {hs ss ls : List (Pc α)} (oh : OkP hs) (os : OkP ss) (ol : OkP ls) (hst : ∀ x, atP ss x = atP hs x) : (hs ++ partsP ls (gapsP ss)).Pairwise Far := by
  have hg := gapsP_ok os
  refine List.pairwise_append.2 ⟨oh.1.imp fun h => .inl h, parts_far ol hg, fun p hp q hq => ?_⟩
  obtain ⟨g, hgm, q', hq', k1, k2, rfl⟩ := (parts_mem ol hg).1 hq
  have kg := hg.each g hgm
  have a2 := clipG_ok kg.2.1 (ol.2 q' hq').2.1 k1 k2
  have kp := oh.2 p hp
  refine far_of kp.2.1 a2.1 fun x h1 h2 h3 h4 => ?_
  have e1 := mem_at oh hp h1 h2
  rw [← hst x] at e1
  have e2 := (gapsP_at os (x := x) (by omega) (by omega)).2 ⟨g, hgm, by omega, by omega⟩
  rw [e2] at e1
  cases e1
theorem over_each {hs ss ls : List (Pc α)} (oh : OkP hs) (os : OkP ss) (ol : OkP ls) : ∀ p ∈ hs ++ partsP ls (gapsP ss), 0 ≤ p.lo ∧ p.lo ≤ p.hi ∧ p.hi ≤ 1114111 := by
  have hg := gapsP_ok os
  intro p hp
  rcases List.mem_append.1 hp with hp | hp
  · exact oh.2 p hp
  · obtain ⟨g, hgm, q', hq', k1, k2, rfl⟩ := (parts_mem ol hg).1 hp
    have kg := hg.each g hgm
    have a2 := clipG_ok kg.2.1 (ol.2 q' hq').2.1 k1 k2
    omega
/-- sorted by their beginnings they are in order -/
theorem sorted_ok {us qs : List (Pc α)} (hp : qs.Perm us) (hf : us.Pairwise Far) (he : ∀ p ∈ us, 0 ≤ p.lo ∧ p.lo ≤ p.hi ∧ p.hi ≤ 1114111) (hsrt : qs.Pairwise (fun p q => ¬ q.lo < p.lo)) : OkP qs := by
  have hf' : qs.Pairwise Far := hp.symm.pairwise hf (fun h => h.elim .inr .inl)
  have he' : ∀ p ∈ qs, 0 ≤ p.lo ∧ p.lo ≤ p.hi ∧ p.hi ≤ 1114111 := fun p h => he p (hp.mem_iff.1 h)
  refine ⟨?_, he'⟩
  clear hp hf he
  induction qs with
  | nil => exact List.Pairwise.nil
  | cons p qs ih =>
    have h1 := List.pairwise_cons.1 hf'
    have h2 := List.pairwise_cons.1 hsrt
    refine List.pairwise_cons.2 ⟨fun q hq => ?_, ih h2.2 h1.2 fun q hq => he' q (List.mem_cons_of_mem _ hq)⟩
    have a := h1.1 q hq
    have b := h2.1 q hq
    have c := he' p List.mem_cons_self
    have d := he' q (List.mem_cons_of_mem _ hq)
    unfold Far at a
    omega
/-- each number has the upper map's value, else the lower one's -/
theorem over_at {hs ss ls qs : List (Pc α)} (oh : OkP hs) (os : OkP ss) (ol : OkP ls) (hst : ∀ x, atP ss x = atP hs x) (hp : qs.Perm (hs ++ partsP ls (gapsP ss))) (oq : OkP qs) (x : Int) : atP qs x = (atP hs x).or (atP ls x) := by
  have hg := gapsP_ok os
  by_cases hx : x < 0 ∨ 1114111 < x
  · rw [at_out oq hx, at_out oh hx, at_out ol hx]; rfl
  · have hx1 : 0 ≤ x := by omega
    have hx2 : x ≤ 1114111 := by omega
    cases hh : atP hs x with
    | some v =>
      obtain ⟨p, hpm, h1, h2, rfl⟩ := at_mem hh
      exact mem_at oq (hp.mem_iff.2 (List.mem_append_left _ hpm)) h1 h2
    | none =>
      rw [Option.none_or]
      have hss : atP ss x = none := (hst x).trans hh
      obtain ⟨g, hgm, g1, g2⟩ := (gapsP_at os hx1 hx2).1 hss
      cases hl : atP ls x with
      | some v =>
        obtain ⟨p, hpm, h1, h2, rfl⟩ := at_mem hl
        have hm : clipG g.1 g.2 p ∈ qs := hp.mem_iff.2 (List.mem_append_right _ ((parts_mem ol hg).2 ⟨g, hgm, p, hpm, by omega, by omega, rfl⟩))
        have := clipG_in.2 ⟨h1, h2, g1, g2⟩
        exact mem_at oq hm this.1 this.2
      | none =>
        cases hq : atP qs x with
        | none => rfl
        | some v =>
          exfalso
          obtain ⟨p, hpm, h1, h2, rfl⟩ := at_mem hq
          rcases List.mem_append.1 (hp.mem_iff.1 hpm) with hpm | hpm
          · have := mem_at oh hpm h1 h2
            rw [hh] at this; cases this
          · obtain ⟨k, hk, q', hq', k1, k2, rfl⟩ := (parts_mem ol hg).1 hpm
            have := clipG_in.1 ⟨h1, h2⟩
            have := mem_at ol hq' this.1 this.2.1
            rw [hl] at this; cases this
theorem parts_len {ls : List (Pc α)} (gs : List (Int × Int)) : (partsP ls gs).length ≤ gs.length * ls.length := by
  induction gs with
  | nil => simp [partsP]
  | cons g gs ih =>
    have e : partsP ls (g :: gs) = (midP ls g.1 g.2).map (clipG g.1 g.2) ++ partsP ls gs := rfl
    have : (midP ls g.1 g.2).length ≤ ls.length := by unfold midP; rw [List.length_drop, List.length_take]; omega
    rw [e, List.length_append, List.length_map, List.length_cons, Nat.add_mul]
    omega
/-- the pieces of one map over another -/
def overP (eqv : α → α → Bool) (hs ls : List (Pc α)) : List (Pc α) := (hs ++ partsP ls (gapsP (strsP eqv hs))).mergeSort (fun p q => decide (p.lo ≤ q.lo))
theorem perm_one {xs ys : List (Pc α)} (ox : OkP xs) (oy : OkP ys) (h : xs.Perm ys) : xs = ys := by
  refine h.eq_of_pairwise (le := fun a b : Pc α => a.hi < b.lo) (fun a b ha hb h1 h2 => ?_) ox.1 oy.1
  have := ox.2 a ha
  have := oy.2 b hb
  omega
theorem over_sorted (eqv : α → α → Bool) (hs ls : List (Pc α)) : (overP eqv hs ls).Pairwise (fun p q => ¬ q.lo < p.lo) := by
  refine (List.pairwise_mergeSort (le := fun p q : Pc α => decide (p.lo ≤ q.lo)) (fun a b c h1 h2 => ?_) (fun a b => ?_) _).imp fun {p q} h => ?_
  · simp at *; omega
  · simp; omega
  · simp at h; omega
theorem over_ok (eqv : α → α → Bool) (he : ∀ a b, eqv a b = true → a = b) {hs ls : List (Pc α)} (oh : OkP hs) (ol : OkP ls) : OkP (overP eqv hs ls) :=
  sorted_ok (List.mergeSort_perm _ _) (over_far oh (strs_ok eqv oh) ol fun x => strs_at eqv he oh x) (over_each oh (strs_ok eqv oh) ol) (over_sorted eqv hs ls)
theorem at_overP (eqv : α → α → Bool) (he : ∀ a b, eqv a b = true → a = b) {hs ls : List (Pc α)} (oh : OkP hs) (ol : OkP ls) (x : Int) : atP (overP eqv hs ls) x = (atP hs x).or (atP ls x) :=
  over_at oh (strs_ok eqv oh) ol (fun x => strs_at eqv he oh x) (List.mergeSort_perm _ _) (over_ok eqv he oh ol) x
theorem over_is (eqv : α → α → Bool) (he : ∀ a b, eqv a b = true → a = b) {hs ls qs : List (Pc α)} (oh : OkP hs) (ol : OkP ls) (hp : qs.Perm (hs ++ partsP ls (gapsP (strsP eqv hs)))) (hsrt : qs.Pairwise (fun p q => ¬ q.lo < p.lo)) : qs = overP eqv hs ls :=
  perm_one (sorted_ok hp (over_far oh (strs_ok eqv oh) ol fun x => strs_at eqv he oh x) (over_each oh (strs_ok eqv oh) ol) hsrt) (over_ok eqv he oh ol) (hp.trans (List.mergeSort_perm _ _).symm)
end Go.Proofs.Ytnhcbcbceaeceaa

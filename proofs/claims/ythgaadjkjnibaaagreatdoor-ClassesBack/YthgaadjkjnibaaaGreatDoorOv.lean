/-
  These texts, one behind the other: POvM, RPiM, ClWhM.
-/
import Derived.Test.YthgaadjkjnibaaaGreatDoorPm
import Derived.Test.YthgaadjkjnibaaaGreatDoorLe
import Derived.Test.YthgaadjkjnibaaaGreatDoorCn
/-
  One map over another, by numbers: the gaps of the upper one, what of the lower one lies in them, all of it sorted.
-/
namespace Go.Proofs.YthgaadjkjnibaaaGreatDoor
set_option linter.unusedVariables false
variable {α : Type}

/-- gaps from a on -/
def gapsFrom (a : Int) : List (Pc α) → List (Int × Int)
  | [] => lastGap a
  | p :: ps => (if a ≤ p.lo - 1 then [(a, p.lo - 1)] else []) ++ gapsFrom (p.hi + 1) ps
theorem gapsFrom_eq (ps : List (Pc α)) : ∀ a, gapsFrom a ps = gapsPre a ps ++ lastGap (endP a ps) := by
  induction ps with
  | nil => intro a; rfl
  | cons p ps ih => intro a; simp only [gapsFrom, gapsPre, endP, ih, List.append_assoc]
theorem gapsP_from (ps : List (Pc α)) : gapsP ps = gapsFrom 0 ps := (gapsFrom_eq ps 0).symm

structure GapsOk (a : Int) (gs : List (Int × Int)) : Prop where
  rise : gs.Pairwise (fun g h => g.2 < h.1)
  each : ∀ g ∈ gs, a ≤ g.1 ∧ g.1 ≤ g.2 ∧ g.2 ≤ 1114111

theorem lastGap_mem {a : Int} {g : Int × Int} (h : g ∈ lastGap a) : a ≤ 1114111 ∧ g = (a, 1114111) := by
  unfold lastGap at h
  split at h
  · exact ⟨by assumption, by simpa using h⟩
  · cases h
theorem gapsFrom_ok : ∀ {ps : List (Pc α)}, OkP ps → ∀ a, 0 ≤ a → (∀ p ∈ ps, a ≤ p.lo) → GapsOk a (gapsFrom a ps) := by
  intro ps
  induction ps with
  | nil =>
    intro _ a h0 _
    refine ⟨?_, fun g hg => ?_⟩
    · show (lastGap a).Pairwise _
      unfold lastGap
      split
      · exact List.pairwise_singleton _ _
      · exact List.Pairwise.nil
    · obtain ⟨h1, rfl⟩ := lastGap_mem hg
      exact ⟨Int.le_refl _, h1, Int.le_refl _⟩
  | cons p ps ih =>
    intro o a h0 ha
    have k := o.head
    have ka := ha p List.mem_cons_self
    obtain ⟨r, e⟩ := ih o.tail (p.hi + 1) (by omega) (fun q hq => by have := o.next q hq; omega)
    refine ⟨?_, fun g hg => ?_⟩
    · show ((if a ≤ p.lo - 1 then [(a, p.lo - 1)] else []) ++ gapsFrom (p.hi + 1) ps).Pairwise _
      refine List.pairwise_append.2 ⟨?_, r, fun g hg h hh => ?_⟩
      · split
        · exact List.pairwise_singleton _ _
        · exact List.Pairwise.nil
      · have := (e h hh).1
        split at hg
        · rcases List.mem_singleton.1 hg with rfl
          show p.lo - 1 < h.1
          omega
        · cases hg
    · rcases List.mem_append.1 (show g ∈ (if a ≤ p.lo - 1 then [(a, p.lo - 1)] else []) ++ gapsFrom (p.hi + 1) ps from hg) with hg | hg
      · split at hg
        · next h1 =>
          rcases List.mem_singleton.1 hg with rfl
          exact ⟨Int.le_refl _, h1, by show p.lo - 1 ≤ 1114111; omega⟩
        · cases hg
      · have := e g hg; omega
theorem gapsFrom_at : ∀ {ps : List (Pc α)}, OkP ps → ∀ a x, (∀ p ∈ ps, a ≤ p.lo) → a ≤ x → x ≤ 1114111 → (atP ps x = none ↔ ∃ g ∈ gapsFrom a ps, g.1 ≤ x ∧ x ≤ g.2) := by
  intro ps
  induction ps with
  | nil =>
    intro _ a x _ h1 h2
    refine ⟨fun _ => ⟨(a, 1114111), ?_, h1, h2⟩, fun _ => rfl⟩
    show (a, 1114111) ∈ lastGap a
    unfold lastGap
    rw [if_pos (by omega)]
    exact List.mem_singleton.2 rfl
  | cons p ps ih =>
    intro o a x ha h1 h2
    have k := o.head
    have ka := ha p List.mem_cons_self
    have hn : ∀ q ∈ ps, p.hi + 1 ≤ q.lo := fun q hq => by have := o.next q hq; omega
    have oks := gapsFrom_ok o.tail (p.hi + 1) (by omega) hn
    rw [atP_cons]
    show _ ↔ ∃ g ∈ (if a ≤ p.lo - 1 then [(a, p.lo - 1)] else []) ++ gapsFrom (p.hi + 1) ps, _
    rcases Int.lt_or_le x p.lo with hx | hx
    · rw [if_neg (by omega)]
      refine ⟨fun _ => ⟨(a, p.lo - 1), List.mem_append_left _ ?_, h1, by show x ≤ p.lo - 1; omega⟩, fun _ => atP_none fun q hq => .inl (by have := hn q hq; omega)⟩
      rw [if_pos (by omega)]
      exact List.mem_singleton.2 rfl
    · rcases Int.lt_or_le p.hi x with hy | hy
      · rw [if_neg (by omega), ih o.tail (p.hi + 1) x hn (by omega) h2]
        refine ⟨fun ⟨g, hg, h⟩ => ⟨g, List.mem_append_right _ hg, h⟩, fun ⟨g, hg, h⟩ => ?_⟩
        rcases List.mem_append.1 hg with hg | hg
        · split at hg
          · rcases List.mem_singleton.1 hg with rfl
            have : x ≤ p.lo - 1 := h.2
            omega
          · cases hg
        · exact ⟨g, hg, h⟩
      · rw [if_pos ⟨hx, hy⟩]
        refine ⟨fun h => (by cases h), fun ⟨g, hg, h⟩ => ?_⟩
        exfalso
        rcases List.mem_append.1 hg with hg | hg
        · split at hg
          · rcases List.mem_singleton.1 hg with rfl
            have : x ≤ p.lo - 1 := h.2
            omega
          · cases hg
        · have := (oks.each g hg).1
          omega
theorem gapsP_ok {ps : List (Pc α)} (o : OkP ps) : GapsOk 0 (gapsP ps) := by
  rw [gapsP_from]
  exact gapsFrom_ok o 0 (Int.le_refl _) fun p hp => (o.2 p hp).1
theorem gapsP_at {ps : List (Pc α)} (o : OkP ps) {x : Int} (h1 : 0 ≤ x) (h2 : x ≤ 1114111) : atP ps x = none ↔ ∃ g ∈ gapsP ps, g.1 ≤ x ∧ x ≤ g.2 := by
  rw [gapsP_from]
  exact gapsFrom_at o 0 x (fun p hp => (o.2 p hp).1) h1 h2

/-- what is told of gaps is a front of all of them -/
theorem gap_front {ss pre : List (Pc α)} {x : Pc α} (h : pre ++ [x] <+: ss) (hl : endP 0 pre ≤ x.lo - 1) : gapsPre 0 pre ++ [(endP 0 pre, x.lo - 1)] <+: gapsP ss := by
  obtain ⟨t, rfl⟩ := h
  unfold gapsP
  rw [gapsPre_append, gapsPre_snoc, if_pos hl, List.append_assoc, List.append_assoc]
  exact List.prefix_append_right_inj _ |>.2 (List.prefix_append _ _)
theorem gap_end {ss : List (Pc α)} (hl : endP 0 ss ≤ 1114111) : gapsPre 0 ss ++ [(endP 0 ss, 1114111)] = gapsP ss := by
  unfold gapsP lastGap
  rw [if_pos hl]
theorem gap_none {ss : List (Pc α)} (hl : ¬ endP 0 ss ≤ 1114111) : gapsPre 0 ss = gapsP ss := by
  unfold gapsP lastGap
  rw [if_neg hl, List.append_nil]

/-- a number has a value just if a piece has it -/
theorem at_mem {ps : List (Pc α)} {x : Int} {v : α} (h : atP ps x = some v) : ∃ p ∈ ps, p.lo ≤ x ∧ x ≤ p.hi ∧ p.val = v := by
  induction ps with
  | nil => cases h
  | cons p ps ih =>
    rw [atP_cons] at h
    split at h
    · next hx => exact ⟨p, List.mem_cons_self, hx.1, hx.2, Option.some.inj h⟩
    · obtain ⟨q, hq, r⟩ := ih h
      exact ⟨q, List.mem_cons_of_mem _ hq, r⟩
theorem mem_at {ps : List (Pc α)} (o : OkP ps) {p : Pc α} (hp : p ∈ ps) {x : Int} (h1 : p.lo ≤ x) (h2 : x ≤ p.hi) : atP ps x = some p.val := by
  induction ps with
  | nil => cases hp
  | cons q ps ih =>
    rw [atP_cons]
    rcases List.mem_cons.1 hp with rfl | hp
    · rw [if_pos ⟨h1, h2⟩]
    · have := o.next p hp
      have := o.head
      rw [if_neg (by omega)]
      exact ih o.tail hp
theorem at_out {ps : List (Pc α)} (o : OkP ps) {x : Int} (h : x < 0 ∨ 1114111 < x) : atP ps x = none :=
  atP_none fun p hp => by have := o.2 p hp; omega

/-- pieces that have no number in common -/
def Far (p q : Pc α) : Prop := p.hi < q.lo ∨ q.hi < p.lo
theorem far_of {p q : Pc α} (h1 : p.lo ≤ p.hi) (h2 : q.lo ≤ q.hi) (h : ∀ x, p.lo ≤ x → x ≤ p.hi → q.lo ≤ x → x ≤ q.hi → False) : Far p q := by
  unfold Far
  rcases Int.lt_or_le p.hi q.lo with a | a
  · exact .inl a
  · rcases Int.lt_or_le q.hi p.lo with b | b
    · exact .inr b
    · exfalso
      rcases Int.lt_or_le p.lo q.lo with c | c
      · exact h q.lo (by omega) a (Int.le_refl _) h2
      · exact h p.lo (Int.le_refl _) h1 c (by omega)

/-- what of the lower pieces lies in gaps -/
def clipG (lo hi : Int) (p : Pc α) : Pc α := ⟨max p.lo lo, min p.hi hi, p.val⟩
def partsP (ls : List (Pc α)) (gs : List (Int × Int)) : List (Pc α) := gs.flatMap fun g => (midP ls g.1 g.2).map (clipG g.1 g.2)
theorem partsP_snoc (ls : List (Pc α)) (gs : List (Int × Int)) (g : Int × Int) : partsP ls (gs ++ [g]) = partsP ls gs ++ (midP ls g.1 g.2).map (clipG g.1 g.2) := by
  simp [partsP]
theorem mid_mem {ls : List (Pc α)} (o : OkP ls) {lo hi : Int} (h : lo ≤ hi) {p : Pc α} : p ∈ midP ls lo hi ↔ p ∈ ls ∧ lo ≤ p.hi ∧ p.lo ≤ hi := by
  obtain ⟨A, M, C, c⟩ := cut3 o h
  rw [c.mid]
  constructor
  · intro hp
    exact ⟨by rw [c.eq]; simp [hp], c.hm p hp⟩
  · rintro ⟨hp, h1, h2⟩
    rw [c.eq] at hp
    simp only [List.mem_append] at hp
    rcases hp with (hp | hp) | hp
    · have := c.ha p hp; omega
    · exact hp
    · have := c.hc p hp; omega
theorem parts_mem {ls : List (Pc α)} (o : OkP ls) {gs : List (Int × Int)} {a : Int} (hg : GapsOk a gs) {q : Pc α} : q ∈ partsP ls gs ↔ ∃ g ∈ gs, ∃ p ∈ ls, g.1 ≤ p.hi ∧ p.lo ≤ g.2 ∧ q = clipG g.1 g.2 p := by
  unfold partsP
  rw [List.mem_flatMap]
  constructor
  · rintro ⟨g, h, hq⟩
    obtain ⟨p, hp, rfl⟩ := List.mem_map.1 hq
    have := (mid_mem o (hg.each g h).2.1).1 hp
    exact ⟨g, h, p, this.1, this.2.1, this.2.2, rfl⟩
  · rintro ⟨g, h, p, hp, h1, h2, rfl⟩
    exact ⟨g, h, List.mem_map.2 ⟨p, (mid_mem o (hg.each g h).2.1).2 ⟨hp, h1, h2⟩, rfl⟩⟩
theorem clipG_in {lo hi x : Int} {p : Pc α} : ((clipG lo hi p).lo ≤ x ∧ x ≤ (clipG lo hi p).hi) ↔ (p.lo ≤ x ∧ x ≤ p.hi ∧ lo ≤ x ∧ x ≤ hi) := by
  unfold clipG
  simp only
  omega
theorem mid_far {ls : List (Pc α)} (o : OkP ls) {lo hi : Int} (h : lo ≤ hi) : ((midP ls lo hi).map (clipG lo hi)).Pairwise Far := by
  obtain ⟨A, M, C, c⟩ := cut3 o h
  rw [c.mid]
  have oM := c.okM o
  refine List.pairwise_map.2 (oM.1.imp fun {p q} h => ?_)
  unfold Far clipG
  simp only
  omega
theorem clipG_ok {lo hi : Int} {p : Pc α} (h0 : lo ≤ hi) (hp : p.lo ≤ p.hi) (h1 : lo ≤ p.hi) (h2 : p.lo ≤ hi) : (clipG lo hi p).lo ≤ (clipG lo hi p).hi ∧ lo ≤ (clipG lo hi p).lo ∧ (clipG lo hi p).hi ≤ hi := by
  unfold clipG
  simp only
  omega
theorem parts_far {ls : List (Pc α)} (o : OkP ls) : ∀ {gs : List (Int × Int)} {a : Int}, GapsOk a gs → (partsP ls gs).Pairwise Far := by
  intro gs
  induction gs with
  | nil => intro a _; exact List.Pairwise.nil
  | cons g gs ih =>
    intro a h
    have hg := h.each g List.mem_cons_self
    have hr := List.pairwise_cons.1 h.rise
    have h' : GapsOk a gs := ⟨hr.2, fun k hk => h.each k (List.mem_cons_of_mem _ hk)⟩
    show ((midP ls g.1 g.2).map (clipG g.1 g.2) ++ partsP ls gs).Pairwise Far
    refine List.pairwise_append.2 ⟨mid_far o hg.2.1, ih h', fun p hp q hq => ?_⟩
    obtain ⟨p', hp', rfl⟩ := List.mem_map.1 hp
    have m1 := (mid_mem o hg.2.1).1 hp'
    obtain ⟨k, hk, q', hq', k1, k2, rfl⟩ := (parts_mem o h').1 hq
    have kk := h'.each k hk
    have a1 := clipG_ok hg.2.1 (o.2 p' m1.1).2.1 m1.2.1 m1.2.2
    have a2 := clipG_ok kk.2.1 (o.2 q' hq').2.1 k1 k2
    have := hr.1 k hk
    exact .inl (by omega)

/-- the upper pieces and what of the lower ones lies in the upper ones' gaps have no number in common -/
theorem over_far {hs ss ls : List (Pc α)} (oh : OkP hs) (os : OkP ss) (ol : OkP ls) (hst : ∀ x, atP ss x = atP hs x) : (hs ++ partsP ls (gapsP ss)).Pairwise Far := by
  have hg := gapsP_ok os
  refine List.pairwise_append.2 ⟨oh.1.imp fun h => .inl h, parts_far ol hg, fun p hp q hq => ?_⟩
  obtain ⟨g, hgm, q', hq', k1, k2, rfl⟩ := (parts_mem ol hg).1 hq
  have kg := hg.each g hgm
  have a2 := clipG_ok kg.2.1 (ol.2 q' hq').2.1 k1 k2
  have kp := oh.2 p hp
  refine far_of kp.2.1 a2.1 fun x h1 h2 h3 h4 => ?_
  have e1 := mem_at oh hp h1 h2
  rw [← hst x] at e1
  have e2 := (gapsP_at os (x := x) (by omega) (by omega)).2 ⟨g, hgm, by omega, by omega⟩
  rw [e2] at e1
  cases e1
theorem over_each {hs ss ls : List (Pc α)} (oh : OkP hs) (os : OkP ss) (ol : OkP ls) : ∀ p ∈ hs ++ partsP ls (gapsP ss), 0 ≤ p.lo ∧ p.lo ≤ p.hi ∧ p.hi ≤ 1114111 := by
  have hg := gapsP_ok os
  intro p hp
  rcases List.mem_append.1 hp with hp | hp
  · exact oh.2 p hp
  · obtain ⟨g, hgm, q', hq', k1, k2, rfl⟩ := (parts_mem ol hg).1 hp
    have kg := hg.each g hgm
    have a2 := clipG_ok kg.2.1 (ol.2 q' hq').2.1 k1 k2
    omega
/-- sorted by their beginnings they are in order -/
theorem sorted_ok {us qs : List (Pc α)} (hp : qs.Perm us) (hf : us.Pairwise Far) (he : ∀ p ∈ us, 0 ≤ p.lo ∧ p.lo ≤ p.hi ∧ p.hi ≤ 1114111) (hsrt : qs.Pairwise (fun p q => ¬ q.lo < p.lo)) : OkP qs := by
  have hf' : qs.Pairwise Far := hp.symm.pairwise hf (fun h => h.elim .inr .inl)
  have he' : ∀ p ∈ qs, 0 ≤ p.lo ∧ p.lo ≤ p.hi ∧ p.hi ≤ 1114111 := fun p h => he p (hp.mem_iff.1 h)
  refine ⟨?_, he'⟩
  clear hp hf he
  induction qs with
  | nil => exact List.Pairwise.nil
  | cons p qs ih =>
    have h1 := List.pairwise_cons.1 hf'
    have h2 := List.pairwise_cons.1 hsrt
    refine List.pairwise_cons.2 ⟨fun q hq => ?_, ih h2.2 h1.2 fun q hq => he' q (List.mem_cons_of_mem _ hq)⟩
    have a := h1.1 q hq
    have b := h2.1 q hq
    have c := he' p List.mem_cons_self
    have d := he' q (List.mem_cons_of_mem _ hq)
    unfold Far at a
    omega
/-- each number has the upper map's value, else the lower one's -/
theorem over_at {hs ss ls qs : List (Pc α)} (oh : OkP hs) (os : OkP ss) (ol : OkP ls) (hst : ∀ x, atP ss x = atP hs x) (hp : qs.Perm (hs ++ partsP ls (gapsP ss))) (oq : OkP qs) (x : Int) : atP qs x = (atP hs x).or (atP ls x) := by
  have hg := gapsP_ok os
  by_cases hx : x < 0 ∨ 1114111 < x
  · rw [at_out oq hx, at_out oh hx, at_out ol hx]; rfl
  · have hx1 : 0 ≤ x := by omega
    have hx2 : x ≤ 1114111 := by omega
    cases hh : atP hs x with
    | some v =>
      obtain ⟨p, hpm, h1, h2, rfl⟩ := at_mem hh
      exact mem_at oq (hp.mem_iff.2 (List.mem_append_left _ hpm)) h1 h2
    | none =>
      rw [Option.none_or]
      have hss : atP ss x = none := (hst x).trans hh
      obtain ⟨g, hgm, g1, g2⟩ := (gapsP_at os hx1 hx2).1 hss
      cases hl : atP ls x with
      | some v =>
        obtain ⟨p, hpm, h1, h2, rfl⟩ := at_mem hl
        have hm : clipG g.1 g.2 p ∈ qs := hp.mem_iff.2 (List.mem_append_right _ ((parts_mem ol hg).2 ⟨g, hgm, p, hpm, by omega, by omega, rfl⟩))
        have := clipG_in.2 ⟨h1, h2, g1, g2⟩
        exact mem_at oq hm this.1 this.2
      | none =>
        cases hq : atP qs x with
        | none => rfl
        | some v =>
          exfalso
          obtain ⟨p, hpm, h1, h2, rfl⟩ := at_mem hq
          rcases List.mem_append.1 (hp.mem_iff.1 hpm) with hpm | hpm
          · have := mem_at oh hpm h1 h2
            rw [hh] at this; cases this
          · obtain ⟨k, hk, q', hq', k1, k2, rfl⟩ := (parts_mem ol hg).1 hpm
            have := clipG_in.1 ⟨h1, h2⟩
            have := mem_at ol hq' this.1 this.2.1
            rw [hl] at this; cases this
theorem parts_len {ls : List (Pc α)} (gs : List (Int × Int)) : (partsP ls gs).length ≤ gs.length * ls.length := by
  induction gs with
  | nil => simp [partsP]
  | cons g gs ih =>
    have e : partsP ls (g :: gs) = (midP ls g.1 g.2).map (clipG g.1 g.2) ++ partsP ls gs := rfl
    have : (midP ls g.1 g.2).length ≤ ls.length := by unfold midP; rw [List.length_drop, List.length_take]; omega
    rw [e, List.length_append, List.length_map, List.length_cons, Nat.add_mul]
    omega
/-- the pieces of one map over another -/
def overP (eqv : α → α → Bool) (hs ls : List (Pc α)) : List (Pc α) := (hs ++ partsP ls (gapsP (strsP eqv hs))).mergeSort (fun p q => decide (p.lo ≤ q.lo))
theorem perm_one {xs ys : List (Pc α)} (ox : OkP xs) (oy : OkP ys) (h : xs.Perm ys) : xs = ys := by
  refine h.eq_of_pairwise (le := fun a b : Pc α => a.hi < b.lo) (fun a b ha hb h1 h2 => ?_) ox.1 oy.1
  have := ox.2 a ha
  have := oy.2 b hb
  omega
theorem over_sorted (eqv : α → α → Bool) (hs ls : List (Pc α)) : (overP eqv hs ls).Pairwise (fun p q => ¬ q.lo < p.lo) := by
  refine (List.pairwise_mergeSort (le := fun p q : Pc α => decide (p.lo ≤ q.lo)) (fun a b c h1 h2 => ?_) (fun a b => ?_) _).imp fun {p q} h => ?_
  · simp at *; omega
  · simp; omega
  · simp at h; omega
theorem over_ok (eqv : α → α → Bool) (he : ∀ a b, eqv a b = true → a = b) {hs ls : List (Pc α)} (oh : OkP hs) (ol : OkP ls) : OkP (overP eqv hs ls) :=
  sorted_ok (List.mergeSort_perm _ _) (over_far oh (strs_ok eqv oh) ol fun x => strs_at eqv he oh x) (over_each oh (strs_ok eqv oh) ol) (over_sorted eqv hs ls)
theorem at_overP (eqv : α → α → Bool) (he : ∀ a b, eqv a b = true → a = b) {hs ls : List (Pc α)} (oh : OkP hs) (ol : OkP ls) (x : Int) : atP (overP eqv hs ls) x = (atP hs x).or (atP ls x) :=
  over_at oh (strs_ok eqv oh) ol (fun x => strs_at eqv he oh x) (List.mergeSort_perm _ _) (over_ok eqv he oh ol) x
theorem over_is (eqv : α → α → Bool) (he : ∀ a b, eqv a b = true → a = b) {hs ls qs : List (Pc α)} (oh : OkP hs) (ol : OkP ls) (hp : qs.Perm (hs ++ partsP ls (gapsP (strsP eqv hs)))) (hsrt : qs.Pairwise (fun p q => ¬ q.lo < p.lo)) : qs = overP eqv hs ls :=
  perm_one (sorted_ok hp (over_far oh (strs_ok eqv oh) ol fun x => strs_at eqv he oh x) (over_each oh (strs_ok eqv oh) ol) hsrt) (over_ok eqv he oh ol) (hp.trans (List.mergeSort_perm _ _).symm)
end Go.Proofs.YthgaadjkjnibaaaGreatDoor
/-
  Lines by the document's definition: where the next end stands, and what is left behind it.
-/
namespace Go.Proofs.YthgaadjkjnibaaaGreatDoor
open Go.RowKit Go.PlainAid Go.Lib Go.Shelf
set_option linter.unusedVariables false

theorem nl_found (s : ByteArray) (a i : Nat) (h1 : a ≤ i) (h2 : i < s.size) (h3 : bN s i = 10) (h4 : ∀ j, a ≤ j → j < i → bN s j ≠ 10) : nlN s a = ((i - a : Nat) : Int) := by
  rcases nl_spec s a with ⟨_, k⟩ | ⟨n, k1, k2, k3, k4⟩
  · exact absurd h3 (k i h1 h2)
  · rw [k1]
    have : a + n = i := by
      rcases Nat.lt_trichotomy (a + n) i with h | h | h
      · exact absurd k3 (h4 _ (by omega) h)
      · exact h
      · exact absurd h3 (k4 i h1 h)
    have : n = i - a := by omega
    rw [this]
theorem nl_none (s : ByteArray) (a : Nat) (h4 : ∀ j, a ≤ j → j < s.size → bN s j ≠ 10) : nlN s a = -1 := by
  rcases nl_spec s a with ⟨k, _⟩ | ⟨n, k1, k2, k3, k4⟩
  · exact k
  · exact absurd k3 (h4 _ (by omega) k2)
/-- the lines from the place i on, the first one with the number no -/
def linesI (s : ByteArray) (no i : Nat) : List (Nat × Nat × Nat) := (extsI s no i).takeWhile fun x => x.2.1 != s.size
theorem linesI_end (s : ByteArray) (no : Nat) : linesI s no s.size = [] := by
  unfold linesI
  rw [extsI_step s no _ (Nat.le_refl _), List.takeWhile_cons]
  simp
theorem linesI_found (s : ByteArray) (no a i : Nat) (h1 : a ≤ i) (h2 : i < s.size) (h3 : bN s i = 10) (h4 : ∀ j, a ≤ j → j < i → bN s j ≠ 10) :
    linesI s no a = (no, a, endTo s a) :: linesI s (no + 1) (i + 1) ∧ endTo s a = (if a < i ∧ bN s (i - 1) = 13 then i - 1 else i) ∧ endNext s a = i + 1 := by
  have hn := nl_found s a i h1 h2 h3 h4
  have e1 : endNext s a = i + 1 := by
    unfold endNext; rw [hn, if_neg (by omega), Int.toNat_natCast]; omega
  have e2 : hasEnd s a = true := by unfold hasEnd; rw [hn]; exact decide_eq_true (by omega)
  refine ⟨?_, ?_, e1⟩
  · unfold linesI
    rw [extsI_step s no a (by omega), List.takeWhile_cons, if_pos (by simp; omega), e2, if_pos rfl, e1]
  · unfold endTo
    rw [hn, if_neg (by omega), Int.toNat_natCast, show a + (i - a) = i by omega]
    by_cases h : a < i ∧ bN s (i - 1) = 13
    · rw [if_pos ⟨by omega, h.2⟩, if_pos h]
    · rw [if_neg (fun k => h ⟨by omega, k.2⟩), if_neg h]
theorem linesI_last (s : ByteArray) (no a : Nat) (h2 : a < s.size) (h4 : ∀ j, a ≤ j → j < s.size → bN s j ≠ 10) :
    linesI s no a = [(no, a, s.size)] ∧ endNext s a = s.size := by
  have hn := nl_none s a h4
  refine ⟨?_, by unfold endNext; rw [hn]; rfl⟩
  have e2 : hasEnd s a = false := by unfold hasEnd; rw [hn]; rfl
  unfold linesI
  rw [extsI_step s no a (by omega), List.takeWhile_cons, if_pos (by simp; omega), e2]
  simp [endTo, hn]
theorem linesL_I (s : ByteArray) : linesI s 1 (markN s) = linesL s := rfl
/-- numbers of lines -/
theorem extsI_no (s : ByteArray) : ∀ (k no i : Nat), s.size - i ≤ k → i ≤ s.size → ∀ j x, (extsI s no i)[j]? = some x → x.1 = no + j := by
  intro k
  induction k with
  | zero =>
    intro no i hk hi j x hx
    have hb := end_bounds s i hi
    rw [extsI_step s no i hi] at hx
    cases j with
    | zero => simp at hx; rw [← hx]; rfl
    | succ j =>
      split at hx
      · rename_i he; have := hb.2.2.2.2.1 he; omega
      · simp at hx
  | succ k ih =>
    intro no i hk hi j x hx
    have hb := end_bounds s i hi
    rw [extsI_step s no i hi] at hx
    cases j with
    | zero => simp at hx; rw [← hx]; rfl
    | succ j =>
      split at hx
      · rename_i he
        have h5 := hb.2.2.2.2.1 he
        have := ih (no + 1) (endNext s i) (by omega) hb.2.2.2.1 j x (by simpa using hx)
        omega
      · simp at hx
theorem tw_get {α : Type} (p : α → Bool) : ∀ (l : List α) (j : Nat) (x : α), (l.takeWhile p)[j]? = some x → l[j]? = some x := by
  intro l
  induction l with
  | nil => intro j x h; simp at h
  | cons a l ih =>
    intro j x h
    rw [List.takeWhile_cons] at h
    split at h
    · cases j with
      | zero => simpa using h
      | succ j => simpa using ih j x (by simpa using h)
    · simp at h
theorem lines_no (s : ByteArray) (j : Nat) (x : Nat × Nat × Nat) (h : (linesL s)[j]? = some x) : x.1 = j + 1 := by
  have := extsI_no s _ 1 (markN s) (Nat.le_refl _) (mark_le s) j x (tw_get _ _ j x h)
  omega
theorem lines_mem (s : ByteArray) (x : Nat × Nat × Nat) (h : x ∈ linesL s) : x.2.1 ≤ x.2.2 ∧ x.2.2 ≤ s.size ∧ 1 ≤ x.1 ∧ x.1 ≤ s.size + 1 :=
  exts_mem s x ((List.takeWhile_sublist _).subset h)
theorem lines_len (s : ByteArray) : (linesL s).length ≤ s.size := by
  have h0 : ∀ (k no i : Nat), s.size - i ≤ k → i ≤ s.size → (linesI s no i).length ≤ s.size - i := by
    intro k
    induction k with
    | zero =>
      intro no i hk hi
      obtain rfl : i = s.size := by omega
      rw [linesI_end]; simp
    | succ k ih =>
      intro no i hk hi
      by_cases he : i = s.size
      · subst he; rw [linesI_end]; simp
      · unfold linesI
        rw [extsI_step s no i hi, List.takeWhile_cons, if_pos (by simpa using he)]
        have hb := end_bounds s i hi
        split
        · rename_i hh
          have h5 := hb.2.2.2.2.1 hh
          have := ih (no + 1) (endNext s i) (by omega) hb.2.2.2.1
          unfold linesI at this
          simp only [List.length_cons]; omega
        · simp; omega
  have := h0 _ 1 (markN s) (Nat.le_refl _) (mark_le s)
  rw [linesL_I] at this; omega

theorem mark_iff (s : ByteArray) : hasPrefix (L s) [239, 187, 191] = decide (3 ≤ s.size ∧ bN s 0 = 239 ∧ bN s 1 = 187 ∧ bN s 2 = 191) := by
  have hb : ∀ i (c : UInt8), i < s.size → ((L s)[i]? = some c ↔ bN s i = c.toNat) := by
    intro i c hi
    rw [L_at s i hi]
    unfold bN
    exact ⟨fun h => by rw [Option.some.inj h], fun h => by rw [UInt8.toNat.inj h]⟩
  rw [Bool.eq_iff_iff, decide_eq_true_eq]
  unfold hasPrefix
  rw [List.isPrefixOf_iff_prefix]
  constructor
  · rintro ⟨t, ht⟩
    have hl : 3 ≤ s.size := by rw [← L_len, ← ht]; simp
    refine ⟨hl, (hb 0 239 (by omega)).1 (by rw [← ht]; rfl), (hb 1 187 (by omega)).1 (by rw [← ht]; rfl), (hb 2 191 (by omega)).1 (by rw [← ht]; rfl)⟩
  · rintro ⟨hl, h0, h1, h2⟩
    refine ⟨(L s).drop 3, ?_⟩
    have k0 := (hb 0 239 (by omega)).2 h0
    have k1 := (hb 1 187 (by omega)).2 h1
    have k2 := (hb 2 191 (by omega)).2 h2
    generalize L s = l at *
    match l, k0, k1, k2 with
    | a :: b :: c :: r, k0, k1, k2 =>
      simp at k0 k1 k2
      rw [k0, k1, k2]; rfl
    | [], k0, _, _ => simp at k0
    | [a], _, k1, _ => simp at k1
    | [a, b], _, _, k2 => simp at k2
theorem markN_eq (s : ByteArray) : markN s = if 3 ≤ s.size ∧ bN s 0 = 239 ∧ bN s 1 = 187 ∧ bN s 2 = 191 then 3 else 0 := by
  unfold markN
  rw [mark_iff]
  simp only [decide_eq_true_eq]
end Go.Proofs.YthgaadjkjnibaaaGreatDoor
/-
  What Named and Whole tell, by numbers: every number once, with its class.
-/
namespace Go.Proofs.YthgaadjkjnibaaaGreatDoor
open Go.RowKit Go.PlainAid Go.Lib Go.PHexM Go.Shelf Go.PRow
set_option linter.unusedVariables false
set_option linter.unusedSimpArgs false

theorem eqC_iff (a b : Int) : VC.eqv a b = true ↔ a = b := by simp [VC.eqv]
theorem eqN_iff (a b : Int × Int) : VN.eqv a b = true ↔ a = b := by simp [VN.eqv]
theorem at_clsP (ps : List (Pc (Int × Int))) (x : Int) : atP (ps.map clsP) x = (atP ps x).map (·.1) := by
  induction ps with
  | nil => rfl
  | cons p ps ih =>
    rw [List.map_cons, atP_cons, atP_cons, ih]
    split <;> rfl
theorem at_gv {t : TabD} (o : OkT t) (x : Int) : atP (gvP t) x = (atP t.ns x).map (·.1) := by
  unfold gvP
  rw [at_clsP, strs_at VN.eqv (fun a b h => (eqN_iff a b).1 h) o.1]
theorem at_named {t : TabD} (o : OkT t) (x : Int) : atP (namedP t) x = (atP t.ns x).map (·.1) := by
  unfold namedP
  rw [strs_at VC.eqv (fun a b h => (eqC_iff a b).1 h) (gv_ok o), at_gv o]
theorem named_ok {t : TabD} (o : OkT t) : OkP (namedP t) := strs_ok VC.eqv (gv_ok o)
def allP (t : TabD) : List (Pc Int) := overP VC.eqv (gvP t) t.us
def wholeP (t : TabD) : List (Pc Int) := strsP VC.eqv (allP t)
theorem all_ok7 {t : TabD} (o : OkT t) : OkP (allP t) := over_ok VC.eqv (fun a b h => (eqC_iff a b).1 h) (gv_ok o) o.2
theorem whole_ok {t : TabD} (o : OkT t) : OkP (wholeP t) := strs_ok VC.eqv (all_ok7 o)
theorem whole_sep (t : TabD) : SepP (wholeP t) := strs_sep VC.eqv eqC_iff _
theorem at_whole {t : TabD} (o : OkT t) (x : Int) : atP (wholeP t) x = ((atP t.ns x).map (·.1)).or (atP t.us x) := by
  unfold wholeP allP
  rw [strs_at VC.eqv (fun a b h => (eqC_iff a b).1 h) (over_ok VC.eqv (fun a b h => (eqC_iff a b).1 h) (gv_ok o) o.2), at_overP VC.eqv (fun a b h => (eqC_iff a b).1 h) (gv_ok o) o.2, at_gv o]

/-- what holds of every table that was read -/
structure GoodT (t : TabD) : Prop where
  full : ∀ x, 0 ≤ x → x ≤ 1114111 → atP t.us x ≠ none
  us : ∀ x c, atP t.us x = some c → c ≠ 0
  ns : ∀ x v, atP t.ns x = some v → v.1 ≠ 0 ∧ 1 ≤ v.2
theorem scanT_class (d : LineD) (un : Int) (hun : un ≠ 0) (h : (scanT d un).2.2.2 = 0) : (scanT d un).2.2.1 ≠ 0 := by
  unfold scanT at h ⊢
  split at h
  · next a b e =>
    split at h
    · next h0 =>
      rw [if_pos h0]
      intro h1
      simp only at h h1
      rw [h1] at h
      simp [noneE] at h
    · next h0 => exact absurd h h0
  · exact absurd h hun
theorem step_good {t : TabD} (o : OkT t) (g : GoodT t) (d : LineD) (hd : 1 ≤ d.no) : GoodT (stepT t d).1 := by
  unfold stepT
  split
  · exact g
  split
  · unfold nameT
    split
    · exact g
    split
    · exact g
    · next h h2 =>
      have h' : (scanT d 70).2.2.2 = 0 := by simpa using h
      have hm := mayB_iff.1 (scanT_may d 70 (by decide) h')
      have hc := scanT_class d 70 (by decide) h'
      refine ⟨g.full, g.us, fun x v hv => ?_⟩
      simp only at hv
      rw [at_rep o.1 hm.2.1 (.inr ⟨_, rfl⟩)] at hv
      split at hv
      · cases hv; exact ⟨hc, hd⟩
      · exact g.ns x v hv
  split
  · exact g
  · unfold missT
    split
    · exact g
    · next h =>
      have h' : (scanT d 71).2.2.2 = 0 := by simpa using h
      have hm := mayB_iff.1 (scanT_may d 71 (by decide) h')
      have hc := scanT_class d 71 (by decide) h'
      refine ⟨fun x h1 h2 => ?_, fun x c hv => ?_, g.ns⟩
      · simp only
        rw [at_rep o.2 hm.2.1 (.inr ⟨_, rfl⟩)]
        split
        · simp
        · exact g.full x h1 h2
      · simp only at hv
        rw [at_rep o.2 hm.2.1 (.inr ⟨_, rfl⟩)] at hv
        split at hv
        · cases hv; exact hc
        · exact g.us x c hv
theorem tell_good : ∀ (ds : List LineD) {t : TabD}, OkT t → GoodT t → (∀ d ∈ ds, 1 ≤ d.no) → GoodT (tellT t ds).1 := by
  intro ds
  induction ds with
  | nil => intro t _ g _; exact g
  | cons d ds ih =>
    intro t o g h
    have hd := h d List.mem_cons_self
    by_cases h1 : (stepT t d).2 = 0
    · rw [tellT_yes t d ds h1]; exact ih (step_ok7 o d) (step_good o g d hd) fun e he => h e (List.mem_cons_of_mem _ he)
    · rw [tellT_no t d ds h1]; exact step_good o g d hd
theorem at_one (lo hi v x : Int) : atP [(⟨lo, hi, v⟩ : Pc Int)] x = if lo ≤ x ∧ x ≤ hi then some v else none := by rw [atP_cons]; rfl
theorem empty_good : GoodT emptyT := by
  refine ⟨fun x h1 h2 => ?_, fun x c h => ?_, fun x v h => by cases h⟩
  · show atP [(⟨0, 1114111, 1⟩ : Pc Int)] x ≠ none
    rw [at_one, if_pos ⟨h1, h2⟩]; simp
  · change atP [(⟨0, 1114111, 1⟩ : Pc Int)] x = some c at h
    rw [at_one] at h
    split at h
    · cases h; decide
    · cases h
theorem scan_no7 (no : Int) (s : ByteArray) (h : (scanS no s).2 = 0) : (scanS no s).1.no = no := by
  unfold scanS at h ⊢
  split at h
  · next h0 => exact absurd h h0
  · next h0 =>
    rw [if_neg h0]
    split at h
    · next h1 =>
      rw [if_pos h1]
      unfold orderS at h ⊢
      split at h
      · next h2 => rw [if_pos h2]
      · cases h
    · next h1 =>
      rw [if_neg h1]
      show (plainS no s).no = no
      unfold plainS
      split
      · rfl
      · split <;> rfl
theorem rd_no7 (s : ByteArray) : ∀ (l : List (Nat × Nat × Nat)) (d : LineD), d ∈ (rdS s l).1 → ∃ x ∈ l, d.no = (x.1 : Int)
  | [], d, h => by simp [rdS] at h
  | x :: l, d, h => by
    unfold rdS at h
    split at h
    · next h0 =>
      rcases List.mem_cons.1 h with rfl | h
      · exact ⟨x, by simp, scan_no7 _ _ h0⟩
      · obtain ⟨y, hy, e⟩ := rd_no7 s l d h
        exact ⟨y, by simp [hy], e⟩
    · simp at h
theorem read_no7 {s : ByteArray} {d : LineD} (hd : d ∈ (readS s).1) : 1 ≤ d.no := by
  obtain ⟨x, hx, e⟩ := rd_no7 s _ d hd
  obtain ⟨j, hj⟩ := List.mem_iff_getElem?.1 hx
  have := lines_no s j x hj
  omega
theorem tabS_good (s : ByteArray) : GoodT (tabS s).1 := by
  unfold tabS
  split
  · exact empty_good
  · exact tell_good _ empty_ok7 empty_good fun d hd => read_no7 hd

theorem known_in {x : Int} (h1 : 0 ≤ x) (h2 : x ≤ 1114111) : known7 x = x := by unfold known7; rw [if_neg (by omega)]
theorem given_at (t : TabD) {x : Int} (h1 : 0 ≤ x) (h2 : x ≤ 1114111) : givenT t x = atP t.ns x := by unfold givenT; rw [known_in h1 h2]
theorem class_at {t : TabD} (o : OkT t) (g : GoodT t) {x : Int} (h1 : 0 ≤ x) (h2 : x ≤ 1114111) : atP (wholeP t) x = some (classT t x) := by
  rw [at_whole o]
  unfold classT
  rw [given_at t h1 h2, known_in h1 h2]
  cases atP t.ns x with
  | some v => rfl
  | none =>
    have := g.full x h1 h2
    cases h : atP t.us x with
    | none => exact absurd h this
    | some c => rfl
theorem class_ne {t : TabD} (o : OkT t) (g : GoodT t) {x : Int} (h1 : 0 ≤ x) (h2 : x ≤ 1114111) : classT t x ≠ 0 := by
  have h := class_at o g h1 h2
  rw [at_whole o] at h
  cases hn : atP t.ns x with
  | some v =>
    rw [hn] at h
    have := (g.ns x v hn).1
    simp at h
    omega
  | none =>
    rw [hn] at h
    exact g.us x _ h

/-- stretches that leave no number out -/
def Chain (a : Int) : List (Pc Int) → Prop
  | [] => a = 1114112
  | p :: ps => p.lo = a ∧ Chain (p.hi + 1) ps
theorem chain_of : ∀ {ss : List (Pc Int)}, OkP ss → ∀ a, a ≤ 1114112 → (∀ p ∈ ss, a ≤ p.lo) → (∀ x, a ≤ x → x ≤ 1114111 → atP ss x ≠ none) → Chain a ss := by
  intro ss
  induction ss with
  | nil =>
    intro _ a h _ hf
    show a = 1114112
    rcases Int.lt_or_le a 1114112 with h1 | h1
    · exact absurd rfl (hf a (Int.le_refl _) (by omega))
    · omega
  | cons p ss ih =>
    intro o a h1 ha hf
    have k := o.head
    have ka := ha p List.mem_cons_self
    have e : p.lo = a := by
      rcases Int.lt_or_le a p.lo with h | h
      · exfalso
        refine hf a (Int.le_refl _) (by omega) (atP_none fun q hq => .inl ?_)
        rcases List.mem_cons.1 hq with rfl | hq
        · exact h
        · have := o.next q hq; omega
      · omega
    refine ⟨e, ih o.tail (p.hi + 1) (by omega) (fun q hq => by have := o.next q hq; omega) fun x h2 h3 hn => hf x (by omega) h3 ?_⟩
    rw [atP_cons, if_neg (by omega)]
    exact hn
theorem chain_at : ∀ {ss : List (Pc Int)} {a : Int}, Chain a ss → ∀ {i : Nat} {p : Pc Int}, ss[i]? = some p → p.lo = endP a (ss.take i)
  | [], _, _, _, _, h => by simp at h
  | q :: ss, a, hc, 0, p, h => by
    simp at h; subst h
    exact hc.1
  | q :: ss, a, hc, i + 1, p, h => by
    have := chain_at hc.2 (i := i) (by simpa using h)
    simpa [endP] using this
theorem chain_end : ∀ {ss : List (Pc Int)} {a : Int}, Chain a ss → endP a ss = 1114112 := by
  intro ss
  induction ss with
  | nil => intro a h; exact h
  | cons q ss ih => intro a h; exact ih h.2
theorem endP_take_succ (ss : List (Pc Int)) (a : Int) {i : Nat} {p : Pc Int} (h : ss[i]? = some p) : endP a (ss.take (i + 1)) = p.hi + 1 := by
  rw [List.take_add_one, h]
  exact endP_snoc _ _ _
theorem whole_chain {t : TabD} (o : OkT t) (g : GoodT t) : Chain 0 (wholeP t) :=
  chain_of (whole_ok o) 0 (by decide) (fun p hp => ((whole_ok o).2 p hp).1) fun x h1 h2 => by rw [class_at o g h1 h2]; simp
/-- the value ahead of a place -/
def lastV (ss : List (Pc Int)) : Nat → Int
  | 0 => 0
  | i + 1 => ((ss[i]?).map (·.val)).getD 0
theorem sep_at : ∀ {ss : List (Pc Int)}, SepP ss → ∀ {i : Nat} {p q : Pc Int}, ss[i]? = some p → ss[i + 1]? = some q → ¬ (p.hi + 1 = q.lo ∧ p.val = q.val)
  | [], _, _, _, _, h, _ => by simp at h
  | r :: ss, hs, 0, p, q, h, h' => by
    simp at h; subst h
    refine hs.1 q ?_
    rw [List.head?_eq_getElem?]
    simpa using h'
  | r :: ss, hs, i + 1, p, q, h, h' => sep_at hs.2 (i := i) (by simpa using h) (by simpa using h')
/-- all that the law asks of a stretch that Whole tells -/
theorem whole_each {t : TabD} (o : OkT t) (g : GoodT t) {i : Nat} {p : Pc Int} (h : (wholeP t)[i]? = some p) :
    p.lo = endP 0 ((wholeP t).take i) ∧ p.lo ≤ p.hi ∧ p.val ≠ lastV (wholeP t) i ∧ classT t p.lo = p.val ∧ classT t p.hi = p.val ∧ 0 ≤ p.lo ∧ p.hi ≤ 1114111 := by
  have ow := whole_ok o
  have hm := List.mem_of_getElem? h
  have k := ow.2 p hm
  have e1 : classT t p.lo = p.val := by
    have a := class_at o g (x := p.lo) k.1 (by omega)
    rw [mem_at ow hm (Int.le_refl _) k.2.1] at a
    exact (Option.some.inj a).symm
  have e2 : classT t p.hi = p.val := by
    have a := class_at o g (x := p.hi) (by omega) k.2.2
    rw [mem_at ow hm k.2.1 (Int.le_refl _)] at a
    exact (Option.some.inj a).symm
  refine ⟨chain_at (whole_chain o g) h, k.2.1, ?_, e1, e2, k.1, k.2.2⟩
  cases i with
  | zero =>
    show p.val ≠ 0
    rw [← e1]
    exact class_ne o g k.1 (by omega)
  | succ i =>
    have hi : i < (wholeP t).length := by have := (List.getElem?_eq_some_iff.1 h).1; omega
    obtain ⟨q, hq⟩ : ∃ q, (wholeP t)[i]? = some q := ⟨_, List.getElem?_eq_getElem hi⟩
    show p.val ≠ (((wholeP t)[i]?).map (·.val)).getD 0
    rw [hq]
    intro hv
    refine sep_at (whole_sep t) hq h ⟨?_, hv.symm⟩
    have := chain_at (whole_chain o g) h
    rw [endP_take_succ _ _ hq] at this
    omega
theorem whole_end {t : TabD} (o : OkT t) (g : GoodT t) : endP 0 (wholeP t) = 1114112 := chain_end (whole_chain o g)
/-- all that the law asks of a stretch that Named tells -/
theorem named_each {t : TabD} (o : OkT t) (g : GoodT t) {p : Pc Int} (h : p ∈ namedP t) :
    ∃ a b : Int × Int, givenT t p.lo = some a ∧ givenT t p.hi = some b ∧ a.1 = p.val ∧ b.1 = p.val ∧ classT t p.lo = p.val ∧ 1 ≤ b.2 := by
  have ow := named_ok o
  have k := ow.2 p h
  have h1 := mem_at ow h (Int.le_refl _) k.2.1
  have h2 := mem_at ow h k.2.1 (Int.le_refl _)
  rw [at_named o] at h1 h2
  cases ha : atP t.ns p.lo with
  | none => rw [ha] at h1; cases h1
  | some a =>
    cases hb : atP t.ns p.hi with
    | none => rw [hb] at h2; cases h2
    | some b =>
      rw [ha] at h1
      rw [hb] at h2
      have g1 : givenT t p.lo = some a := (given_at t k.1 (by omega)).trans ha
      refine ⟨a, b, g1, (given_at t (by omega) k.2.2).trans hb, Option.some.inj h1, Option.some.inj h2, ?_, (g.ns _ _ hb).2⟩
      unfold classT
      rw [g1]
      exact Option.some.inj h1
end Go.Proofs.YthgaadjkjnibaaaGreatDoor

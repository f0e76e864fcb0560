/-
  The mathematics of layer 15 over lists of classes: which isolates belong together, the first strong one, the level, the paragraphs.
-/
import Derived.RowKit
namespace Go.Proofs.Ytkckkchnmgidgaa

/-- is it an isolate's beginning? -/
def begC (c : Int) : Bool := c == 20 || c == 21 || c == 22
def strongC (c : Int) : Bool := c == 1 || c == 2 || c == 3
def cA (cs : List Int) (k : Nat) : Int := cs.getD k 0

/-- one place more of Match: what is told so far, and the pile -/
def stepM (n k : Nat) (c : Int) (st : List Int × List Nat) : List Int × List Nat :=
  if begC c then (st.1.set k n, st.2 ++ [k])
  else if c = 23 ∧ st.2 ≠ [] then ((st.1.set k (st.2.getLastD 0 : Nat)).set (st.2.getLastD 0) k, st.2.dropLast)
  else if c = 11 then (st.1.set k (-1), [])
  else (st.1.set k (-1), st.2)
def stM (cs : List Int) : Nat → List Int × List Nat
  | 0 => (List.replicate cs.length 0, [])
  | k + 1 => stepM cs.length k (cA cs k) (stM cs k)
def matchL (cs : List Int) : List Int := (stM cs cs.length).1

theorem stepM_len (n k : Nat) (c : Int) (st : List Int × List Nat) : (stepM n k c st).1.length = st.1.length := by
  unfold stepM
  split
  · simp
  · split
    · simp
    · split <;> simp
theorem stM_len (cs : List Int) (k : Nat) : (stM cs k).1.length = cs.length := by
  induction k with
  | zero => simp [stM]
  | succ k ih => rw [stM, stepM_len, ih]
theorem matchL_len (cs : List Int) : (matchL cs).length = cs.length := stM_len cs _
theorem getLastD_mem {l : List Nat} (h : l ≠ []) : l.getLastD 0 ∈ l := by
  cases l with
  | nil => exact absurd rfl h
  | cons a l => rw [List.getLastD_cons, ← List.getLast_eq_getLastD (h := by simp)]; exact List.getLast_mem _
theorem pile_lt (cs : List Int) : ∀ k, ∀ p ∈ (stM cs k).2, p < k := by
  intro k
  induction k with
  | zero => intro p hp; simp [stM] at hp
  | succ k ih =>
    intro p hp
    rw [stM] at hp
    unfold stepM at hp
    split at hp
    · rcases List.mem_append.1 hp with h | h
      · have := ih p h; omega
      · have : p = k := by simpa using h
        omega
    · split at hp
      · have := ih p (List.dropLast_subset _ hp); omega
      · split at hp
        · simp at hp
        · have := ih p hp; omega
theorem pile_len (cs : List Int) (k : Nat) : (stM cs k).2.length ≤ k := by
  induction k with
  | zero => simp [stM]
  | succ k ih =>
    rw [stM]; unfold stepM
    split
    · simp; omega
    · split
      · simp; omega
      · split
        · simp
        · simp; omega

/-- where the isolate that is open at depth d ends -/
def close : Nat → List Int → Option Nat
  | _, [] => none
  | d, c :: cs => if begC c then (close (d + 1) cs).map (· + 1) else if c = 23 then (if d ≤ 1 then some 0 else (close (d - 1) cs).map (· + 1)) else if c = 11 then none else (close d cs).map (· + 1)
/-- the place of the first strong one, d isolates being open -/
def frst : Nat → List Int → Option Nat
  | _, [] => none
  | 0, c :: cs => if strongC c then some 0 else (frst (if begC c then 1 else 0) cs).map (· + 1)
  | d + 1, c :: cs => if begC c then (frst (d + 2) cs).map (· + 1) else if c = 23 then (frst d cs).map (· + 1) else if c = 11 then none else (frst (d + 1) cs).map (· + 1)
/-- its class -/
def fcls : Nat → List Int → Option Int
  | _, [] => none
  | 0, c :: cs => if strongC c then some c else fcls (if begC c then 1 else 0) cs
  | d + 1, c :: cs => if begC c then fcls (d + 2) cs else if c = 23 then fcls d cs else if c = 11 then none else fcls (d + 1) cs

theorem frst_lt : ∀ (l : List Int) (d j : Nat), frst d l = some j → j < l.length := by
  intro l
  induction l with
  | nil => intro d j h; cases d <;> simp [frst] at h
  | cons c cs ih =>
    intro d j h
    have key : ∀ d', (frst d' cs).map (· + 1) = some j → j < (c :: cs).length := by
      intro d' h'
      obtain ⟨j', h1, rfl⟩ := Option.map_eq_some_iff.1 h'
      have := ih d' j' h1
      simp; omega
    cases d with
    | zero =>
      rw [frst] at h
      split at h
      · cases h; simp
      · exact key _ h
    | succ d =>
      rw [frst] at h
      split at h
      · exact key _ h
      · split at h
        · exact key _ h
        · split at h
          · cases h
          · exact key _ h
theorem fcls_frst : ∀ (l : List Int) (d : Nat), fcls d l = (frst d l).map (cA l) := by
  intro l
  induction l with
  | nil => intro d; cases d <;> simp [fcls, frst]
  | cons c cs ih =>
    intro d
    have key : ∀ d', fcls d' cs = ((frst d' cs).map (· + 1)).map (cA (c :: cs)) := by
      intro d'
      rw [ih, Option.map_map]
      congr 1
    cases d with
    | zero =>
      rw [fcls, frst]
      split
      · simp [cA]
      · exact key _
    | succ d =>
      rw [fcls, frst]
      split
      · exact key _
      · split
        · exact key _
        · split
          · rfl
          · exact key _
theorem beg_not_strong {c : Int} (h : begC c = true) : strongC c = false := by
  unfold begC at h; unfold strongC
  simp at h
  rcases h with (rfl | rfl) | rfl <;> decide
theorem pdi_facts : begC 23 = false ∧ strongC 23 = false := by decide

/-- what is open is left: behind its end the search goes on -/
theorem frst_close : ∀ (l : List Int) (d : Nat), frst (d + 1) l = (close (d + 1) l).bind fun j => (frst 0 (l.drop (j + 1))).map (· + (j + 1)) := by
  intro l
  induction l with
  | nil => intro d; simp [frst, close]
  | cons c cs ih =>
    intro d
    have key : ∀ d', (frst (d' + 1) cs).map (· + 1) = ((close (d' + 1) cs).map (· + 1)).bind fun j => (frst 0 ((c :: cs).drop (j + 1))).map (· + (j + 1)) := by
      intro d'
      rw [ih]
      cases close (d' + 1) cs with
      | none => rfl
      | some j =>
        simp only [Option.bind_some, Option.map_some, Option.map_map, List.drop_succ_cons]
        congr 1
    rw [frst, close]
    split
    · exact key _
    · split
      · cases d with
        | zero => simp
        | succ d => rw [if_neg (by omega)]; exact key d
      · split
        · rfl
        · exact key d
theorem close_take : ∀ (l : List Int) (d t : Nat), close d (l.take t) = (close d l).bind fun j => if j < t then some j else none := by
  intro l
  induction l with
  | nil => intro d t; simp [close]
  | cons c cs ih =>
    intro d t
    cases t with
    | zero =>
      rw [List.take_zero]
      have : ∀ o : Option Nat, (o.bind fun j => if j < 0 then some j else none) = none := by intro o; cases o <;> simp
      rw [this, close]
    | succ t =>
      have key : ∀ d', (close d' (cs.take t)).map (· + 1) = ((close d' cs).map (· + 1)).bind fun j => if j < t + 1 then some j else none := by
        intro d'
        rw [ih]
        cases close d' cs with
        | none => rfl
        | some j =>
          simp only [Option.bind_some, Option.map_some]
          by_cases h : j < t
          · rw [if_pos h, if_pos (by omega)]; rfl
          · rw [if_neg h, if_neg (by omega)]; rfl
      rw [List.take_succ_cons, close, close]
      split
      · exact key _
      · split
        · split
          · simp
          · exact key _
        · split
          · rfl
          · exact key _
theorem close_lt : ∀ (l : List Int) (d j : Nat), close d l = some j → j < l.length := by
  intro l
  induction l with
  | nil => intro d j h; simp [close] at h
  | cons c cs ih =>
    intro d j h
    have key : ∀ d', (close d' cs).map (· + 1) = some j → j < (c :: cs).length := by
      intro d' h'
      obtain ⟨j', h1, rfl⟩ := Option.map_eq_some_iff.1 h'
      have := ih d' j' h1
      simp; omega
    rw [close] at h
    split at h
    · exact key _ h
    · split at h
      · split at h
        · cases h; simp
        · exact key _ h
      · split at h
        · cases h
        · exact key _ h

/-- where the list ends or the isolate, from place k on at depth d -/
def endAt (cs : List Int) (d k : Nat) : Nat := ((close d (cs.drop k)).map (· + k)).getD cs.length
theorem endAt_end (cs : List Int) (d : Nat) : endAt cs d cs.length = cs.length := by simp [endAt, close]
theorem drop_cons (cs : List Int) (k : Nat) (h : k < cs.length) : cs.drop k = cA cs k :: cs.drop (k + 1) := by
  rw [List.drop_eq_getElem_cons h]; simp [cA, List.getD, List.getElem?_eq_getElem h]
theorem endAt_step (cs : List Int) (d k : Nat) (h : k < cs.length) :
    endAt cs d k = if begC (cA cs k) then endAt cs (d + 1) (k + 1) else if cA cs k = 23 then (if d ≤ 1 then k else endAt cs (d - 1) (k + 1)) else if cA cs k = 11 then cs.length else endAt cs d (k + 1) := by
  have key : ∀ d', (((close d' (cs.drop (k + 1))).map (· + 1)).map (· + k)).getD cs.length = endAt cs d' (k + 1) := by
    intro d'
    unfold endAt
    rw [Option.map_map]
    congr 2
    funext x; simp; omega
  unfold endAt
  rw [drop_cons cs k h, close]
  split
  · exact key _
  · split
    · split
      · simp
      · exact key _
    · split
      · rfl
      · exact key _

/-- what is told at place k while the pile is ps: of the beginnings on it nothing yet, of the others their end -/
theorem stM_begs (cs : List Int) : ∀ k, k ≤ cs.length →
    (stM cs k).2.Pairwise (· < ·) ∧
    (∀ j, j < k → begC (cA cs j) = true → (stM cs k).1[j]? = some (if j ∈ (stM cs k).2 then (cs.length : Int) else (endAt cs 1 (j + 1) : Nat))) ∧
    (∀ i p, (stM cs k).2.reverse[i]? = some p → endAt cs 1 (p + 1) = endAt cs (i + 1) k ∧ begC (cA cs p) = true) := by
  intro k
  induction k with
  | zero => intro _; simp [stM]
  | succ k ih =>
    intro hk
    obtain ⟨h0, h1, h2⟩ := ih (by omega)
    have hlt := pile_lt cs k
    have hlen := stM_len cs k
    have hst := fun d => endAt_step cs d k (by omega)
    rw [stM]
    unfold stepM
    by_cases hb : begC (cA cs k) = true
    · rw [if_pos hb]
      refine ⟨?_, ?_, ?_⟩
      · rw [List.pairwise_append]
        refine ⟨h0, by simp, fun a ha b hb' => ?_⟩
        have h3 := hlt a ha
        have h4 : b = k := by simpa using hb'
        omega
      · intro j hj hbj
        by_cases hjk : j = k
        · subst hjk
          rw [if_pos (by simp)]
          show (List.set _ _ _)[j]? = _
          rw [List.getElem?_set_self (by omega)]
        · show (List.set _ _ _)[j]? = _
          rw [List.getElem?_set_ne (by omega), h1 j (by omega) hbj]
          congr 1
          have : (j ∈ (stM cs k).2 ++ [k]) ↔ j ∈ (stM cs k).2 := by simp [hjk]
          simp only [this]
      · intro i p hp
        simp only [List.reverse_append, List.reverse_cons, List.reverse_nil, List.nil_append, List.singleton_append] at hp
        cases i with
        | zero =>
          have : k = p := by simpa using hp
          subst this
          exact ⟨rfl, hb⟩
        | succ i =>
          obtain ⟨e1, e2⟩ := h2 i p (by simpa using hp)
          rw [e1, hst, if_pos hb]
          exact ⟨rfl, e2⟩
    · rw [if_neg hb]
      by_cases hp : cA cs k = 23 ∧ (stM cs k).2 ≠ []
      · rw [if_pos hp]
        obtain ⟨l, t, hl⟩ : ∃ l t, (stM cs k).2 = l ++ [t] := ⟨_, _, (List.dropLast_concat_getLast hp.2).symm⟩
        rw [hl] at h0 h1 h2 hlt ⊢
        have ht : (l ++ [t]).getLastD 0 = t := by simp
        have hd : (l ++ [t]).dropLast = l := by simp
        rw [ht, hd]
        rw [List.pairwise_append] at h0
        have htk := hlt t (by simp)
        have htop := h2 0 t (by simp)
        rw [hst, if_neg hb, if_pos hp.1, if_pos (by omega)] at htop
        refine ⟨h0.1, ?_, ?_⟩
        · intro j hj hbj
          have hjk : j ≠ k := by rintro rfl; exact hb hbj
          show ((List.set _ _ _).set _ _)[j]? = _
          by_cases hjt : j = t
          · subst hjt
            rw [if_neg (fun hm => by have := h0.2.2 j hm j (by simp); omega), htop.1]
            rw [List.getElem?_set_self (by rw [List.length_set]; omega)]
          · rw [List.getElem?_set_ne (by omega), List.getElem?_set_ne (by omega), h1 j (by omega) hbj]
            congr 1
            have : (j ∈ l ++ [t]) ↔ j ∈ l := by simp [hjt]
            simp only [this]
        · intro i p hi
          obtain ⟨e1, e2⟩ := h2 (i + 1) p (by simpa using hi)
          rw [e1, hst, if_neg hb, if_pos hp.1, if_neg (by omega)]
          exact ⟨rfl, e2⟩
      · rw [if_neg hp]
        by_cases h11 : cA cs k = 11
        · rw [if_pos h11]
          refine ⟨by simp, ?_, by simp⟩
          intro j hj hbj
          have hjk : j ≠ k := by rintro rfl; exact hb hbj
          show (List.set _ _ _)[j]? = _
          rw [List.getElem?_set_ne (by omega), h1 j (by omega) hbj]
          congr 1
          by_cases hm : j ∈ (stM cs k).2
          · obtain ⟨i, hi⟩ := List.getElem?_of_mem (List.mem_reverse.2 hm)
            have e := (h2 i j hi).1
            rw [hst, if_neg hb, if_neg (by rw [h11]; decide), if_pos h11] at e
            rw [if_pos hm, e]; rfl
          · rw [if_neg hm]; rfl
        · rw [if_neg h11]
          refine ⟨h0, ?_, ?_⟩
          · intro j hj hbj
            have hjk : j ≠ k := by rintro rfl; exact hb hbj
            show (List.set _ _ _)[j]? = _
            rw [List.getElem?_set_ne (by omega), h1 j (by omega) hbj]
          · intro i p hi
            obtain ⟨e1, e2⟩ := h2 i p hi
            have hps : (stM cs k).2 ≠ [] := by
              intro e
              simp [e] at hi
            have h23 : ¬ cA cs k = 23 := fun e => hp ⟨e, hps⟩
            rw [e1, hst, if_neg hb, if_neg h23, if_neg h11]
            exact ⟨rfl, e2⟩
theorem match_beg (cs : List Int) (j : Nat) (hj : j < cs.length) (hb : begC (cA cs j) = true) : (matchL cs)[j]? = some ((endAt cs 1 (j + 1) : Nat) : Int) := by
  obtain ⟨_, h1, h2⟩ := stM_begs cs cs.length (Nat.le_refl _)
  have := h1 j hj hb
  rw [matchL, this]
  congr 1
  by_cases hm : j ∈ (stM cs cs.length).2
  · rw [if_pos hm]
    obtain ⟨i, hi⟩ := List.getElem?_of_mem (List.mem_reverse.2 hm)
    rw [(h2 i j hi).1, endAt_end]
  · rw [if_neg hm]

/-- the level of a paragraph; none: no base -/
def levelL (cs : List Int) (b : Int) : Int × Int :=
  if b = 0 then (0, 0) else if b = 1 then (1, 0) else if b = -1 then (match fcls 0 cs with | some c => if c = 1 then (0, 0) else (1, 0) | none => (0, 0)) else (0, 2)

/-- what stands in an isolate: no B, and all isolates belong together within -/
def withinF : Nat → List Int → Bool
  | o, [] => o == 0
  | o, c :: cs => if c = 11 then false else if begC c then withinF (o + 1) cs else if c = 23 then (if o = 0 then false else withinF (o - 1) cs) else withinF o cs
theorem fcls_within : ∀ (l rest : List Int) (d o : Nat), withinF o l = true → fcls (d + 1 + o) (l ++ rest) = fcls (d + 1) rest := by
  intro l
  induction l with
  | nil =>
    intro rest d o h
    rw [withinF] at h
    have : o = 0 := by simpa using h
    subst this; rfl
  | cons c cs ih =>
    intro rest d o h
    rw [withinF] at h
    split at h
    · cases h
    · rename_i h11
      have e : d + 1 + o = d + o + 1 := by omega
      rw [List.cons_append, e, fcls]
      split at h
      · rename_i hb
        rw [if_pos hb]
        have := ih rest d (o + 1) h
        have e2 : d + 1 + (o + 1) = d + o + 2 := by omega
        rwa [e2] at this
      · rename_i hb
        rw [if_neg hb]
        split at h
        · rename_i h23
          rw [if_pos h23]
          split at h
          · cases h
          · have := ih rest d (o - 1) h
            have e2 : d + 1 + (o - 1) = d + o := by omega
            rwa [e2] at this
        · rename_i h23
          rw [if_neg h23, if_neg h11]
          have := ih rest d o h
          rwa [e] at this
theorem fcls_app : ∀ (a x y : List Int), (∀ d, fcls d x = fcls d y) → ∀ d, fcls d (a ++ x) = fcls d (a ++ y) := by
  intro a
  induction a with
  | nil => intro x y h d; exact h d
  | cons c cs ih =>
    intro x y h d
    have := ih x y h
    cases d with
    | zero => rw [List.cons_append, List.cons_append, fcls, fcls, this]
    | succ d => rw [List.cons_append, List.cons_append, fcls, fcls, this, this, this]
theorem fcls_isolate (kind : Int) (hk : begC kind = true) (one rest : List Int) (h1 : withinF 0 one = true) (d : Nat) : fcls d (kind :: (one ++ 23 :: rest)) = fcls d rest := by
  cases d with
  | zero =>
    rw [fcls, if_neg (by rw [beg_not_strong hk]; decide), if_pos hk]
    have := fcls_within one (23 :: rest) 0 0 h1
    rw [show 0 + 1 + 0 = 1 from rfl] at this
    rw [this, fcls, if_neg (by decide), if_pos rfl]
  | succ d =>
    rw [fcls, if_pos hk]
    have := fcls_within one (23 :: rest) (d + 1) 0 h1
    rw [show d + 1 + 1 + 0 = d + 2 from rfl] at this
    rw [this, fcls, if_neg (by decide), if_pos rfl]
theorem level_within (ahead behind one two : List Int) (kind b : Int) (hk : begC kind = true) (h1 : withinF 0 one = true) (h2 : withinF 0 two = true) :
    levelL (ahead ++ kind :: (one ++ 23 :: behind)) b = levelL (ahead ++ kind :: (two ++ 23 :: behind)) b := by
  unfold levelL
  rw [fcls_app ahead _ _ (fun d => (fcls_isolate kind hk one behind h1 d).trans (fcls_isolate kind hk two behind h2 d).symm) 0]
end Go.Proofs.Ytkckkchnmgidgaa

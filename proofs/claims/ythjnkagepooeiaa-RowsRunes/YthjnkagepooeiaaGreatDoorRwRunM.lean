/-
  Where a walk over the numbers of rows stands; a range that is left by a break.
-/
import Derived.Test.YthjnkagepooeiaaGreatDoorRwOneM
import Derived.Test.YthjnkagepooeiaaGreatDoorSeq4
namespace Go.Proofs.YthjnkagepooeiaaGreatDoor
open Go.RowKit Go.PlainAid Go.Lib Go.PHexM Go.Seq4
set_option linter.unusedVariables false
set_option linter.unusedSimpArgs false

theorem pre_next {α : Type} {L pre : List α} {y : α} (h : pre ++ [y] <+: L) : L[pre.length]? = some y := by
  obtain ⟨t, rfl⟩ := h
  simp
theorem pre_same {α : Type} {L pre : List α} {y z : α} (h : pre ++ [y] <+: L) (k : pre ++ [z] <+: L) : y = z := by
  have := pre_next h
  rw [pre_next k] at this
  exact (Option.some.inj this).symm
/-- the number that is next when a row begins -/
def nextF (x : RowD) : Int := if hiR x < loR x then 1114112 else loR x
/-- the walk stands at the row k, the number next is next -/
def StR (rs : List RowD) (pre : List (Int × RowD)) (k : Nat) (next : Int) : Prop :=
  ∃ x j, rs[k]? = some x ∧ pre = runesR (rs.take k) ++ (numsR x).take j ∧ j ≤ cntR x ∧ ((0 < cntR x ∧ next = loR x + (j : Int)) ∨ (cntR x = 0 ∧ next = 1114112))
theorem st_begin {rs : List RowD} {k : Nat} {x : RowD} (h : rs[k]? = some x) : StR rs (runesR (rs.take k)) k (nextF x) := by
  refine ⟨x, 0, h, by simp, Nat.zero_le _, ?_⟩
  unfold nextF cntR
  by_cases hh : hiR x < loR x
  · rw [if_pos hh]
    exact .inr ⟨by omega, rfl⟩
  · rw [if_neg hh]
    exact .inl ⟨by omega, by simp⟩
theorem st_range {rs : List RowD} {pre : List (Int × RowD)} {k : Nat} {next : Int} (h : StR rs pre k next) : 0 ≤ next ∧ next ≤ 1114112 ∧ k < rs.length := by
  obtain ⟨x, j, h1, h2, h3, h4⟩ := h
  have hl := (List.getElem?_eq_some_iff.1 h1).1
  unfold cntR loR hiR at h3 h4
  rcases h4 with ⟨h4, h5⟩ | ⟨h4, h5⟩
  · omega
  · omega
/-- the row has no more -/
theorem st_over {rs : List RowD} {pre : List (Int × RowD)} {k : Nat} {next : Int} {x : RowD} {y : Int × RowD} (h : StR rs pre k next) (hx : rs[k]? = some x) (ho : hiR x < next) (hp : pre ++ [y] <+: runesR rs) : ∃ x', rs[k + 1]? = some x' ∧ StR rs pre (k + 1) (nextF x') := by
  obtain ⟨x2, j, h1, h2, h3, h4⟩ := h
  rw [hx] at h1
  cases h1
  have hj : j = cntR x := by
    rcases h4 with ⟨h4, h5⟩ | ⟨h4, h5⟩
    · unfold cntR at h3 h4 ⊢; omega
    · omega
  have hpre : pre = runesR (rs.take (k + 1)) := by
    rw [runes_take hx, h2, hj, List.take_of_length_le (l := numsR x) (by rw [nums_len]; exact Nat.le_refl _)]
  have hlt : k + 1 < rs.length := by
    refine Decidable.byContradiction fun hn => ?_
    rw [List.take_of_length_le (by omega)] at hpre
    have := hp.length_le
    rw [hpre] at this
    simp at this
    omega
  refine ⟨rs[k + 1], List.getElem?_eq_getElem hlt, ?_⟩
  rw [hpre]
  exact st_begin (List.getElem?_eq_getElem hlt)
/-- the row has the next one -/
theorem st_here {rs : List RowD} {pre : List (Int × RowD)} {k : Nat} {next : Int} {x : RowD} {y : Int × RowD} (h : StR rs pre k next) (hx : rs[k]? = some x) (ho : ¬ hiR x < next) (hp : pre ++ [y] <+: runesR rs) : y = (next, x) ∧ next ≤ 1114111 ∧ StR rs (pre ++ [y]) k (next + 1) := by
  obtain ⟨x2, j, h1, h2, h3, h4⟩ := h
  rw [hx] at h1
  cases h1
  have hm : hiR x ≤ 1114111 := by unfold hiR; omega
  have h6 : 0 < cntR x ∧ next = loR x + (j : Int) := by
    rcases h4 with h4 | ⟨h4, h5⟩
    · exact h4
    · omega
  have hj : j < cntR x := by
    unfold cntR at h3 ⊢; omega
  have hpp := runes_pre hx hj
  rw [← h2, ← h6.2] at hpp
  have e := pre_same hp hpp
  refine ⟨e, by omega, x, j + 1, hx, ?_, by omega, .inl ⟨h6.1, by rw [h6.2]; push_cast; omega⟩⟩
  rw [e, nums_take hj, h2, List.append_assoc, ← h6.2]
theorem st_first {rs : List RowD} {y : Int × RowD} (hp : [] ++ [y] <+: runesR rs) : ∃ x', rs[0]? = some x' ∧ StR rs [] 0 (nextF x') := by
  cases rs with
  | nil => have := hp.length_le; simp [runesR] at this
  | cons x l => exact ⟨x, rfl, st_begin (rs := x :: l) rfl⟩

theorem range4J {α : Type} {n k : Nat} {P : Program} {g : Operand} {ps : Array Tmp} {assign body : Code} {Q : Exit → Act → World → Prop} {a : Act} {w : World}
    (h1 : 1 ≤ n) {gf : Nat} {lb : Array Value} (hg : a.eval g = .func (.func gf) #[] lb) (eg : ∀ args w, (callFunc gf args).run P w = .ok (.enter gf args) w)
    {encs : α → Array Value} {m : Nat} {bs : Nat → Prop} {ca cb : Nat} {S Sp : List α → Prop} {w0 : World} (hseq : Gives4 (n - 1) P gf lb encs m bs ca cb S Sp w0)
    (hb0 : Below w0.heap.size w0 w) (hps : ∀ x, (encs x).size = ps.size)
    (I : List α → World → Prop) (Ix : List α → World → Prop) (M : World → Prop) (hI : OwnFrom w.heap.size I) (hIx : OwnFrom w.heap.size Ix) (hIc : CalmR (w.heap.size + 2) ca cb I) (h0 : I [] w) (a₁ : α → Act)
    (hassign : ∀ (l : Nat) (x : α) (W : World) (K : Act → World → Prop), K (a₁ x) W →
      assign.wpIn (Fence.wide.inRound l) (n - 1 - 1) P (Exit.then K (fun _ _ _ => False)) { tmps := (ps.zip (encs x)).foldl (fun t (p, v) => t.setIfInBounds p v) a.tmps, defers := [] } W)
    (hbody : ∀ (l : Nat) (pre : List α) (x : α) (W : World), w.heap.size ≤ l → w.heap.size + 2 + m ≤ W.heap.size → (∃ r, W.heap[l]? = some (.loop r)) → I pre W → Sp (pre ++ [x]) →
      body.wpIn (Fence.wide.inRound l) (n - 1 - 1) P (ownPostG w.heap.size (KpR m bs (w.heap.size + 2)) I (fun c pre V => c = .exit k ∧ Ix pre V) (pre ++ [x]) W) (a₁ x) W)
    (hM1 : ∀ xs W, S xs → I xs W → M W) (hM2 : ∀ pre W, Sp pre → Ix pre W → M W)
    (hex : ∀ a' W, Q .normal a' W → (Code.exit k).wpIn Fence.wide n P Q a' W)
    (hjoin : ∀ (D : Nat) (W : World), w.heap.size ≤ D → M W → W.heap[D]? = some (.deferred (some [])) → Q .normal { a with defers := { target := .collected D, args := #[] } :: a.defers } W) :
    (Code.rangeFunc g ps assign body).wpIn Fence.wide n P Q a w :=
  range4G h1 hg eg hseq hb0 hps I (fun c pre V => c = .exit k ∧ Ix pre V) hI (fun c s A B row h hg hr => ⟨h.1, hIx s A B row h.2 hg hr⟩) hIc h0 a₁ hassign hbody
    (fun D xs W hD hS hi hK => hjoin D W hD (hM1 xs W hS hi) hK) (fun D c pre W hD hSp hx hK => by obtain ⟨rfl, hx⟩ := hx; exact hex _ _ (hjoin D W hD (hM2 pre W hSp hx) hK))
end Go.Proofs.YthjnkagepooeiaaGreatDoor

/-
  A region that draws its order, outside every round: its first k operations only read, each of the others waits for all ahead of it. One walk of the text's order serves every order.
-/
import Derived.Deep.Quiet
import Derived.Deep.QuietTactic
import Derived.BigQuiet
import Derived.OrdersIn
import Derived.RangeFuncCalls
namespace Go.ReadsW
set_option linter.unusedVariables false
open Go

def allB : Nat → List (List Bool)
  | 0 => [[]]
  | k + 1 => (allB k).flatMap fun l => [false :: l, true :: l]
theorem mem_allB : ∀ (l : List Bool), l ∈ allB l.length
  | [] => by simp [allB]
  | b :: l => by
    rw [List.length_cons, allB, List.mem_flatMap]
    refine ⟨l, mem_allB l, ?_⟩
    cases b <;> simp

def fullB (b : List Bool) : Bool := b.all fun x => x
def downB (ops : Array Oper) (L : Array Bool) : Bool :=
  (List.range ops.size).all fun i => !L.getD i false || ((ops[i]?).map (·.after.all fun e => !Region.binds .any e || L.getD e.on false)).getD false
/-- what is asked of the region: the operations ahead of k, whatever of them is through, are the ready ones as long as one is left; then the others come one by one; no defer statement, no guard ahead of k -/
def okB (l : List Oper) (k : Nat) : Bool :=
  ((allB k).all fun b =>
    !downB (l.take k).toArray b.toArray ||
      (if fullB b then (Region.ready .any (l.take k).toArray b.toArray).isEmpty
       else !(Region.ready .any (l.take k).toArray b.toArray).isEmpty &&
         (Region.ready .any l.toArray (b.toArray ++ Array.replicate (l.length - k) false) == Region.ready .any (l.take k).toArray b.toArray) &&
         (Region.ready .any (l.take k).toArray b.toArray).all fun i => downB (l.take k).toArray (b.toArray.setIfInBounds i true)))
  && downB (l.take k).toArray (Array.replicate k false)
  && (List.range (l.length - k)).all (fun j => Region.ready .any l.toArray (Array.replicate (k + j) true ++ Array.replicate (l.length - k - j) false) == [k + j])
  && (Region.ready .any l.toArray (Array.replicate l.length true)).isEmpty
  && (l.take k).all (fun o => o.guard.isNone && (match o.op with | .defer _ => false | _ => true))
  && decide (k ≤ l.length)

variable {n : Nat} {P : Program} {Q : Exit → Act → World → Prop} {C : World → Prop}

theorem op_quiet {o : Oper} {a : Act} {K : Act → Prop} {K' : Act → World → Prop} {w : World} (hd : ∀ c, o.op ≠ .defer c) (hw : C w) (h : ∀ a w', C w' → K a → K' a w') (hh : o.quiet P a C K) :
    o.wpIn Fence.wide n P a w K' Q := by
  obtain ⟨v, h1, h2⟩ := hh
  have h3 := h1 w hw
  unfold Oper.quietAt at h3
  unfold Oper.wpIn
  refine ⟨fun _ _ => trivial, ?_⟩
  show o.uponIn _ n P a K' Q ((execOp a.eval o).run P w)
  generalize (execOp a.eval o).run P w = r at *
  cases r with
  | ok x w' =>
    cases x <;> simp only [Oper.quietUpon] at h3 <;> simp only [Oper.uponIn]
    case value u =>
      obtain ⟨e1, e2⟩ := h3
      rw [e1, e2]
      exact h _ _ hw h2
    case skip =>
      obtain ⟨e1, e2⟩ := h3
      rw [e1, ← e2]
      exact h _ _ hw h2
    case enter f args =>
      obtain ⟨e1, hc⟩ := h3
      rw [e1]
      refine ⟨fun h => by simp [Fence.wide] at h, ?_⟩
      refine CallsIn.mono (callsIn_wide.2 hc) fun e w'' hx => ?_
      obtain ⟨he, hw''⟩ := hx
      subst he; exact h _ _ hw'' h2
  | halt x w' => simp only [Oper.quietUpon] at h3

theorem tail_in {l : List Oper} : ∀ (m j : Nat) (a : Act) (w : World), j + m = l.length →
    (∀ i, j ≤ i → i < l.length → Region.ready .any l.toArray (Array.replicate i true ++ Array.replicate (l.length - i) false) = [i]) → Region.ready .any l.toArray (Array.replicate l.length true) = [] →
    wpListIn Fence.wide n P l.toArray Q (l.drop j) a w → ∀ g, wpAnyIn Fence.wide n P .any l.toArray Q (g + m) (Array.replicate j true ++ Array.replicate m false) a w := by
  intro m
  induction m with
  | zero =>
    intro j a w hj _ he h g
    have hj' : j = l.length := by omega
    subst hj'
    rw [List.drop_length] at h
    have e : Array.replicate l.length true ++ Array.replicate 0 false = Array.replicate l.length true := by simp
    rw [e]
    cases g with
    | zero => exact ⟨he, h⟩
    | succ g => exact ⟨fun _ => h, fun i hi => by rw [he] at hi; simp at hi⟩
  | succ m ih =>
    intro j a w hj hr he h g
    have hlt : j < l.length := by omega
    have hrj := hr j (Nat.le_refl _) hlt
    rw [show l.length - j = m + 1 by omega] at hrj
    refine ⟨fun h0 => by rw [hrj] at h0; simp at h0, ?_⟩
    intro i hi
    rw [hrj] at hi
    obtain rfl : i = j := by simpa using hi
    rw [List.drop_eq_getElem_cons hlt] at h
    have ho : l.toArray[i]? = some l[i] := by simp [List.getElem?_eq_getElem hlt]
    unfold wpOpIn
    simp only [ho]
    simp only [wpListIn] at h
    have es : (Array.replicate i true ++ Array.replicate (m + 1) false).setIfInBounds i true = Array.replicate (i + 1) true ++ Array.replicate m false := by
      apply Array.ext
      · simp; omega
      · intro k h1 h2
        rw [Array.getElem_setIfInBounds (by simpa using h1)]
        by_cases hk : i = k
        · subst hk; simp
        · simp only [hk, if_false]
          rw [Array.getElem_append, Array.getElem_append]
          simp only [Array.size_replicate, Array.getElem_replicate]
          by_cases h3 : k < i
          · simp [h3, show k < i + 1 by omega]
          · simp [h3, show ¬ k < i + 1 by omega]
    have hk : ∀ a w, wpListIn Fence.wide n P l.toArray Q (l.drop (i + 1)) a w → wpAnyIn Fence.wide n P .any l.toArray Q (g + m) ((Array.replicate i true ++ Array.replicate (m + 1) false).setIfInBounds i true) a w := by
      intro a w h
      rw [es]
      exact ih (i + 1) a w (by omega) (fun k h1 h2 => hr k (by omega) h2) he h g
    split
    · rename_i hw
      rw [if_pos hw] at h
      exact Oper.wpIn_mono hk h
    · rename_i hw
      rw [if_neg hw] at h
      exact ⟨h.1, hk _ _ h.2⟩

theorem wpIn_region_reads (k : Nat) {rid : Nat} {a : Act} {w : World} {l : List Oper} (hm : P.follows .mixedOrders = true) (hB : Region.lexB .any (l.take k).toArray = true) (hok : okB l k = true)
    (h : wpQuiet P (l.take k).toArray (fun w' => ∃ n, w' = w.drewN n) (fun a' => ∀ w', (∃ n, w' = w.drewN n) → wpListIn Fence.wide n P l.toArray Q (l.drop k) a' w') (l.take k) a) :
    (Code.region rid l.toArray true).wpIn Fence.wide n P Q a w := by
  simp only [Region.lexB, Bool.and_eq_true] at hB
  simp only [okB, Bool.and_eq_true, List.all_eq_true, decide_eq_true_eq, Bool.or_eq_true, Bool.not_eq_true'] at hok
  obtain ⟨⟨⟨⟨⟨hall, hd0⟩, htl⟩, hend⟩, hng⟩, hkl⟩ := hok
  have hlen : (l.take k).length = k := by simp [hkl]
  have hq := wpAnyQ_lex (md := .any) hB.1 (l.take k) 0 (Array.replicate (l.take k).toArray.size false) a (by simp) (by simpa using hB.2) h
  have main : ∀ (fuel : Nat) (b : List Bool) (a : Act) (w' : World), b.length = k → downB (l.take k).toArray b.toArray = true → (∃ n, w' = w.drewN n) →
      wpAnyQ P .any (l.take k).toArray (fun w' => ∃ n, w' = w.drewN n) (fun a' => ∀ w', (∃ n, w' = w.drewN n) → wpListIn Fence.wide n P l.toArray Q (l.drop k) a' w') fuel b.toArray a →
      wpAnyIn Fence.wide n P .any l.toArray Q (fuel + (l.length - k)) (b.toArray ++ Array.replicate (l.length - k) false) a w' := by
    intro fuel
    induction fuel with
    | zero =>
      intro b a w' hb hdn hw' hq
      have hb1 := hall b (by rw [← hb]; exact mem_allB b)
      rw [hdn] at hb1
      simp only [Bool.true_eq_false, false_or] at hb1
      by_cases ht : fullB b = true
      · have hbt : b.toArray = Array.replicate k true := by
          apply Array.ext
          · simp [hb]
          · intro i h1 h2
            have := List.all_eq_true.1 ht (b[i]'(by simpa using h1)) (by simp)
            simpa using this
        rw [hbt]
        refine tail_in _ k a w' (by omega) (fun i h1 h2 => ?_) (by simpa using hend) (hq.2 w' hw') 0
        have := htl (i - k) (by simp; omega)
        rw [show k + (i - k) = i by omega, show l.length - k - (i - k) = l.length - i by omega] at this
        simpa using this
      · rw [if_neg ht] at hb1
        have h0 := hq.1
        simp only [Bool.and_eq_true] at hb1
        rw [h0] at hb1
        simp at hb1
    | succ fuel ih =>
      intro b a w' hb hdn hw' hq
      have hb1 := hall b (by rw [← hb]; exact mem_allB b)
      rw [hdn] at hb1
      simp only [Bool.true_eq_false, false_or] at hb1
      by_cases ht : fullB b = true
      · rw [if_pos ht] at hb1
        have hbt : b.toArray = Array.replicate k true := by
          apply Array.ext
          · simp [hb]
          · intro i h1 h2
            have := List.all_eq_true.1 ht (b[i]'(by simpa using h1)) (by simp)
            simpa using this
        have hQ := hq.1 (by simpa using hb1)
        rw [hbt]
        refine tail_in _ k a w' (by omega) (fun i h1 h2 => ?_) (by simpa using hend) (hQ w' hw') (fuel + 1)
        have := htl (i - k) (by simp; omega)
        rw [show k + (i - k) = i by omega, show l.length - k - (i - k) = l.length - i by omega] at this
        simpa using this
      · rw [if_neg ht] at hb1
        simp only [Bool.and_eq_true, Bool.not_eq_true', beq_iff_eq, List.all_eq_true] at hb1
        obtain ⟨⟨hne, heq⟩, hdown⟩ := hb1
        rw [show fuel + 1 + (l.length - k) = (fuel + (l.length - k)) + 1 by omega]
        refine ⟨fun h0 => ?_, fun i hi => ?_⟩
        · rw [heq] at h0; rw [h0] at hne; simp at hne
        · rw [heq] at hi
          have hqi := hq.2 i hi
          obtain ⟨o, ho, _⟩ := (mem_ready.1 hi).2
          have hik : i < k := by
            have := (Array.getElem?_eq_some_iff.1 ho).1
            rw [List.size_toArray, hlen] at this; exact this
          have hmem : o ∈ l.take k := by
            have : (l.take k)[i]? = some o := by simpa using ho
            exact List.mem_of_getElem? this
          have hgo := hng o hmem
          have ho' : l.toArray[i]? = some o := by
            have h1 : (l.take k)[i]? = some o := by simpa using ho
            rw [List.getElem?_take, if_pos hik] at h1
            simpa using h1
          have hdf : ∀ c, o.op ≠ .defer c := by
            intro c e
            rw [e] at hgo; simp at hgo
          have hgd : o.guard = none := by
            have := hgo.1
            simpa using this
          have hwant : ∀ (ops : Array Oper) (a : Act), Region.wanted o (yielded ops a.tmps) = true := by
            intro ops a; unfold Region.wanted; rw [hgd]
          unfold qOp at hqi
          simp only [ho] at hqi
          rw [if_pos (hwant _ _)] at hqi
          unfold wpOpIn
          simp only [ho']
          rw [if_pos (hwant _ _)]
          refine op_quiet hdf hw' (fun a'' w'' hw'' hK => ?_) hqi
          have es : (b.toArray ++ Array.replicate (l.length - k) false).setIfInBounds i true = (b.set i true).toArray ++ Array.replicate (l.length - k) false := by
            apply Array.ext
            · simp
            · intro j h1 h2
              rw [Array.getElem_setIfInBounds (by simpa using h1)]
              by_cases hj : i = j
              · subst hj
                rw [Array.getElem_append]
                simp [hb, hik]
              · simp only [hj, if_false]
                rw [Array.getElem_append, Array.getElem_append]
                by_cases h3 : j < b.length
                · simp [h3, hj]
                · simp [h3]
          rw [es]
          refine ih (b.set i true) a'' w'' (by simp [hb]) ?_ hw'' ?_
          · have := hdown i hi
            rw [show (b.set i true).toArray = b.toArray.setIfInBounds i true by simp]; exact this
          · rw [show (b.set i true).toArray = b.toArray.setIfInBounds i true by simp]; exact hK
  have hfin := main k (List.replicate k false) a { w with drawn := w.drawn + 1 } (by simp) (by simpa using hd0) ⟨1, rfl⟩ (by
    have := hq
    rw [List.size_toArray, hlen] at this
    simpa using this)
  refine wpIn_region_any hm ?_
  have e1 : k + (l.length - k) = l.toArray.size := by simp; omega
  have e2 : (List.replicate k false).toArray ++ Array.replicate (l.length - k) false = Array.replicate l.toArray.size false := by
    rw [← e1]; simp
  rw [← e1]
  rw [← e1] at e2
  rw [← e2]
  exact hfin

end Go.ReadsW

/-
  These texts, one behind the other: MixR, MixD.
-/
import Derived.Test.YtnhcbcbceaeceaaPoQo
import Derived.OrdersIn
import Derived.OwnWalkIn
import Derived.RangeFuncCalls
/-
  A region that draws its order, in a round of a range over a function: it may be walked as outside of any fence.
-/
namespace Go.MixR
open Go
set_option linter.unusedVariables false
set_option linter.unusedSimpArgs false

variable {P : Program} {Q : Exit → Act → World → Prop}

theorem oper_in {l m : Nat} {o : Oper} {a : Act} {w : World} {K : Act → World → Prop} (hd : ∀ c, o.op ≠ .defer c) (h : o.wp P a w K Q) : o.wpIn (Fence.wide.inRound l) m P a w K Q := by
  unfold Oper.wpIn
  refine ⟨fun _ _ => trivial, ?_⟩
  rw [Oper.semAt_plain _ _ _ hd]
  unfold Oper.wp at h
  generalize (execOp a.eval o).run P w = r at h
  cases r with
  | ok x w' =>
    cases x with
    | enter f args => exact ⟨(fun e => by cases e), (callsIn_wide (n := m - 1)).2 h⟩
    | row row args =>
      refine ⟨(fun e => by cases e), fun c cs _ => ?_⟩
      obtain ⟨v, w'', r, s⟩ := (show Rows P row args w' _ from h) c cs
      exact ⟨v, w'', r, stepsIn_wide.2 s⟩
    | _ => first | exact h | exact h.elim
  | halt x w' => cases x <;> first | exact h | exact h.elim

theorem any_in {l m : Nat} {ops : Array Oper} (hd : ∀ o ∈ ops.toList, ∀ c, o.op ≠ .defer c) (hQ : LetsOut Q → False) : ∀ (fuel : Nat) (listed : Array Bool) (a : Act) (w : World), wpAny P .any ops Q fuel listed a w → wpAnyIn (Fence.wide.inRound l) m P .any ops Q fuel listed a w
  | 0, listed, a, w, h => h
  | fuel + 1, listed, a, w, h => by
    refine ⟨h.1, fun i hi => ?_⟩
    have hw := h.2 i hi
    unfold wpOp at hw
    unfold wpOpIn
    cases hx : ops[i]? with
    | none =>
      rw [hx] at hw
      exact any_in hd hQ fuel _ a w hw
    | some o =>
      rw [hx] at hw
      simp only at hw ⊢
      split at hw
      · rename_i hwt
        rw [if_pos hwt]
        rcases hw with hw | hw
        · have hm : o ∈ ops.toList := by
            obtain ⟨h1, h2⟩ := Array.getElem?_eq_some_iff.1 hx
            rw [← h2]
            simp
          exact Oper.wpIn_mono (fun a' w' hK => any_in hd hQ fuel _ a' w' hK) (oper_in (hd o hm) hw)
        · exact (hQ hw.2).elim
      · rename_i hwt
        rw [if_neg hwt]
        exact ⟨fun _ _ => trivial, any_in hd hQ fuel _ _ w hw⟩

def noDefer (l : List Oper) : Bool := l.all fun o => match o.op with | .defer _ => false | _ => true
theorem start {n m : Nat} {l : List Oper} {id : Nat} {a : Act} {w : World} (hm : P.follows .mixedOrders = true) (hd : noDefer l = true) (hQ : LetsOut Q → False) (h : wpAny P .any l.toArray Q l.length (MixW.T l.length 0) a { w with drawn := w.drawn + 1 }) : (Code.region id l.toArray true).wpIn (Fence.wide.inRound n) m P Q a w := by
  refine wpIn_region_any hm ?_
  have e : MixW.T l.length 0 = Array.replicate l.toArray.size false := by simp [MixW.T]
  rw [e] at h
  refine any_in (fun o ho c hc => ?_) hQ _ _ _ _ h
  have h1 := List.all_eq_true.1 hd o (by simpa using ho)
  rw [hc] at h1
  cases h1
end Go.MixR
/-
  A stretch of a region that draws its order, where the sets in which its operations may be through are listed: guards may stand in it.
-/
namespace Go.MixW
open Go Go.ReadsW
set_option linter.unusedSimpArgs false
set_option linter.unusedVariables false

variable {P : Program} {Q : Exit → Act → World → Prop} {C : World → Prop}

def mkB (k m : Nat) : List Bool := (List.range k).map fun i => m.testBit i
/-- what is asked of a stretch that only reads: ds lists all that may be through of it -/
def okD (l : List Oper) (j m : Nat) (ds : List Nat) : Bool :=
  (ds.all fun q =>
      (if fullB (mkB m q) then (Region.ready .any (l.take (j + m)).toArray (Array.replicate j true ++ (mkB m q).toArray)).isEmpty
       else !(Region.ready .any (l.take (j + m)).toArray (Array.replicate j true ++ (mkB m q).toArray)).isEmpty &&
         (Region.ready .any l.toArray (Array.replicate j true ++ (mkB m q).toArray ++ Array.replicate (l.length - (j + m)) false) == Region.ready .any (l.take (j + m)).toArray (Array.replicate j true ++ (mkB m q).toArray)) &&
         (Region.ready .any (l.take (j + m)).toArray (Array.replicate j true ++ (mkB m q).toArray)).all fun i => decide (j ≤ i) && ds.contains (q ||| (1 <<< (i - j))) && (mkB m (q ||| (1 <<< (i - j))) == (mkB m q).set (i - j) true)))
  && (ds.contains 0 && (mkB m 0 == List.replicate m false))
  && ((l.take (j + m)).drop j).all (fun o => match o.op with | .defer _ => false | _ => true)
  && ((l.take (j + m)).drop j).all (fun o => match o.guard with | none => true | some (g, _) => decide (g < j + m))
  && decide (j + m ≤ l.length)
  && Region.noSelect (l.take (j + m)).toArray
  && Region.lexFrom .any (l.take (j + m)).toArray m j (Array.replicate j true ++ Array.replicate m false)

theorem segD (j m g : Nat) (ds : List Nat) {l : List Oper} {a : Act} {w : World} (hok : okD l j m ds = true) (hw : C w)
    (h : wpQuiet P (l.take (j + m)).toArray C (fun a' => ∀ w', C w' → wpAny P .any l.toArray Q g (T l.length (j + m)) a' w') ((l.take (j + m)).drop j) a) :
    wpAny P .any l.toArray Q (m + g) (T l.length j) a w := by
  simp only [okD, Bool.and_eq_true, List.all_eq_true, decide_eq_true_eq, Bool.or_eq_true, Bool.not_eq_true'] at hok
  obtain ⟨⟨⟨⟨⟨⟨hall, hd0⟩, hnd⟩, hgd⟩, hkl⟩, hns⟩, hlex⟩ := hok
  have hlen : (l.take (j + m)).length = j + m := by simp [hkl]
  have hlen2 : ((l.take (j + m)).drop j).length = m := by simp [hkl]
  have hq := wpAnyQ_lex (P := P) (C := C) (md := .any) hns ((l.take (j + m)).drop j) j (Array.replicate j true ++ Array.replicate m false) a (by intro i; simp) (by rw [hlen2]; exact hlex) h
  rw [hlen2] at hq
  have main : ∀ (fuel : Nat) (b : List Bool) (a : Act) (w' : World), b.length = m → (∃ q, q ∈ ds ∧ mkB m q = b) → C w' →
      wpAnyQ P .any (l.take (j + m)).toArray C (fun a' => ∀ w', C w' → wpAny P .any l.toArray Q g (T l.length (j + m)) a' w') fuel (Array.replicate j true ++ b.toArray) a →
      (b.filter (fun x => !x)).length = fuel →
      wpAny P .any l.toArray Q (fuel + g) (Array.replicate j true ++ b.toArray ++ Array.replicate (l.length - (j + m)) false) a w' := by
    intro fuel
    induction fuel with
    | zero =>
      intro b a w' hb hdn hw' hq hf
      have ht : ∀ x ∈ b, x = true := by
        intro x hx
        cases x with
        | true => rfl
        | false =>
          have : (false : Bool) ∈ b.filter (fun x => !x) := List.mem_filter.2 ⟨hx, rfl⟩
          rw [List.eq_nil_of_length_eq_zero hf] at this
          cases this
      have hbt : Array.replicate j true ++ b.toArray ++ Array.replicate (l.length - (j + m)) false = T l.length (j + m) := by
        have e1 : b = List.replicate m true := List.eq_replicate_iff.2 ⟨hb, ht⟩
        rw [e1]
        unfold T
        rw [show (List.replicate m true).toArray = Array.replicate m true by simp, Array.replicate_append_replicate]
      rw [hbt, Nat.zero_add]
      exact hq.2 w' hw'
    | succ fuel ih =>
      intro b a w' hb hdn hw' hq hf
      obtain ⟨q, hqd, hqb⟩ := hdn
      have hb1 := hall q hqd
      rw [hqb] at hb1
      have ht : ¬ fullB b = true := by
        intro ht
        have : b.filter (fun x => !x) = [] := List.filter_eq_nil_iff.2 fun x hx => by
          have := List.all_eq_true.1 ht x hx
          simp [this]
        rw [this] at hf; cases hf
      rw [if_neg ht] at hb1
      simp only [Bool.and_eq_true, Bool.not_eq_true', beq_iff_eq, List.all_eq_true, decide_eq_true_eq, List.contains_iff_mem] at hb1
      obtain ⟨⟨hne, heq⟩, hdown⟩ := hb1
      rw [show fuel + 1 + g = (fuel + g) + 1 by omega]
      refine ⟨fun h0 => ?_, fun i hi => ?_⟩
      · rw [heq] at h0; rw [h0] at hne; simp at hne
      · rw [heq] at hi
        have hqi := hq.2 i hi
        obtain ⟨hli, o, ho, _⟩ := mem_ready.1 hi
        obtain ⟨⟨hji, hdc⟩, hde⟩ := hdown i hi
        have hdi : ∃ q, q ∈ ds ∧ mkB m q = b.set (i - j) true := ⟨_, hdc, hde⟩
        have hik : i < j + m := by
          have := (Array.getElem?_eq_some_iff.1 ho).1
          rw [List.size_toArray, hlen] at this; exact this
        have hmem : o ∈ (l.take (j + m)).drop j := by
          have : ((l.take (j + m)).drop j)[i - j]? = some o := by
            rw [List.getElem?_drop, show j + (i - j) = i by omega]; simpa using ho
          exact List.mem_of_getElem? this
        have ho' : l.toArray[i]? = some o := by
          have h1 : (l.take (j + m))[i]? = some o := by simpa using ho
          rw [List.getElem?_take, if_pos hik] at h1
          simpa using h1
        have hdf : ∀ c, o.op ≠ .defer c := by
          intro c e
          have := hnd o hmem
          rw [e] at this; cases this
        have hyw : ∀ a : Act, Region.wanted o (yielded l.toArray a.tmps) = Region.wanted o (yielded (l.take (j + m)).toArray a.tmps) := by
          intro a
          unfold Region.wanted
          have := hgd o hmem
          cases hg : o.guard with
          | none => rfl
          | some gd =>
            obtain ⟨g1, g2⟩ := gd
            rw [hg] at this
            have hg1 : g1 < j + m := by simpa using this
            have : yielded l.toArray a.tmps g1 = yielded (l.take (j + m)).toArray a.tmps g1 := by
              unfold yielded
              simp only [List.getElem?_toArray, List.getElem?_take, if_pos hg1]
            simp only [this]
        have hbi : b.getD (i - j) true = false := by
          have h2 : (Array.replicate j true ++ b.toArray).getD i true = false := by simpa using hli
          rw [Array.getD_eq_getD_getElem?, Array.getElem?_append_right (by simpa using hji)] at h2
          simpa using h2
        have es2 : (Array.replicate j true ++ b.toArray).setIfInBounds i true = Array.replicate j true ++ (b.set (i - j) true).toArray := by
          apply Array.ext
          · simp
          · intro q' h1 h2
            rw [Array.getElem_setIfInBounds (by simpa using h1)]
            by_cases hq' : i = q'
            · subst hq'
              simp only [if_true]
              rw [Array.getElem_append_right (by simpa using hji)]
              simp
            · simp only [hq', if_false]
              rw [Array.getElem_append, Array.getElem_append]
              by_cases h3 : q' < j
              · simp [h3]
              · simp [h3, List.getElem_set, show ¬ i - j = q' - j by omega]
        have es : (Array.replicate j true ++ b.toArray ++ Array.replicate (l.length - (j + m)) false).setIfInBounds i true = Array.replicate j true ++ (b.set (i - j) true).toArray ++ Array.replicate (l.length - (j + m)) false := by
          rw [← es2, Array.setIfInBounds_append, if_pos (by simp; omega)]
        have hcount : ((b.set (i - j) true).filter (fun x => !x)).length = fuel := by
          have hlt : i - j < b.length := by omega
          have hget : b[i - j]'hlt = false := by
            have := hbi
            rw [List.getD_eq_getElem?_getD, List.getElem?_eq_getElem hlt] at this; simpa using this
          have key : ∀ (b : List Bool) (k : Nat) (hk : k < b.length), b[k] = false → ((b.set k true).filter (fun x => !x)).length + 1 = (b.filter (fun x => !x)).length := by
            intro b
            induction b with
            | nil => intro k hk; simp at hk
            | cons x b ihb =>
              intro k hk hx
              cases k with
              | zero => simp at hx; subst hx; simp
              | succ k =>
                have := ihb k (by simpa using hk) (by simpa using hx)
                cases x <;> simp at this ⊢ <;> omega
          have := key b (i - j) hlt hget
          omega
        rw [es2] at hqi
        unfold qOp at hqi
        simp only [ho] at hqi
        unfold wpOp
        simp only [ho']
        rw [hyw a]
        rw [es]
        split
        · rename_i hwn
          rw [if_pos hwn] at hqi
          refine .inl (Oper.wp_of_quiet hw' (fun a'' w'' hw'' hK => ?_) hqi)
          exact ih (b.set (i - j) true) a'' w'' (by simp [hb]) hdi hw'' hK hcount
        · rename_i hwn
          rw [if_neg hwn] at hqi
          exact ih (b.set (i - j) true) _ w' (by simp [hb]) hdi hw' hqi hcount
  have hfin := main m (List.replicate m false) a w (by simp) ⟨0, by simpa using hd0.1, by simpa using hd0.2⟩ hw (by simpa using hq) (by simp)
  have e2 : Array.replicate j true ++ (List.replicate m false).toArray ++ Array.replicate (l.length - (j + m)) false = T l.length j := by
    rw [show (List.replicate m false).toArray = Array.replicate m false by simp, Array.append_assoc, Array.replicate_append_replicate, show m + (l.length - (j + m)) = l.length - j by omega]
  rw [e2] at hfin
  exact hfin
end Go.MixW

/-
  A region that draws its order, cut into stretches of its text: a stretch that only reads goes in one walk whatever its order is; a stretch whose operations come one by one is walked as it stands; what is left at the end, if it only reads, goes in one walk.
-/
import Derived.Test.YtkckkchnmgidgaaReadsW
namespace Go.MixW
open Go Go.ReadsW
set_option linter.unusedSimpArgs false

variable {P : Program} {Q : Exit → Act → World → Prop} {C : World → Prop}

abbrev T (n j : Nat) : Array Bool := Array.replicate j true ++ Array.replicate (n - j) false

theorem T_set (n j : Nat) (h : j < n) : (T n j).setIfInBounds j true = T n (j + 1) := by
  apply Array.ext
  · simp; omega
  · intro k h1 h2
    rw [Array.getElem_setIfInBounds (by simpa using h1)]
    by_cases hk : j = k
    · subst hk; simp [T]
    · simp only [hk, if_false]
      unfold T
      rw [Array.getElem_append, Array.getElem_append]
      simp only [Array.size_replicate, Array.getElem_replicate]
      by_cases h3 : k < j
      · simp [h3, show k < j + 1 by omega]
      · simp [h3, show ¬ k < j + 1 by omega]

/-- where a stretch ends, the rest goes on -/
def late (Q : Exit → Act → World → Prop) (K : Act → World → Prop) : Exit → Act → World → Prop
  | .normal, a, w => K a w
  | .exit i, a, w => Q (.exit i) a w
  | .goto i, a, w => Q (.goto i) a w
  | .ret, a, w => Q .ret a w
  | .panic c, a, w => Q (.panic c) a w
  | .outgrown, a, w => Q .outgrown a w

theorem late_wp {o : Oper} {a : Act} {w : World} {K K' : Act → World → Prop} (h : o.wp P a w K' (late Q K)) : o.wp P a w K' Q := by
  unfold Oper.wp at *
  generalize (execOp a.eval o).run P w = r at *
  cases r with
  | ok n w' =>
    cases n <;> simp only [Oper.upon] at h ⊢ <;>
      first
        | exact h
        | exact Calls.mono h (fun e w'' he => by cases e <;> exact he)
  | halt x w' => cases x <;> simp only [Oper.upon] at h ⊢ <;> exact h

theorem loud {l : List Oper} : ∀ (r j g : Nat) (a : Act) (w : World), j + r ≤ l.length →
    ((List.range r).all fun i => Region.ready .any l.toArray (T l.length (j + i)) == [j + i]) = true →
    wpList P l.toArray (late Q (wpAny P .any l.toArray Q g (T l.length (j + r)))) ((l.drop j).take r) a w → wpAny P .any l.toArray Q (r + g) (T l.length j) a w := by
  intro r
  induction r with
  | zero =>
    intro j g a w hj _ h
    rw [List.take_zero] at h
    rw [Nat.zero_add]
    exact h
  | succ r ih =>
    intro j g a w hj hr h
    simp only [List.all_eq_true, List.mem_range, beq_iff_eq] at hr
    have hrj := hr 0 (by omega)
    rw [Nat.add_zero] at hrj
    have hlt : j < l.length := by omega
    rw [show r + 1 + g = (r + g) + 1 by omega]
    refine ⟨fun h0 => by rw [hrj] at h0; simp at h0, ?_⟩
    intro i hi
    rw [hrj] at hi
    obtain rfl : i = j := by simpa using hi
    rw [List.drop_eq_getElem_cons hlt, List.take_succ_cons] at h
    have ho : l.toArray[i]? = some l[i] := by simp [List.getElem?_eq_getElem hlt]
    unfold wpOp
    simp only [ho]
    simp only [wpList] at h
    have hk : ∀ a w, wpList P l.toArray (late Q (wpAny P .any l.toArray Q g (T l.length (i + (r + 1))))) ((l.drop (i + 1)).take r) a w → wpAny P .any l.toArray Q (r + g) ((T l.length i).setIfInBounds i true) a w := by
      intro a w h
      rw [T_set _ _ hlt]
      rw [show i + (r + 1) = i + 1 + r by omega] at h
      refine ih (i + 1) g a w (by omega) ?_ h
      simp only [List.all_eq_true, List.mem_range, beq_iff_eq]
      intro q hq
      have := hr (q + 1) (by omega)
      rw [show i + (q + 1) = i + 1 + q by omega] at this
      exact this
    split
    · rename_i hw
      rw [if_pos hw] at h
      exact h.imp (fun h => Oper.wp_mono hk (late_wp h)) id
    · rename_i hw
      rw [if_neg hw] at h
      exact hk _ _ h

/-- what is asked of a stretch that only reads -/
def okS (l : List Oper) (j m : Nat) : Bool :=
  ((allB m).all fun b =>
    !downB (l.take (j + m)).toArray (Array.replicate j true ++ b.toArray) ||
      (if fullB b then (Region.ready .any (l.take (j + m)).toArray (Array.replicate j true ++ b.toArray)).isEmpty
       else !(Region.ready .any (l.take (j + m)).toArray (Array.replicate j true ++ b.toArray)).isEmpty &&
         (Region.ready .any l.toArray (Array.replicate j true ++ b.toArray ++ Array.replicate (l.length - (j + m)) false) == Region.ready .any (l.take (j + m)).toArray (Array.replicate j true ++ b.toArray)) &&
         (Region.ready .any (l.take (j + m)).toArray (Array.replicate j true ++ b.toArray)).all fun i => decide (j ≤ i) && downB (l.take (j + m)).toArray (Array.replicate j true ++ (b.set (i - j) true).toArray)))
  && downB (l.take (j + m)).toArray (Array.replicate j true ++ Array.replicate m false)
  && ((l.take (j + m)).drop j).all (fun o => match o.op with | .defer _ => false | _ => true)
  && ((l.take (j + m)).drop j).all (fun o => match o.guard with | none => true | some (g, _) => decide (g < j + m))
  && decide (j + m ≤ l.length)
  && Region.noSelect (l.take (j + m)).toArray
  && Region.lexFrom .any (l.take (j + m)).toArray m j (Array.replicate j true ++ Array.replicate m false)

theorem seg (j m g : Nat) {l : List Oper} {a : Act} {w : World} (hok : okS l j m = true) (hw : C w)
    (h : wpQuiet P (l.take (j + m)).toArray C (fun a' => ∀ w', C w' → wpAny P .any l.toArray Q g (T l.length (j + m)) a' w') ((l.take (j + m)).drop j) a) :
    wpAny P .any l.toArray Q (m + g) (T l.length j) a w := by
  simp only [okS, Bool.and_eq_true, List.all_eq_true, decide_eq_true_eq, Bool.or_eq_true, Bool.not_eq_true'] at hok
  obtain ⟨⟨⟨⟨⟨⟨hall, hd0⟩, hnd⟩, hgd⟩, hkl⟩, hns⟩, hlex⟩ := hok
  have hlen : (l.take (j + m)).length = j + m := by simp [hkl]
  have hlen2 : ((l.take (j + m)).drop j).length = m := by simp [hkl]
  have hq := wpAnyQ_lex (P := P) (C := C) (md := .any) hns ((l.take (j + m)).drop j) j (Array.replicate j true ++ Array.replicate m false) a (by intro i; simp) (by rw [hlen2]; exact hlex) h
  rw [hlen2] at hq
  have main : ∀ (fuel : Nat) (b : List Bool) (a : Act) (w' : World), b.length = m → downB (l.take (j + m)).toArray (Array.replicate j true ++ b.toArray) = true → C w' →
      wpAnyQ P .any (l.take (j + m)).toArray C (fun a' => ∀ w', C w' → wpAny P .any l.toArray Q g (T l.length (j + m)) a' w') fuel (Array.replicate j true ++ b.toArray) a →
      (b.filter (fun x => !x)).length = fuel →
      wpAny P .any l.toArray Q (fuel + g) (Array.replicate j true ++ b.toArray ++ Array.replicate (l.length - (j + m)) false) a w' := by
    intro fuel
    induction fuel with
    | zero =>
      intro b a w' hb hdn hw' hq hf
      have ht : ∀ x ∈ b, x = true := by
        intro x hx
        cases x with
        | true => rfl
        | false =>
          have : (false : Bool) ∈ b.filter (fun x => !x) := List.mem_filter.2 ⟨hx, rfl⟩
          rw [List.eq_nil_of_length_eq_zero hf] at this
          cases this
      have hbt : Array.replicate j true ++ b.toArray ++ Array.replicate (l.length - (j + m)) false = T l.length (j + m) := by
        have e1 : b = List.replicate m true := List.eq_replicate_iff.2 ⟨hb, ht⟩
        rw [e1]
        unfold T
        rw [show (List.replicate m true).toArray = Array.replicate m true by simp, Array.replicate_append_replicate]
      rw [hbt, Nat.zero_add]
      exact hq.2 w' hw'
    | succ fuel ih =>
      intro b a w' hb hdn hw' hq hf
      have hb1 := hall b (by rw [← hb]; exact mem_allB b)
      rw [hdn] at hb1
      simp only [Bool.true_eq_false, false_or] at hb1
      have ht : ¬ fullB b = true := by
        intro ht
        have : b.filter (fun x => !x) = [] := List.filter_eq_nil_iff.2 fun x hx => by
          have := List.all_eq_true.1 ht x hx
          simp [this]
        rw [this] at hf; cases hf
      rw [if_neg ht] at hb1
      simp only [Bool.and_eq_true, Bool.not_eq_true', beq_iff_eq, List.all_eq_true, decide_eq_true_eq] at hb1
      obtain ⟨⟨hne, heq⟩, hdown⟩ := hb1
      rw [show fuel + 1 + g = (fuel + g) + 1 by omega]
      refine ⟨fun h0 => ?_, fun i hi => ?_⟩
      · rw [heq] at h0; rw [h0] at hne; simp at hne
      · rw [heq] at hi
        have hqi := hq.2 i hi
        obtain ⟨hli, o, ho, _⟩ := mem_ready.1 hi
        obtain ⟨hji, hdi⟩ := hdown i hi
        have hik : i < j + m := by
          have := (Array.getElem?_eq_some_iff.1 ho).1
          rw [List.size_toArray, hlen] at this; exact this
        have hmem : o ∈ (l.take (j + m)).drop j := by
          have : ((l.take (j + m)).drop j)[i - j]? = some o := by
            rw [List.getElem?_drop, show j + (i - j) = i by omega]; simpa using ho
          exact List.mem_of_getElem? this
        have ho' : l.toArray[i]? = some o := by
          have h1 : (l.take (j + m))[i]? = some o := by simpa using ho
          rw [List.getElem?_take, if_pos hik] at h1
          simpa using h1
        have hdf : ∀ c, o.op ≠ .defer c := by
          intro c e
          have := hnd o hmem
          rw [e] at this; cases this
        have hyw : ∀ a : Act, Region.wanted o (yielded l.toArray a.tmps) = Region.wanted o (yielded (l.take (j + m)).toArray a.tmps) := by
          intro a
          unfold Region.wanted
          have := hgd o hmem
          cases hg : o.guard with
          | none => rfl
          | some gd =>
            obtain ⟨g1, g2⟩ := gd
            rw [hg] at this
            have hg1 : g1 < j + m := by simpa using this
            have : yielded l.toArray a.tmps g1 = yielded (l.take (j + m)).toArray a.tmps g1 := by
              unfold yielded
              simp only [List.getElem?_toArray, List.getElem?_take, if_pos hg1]
            simp only [this]
        have hbi : b.getD (i - j) true = false := by
          have h2 : (Array.replicate j true ++ b.toArray).getD i true = false := by simpa using hli
          rw [Array.getD_eq_getD_getElem?, Array.getElem?_append_right (by simpa using hji)] at h2
          simpa using h2
        have es2 : (Array.replicate j true ++ b.toArray).setIfInBounds i true = Array.replicate j true ++ (b.set (i - j) true).toArray := by
          apply Array.ext
          · simp
          · intro q h1 h2
            rw [Array.getElem_setIfInBounds (by simpa using h1)]
            by_cases hq : i = q
            · subst hq
              simp only [if_true]
              rw [Array.getElem_append_right (by simpa using hji)]
              simp
            · simp only [hq, if_false]
              rw [Array.getElem_append, Array.getElem_append]
              by_cases h3 : q < j
              · simp [h3]
              · simp [h3, List.getElem_set, show ¬ i - j = q - j by omega]
        have es : (Array.replicate j true ++ b.toArray ++ Array.replicate (l.length - (j + m)) false).setIfInBounds i true = Array.replicate j true ++ (b.set (i - j) true).toArray ++ Array.replicate (l.length - (j + m)) false := by
          rw [← es2, Array.setIfInBounds_append, if_pos (by simp; omega)]
        have hcount : ((b.set (i - j) true).filter (fun x => !x)).length = fuel := by
          have hlt : i - j < b.length := by omega
          have hget : b[i - j]'hlt = false := by
            have := hbi
            rw [List.getD_eq_getElem?_getD, List.getElem?_eq_getElem hlt] at this; simpa using this
          have key : ∀ (b : List Bool) (k : Nat) (hk : k < b.length), b[k] = false → ((b.set k true).filter (fun x => !x)).length + 1 = (b.filter (fun x => !x)).length := by
            intro b
            induction b with
            | nil => intro k hk; simp at hk
            | cons x b ihb =>
              intro k hk hx
              cases k with
              | zero => simp at hx; subst hx; simp
              | succ k =>
                have := ihb k (by simpa using hk) (by simpa using hx)
                cases x <;> simp at this ⊢ <;> omega
          have := key b (i - j) hlt hget
          omega
        rw [es2] at hqi
        unfold qOp at hqi
        simp only [ho] at hqi
        unfold wpOp
        simp only [ho']
        rw [hyw a]
        rw [es]
        split
        · rename_i hwn
          rw [if_pos hwn] at hqi
          refine .inl (Oper.wp_of_quiet hw' (fun a'' w'' hw'' hK => ?_) hqi)
          exact ih (b.set (i - j) true) a'' w'' (by simp [hb]) hdi hw'' hK hcount
        · rename_i hwn
          rw [if_neg hwn] at hqi
          exact ih (b.set (i - j) true) _ w' (by simp [hb]) hdi hw' hqi hcount
  have hfin := main m (List.replicate m false) a w (by simp) (by simpa using hd0) hw (by simpa using hq) (by simp)
  have e2 : Array.replicate j true ++ (List.replicate m false).toArray ++ Array.replicate (l.length - (j + m)) false = T l.length j := by
    rw [show (List.replicate m false).toArray = Array.replicate m false by simp, Array.append_assoc, Array.replicate_append_replicate, show m + (l.length - (j + m)) = l.length - j by omega]
  rw [e2] at hfin
  exact hfin

theorem last (j : Nat) {l : List Oper} {a : Act} {w : World} (g : Nat) (hg : j + g = l.length) (hs : Region.noSelect l.toArray = true) (hl : Region.lexFrom .any l.toArray g j (T l.length j) = true) (hw : C w)
    (h : wpQuiet P l.toArray C (fun a' => ∀ w', C w' → Q .normal a' w') (l.drop j) a) : wpAny P .any l.toArray Q g (T l.length j) a w := by
  have hlen : (l.drop j).length = g := by simp; omega
  have hq := wpAnyQ_lex (P := P) (C := C) (md := .any) hs (l.drop j) j (T l.length j) a (by intro i; simp) (by rw [hlen]; exact hl) h
  rw [hlen] at hq
  exact wpAny_of_quiet (Q := fun a' => ∀ w', C w' → Q .normal a' w') (fun _ w' hw' h => h w' hw') _ _ _ _ hw hq

theorem start {l : List Oper} {id : Nat} {a : Act} {w : World} (hm : P.follows .mixedOrders = true) (h : wpAny P .any l.toArray Q l.length (T l.length 0) a { w with drawn := w.drawn + 1 }) : (Code.region id l.toArray true).wp P Q a w := by
  refine wp_region_any hm ?_
  have e : T l.length 0 = Array.replicate l.toArray.size false := by simp [T]
  rw [e] at h
  exact h
end Go.MixW

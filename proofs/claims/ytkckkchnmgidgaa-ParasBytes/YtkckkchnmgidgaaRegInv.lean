/-
  A region that draws its order: what holds whichever of its operations are through, kept by each operation that may come next.
-/
import Derived.OrdersIn
import Derived.WalkKit
import Derived.RangeFuncCalls
namespace Go.RegInv
open Go
set_option linter.unusedVariables false
set_option linter.unusedSimpArgs false

def late (Q : Exit → Act → World → Prop) (K : Act → World → Prop) : Exit → Act → World → Prop
  | .normal, a, w => K a w
  | .exit i, a, w => Q (.exit i) a w
  | .goto i, a, w => Q (.goto i) a w
  | .ret, a, w => Q .ret a w
  | .panic c, a, w => Q (.panic c) a w
  | .outgrown, a, w => Q .outgrown a w

variable {F : Fence} {n : Nat} {P : Program} {Q : Exit → Act → World → Prop}

theorem late_wpIn {o : Oper} {a : Act} {w : World} {K K' : Act → World → Prop} (h : o.wpIn F n P a w K' (late Q K)) : o.wpIn F n P a w K' Q := by
  unfold Oper.wpIn at *
  refine ⟨h.1, ?_⟩
  have h := h.2
  generalize (o.semAt F.round a.eval).run P w = r at *
  cases r with
  | ok x w' =>
    cases x <;> simp only [Oper.uponIn] at h ⊢ <;>
      first
        | exact h
        | exact ⟨h.1, CallsIn.mono h.2 (fun e w'' he => by cases e <;> exact he)⟩
        | exact ⟨h.1, RoundIn.mono h.2 (fun e w'' he => by cases e <;> exact he)⟩
  | halt x w' => cases x <;> simp only [Oper.uponIn] at h ⊢ <;> exact h

/-- what an operation waits for -/
def deps (o : Oper) : List Nat := (o.after.toList.filter (Region.binds .any)).map (·.on)
/-- one claim for each operation -/
def Each (S : Nat → Oper → Prop) : Nat → List Oper → Prop
  | _, [] => True
  | k, o :: l => S k o ∧ Each S (k + 1) l
theorem Each.at {S : Nat → Oper → Prop} : ∀ {l : List Oper} {k : Nat}, Each S k l → ∀ i o, l[i]? = some o → S (k + i) o
  | [], _, _, _, _, h => by simp at h
  | o' :: l, k, h, 0, o, ho => by
    simp at ho
    subst ho
    exact h.1
  | o' :: l, k, h, i + 1, o, ho => by
    have := Each.at h.2 i o (by simpa using ho)
    rwa [show k + 1 + i = k + (i + 1) by omega] at this

/-- each waits for earlier ones alone -/
def rises (l : List Oper) : Bool := l.zipIdx.all fun p => (deps p.1).all fun j => decide (j < p.2)

/-- nothing is ready: all are through -/
theorem full_of_none {l : List Oper} (hr : rises l = true) {arr : Array Bool} (hs : arr.size = l.length) (h : Region.ready .any l.toArray arr = []) : ∀ i, i < l.length → arr.getD i false = true := by
  intro i
  induction i using Nat.strongRecOn with
  | _ i ih =>
    intro hi
    cases hb : arr.getD i false with
    | true => rfl
    | false =>
      exfalso
      have hm : i ∈ Region.ready .any l.toArray arr := by
        refine mem_ready.2 ⟨?_, l[i], by simp [hi], fun e he hbd => ?_⟩
        · rw [Array.getD_eq_getD_getElem?, Array.getElem?_eq_getElem (by omega)] at hb ⊢
          simpa using hb
        · have hz : (l[i], i) ∈ l.zipIdx := by
            rw [List.mem_zipIdx_iff_getElem?]
            simp [hi]
          have h1 := List.all_eq_true.1 hr _ hz
          have h2 := List.all_eq_true.1 h1 e.on (List.mem_map.2 ⟨e, List.mem_filter.2 ⟨by simpa using he, hbd⟩, rfl⟩)
          have h3 : e.on < i := by simpa using h2
          exact ih e.on h3 (by omega)
      rw [h] at hm
      cases hm

theorem region {l : List Oper} {rid : Nat} {a : Act} {w : World} (Inv : (Nat → Bool) → Act → World → Prop) (hm : P.follows .mixedOrders = true) (hg : (l.all fun o => o.guard.isNone) = true) (hr : rises l = true)
    (h0 : Inv (fun _ => false) a { w with drawn := w.drawn + 1 })
    (hs : Each (fun i o => ∀ (D : Nat → Bool) (a : Act) (w : World), D i = false → (∀ j ∈ deps o, D j = true) → (∀ (j : Nat) (o' : Oper), l[j]? = some o' → D j = true → ∀ k ∈ deps o', D k = true) → Inv D a w → wpListIn F n P l.toArray (late Q fun a' w' => Inv (fun j => j == i || D j) a' w') [o] a w) 0 l)
    (he : ∀ (D : Nat → Bool) (a : Act) (w : World), (∀ i, i < l.length → D i = true) → Inv D a w → Q .normal a w) :
    (Code.region rid l.toArray true).wpIn F n P Q a w := by
  refine wpIn_region_any hm ?_
  have main : ∀ (fuel : Nat) (arr : Array Bool) (a : Act) (w : World), arr.size = l.length → (arr.toList.filter (fun x => !x)).length = fuel → (∀ (j : Nat) (o' : Oper), l[j]? = some o' → arr.getD j false = true → ∀ k ∈ deps o', arr.getD k false = true) → Inv (fun j => arr.getD j false) a w → wpAnyIn F n P .any l.toArray Q fuel arr a w := by
    intro fuel
    induction fuel with
    | zero =>
      intro arr a w hsz hf hdn hI
      have hall : ∀ i, i < l.length → arr.getD i false = true := fun i hi => by
        have hlt : i < arr.size := by omega
        rw [Array.getD_eq_getD_getElem?, Array.getElem?_eq_getElem hlt]
        cases hx : arr[i] with
        | true => rfl
        | false =>
          have : (false : Bool) ∈ arr.toList.filter (fun x => !x) := List.mem_filter.2 ⟨by rw [← hx]; simp, rfl⟩
          rw [List.eq_nil_of_length_eq_zero hf] at this
          cases this
      refine ⟨?_, he _ a w hall hI⟩
      cases hq : Region.ready .any l.toArray arr with
      | nil => rfl
      | cons i r =>
        have hm : i ∈ Region.ready .any l.toArray arr := by rw [hq]; exact List.mem_cons_self
        obtain ⟨h1, o, ho, _⟩ := mem_ready.1 hm
        have hi : i < l.length := by simpa using (Array.getElem?_eq_some_iff.1 ho).1
        have h2 := hall i hi
        rw [Array.getD_eq_getD_getElem?, Array.getElem?_eq_getElem (by omega)] at h1 h2
        simp at h1 h2
        rw [h1] at h2; cases h2
    | succ fuel ih =>
      intro arr a w hsz hf hdn hI
      refine ⟨fun h => he _ a w (full_of_none hr hsz h) hI, fun i hi => ?_⟩
      obtain ⟨h1, o, ho, h2⟩ := mem_ready.1 hi
      have hil : i < l.length := by simpa using (Array.getElem?_eq_some_iff.1 ho).1
      have ho' : l[i]? = some o := by simpa using ho
      have hgo : o.guard = none := by
        have := List.all_eq_true.1 hg o (List.mem_of_getElem? ho')
        simpa using this
      have hfalse : arr.getD i false = false := by
        rw [Array.getD_eq_getD_getElem?, Array.getElem?_eq_getElem (by omega)] at h1 ⊢
        simpa using h1
      have hstep := Each.at hs i o ho'
      rw [Nat.zero_add] at hstep
      have hst := hstep (fun j => arr.getD j false) a w hfalse (fun j hj => by
        obtain ⟨e, he, rfl⟩ := List.mem_map.1 hj
        obtain ⟨he1, he2⟩ := List.mem_filter.1 he
        exact h2 e (by simpa using he1) he2) hdn hI
      have hwant : Region.wanted o (yielded l.toArray a.tmps) = true := by unfold Region.wanted; rw [hgo]
      unfold wpOpIn
      simp only [ho]
      rw [if_pos hwant]
      simp only [wpListIn] at hst
      rw [if_pos hwant] at hst
      refine Oper.wpIn_mono (fun a' w' hK => ?_) (late_wpIn hst)
      have hK : Inv (fun j => j == i || arr.getD j false) a' w' := hK
      have e1 : (fun j => (arr.setIfInBounds i true).getD j false) = (fun j => j == i || arr.getD j false) := by
        funext j
        by_cases hj : j = i
        · subst hj
          simp [Array.getD_eq_getD_getElem?, hsz, hil]
        · have : ¬ i = j := fun e => hj e.symm
          simp [Array.getD_eq_getD_getElem?, hj, Array.getElem?_setIfInBounds, this]
      refine ih (arr.setIfInBounds i true) a' w' (by simpa using hsz) ?_ ?_ (by rw [e1]; exact hK)
      rotate_left
      · intro j o' hj hD k hk
        have e2 := congrFun e1 j
        have e3 := congrFun e1 k
        rw [e2] at hD
        rw [e3]
        by_cases hji : j = i
        · subst hji
          rw [ho'] at hj
          cases hj
          have : arr.getD k false = true := by
            obtain ⟨e, he, rfl⟩ := List.mem_map.1 hk
            obtain ⟨he1, he2⟩ := List.mem_filter.1 he
            exact h2 e (by simpa using he1) he2
          simp [this]
        · have : arr.getD j false = true := by simpa [hji] using hD
          simp [hdn j o' hj this k hk]
      have key : ∀ (b : List Bool) (k : Nat) (hk : k < b.length), b[k] = false → ((b.set k true).filter (fun x => !x)).length + 1 = (b.filter (fun x => !x)).length := by
        intro b
        induction b with
        | nil => intro k hk; simp at hk
        | cons x b ihb =>
          intro k hk hx
          cases k with
          | zero => simp at hx; subst hx; simp
          | succ k =>
            have := ihb k (by simpa using hk) (by simpa using hx)
            cases x <;> simp at this ⊢ <;> omega
      have hk2 : i < arr.toList.length := by simpa using (by omega : i < arr.size)
      have := key arr.toList i hk2 (by
        rw [Array.getD_eq_getD_getElem?, Array.getElem?_eq_getElem (by omega)] at hfalse
        simpa using hfalse)
      rw [Array.toList_setIfInBounds]
      omega
  refine main _ _ a _ (by simp) (by simp) (fun j o' _ h => ?_) ?_
  · exfalso
    rw [Array.getD_eq_getD_getElem?, Array.getElem?_replicate] at h
    split at h <;> simp at h
  have e : (fun j => (Array.replicate l.toArray.size false).getD j false) = (fun _ => false) := by
    funext j
    simp [Array.getD_eq_getD_getElem?, Array.getElem?_replicate]
    split <;> rfl
  rw [e]
  exact h0
end Go.RegInv

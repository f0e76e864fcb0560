/-
  These texts, one behind the other: TrTM, RegInv.
-/
import Derived.Test.YtokillomaemocaaTrQf
import Derived.OrdersIn
import Derived.WalkKit
import Derived.RangeFuncCalls
/-
  The mathematics of the middle blocks: what is numbered stays so under a naming of its values.
-/
namespace Go.TrM
set_option linter.unusedVariables false
set_option linter.unusedSimpArgs false
theorem mem_map_inj {α β : Type} (f : α → β) (hf : ∀ a b, f a = f b → a = b) (b : α) (all : List α) : f b ∈ all.map f ↔ b ∈ all := by
  rw [List.mem_map]
  constructor
  · rintro ⟨a, ha, e⟩
    rw [← hf _ _ e]; exact ha
  · intro h; exact ⟨b, h, rfl⟩
section
variable {α β : Type} [DecidableEq α] [DecidableEq β]
theorem idx_map (f : α → β) (hf : ∀ a b, f a = f b → a = b) (b : α) : ∀ all : List α, (all.map f).idxOf (f b) = all.idxOf b := by
  intro all
  induction all with
  | nil => rfl
  | cons x t ih =>
    rw [List.map_cons, List.idxOf_cons, List.idxOf_cons, ih]
    by_cases h : x = b
    · subst h; simp
    · have h2 : ¬ f x = f b := fun e => h (hf _ _ e)
      have q1 : (f x == f b) = false := by simpa using h2
      have q2 : (x == b) = false := by simpa using h
      rw [q1, q2]
theorem numS_map (f : α → β) (hf : ∀ a b, f a = f b → a = b) (all : List α) (b : α) : numS (all.map f) (f b) = ((numS all b).1.map f, (numS all b).2) := by
  unfold numS
  by_cases h : b ∈ all
  · rw [if_pos h, if_pos ((mem_map_inj f hf b all).2 h), idx_map f hf]
  · rw [if_neg h, if_neg (fun q => h ((mem_map_inj f hf b all).1 q))]
    simp
theorem numL_map (f : α → β) (hf : ∀ a b, f a = f b → a = b) : ∀ (bs all : List α), numL (all.map f) (bs.map f) = ((numL all bs).1.map f, (numL all bs).2) := by
  intro bs
  induction bs with
  | nil => intro all; rfl
  | cons b t ih =>
    intro all
    show ((numL (numS (all.map f) (f b)).1 (t.map f)).1, (numS (all.map f) (f b)).2 :: (numL (numS (all.map f) (f b)).1 (t.map f)).2) = _
    rw [numS_map f hf, ih]
    rfl
end
theorem cutN_map {α β : Type} (f : α → β) : ∀ (k : Nat) (l : List α), cutN k (l.map f) = (cutN k l).map (List.map f) := by
  intro k
  induction k with
  | zero => intro l; rfl
  | succ k ih =>
    intro l
    show (l.map f).take 64 :: cutN k ((l.map f).drop 64) = _
    rw [← List.map_take, ← List.map_drop, ih]
    rfl
theorem cutN_snoc {α : Type} : ∀ (k : Nat) (l : List α), cutN (k + 1) l = cutN k l ++ [(l.drop (64 * k)).take 64] := by
  intro k
  induction k with
  | zero => intro l; rfl
  | succ k ih =>
    intro l
    show l.take 64 :: cutN (k + 1) (l.drop 64) = (l.take 64 :: cutN k (l.drop 64)) ++ _
    rw [ih, List.drop_drop, List.cons_append, show 64 * (k + 1) = 64 + 64 * k by omega]
theorem maps_inj {α β : Type} (f : α → β) (hf : ∀ a b, f a = f b → a = b) : ∀ a b : List α, a.map f = b.map f → a = b := by
  intro a
  induction a with
  | nil => intro b h; cases b with | nil => rfl | cons y t => simp at h
  | cons x t ih =>
    intro b h
    cases b with
    | nil => simp at h
    | cons y b =>
      simp only [List.map_cons, List.cons.injEq] at h
      rw [hf _ _ h.1, ih b h.2]
theorem ofNat_inj (a b : Nat) (h : Int.ofNat a = Int.ofNat b) : a = b := Int.ofNat.inj h
theorem flat_map {α β : Type} (f : α → β) (l : List (List α)) : (l.map (List.map f)).flatten = l.flatten.map f := by
  induction l with
  | nil => rfl
  | cons x t ih => rw [List.map_cons, List.flatten_cons, List.flatten_cons, List.map_append, ih]
/-- the places' numbers, as whole numbers -/
def laidI {α : Type} [DecidableEq α] (vs : List α) : List Int := (lowsV vs).2.map Int.ofNat
def blkI {α : Type} [DecidableEq α] (vs : List α) (k : Nat) : List Int := ((laidI vs).drop (64 * k)).take 64
/-- what the first k middle blocks make -/
def midI {α : Type} [DecidableEq α] (vs : List α) (k : Nat) : List (List Int) × List Nat := numL [] (cutN k (laidI vs))
section
variable {α : Type} [DecidableEq α] {vs : List α}
theorem midI_succ (k : Nat) : midI vs (k + 1) = ((numS (midI vs k).1 (blkI vs k)).1, (midI vs k).2 ++ [(numS (midI vs k).1 (blkI vs k)).2]) := by
  unfold midI blkI
  rw [cutN_snoc, numL_snoc]
theorem laidI_len (h : vs.length = 1114112) : (laidI vs).length = 17408 := by unfold laidI; rw [List.length_map, laid_len, h]
theorem midI_le (k : Nat) : (midI vs k).1.length ≤ k := by
  have := numL_le (cutN k (laidI vs)) []
  rw [cutN_len, List.length_nil, Nat.zero_add] at this
  exact this
theorem midI_len (k : Nat) : (midI vs k).2.length = k := by unfold midI; rw [numL_len, cutN_len]
theorem blkI_len (h : vs.length = 1114112) {k : Nat} (hk : k < 272) : (blkI vs k).length = 64 := by
  unfold blkI
  rw [List.length_take, List.length_drop, laidI_len h]
  omega
theorem blkI_at {k j : Nat} (hj : j < 64) : (blkI vs k)[j]? = (laidI vs)[64 * k + j]? := by
  unfold blkI
  rw [List.getElem?_take, if_pos hj, List.getElem?_drop]
theorem laidI_ok (h : vs.length = 1114112) : ∀ x ∈ laidI vs, 0 ≤ x ∧ x < 17408 := by
  intro x hx
  obtain ⟨n, hn, rfl⟩ := List.mem_map.1 hx
  have h1 := numL_mem_lt (cutN (vs.length / 64) vs) [] hn
  have h2 := lows_le vs
  rw [h] at h2
  have h3 : (numL [] (cutN (vs.length / 64) vs)).1.length ≤ 17408 := h2
  have : (Int.ofNat n) = (n : Int) := rfl
  omega
theorem blkI_ok (h : vs.length = 1114112) (k : Nat) : ∀ x ∈ blkI vs k, 0 ≤ x ∧ x < 17408 := fun x hx => laidI_ok h x (List.mem_of_mem_drop (List.mem_of_mem_take hx))
theorem midI_all (h : vs.length = 1114112) : (midI vs 272).1.flatten = (partsV vs).mid.map Int.ofNat ∧ (midI vs 272).2 = (partsV vs).top := by
  have e : midI vs 272 = ((midsV vs).1.map (List.map Int.ofNat), (midsV vs).2) := by
    unfold midI laidI
    rw [cutN_map]
    have := numL_map (List.map Int.ofNat) (maps_inj Int.ofNat ofNat_inj) (cutN 272 (lowsV vs).2) []
    rw [List.map_nil] at this
    rw [this]
    unfold midsV
    rw [laid_len, h]
  rw [e]
  exact ⟨flat_map _ _, rfl⟩
theorem whole_all (h : vs.length = 1114112) : whole vs = lowsV vs ∧ restB vs = [] := by
  refine ⟨rfl, List.length_eq_zero_iff.1 ?_⟩
  rw [restB_len, h]
end
end Go.TrM
/-
  A region that draws its order: what holds whichever of its operations are through, kept by each operation that may come next.
-/
namespace Go.RegInv
open Go
set_option linter.unusedVariables false
set_option linter.unusedSimpArgs false

def late (Q : Exit → Act → World → Prop) (K : Act → World → Prop) : Exit → Act → World → Prop
  | .normal, a, w => K a w
  | .exit i, a, w => Q (.exit i) a w
  | .goto i, a, w => Q (.goto i) a w
  | .ret, a, w => Q .ret a w
  | .panic c, a, w => Q (.panic c) a w
  | .outgrown, a, w => Q .outgrown a w

variable {F : Fence} {n : Nat} {P : Program} {Q : Exit → Act → World → Prop}

theorem late_wpIn {o : Oper} {a : Act} {w : World} {K K' : Act → World → Prop} (h : o.wpIn F n P a w K' (late Q K)) : o.wpIn F n P a w K' Q := by
  unfold Oper.wpIn at *
  refine ⟨h.1, ?_⟩
  have h := h.2
  generalize (o.semAt F.round a.eval).run P w = r at *
  cases r with
  | ok x w' =>
    cases x <;> simp only [Oper.uponIn] at h ⊢ <;>
      first
        | exact h
        | exact ⟨h.1, CallsIn.mono h.2 (fun e w'' he => by cases e <;> exact he)⟩
        | exact ⟨h.1, RoundIn.mono h.2 (fun e w'' he => by cases e <;> exact he)⟩
  | halt x w' => cases x <;> simp only [Oper.uponIn] at h ⊢ <;> exact h

/-- what an operation waits for -/
def deps (o : Oper) : List Nat := (o.after.toList.filter (Region.binds .any)).map (·.on)
/-- one claim for each operation -/
def Each (S : Nat → Oper → Prop) : Nat → List Oper → Prop
  | _, [] => True
  | k, o :: l => S k o ∧ Each S (k + 1) l
theorem Each.at {S : Nat → Oper → Prop} : ∀ {l : List Oper} {k : Nat}, Each S k l → ∀ i o, l[i]? = some o → S (k + i) o
  | [], _, _, _, _, h => by simp at h
  | o' :: l, k, h, 0, o, ho => by
    simp at ho
    subst ho
    exact h.1
  | o' :: l, k, h, i + 1, o, ho => by
    have := Each.at h.2 i o (by simpa using ho)
    rwa [show k + 1 + i = k + (i + 1) by omega] at this

/-- each waits for earlier ones alone -/
def rises (l : List Oper) : Bool := l.zipIdx.all fun p => (deps p.1).all fun j => decide (j < p.2)

/-- nothing is ready: all are through -/
theorem full_of_none {l : List Oper} (hr : rises l = true) {arr : Array Bool} (hs : arr.size = l.length) (h : Region.ready .any l.toArray arr = []) : ∀ i, i < l.length → arr.getD i false = true := by
  intro i
  induction i using Nat.strongRecOn with
  | _ i ih =>
    intro hi
    cases hb : arr.getD i false with
    | true => rfl
    | false =>
      exfalso
      have hm : i ∈ Region.ready .any l.toArray arr := by
        refine mem_ready.2 ⟨?_, l[i], by simp [hi], fun e he hbd => ?_⟩
        · rw [Array.getD_eq_getD_getElem?, Array.getElem?_eq_getElem (by omega)] at hb ⊢
          simpa using hb
        · have hz : (l[i], i) ∈ l.zipIdx := by
            rw [List.mem_zipIdx_iff_getElem?]
            simp [hi]
          have h1 := List.all_eq_true.1 hr _ hz
          have h2 := List.all_eq_true.1 h1 e.on (List.mem_map.2 ⟨e, List.mem_filter.2 ⟨by simpa using he, hbd⟩, rfl⟩)
          have h3 : e.on < i := by simpa using h2
          exact ih e.on h3 (by omega)
      rw [h] at hm
      cases hm

theorem region {l : List Oper} {rid : Nat} {a : Act} {w : World} (Inv : (Nat → Bool) → Act → World → Prop) (hm : P.follows .mixedOrders = true) (hg : (l.all fun o => o.guard.isNone) = true) (hr : rises l = true)
    (h0 : Inv (fun _ => false) a { w with drawn := w.drawn + 1 })
    (hs : Each (fun i o => ∀ (D : Nat → Bool) (a : Act) (w : World), D i = false → (∀ j ∈ deps o, D j = true) → (∀ (j : Nat) (o' : Oper), l[j]? = some o' → D j = true → ∀ k ∈ deps o', D k = true) → Inv D a w → wpListIn F n P l.toArray (late Q fun a' w' => Inv (fun j => j == i || D j) a' w') [o] a w) 0 l)
    (he : ∀ (D : Nat → Bool) (a : Act) (w : World), (∀ i, i < l.length → D i = true) → Inv D a w → Q .normal a w) :
    (Code.region rid l.toArray true).wpIn F n P Q a w := by
  refine wpIn_region_any hm ?_
  have main : ∀ (fuel : Nat) (arr : Array Bool) (a : Act) (w : World), arr.size = l.length → (arr.toList.filter (fun x => !x)).length = fuel → (∀ (j : Nat) (o' : Oper), l[j]? = some o' → arr.getD j false = true → ∀ k ∈ deps o', arr.getD k false = true) → Inv (fun j => arr.getD j false) a w → wpAnyIn F n P .any l.toArray Q fuel arr a w := by
    intro fuel
    induction fuel with
    | zero =>
      intro arr a w hsz hf hdn hI
      have hall : ∀ i, i < l.length → arr.getD i false = true := fun i hi => by
        have hlt : i < arr.size := by omega
        rw [Array.getD_eq_getD_getElem?, Array.getElem?_eq_getElem hlt]
        cases hx : arr[i] with
        | true => rfl
        | false =>
          have : (false : Bool) ∈ arr.toList.filter (fun x => !x) := List.mem_filter.2 ⟨by rw [← hx]; simp, rfl⟩
          rw [List.eq_nil_of_length_eq_zero hf] at this
          cases this
      refine ⟨?_, he _ a w hall hI⟩
      cases hq : Region.ready .any l.toArray arr with
      | nil => rfl
      | cons i r =>
        have hm : i ∈ Region.ready .any l.toArray arr := by rw [hq]; exact List.mem_cons_self
        obtain ⟨h1, o, ho, _⟩ := mem_ready.1 hm
        have hi : i < l.length := by simpa using (Array.getElem?_eq_some_iff.1 ho).1
        have h2 := hall i hi
        rw [Array.getD_eq_getD_getElem?, Array.getElem?_eq_getElem (by omega)] at h1 h2
        simp at h1 h2
        rw [h1] at h2; cases h2
    | succ fuel ih =>
      intro arr a w hsz hf hdn hI
      refine ⟨fun h => he _ a w (full_of_none hr hsz h) hI, fun i hi => ?_⟩
      obtain ⟨h1, o, ho, h2⟩ := mem_ready.1 hi
      have hil : i < l.length := by simpa using (Array.getElem?_eq_some_iff.1 ho).1
      have ho' : l[i]? = some o := by simpa using ho
      have hgo : o.guard = none := by
        have := List.all_eq_true.1 hg o (List.mem_of_getElem? ho')
        simpa using this
      have hfalse : arr.getD i false = false := by
        rw [Array.getD_eq_getD_getElem?, Array.getElem?_eq_getElem (by omega)] at h1 ⊢
        simpa using h1
      have hstep := Each.at hs i o ho'
      rw [Nat.zero_add] at hstep
      have hst := hstep (fun j => arr.getD j false) a w hfalse (fun j hj => by
        obtain ⟨e, he, rfl⟩ := List.mem_map.1 hj
        obtain ⟨he1, he2⟩ := List.mem_filter.1 he
        exact h2 e (by simpa using he1) he2) hdn hI
      have hwant : Region.wanted o (yielded l.toArray a.tmps) = true := by unfold Region.wanted; rw [hgo]
      unfold wpOpIn
      simp only [ho]
      rw [if_pos hwant]
      simp only [wpListIn] at hst
      rw [if_pos hwant] at hst
      refine Oper.wpIn_mono (fun a' w' hK => ?_) (late_wpIn hst)
      have hK : Inv (fun j => j == i || arr.getD j false) a' w' := hK
      have e1 : (fun j => (arr.setIfInBounds i true).getD j false) = (fun j => j == i || arr.getD j false) := by
        funext j
        by_cases hj : j = i
        · subst hj
          simp [Array.getD_eq_getD_getElem?, hsz, hil]
        · have : ¬ i = j := fun e => hj e.symm
          simp [Array.getD_eq_getD_getElem?, hj, Array.getElem?_setIfInBounds, this]
      refine ih (arr.setIfInBounds i true) a' w' (by simpa using hsz) ?_ ?_ (by rw [e1]; exact hK)
      rotate_left
      · intro j o' hj hD k hk
        have e2 := congrFun e1 j
        have e3 := congrFun e1 k
        rw [e2] at hD
        rw [e3]
        by_cases hji : j = i
        · subst hji
          rw [ho'] at hj
          cases hj
          have : arr.getD k false = true := by
            obtain ⟨e, he, rfl⟩ := List.mem_map.1 hk
            obtain ⟨he1, he2⟩ := List.mem_filter.1 he
            exact h2 e (by simpa using he1) he2
          simp [this]
        · have : arr.getD j false = true := by simpa [hji] using hD
          simp [hdn j o' hj this k hk]
      have key : ∀ (b : List Bool) (k : Nat) (hk : k < b.length), b[k] = false → ((b.set k true).filter (fun x => !x)).length + 1 = (b.filter (fun x => !x)).length := by
        intro b
        induction b with
        | nil => intro k hk; simp at hk
        | cons x b ihb =>
          intro k hk hx
          cases k with
          | zero => simp at hx; subst hx; simp
          | succ k =>
            have := ihb k (by simpa using hk) (by simpa using hx)
            cases x <;> simp at this ⊢ <;> omega
      have hk2 : i < arr.toList.length := by simpa using (by omega : i < arr.size)
      have := key arr.toList i hk2 (by
        rw [Array.getD_eq_getD_getElem?, Array.getElem?_eq_getElem (by omega)] at hfalse
        simpa using hfalse)
      rw [Array.toList_setIfInBounds]
      omega
  refine main _ _ a _ (by simp) (by simp) (fun j o' _ h => ?_) ?_
  · exfalso
    rw [Array.getD_eq_getD_getElem?, Array.getElem?_replicate] at h
    split at h <;> simp at h
  have e : (fun j => (Array.replicate l.toArray.size false).getD j false) = (fun _ => false) := by
    funext j
    simp [Array.getD_eq_getD_getElem?, Array.getElem?_replicate]
    split <;> rfl
  rw [e]
  exact h0
end Go.RegInv

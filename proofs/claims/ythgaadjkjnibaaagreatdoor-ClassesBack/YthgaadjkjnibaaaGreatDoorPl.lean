/-
  These texts, one behind the other: PSoC, PToldC, RegInv.
-/
import Derived.Test.YthgaadjkjnibaaaGreatDoorPc
import Derived.Test.YthgaadjkjnibaaaGreatDoorOShelf
import Derived.Test.YthgaadjkjnibaaaGreatDoorOv
import Derived.Test.YthgaadjkjnibaaaGreatDoorPStr2C
import Derived.Test.YthgaadjkjnibaaaGreatDoorPd
import Derived.OwnWalkIn
import Derived.OrdersIn
import Derived.WalkKit
import Derived.RangeFuncCalls
/-
  slices.SortFunc of pieces by their beginnings.
-/
namespace Go.Proofs.YthgaadjkjnibaaaGreatDoor.VC
open Go.RowKit Go.PlainAid Go.Lib Go.PRow Go.Shelf
open Go.Sort (grow alloc_eq_grow grow_grow)
set_option linter.unusedVariables false
set_option linter.unusedSimpArgs false

theorem nan_any (x : Int) (w : World) : Calls Tryz.prog 103 #[.int .i32 x] w fun e w' => e = .returned (.bool false) ∧ w' = w := by
  go_enter Tryz.func103, Tryz.ntmps103
  go_wp2
  go_ret
  exact ⟨rfl, rfl⟩
theorem compare_any (x y : Int) (w : World) : Calls Tryz.prog 75 #[.int .i32 x, .int .i32 y] w fun e w' => e = .returned (.int .i64 (Lib.compareInt x y)) ∧ w' = w := by
  unfold Lib.compareInt
  by_cases h1 : x < y <;> by_cases h2 : y < x
  any_goals (exfalso; omega)
  all_goals
    go_enter Tryz.func75, Tryz.ntmps75
    go_wp2_with (go_at_call 103; refine (nan_any _ _).mono ?_; rintro e w' ⟨rfl, rfl⟩)
    go_ret
    exact ⟨by simp [h1, h2], rfl⟩
abbrev encP (p : Pc Int) : List Value := [.int .i32 p.lo, .int .i32 p.hi, Value.int .u8 p.val]
theorem less_any (p q : Pc Int) (w : World) : Calls Tryz.prog 74 #[.agg #[.int .i32 p.lo, .int .i32 p.hi, Value.int .u8 p.val], .agg #[.int .i32 q.lo, .int .i32 q.hi, Value.int .u8 q.val]] w fun e w' => e = .returned (.int .i64 (Lib.compareInt p.lo q.lo)) ∧ ∃ k os', w' = grow (w.drewN k) os' := by
  have hcon := fun W' => compare_any p.lo q.lo W'
  generalize Lib.compareInt p.lo q.lo = r at hcon ⊢
  go_enter Tryz.func74, Tryz.ntmps74
  go_wp2_with (go_at_call 75; refine (hcon _).mono ?_; rintro e w' ⟨rfl, rfl⟩)
  go_ret
  exact ⟨rfl, 0, _, by rw [alloc_eq_grow, alloc_eq_grow, grow_grow]; rfl⟩

theorem flat_cells [Inhabited (Pc Int)] (ps : List (Pc Int)) : Sort.flatK encP 3 ps.toArray = (cellsP ps).toArray := by
  refine Sort.ext_get! (by simp [cellsP_len]) fun t ht => ?_
  have ht' : t < ps.length * 3 := by simpa using ht
  rw [Sort.get_flatK _ _ _ t (by simpa using ht')]
  obtain ⟨i, c, hc, rfl⟩ : ∃ i c, c < 3 ∧ t = i * 3 + c := ⟨t / 3, t % 3, by omega, by omega⟩
  have e1 : (i * 3 + c) / 3 = i := by omega
  have e2 : (i * 3 + c) % 3 = c := by omega
  rw [e1, e2]
  have hi : i < ps.length := by omega
  obtain ⟨c0, c1, c2⟩ := cellsP_at ps i _ (List.getElem?_eq_getElem hi)
  have e3 : ps.toArray[i]! = ps[i] := by simp [hi]
  rw [e3]
  have h3 : c = 0 ∨ c = 1 ∨ c = 2 := by omega
  rcases h3 with rfl | rfl | rfl
  · rw [Nat.add_zero]; simp [c0]
  · simp [c1]
  · simp [c2]
theorem swo_lo : Sort.SWO (ltOf fun p q : Pc Int => Lib.compareInt p.lo q.lo) := by
  have h : ∀ x y : Pc Int, ltOf (fun p q : Pc Int => Lib.compareInt p.lo q.lo) x y = decide (x.lo < y.lo) := by
    intro x y
    unfold ltOf Lib.compareInt
    by_cases h1 : x.lo < y.lo
    · simp [h1]
    · by_cases h2 : y.lo < x.lo <;> simp [h1, h2]
  refine ⟨fun x => ?_, fun x y z h1 h2 => ?_, fun x y z h1 h2 => ?_⟩
  · rw [h]; simp
  · rw [h] at *; simp at *; omega
  · rw [h] at *; simp at *; omega
theorem lt_lo (x y : Pc Int) (h : ltOf (fun p q : Pc Int => Lib.compareInt p.lo q.lo) x y = false) : ¬ x.lo < y.lo := by
  intro h1
  unfold ltOf Lib.compareInt at h
  simp [h1] at h

set_option maxRecDepth 100000 in
theorem sort_row (B : Nat) (v : Value) (ps : List (Pc Int)) (w : World) (hr : RowP w B v ps) (hl : ps.length < 4611686018427387904) :
    Calls Tryz.prog 73 #[v, .func (.func 74) #[] #[]] w fun e w' => e = .returned (.tuple #[]) ∧ ∃ qs : List (Pc Int), qs.Perm ps ∧ qs.Pairwise (fun p q => ¬ q.lo < p.lo) ∧ RowP w' B v qs ∧ w.grownBy w' (blk v) := by
  by_cases hps : ps = []
  · subst hps
    obtain ⟨a, cap, rfl, -, -, -, -⟩ := hr.form
    have hcon := AnyF.slices_SortFunc_none Tryz.sortC a cap (.func (.func 74) #[] #[]) w
    change Calls Tryz.prog 73 _ _ _ at hcon
    refine hcon.mono ?_
    rintro e w' ⟨rfl, rfl⟩
    exact ⟨rfl, [], List.Perm.refl _, List.Pairwise.nil, hr, rfl, rfl, rfl, Nat.le_refl _, fun _ _ _ => rfl⟩
  have hpos : 0 < ps.length := List.length_pos_iff.2 hps
  rcases hr.2 with ⟨a, rfl, hn⟩ | ⟨g, cap, cur, rfl, hb, hh, hn, hc, hs, ht⟩
  · omega
  · letI : Inhabited (Pc Int) := ⟨⟨0, 0, default⟩⟩
    have hm2 : ps.length * 3 ≤ cur.size := by rw [hs]; exact Nat.mul_le_mul_right _ hn
    have hgl := (Array.getElem?_eq_some_iff.1 hh).1
    have hH : Sort.HoldsK encP 3 w g 0 ps.toArray := by
      intro j hj
      rw [flat_cells] at hj ⊢
      have hj' : j < (cellsP ps).length := by simpa using hj
      refine ⟨?_, by simp [World.frozen?, hh]⟩
      rw [Nat.zero_add]
      refine (row_cell hh ht hm2 j _ (List.getElem?_eq_getElem hj')).trans ?_
      simp [hj']
    have eg : ∀ args w, (callFunc 74 args).run Tryz.prog w = .ok (.enter 74 args) w := enters_of Tryz.func74 (by kernel_rfl) rfl
    have hcon := AnyQ.slices_SortFunc Tryz.sortC 3 Tryz.isAgg107 Tryz.sizeOf107 encP (fun _ => rfl) (fun x v hv => by simp [encP] at hv; rcases hv with rfl | rfl | rfl <;> rfl) (fun p q => Lib.compareInt p.lo q.lo) swo_lo 74 #[] g 0 cap ps.toArray w eg (fun m os dk _ x y => less_any x y _) hH hgl (by simpa using hl)
    change Calls Tryz.prog 73 _ _ _ at hcon
    refine hcon.mono ?_
    rintro e w' ⟨rfl, d', n, os, hp, hsd, rfl⟩
    have hds : d'.size = ps.length := by simpa using hp.1
    obtain ⟨qs, rfl⟩ : ∃ qs : List (Pc Int), d' = qs.toArray := ⟨d'.toList, by simp⟩
    have hql : qs.length = ps.length := by simpa using hds
    refine ⟨rfl, qs, ?_, ?_, ⟨?_, .inr ⟨g, cap, Sort.putCells id 0 (cellsP qs).toArray cur, by rw [hql], hb, ?_, by omega, hc, by simpa [Sort.putCells] using hs, ?_⟩⟩, ?_⟩
    · have := hp.2.2
      rw [show ps.toArray.size = qs.toArray.size by simp [hql]] at this
      have e : List.take ps.length qs = qs := List.take_of_length_le (by omega)
      simpa [hql, e] using this
    · refine List.pairwise_iff_getElem.2 fun i j hi hj hij => ?_
      have := hsd i j (Nat.zero_le _) hij (by simpa [← hql] using hj)
      have e1 : qs.toArray[i]! = qs[i] := by simp [hi]
      have e2 : qs.toArray[j]! = qs[j] := by simp [hj]
      rw [e1, e2] at this
      exact lt_lo _ _ this
    · exact cellsP_len qs
    · unfold Go.Proofs.sortWorldK Sort.putRowK
      rw [flat_cells]
      show ((Sort.putRow id (Sort.ahead w n) g 0 (cellsP qs).toArray).heap ++ os)[g]? = _
      rw [Array.getElem?_append_left (by simpa using hgl)]
      show ((Sort.ahead w n).heap.modify g (Sort.onCells (Sort.putCells id 0 (cellsP qs).toArray)))[g]? = _
      rw [Array.getElem?_modify, if_pos rfl]
      show (w.heap[g]?).map _ = _
      rw [hh]
      rfl
    · have hcl := cellsP_len qs
      refine List.ext_getElem? fun j => ?_
      rw [List.getElem?_take]
      split
      · next hj =>
        have hjc : j < cur.size := by omega
        simp only [Sort.putCells, Array.getElem?_toList, Array.getElem?_mapIdx, Array.getElem?_eq_getElem hjc, Option.map_some]
        rw [if_pos (by simp; omega)]
        simp [show j < (cellsP qs).length by omega]
      · next hj =>
        rw [List.getElem?_eq_none (by omega)]
    · refine ⟨rfl, rfl, rfl, by simp [Go.Proofs.sortWorldK, grow, Sort.putRowK, Sort.ahead], fun k hk hne => ?_⟩
      have hkg : g ≠ k := by
        intro e
        subst e
        refine hne ?_
        cases cap with
        | zero => omega
        | succ c => rfl
      show ((Sort.putRow id (Sort.ahead w n) g 0 (Sort.flatK encP 3 qs.toArray)).heap ++ os)[k]? = _
      rw [Array.getElem?_append_left (by simpa using hk)]
      show ((Sort.ahead w n).heap.modify g _)[k]? = _
      rw [Array.getElem?_modify, if_neg hkg]
      rfl
end Go.Proofs.YthgaadjkjnibaaaGreatDoor.VC
/-
  The stretches of a map in a list.
-/
namespace Go.Proofs.YthgaadjkjnibaaaGreatDoor.VC
open Go.RowKit Go.PlainAid Go.Lib Go.PRow Go.Shelf Go.Seq4
attribute [local go_sem] Oper.semAt_some
set_option linter.unusedVariables false
set_option linter.unusedSimpArgs false

/-- an append in a fenced walk, where there is such a run -/
theorem wpListIn_append_ex {F : Fence} {n : Nat} {w : World} {ops : Array Oper} {rest : List Oper} {o : Oper} {a : Act} {Q : Exit → Act → World → Prop} (hgd : o.guard = none) (s x : Operand) (t tn : TypeId)
    (ho : o.op = .call { callee := .builtin .append, args := #[s, x], argTypes := #[t, tn] }) (vs vx : Value) (hs : a.eval s = vs) (hx : a.eval x = vx) {Post : Value → World → Prop}
    (hr : ∃ v' w', (∀ ty, (Builtin.append_ #[t, tn] ty #[vs, vx]).run Tryz.prog w = .ok v' w') ∧ Post v' w') (h : ∀ v' w', Post v' w' → wpListIn F n Tryz.prog ops Q rest (a.put o.dst v') w') : wpListIn F n Tryz.prog ops Q (o :: rest) a w := by
  refine wpListIn_plain hgd fun K hK' => ?_
  obtain ⟨v', w', hrun, hp⟩ := hr
  unfold Oper.wpIn
  refine ⟨?_, ?_⟩
  · simp [Oper.about, ho, resolve, Target.leads, Sem.run_pure]
  · rw [Oper.semAt_plain F _ _ (by rw [ho]; intro c hc'; cases hc')]
    simp [execOp, ho, resolve, invoke, builtin, hs, hx, hrun, Result.andThen]
    exact hK' _ _ (h v' w' hp)

theorem own_rowP {β : Type} (B Bq b : Nat) (f : β → List (Pc Int)) : OwnFrom B (fun x W => ∃ vs, W.heap[b]? = some (.cells #[vs] 103 (0, 0)) ∧ RowP W Bq vs (f x)) := by
  rintro x W W' row ⟨vs, h1, h2⟩ hg hr
  refine ⟨vs, (grownBy_keeps_cells hg (fun r e => (hr r e).2) h1 rfl).trans h1, h2.kept fun g hgk => ?_⟩
  rcases h2.2 with ⟨a, rfl, hn⟩ | ⟨g', cap, cur, rfl, hb, hh, hc, hm, hs, ht⟩
  · rw [blk_zero] at hgk; cases hgk
  · have e : g' = g := by
      by_cases hc0 : cap = 0
      · subst hc0; rw [blk_zero] at hgk; cases hgk
      · rw [blk_pos (by omega)] at hgk; exact Option.some.inj hgk
    subst e
    exact grownBy_keeps_cells hg (fun r e => (hr r e).2) hh rfl

end Go.Proofs.YthgaadjkjnibaaaGreatDoor.VC
/-
  A region that draws its order: what holds whichever of its operations are through, kept by each operation that may come next.
-/
namespace Go.RegInv
open Go
set_option linter.unusedVariables false
set_option linter.unusedSimpArgs false

def late (Q : Exit → Act → World → Prop) (K : Act → World → Prop) : Exit → Act → World → Prop
  | .normal, a, w => K a w
  | .exit i, a, w => Q (.exit i) a w
  | .goto i, a, w => Q (.goto i) a w
  | .ret, a, w => Q .ret a w
  | .panic c, a, w => Q (.panic c) a w
  | .outgrown, a, w => Q .outgrown a w

variable {F : Fence} {n : Nat} {P : Program} {Q : Exit → Act → World → Prop}

theorem late_wpIn {o : Oper} {a : Act} {w : World} {K K' : Act → World → Prop} (h : o.wpIn F n P a w K' (late Q K)) : o.wpIn F n P a w K' Q := by
  unfold Oper.wpIn at *
  refine ⟨h.1, ?_⟩
  have h := h.2
  generalize (o.semAt F.round a.eval).run P w = r at *
  cases r with
  | ok x w' =>
    cases x <;> simp only [Oper.uponIn] at h ⊢ <;>
      first
        | exact h
        | exact ⟨h.1, CallsIn.mono h.2 (fun e w'' he => by cases e <;> exact he)⟩
        | exact ⟨h.1, RoundIn.mono h.2 (fun e w'' he => by cases e <;> exact he)⟩
  | halt x w' => cases x <;> simp only [Oper.uponIn] at h ⊢ <;> exact h

/-- what an operation waits for -/
def deps (o : Oper) : List Nat := (o.after.toList.filter (Region.binds .any)).map (·.on)
/-- one claim for each operation -/
def Each (S : Nat → Oper → Prop) : Nat → List Oper → Prop
  | _, [] => True
  | k, o :: l => S k o ∧ Each S (k + 1) l
theorem Each.at {S : Nat → Oper → Prop} : ∀ {l : List Oper} {k : Nat}, Each S k l → ∀ i o, l[i]? = some o → S (k + i) o
  | [], _, _, _, _, h => by simp at h
  | o' :: l, k, h, 0, o, ho => by
    simp at ho
    subst ho
    exact h.1
  | o' :: l, k, h, i + 1, o, ho => by
    have := Each.at h.2 i o (by simpa using ho)
    rwa [show k + 1 + i = k + (i + 1) by omega] at this

/-- each waits for earlier ones alone -/
def rises (l : List Oper) : Bool := l.zipIdx.all fun p => (deps p.1).all fun j => decide (j < p.2)

/-- nothing is ready: all are through -/
theorem full_of_none {l : List Oper} (hr : rises l = true) {arr : Array Bool} (hs : arr.size = l.length) (h : Region.ready .any l.toArray arr = []) : ∀ i, i < l.length → arr.getD i false = true := by
  intro i
  induction i using Nat.strongRecOn with
  | _ i ih =>
    intro hi
    cases hb : arr.getD i false with
    | true => rfl
    | false =>
      exfalso
      have hm : i ∈ Region.ready .any l.toArray arr := by
        refine mem_ready.2 ⟨?_, l[i], by simp [hi], fun e he hbd => ?_⟩
        · rw [Array.getD_eq_getD_getElem?, Array.getElem?_eq_getElem (by omega)] at hb ⊢
          simpa using hb
        · have hz : (l[i], i) ∈ l.zipIdx := by
            rw [List.mem_zipIdx_iff_getElem?]
            simp [hi]
          have h1 := List.all_eq_true.1 hr _ hz
          have h2 := List.all_eq_true.1 h1 e.on (List.mem_map.2 ⟨e, List.mem_filter.2 ⟨by simpa using he, hbd⟩, rfl⟩)
          have h3 : e.on < i := by simpa using h2
          exact ih e.on h3 (by omega)
      rw [h] at hm
      cases hm

theorem region {l : List Oper} {rid : Nat} {a : Act} {w : World} (Inv : (Nat → Bool) → Act → World → Prop) (hm : P.follows .mixedOrders = true) (hg : (l.all fun o => o.guard.isNone) = true) (hr : rises l = true)
    (h0 : Inv (fun _ => false) a { w with drawn := w.drawn + 1 })
    (hs : Each (fun i o => ∀ (D : Nat → Bool) (a : Act) (w : World), D i = false → (∀ j ∈ deps o, D j = true) → (∀ (j : Nat) (o' : Oper), l[j]? = some o' → D j = true → ∀ k ∈ deps o', D k = true) → Inv D a w → wpListIn F n P l.toArray (late Q fun a' w' => Inv (fun j => j == i || D j) a' w') [o] a w) 0 l)
    (he : ∀ (D : Nat → Bool) (a : Act) (w : World), (∀ i, i < l.length → D i = true) → Inv D a w → Q .normal a w) :
    (Code.region rid l.toArray true).wpIn F n P Q a w := by
  refine wpIn_region_any hm ?_
  have main : ∀ (fuel : Nat) (arr : Array Bool) (a : Act) (w : World), arr.size = l.length → (arr.toList.filter (fun x => !x)).length = fuel → (∀ (j : Nat) (o' : Oper), l[j]? = some o' → arr.getD j false = true → ∀ k ∈ deps o', arr.getD k false = true) → Inv (fun j => arr.getD j false) a w → wpAnyIn F n P .any l.toArray Q fuel arr a w := by
    intro fuel
    induction fuel with
    | zero =>
      intro arr a w hsz hf hdn hI
      have hall : ∀ i, i < l.length → arr.getD i false = true := fun i hi => by
        have hlt : i < arr.size := by omega
        rw [Array.getD_eq_getD_getElem?, Array.getElem?_eq_getElem hlt]
        cases hx : arr[i] with
        | true => rfl
        | false =>
          have : (false : Bool) ∈ arr.toList.filter (fun x => !x) := List.mem_filter.2 ⟨by rw [← hx]; simp, rfl⟩
          rw [List.eq_nil_of_length_eq_zero hf] at this
          cases this
      refine ⟨?_, he _ a w hall hI⟩
      cases hq : Region.ready .any l.toArray arr with
      | nil => rfl
      | cons i r =>
        have hm : i ∈ Region.ready .any l.toArray arr := by rw [hq]; exact List.mem_cons_self
        obtain ⟨h1, o, ho, _⟩ := mem_ready.1 hm
        have hi : i < l.length := by simpa using (Array.getElem?_eq_some_iff.1 ho).1
        have h2 := hall i hi
        rw [Array.getD_eq_getD_getElem?, Array.getElem?_eq_getElem (by omega)] at h1 h2
        simp at h1 h2
        rw [h1] at h2; cases h2
    | succ fuel ih =>
      intro arr a w hsz hf hdn hI
      refine ⟨fun h => he _ a w (full_of_none hr hsz h) hI, fun i hi => ?_⟩
      obtain ⟨h1, o, ho, h2⟩ := mem_ready.1 hi
      have hil : i < l.length := by simpa using (Array.getElem?_eq_some_iff.1 ho).1
      have ho' : l[i]? = some o := by simpa using ho
      have hgo : o.guard = none := by
        have := List.all_eq_true.1 hg o (List.mem_of_getElem? ho')
        simpa using this
      have hfalse : arr.getD i false = false := by
        rw [Array.getD_eq_getD_getElem?, Array.getElem?_eq_getElem (by omega)] at h1 ⊢
        simpa using h1
      have hstep := Each.at hs i o ho'
      rw [Nat.zero_add] at hstep
      have hst := hstep (fun j => arr.getD j false) a w hfalse (fun j hj => by
        obtain ⟨e, he, rfl⟩ := List.mem_map.1 hj
        obtain ⟨he1, he2⟩ := List.mem_filter.1 he
        exact h2 e (by simpa using he1) he2) hdn hI
      have hwant : Region.wanted o (yielded l.toArray a.tmps) = true := by unfold Region.wanted; rw [hgo]
      unfold wpOpIn
      simp only [ho]
      rw [if_pos hwant]
      simp only [wpListIn] at hst
      rw [if_pos hwant] at hst
      refine Oper.wpIn_mono (fun a' w' hK => ?_) (late_wpIn hst)
      have hK : Inv (fun j => j == i || arr.getD j false) a' w' := hK
      have e1 : (fun j => (arr.setIfInBounds i true).getD j false) = (fun j => j == i || arr.getD j false) := by
        funext j
        by_cases hj : j = i
        · subst hj
          simp [Array.getD_eq_getD_getElem?, hsz, hil]
        · have : ¬ i = j := fun e => hj e.symm
          simp [Array.getD_eq_getD_getElem?, hj, Array.getElem?_setIfInBounds, this]
      refine ih (arr.setIfInBounds i true) a' w' (by simpa using hsz) ?_ ?_ (by rw [e1]; exact hK)
      rotate_left
      · intro j o' hj hD k hk
        have e2 := congrFun e1 j
        have e3 := congrFun e1 k
        rw [e2] at hD
        rw [e3]
        by_cases hji : j = i
        · subst hji
          rw [ho'] at hj
          cases hj
          have : arr.getD k false = true := by
            obtain ⟨e, he, rfl⟩ := List.mem_map.1 hk
            obtain ⟨he1, he2⟩ := List.mem_filter.1 he
            exact h2 e (by simpa using he1) he2
          simp [this]
        · have : arr.getD j false = true := by simpa [hji] using hD
          simp [hdn j o' hj this k hk]
      have key : ∀ (b : List Bool) (k : Nat) (hk : k < b.length), b[k] = false → ((b.set k true).filter (fun x => !x)).length + 1 = (b.filter (fun x => !x)).length := by
        intro b
        induction b with
        | nil => intro k hk; simp at hk
        | cons x b ihb =>
          intro k hk hx
          cases k with
          | zero => simp at hx; subst hx; simp
          | succ k =>
            have := ihb k (by simpa using hk) (by simpa using hx)
            cases x <;> simp at this ⊢ <;> omega
      have hk2 : i < arr.toList.length := by simpa using (by omega : i < arr.size)
      have := key arr.toList i hk2 (by
        rw [Array.getD_eq_getD_getElem?, Array.getElem?_eq_getElem (by omega)] at hfalse
        simpa using hfalse)
      rw [Array.toList_setIfInBounds]
      omega
  refine main _ _ a _ (by simp) (by simp) (fun j o' _ h => ?_) ?_
  · exfalso
    rw [Array.getD_eq_getD_getElem?, Array.getElem?_replicate] at h
    split at h <;> simp at h
  have e : (fun j => (Array.replicate l.toArray.size false).getD j false) = (fun _ => false) := by
    funext j
    simp [Array.getD_eq_getD_getElem?, Array.getElem?_replicate]
    split <;> rfl
  rw [e]
  exact h0
end Go.RegInv

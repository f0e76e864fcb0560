/-
  These texts, one behind the other: PReachB, PAtB, PSizeB.
-/
import Derived.Test.YtompifmfgjenlaaGreatPoQl
import Derived.Test.YtompifmfgjenlaaGreatPShelf
import Derived.Deep.LoopGhost
/-
  From which piece up to which one a range is met: reach, meeting.
-/
namespace Go.Proofs.YtompifmfgjenlaaGreat.VB
open Go.RowKit Go.PlainAid Go.Lib Go.PRow Go.Shelf

theorem range_count (ps : List (Pc Bool)) (f : Nat → Bool) (g : Pc Bool → Bool) (h : ∀ i p, ps[i]? = some p → f i = g p) : (List.range ps.length).countP f = ps.countP g := by
  induction ps generalizing f with
  | nil => rfl
  | cons p ps ih =>
    rw [List.length_cons, List.range_succ_eq_map, List.countP_cons, List.countP_cons, h 0 p rfl, List.countP_map]
    rw [ih (f ∘ Nat.succ) (fun i q hq => h (i + 1) q (by simpa using hq))]

theorem okP_hi {ps : List (Pc Bool)} (o : OkP ps) {i j : Nat} {p q : Pc Bool} (hp : ps[i]? = some p) (hq : ps[j]? = some q) (h : i ≤ j) : p.hi ≤ q.hi ∧ p.lo ≤ q.lo := by
  rcases Nat.lt_or_ge i j with h | h
  · obtain ⟨h1, e1⟩ := List.getElem?_eq_some_iff.1 hp
    obtain ⟨h2, e2⟩ := List.getElem?_eq_some_iff.1 hq
    have := List.pairwise_iff_getElem.1 o.1 i j h1 h2 h
    rw [e1, e2] at this
    have a := o.2 p (by rw [← e1]; exact List.getElem_mem _)
    have b := o.2 q (by rw [← e2]; exact List.getElem_mem _)
    omega
  · have : i = j := by omega
    subst this
    rw [hp] at hq
    cases hq
    exact ⟨Int.le_refl _, Int.le_refl _⟩

set_option maxHeartbeats 2000000 in
theorem reach1 (bp br g n cap : Nat) (x : Int) (lo : Int) (i : Nat) (W : World) (hi1 : i < n)
    (ha : W.cell? ⟨bp, 0, none⟩ = some (.slice (some ⟨g, 0, none⟩) n cap)) (hx : W.cell? ⟨br, 0, none⟩ = some (.int .i32 lo)) (hc : W.cell? ⟨g, i * 3 + 1, none⟩ = some (.int .i32 x)) :
    Calls Tryz.prog 124 (#[.int .i64 i] ++ #[.pointer (some ⟨bp, 0, none⟩), .pointer (some ⟨br, 0, none⟩)]) W fun e w' => e = .returned (.bool (decide (lo ≤ x))) ∧ ∃ q, w' = W.drewN q := by
  have hiz : (i : Int) < (n : Int) := by omega
  go_enter Tryz.func124, Tryz.ntmps124
  go_wp2
  go_quiet (fail)
  all_goals go_wp2
  all_goals go_ret
  all_goals exact ⟨by first | rfl | simp, _, rfl⟩
set_option maxHeartbeats 2000000 in
theorem reach2 (bp br g n cap : Nat) (x : Int) (hi : Int) (i : Nat) (W : World) (hi1 : i < n)
    (ha : W.cell? ⟨bp, 0, none⟩ = some (.slice (some ⟨g, 0, none⟩) n cap)) (hx : W.cell? ⟨br, 1, none⟩ = some (.int .i32 hi)) (hc : W.cell? ⟨g, i * 3, none⟩ = some (.int .i32 x)) :
    Calls Tryz.prog 125 (#[.int .i64 i] ++ #[.pointer (some ⟨bp, 0, none⟩), .pointer (some ⟨br, 0, none⟩)]) W fun e w' => e = .returned (.bool (decide (hi < x))) ∧ ∃ q, w' = W.drewN q := by
  have hiz : (i : Int) < (n : Int) := by omega
  go_enter Tryz.func125, Tryz.ntmps125
  go_wp2
  go_quiet (fail)
  all_goals go_wp2
  all_goals go_ret
  all_goals exact ⟨by first | rfl | simp, _, rfl⟩

/-- sort.Search over pieces that rise: f: what is asked of a piece -/
theorem search_ps (f : Nat) (eg : ∀ args w, (callFunc f args).run Tryz.prog w = .ok (.enter f args) w) (ps : List (Pc Bool)) (hl : ps.length < 4611686018427387904) (q : Pc Bool → Bool) (hq : ∀ (i j : Nat) (p r : Pc Bool), i ≤ j → ps[i]? = some p → ps[j]? = some r → q p = true → q r = true)
    (cb : Array Value) (W : World)
    (hf : ∀ (i : Nat) (p : Pc Bool) (V : World), ps[i]? = some p → Below W.heap.size W V → Calls Tryz.prog f (#[.int .i64 i] ++ cb) V fun e w' => e = .returned (.bool (q p)) ∧ ∃ k, w' = V.drewN k) :
    Calls Tryz.prog 104 #[.int .i64 ps.length, .func (.func f) #[] cb] W fun e w' => e = .returned (.int .i64 (ps.countP (fun p => !q p) : Nat)) ∧ Below W.heap.size W w' := by
  have h := Any.sort_Search Tryz.laysSearch f cb ps.length (fun i => match ps[i]? with | some p => q p | none => true) W eg hl
    (fun m os i hi => by
      have e : ps[i]? = some ps[i] := List.getElem?_eq_getElem hi
      rw [e]
      exact (hf i ps[i] _ e (below_grown_sl _ W m os (Nat.le_refl _))).mono fun _ _ ⟨he, k, hk⟩ => ⟨he, k, #[], by rw [hk, Go.Sort.grow_empty]⟩)
    (fun a b hab hb hp => by
      have e1 : ps[a]? = some ps[a] := List.getElem?_eq_getElem (by omega)
      have e2 : ps[b]? = some ps[b] := List.getElem?_eq_getElem hb
      simp only [e1] at hp
      simp only [e2]
      exact hq a b _ _ hab e1 e2 hp)
  refine h.mono ?_
  rintro e w' ⟨rfl, k, os, rfl⟩
  refine ⟨?_, below_grown_sl _ W k os (Nat.le_refl _)⟩
  rw [range_count ps _ (fun p => !q p) (fun i p hp => by simp only [hp])]

theorem okP_len {ps : List (Pc Bool)} (o : OkP ps) : ps.length ≤ 1114112 := by
  have key : ∀ (ps : List (Pc Bool)) (a : Int), OkP ps → (∀ p ∈ ps, a ≤ p.lo) → a ≤ 1114112 → (ps.length : Int) ≤ 1114112 - a := by
    intro ps
    induction ps with
    | nil => intro a _ _ h; simp; omega
    | cons p ps ih =>
      intro a o h ha
      have k := o.head
      have := ih (p.hi + 1) o.tail (fun q hq => by have := o.next q hq; omega) (by omega)
      have := h p List.mem_cons_self
      simp only [List.length_cons]
      omega
  have := key ps 0 o (fun p hp => (o.2 p hp).1) (by omega)
  omega

set_option maxHeartbeats 2000000 in
theorem reach_any (B : Nat) (v : Value) (ps : List (Pc Bool)) (o : OkP ps) (lo hi : Int) (w : World) (hr : RowP w B v ps) :
    Calls Tryz.prog 102 #[v, .agg #[.int .i32 lo, .int .i32 hi]] w fun e w' => e = .returned (.tuple #[.int .i64 (frI ps lo), .int .i64 (upI ps hi)]) ∧ Below w.heap.size w w' := by
  have hlen := okP_len o
  obtain ⟨W0, hW0⟩ : ∃ W0, W0 = (w.alloc (.cells #[v] 111)).alloc (.cells #[.int .i32 lo, .int .i32 hi] 41) := ⟨_, rfl⟩
  have hsz : W0.heap.size = w.heap.size + 1 + 1 := by rw [hW0]; simp
  have hB0 : Below w.heap.size w W0 := by rw [hW0]; exact ((Below.refl _ w).alloc (Nat.le_refl _) _).alloc (by simp) _
  obtain ⟨a, cap, rfl, hc1, hc2, hn, hg⟩ := hr.form
  have ca : W0.cell? ⟨w.heap.size, 0, none⟩ = some (.slice a ps.length cap) := by rw [hW0]; exact cell_alloc_sl _ (cell_new_sl w _ _)
  have cr : ∀ k, k < 2 → W0.cell? ⟨w.heap.size + 1, k, none⟩ = (#[.int .i32 lo, .int .i32 hi] : Array Value)[k]? := fun k hk => by
    rw [hW0, World.cell?_alloc_at _ _ _ _ (by simp)]
  have cr0 := cr 0 (by omega)
  have cr1 := cr 1 (by omega)
  have key : ∀ (V : World) (i : Nat) (p : Pc Bool), Below W0.heap.size W0 V → ps[i]? = some p → ∃ g, a = some ⟨g, 0, none⟩ ∧ V.cell? ⟨g, i * 3, none⟩ = some (.int .i32 p.lo) ∧ V.cell? ⟨g, i * 3 + 1, none⟩ = some (.int .i32 p.hi) := by
    intro V i p hV hp
    obtain ⟨g, rfl, _, _, hgl, hcell⟩ := hg (by intro e; subst e; simp at hp)
    obtain ⟨c1, c2, _⟩ := hcell i p hp
    refine ⟨g, rfl, ?_, ?_⟩
    · rw [hV.cell (by show g < W0.heap.size; omega), hB0.cell (by show g < w.heap.size; omega)]; exact c1
    · rw [hV.cell (by show g < W0.heap.size; omega), hB0.cell (by show g < w.heap.size; omega)]; exact c2
  have S1 : ∀ V, Below W0.heap.size W0 V → Calls Tryz.prog 104 #[.int .i64 ps.length, .func (.func 124) #[] #[.pointer (some ⟨w.heap.size, 0, none⟩), .pointer (some ⟨w.heap.size + 1, 0, none⟩)]] V fun e w' => e = .returned (.int .i64 (frI ps lo)) ∧ Below V.heap.size V w' := by
    intro V hV
    refine (search_ps 124 (enters_of Tryz.func124 (by kernel_rfl) rfl) ps (by omega) (fun p => decide (lo ≤ p.hi)) (fun i j p r hij hp hr h => by have := okP_hi o hp hr hij; simp at h ⊢; omega) _ V ?_).mono ?_
    · intro i p U hp hU
      have hU' : Below W0.heap.size W0 U := hV.trans (hU.mono hV.size)
      obtain ⟨g, rfl, _, c2⟩ := key U i p hU' hp
      exact reach1 _ _ g ps.length cap p.hi lo i U (List.getElem?_eq_some_iff.1 hp).1 ((hU'.cell (by show w.heap.size < W0.heap.size; omega)).trans ca) ((hU'.cell (by show w.heap.size + 1 < W0.heap.size; omega)).trans cr0) c2
    · rintro e w' ⟨rfl, h⟩
      refine ⟨?_, h⟩
      have : (fun p : Pc Bool => !decide (lo ≤ p.hi)) = fun p => decide (p.hi < lo) := by
        funext p
        by_cases h : lo ≤ p.hi
        · simp [h]
        · simp [h]; omega
      rw [this]
      rfl
  have S2 : ∀ V, Below W0.heap.size W0 V → Calls Tryz.prog 104 #[.int .i64 ps.length, .func (.func 125) #[] #[.pointer (some ⟨w.heap.size, 0, none⟩), .pointer (some ⟨w.heap.size + 1, 0, none⟩)]] V fun e w' => e = .returned (.int .i64 (upI ps hi)) ∧ Below V.heap.size V w' := by
    intro V hV
    refine (search_ps 125 (enters_of Tryz.func125 (by kernel_rfl) rfl) ps (by omega) (fun p => decide (hi < p.lo)) (fun i j p r hij hp hr h => by have := okP_hi o hp hr hij; simp at h ⊢; omega) _ V ?_).mono ?_
    · intro i p U hp hU
      have hU' : Below W0.heap.size W0 U := hV.trans (hU.mono hV.size)
      obtain ⟨g, rfl, c2, _⟩ := key U i p hU' hp
      exact reach2 _ _ g ps.length cap p.lo hi i U (List.getElem?_eq_some_iff.1 hp).1 ((hU'.cell (by show w.heap.size < W0.heap.size; omega)).trans ca) ((hU'.cell (by show w.heap.size + 1 < W0.heap.size; omega)).trans cr1) c2
    · rintro e w' ⟨rfl, h⟩
      refine ⟨?_, h⟩
      have : (fun p : Pc Bool => !decide (hi < p.lo)) = fun p => decide (p.lo ≤ hi) := by
        funext p
        by_cases h : hi < p.lo
        · simp [h]
        · simp [h]; omega
      rw [this]
      rfl
  have H1 := hide S1
  have H2 := hide S2
  have CA := hide (fun V (hV : Below W0.heap.size W0 V) => (hV.cell (p := ⟨w.heap.size, 0, none⟩) (by show w.heap.size < W0.heap.size; omega)).trans ca)
  clear S1 S2 key cr cr1 cr0 ca hg hn hr
  generalize frI ps lo = F at *
  generalize upI ps hi = U at *
  go_enter Tryz.func102, Tryz.ntmps102
  have hmf : ∀ (fn : Fn) (first cap : Array Value) (w : World), (Instr.makeFunc fn first cap).run Tryz.prog w = .ok (.func fn first cap) w := fun _ _ _ _ => rfl
  go_wp2_with fail
  rw [← hW0]
  refine (unhide H1 _ (Below.refl _ _)).mono ?_
  rintro e w1 ⟨rfl, hb1⟩
  have c1 := unhide CA _ hb1
  go_wp2_with fail
  refine (unhide H2 _ hb1).mono ?_
  rintro e w2 ⟨rfl, hb2⟩
  go_wp2
  go_ret2
  exact ⟨rfl, hB0.trans ((hb1.trans (hb2.mono hb1.size)).mono (by omega))⟩

/-- the slice of the pieces that meet a range -/
def midV (v : Value) (f u : Nat) : Value := match v with
  | .slice a _ cap => if cap = f then .slice a (u - f) 0 else .slice (a.map fun x => x.add (f * 3)) (u - f) (cap - f)
  | x => x

end Go.Proofs.YtompifmfgjenlaaGreat.VB
/-
  At and Size of a map.
-/
namespace Go.Proofs.YtompifmfgjenlaaGreat.VB
open Go.RowKit Go.PlainAid Go.Lib Go.PRow Go.Shelf
set_option linter.unusedVariables false
set_option linter.unusedSimpArgs false

/-- what At answers -/
def atV (q : Option Bool) : Value := match q with | some v => .tuple #[Value.bool v, .bool true] | none => .tuple #[Value.bool false, .bool false]

end Go.Proofs.YtompifmfgjenlaaGreat.VB
/-
  size, and Size of a map.
-/
namespace Go.Proofs.YtompifmfgjenlaaGreat.VB
open Go.RowKit Go.PlainAid Go.Lib Go.PRow Go.Shelf
set_option linter.unusedVariables false
set_option linter.unusedSimpArgs false

theorem sizeP_bound {ps : List (Pc Bool)} (o : OkP ps) : 0 ≤ sizeP ps ∧ sizeP ps ≤ 1114112 := by
  have key : ∀ (ps : List (Pc Bool)) (a : Int), OkP ps → (∀ p ∈ ps, a ≤ p.lo) → a ≤ 1114112 → 0 ≤ sizeP ps ∧ sizeP ps ≤ 1114112 - a := by
    intro ps
    induction ps with
    | nil => intro a _ _ h; simp [sizeP]; omega
    | cons p ps ih =>
      intro a o h ha
      have k := o.head
      have := ih (p.hi + 1) o.tail (fun q hq => by have := o.next q hq; omega) (by omega)
      have := h p List.mem_cons_self
      simp only [sizeP]
      omega
  have := key ps 0 o (fun p hp => (o.2 p hp).1) (by omega)
  omega
theorem okP_take {ps : List (Pc Bool)} (o : OkP ps) (i : Nat) : OkP (ps.take i) := ⟨o.1.sublist (List.take_sublist _ _), fun p hp => o.2 p (List.mem_of_mem_take hp)⟩
theorem sizeP_take (ps : List (Pc Bool)) (i : Nat) (p : Pc Bool) (h : ps[i]? = some p) : sizeP (ps.take (i + 1)) = sizeP (ps.take i) + (p.hi - p.lo + 1) := by
  rw [List.take_add_one, h]
  simp [sizeP_append, sizeP]

end Go.Proofs.YtompifmfgjenlaaGreat.VB

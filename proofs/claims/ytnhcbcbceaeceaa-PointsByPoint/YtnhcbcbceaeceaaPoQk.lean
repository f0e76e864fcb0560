/-
  These texts, one behind the other: PReachI, PAtI, PSizeI.
-/
import Derived.Test.YtnhcbcbceaeceaaPoQh
import Derived.Test.YtnhcbcbceaeceaaPShelf
import Derived.Deep.LoopGhost
/-
  From which piece up to which one a range is met: reach, meeting.
-/
namespace Go.Proofs.Ytnhcbcbceaeceaa.VI
open Go.RowKit Go.PlainAid Go.Lib Go.PRow Go.Shelf

theorem range_count (ps : List (Pc Int)) (f : Nat → Bool) (g : Pc Int → Bool) (h : ∀ i p, ps[i]? = some p → f i = g p) : (List.range ps.length).countP f = ps.countP g := by
  induction ps generalizing f with
  | nil => rfl
  | cons p ps ih =>
    rw [List.length_cons, List.range_succ_eq_map, List.countP_cons, List.countP_cons, h 0 p rfl, List.countP_map]
    rw [ih (f ∘ Nat.succ) (fun i q hq => h (i + 1) q (by simpa using hq))]

theorem okP_hi {ps : List (Pc Int)} (o : OkP ps) {i j : Nat} {p q : Pc Int} (hp : ps[i]? = some p) (hq : ps[j]? = some q) (h : i ≤ j) : p.hi ≤ q.hi ∧ p.lo ≤ q.lo := by
  rcases Nat.lt_or_ge i j with h | h
  · obtain ⟨h1, e1⟩ := List.getElem?_eq_some_iff.1 hp
    obtain ⟨h2, e2⟩ := List.getElem?_eq_some_iff.1 hq
    have := List.pairwise_iff_getElem.1 o.1 i j h1 h2 h
    rw [e1, e2] at this
    have a := o.2 p (by rw [← e1]; exact List.getElem_mem _)
    have b := o.2 q (by rw [← e2]; exact List.getElem_mem _)
    omega
  · have : i = j := by omega
    subst this
    rw [hp] at hq
    cases hq
    exact ⟨Int.le_refl _, Int.le_refl _⟩

set_option maxHeartbeats 2000000 in
theorem reach1 (bp br g n cap : Nat) (x : Int) (lo : Int) (i : Nat) (W : World) (hi1 : i < n)
    (ha : W.cell? ⟨bp, 0, none⟩ = some (.slice (some ⟨g, 0, none⟩) n cap)) (hx : W.cell? ⟨br, 0, none⟩ = some (.int .i32 lo)) (hc : W.cell? ⟨g, i * 3 + 1, none⟩ = some (.int .i32 x)) :
    Calls Try.prog 56 (#[.int .i64 i] ++ #[.pointer (some ⟨bp, 0, none⟩), .pointer (some ⟨br, 0, none⟩)]) W fun e w' => e = .returned (.bool (decide (lo ≤ x))) ∧ ∃ q, w' = W.drewN q := by
  have hiz : (i : Int) < (n : Int) := by omega
  go_enter Try.func56, Try.ntmps56
  go_wp2
  go_quiet (fail)
  all_goals go_wp2
  all_goals go_ret
  all_goals exact ⟨by first | rfl | simp, _, rfl⟩
set_option maxHeartbeats 2000000 in
theorem reach2 (bp br g n cap : Nat) (x : Int) (hi : Int) (i : Nat) (W : World) (hi1 : i < n)
    (ha : W.cell? ⟨bp, 0, none⟩ = some (.slice (some ⟨g, 0, none⟩) n cap)) (hx : W.cell? ⟨br, 1, none⟩ = some (.int .i32 hi)) (hc : W.cell? ⟨g, i * 3, none⟩ = some (.int .i32 x)) :
    Calls Try.prog 57 (#[.int .i64 i] ++ #[.pointer (some ⟨bp, 0, none⟩), .pointer (some ⟨br, 0, none⟩)]) W fun e w' => e = .returned (.bool (decide (hi < x))) ∧ ∃ q, w' = W.drewN q := by
  have hiz : (i : Int) < (n : Int) := by omega
  go_enter Try.func57, Try.ntmps57
  go_wp2
  go_quiet (fail)
  all_goals go_wp2
  all_goals go_ret
  all_goals exact ⟨by first | rfl | simp, _, rfl⟩

/-- sort.Search over pieces that rise: f: what is asked of a piece -/
theorem search_ps (f : Nat) (eg : ∀ args w, (callFunc f args).run Try.prog w = .ok (.enter f args) w) (ps : List (Pc Int)) (hl : ps.length < 4611686018427387904) (q : Pc Int → Bool) (hq : ∀ (i j : Nat) (p r : Pc Int), i ≤ j → ps[i]? = some p → ps[j]? = some r → q p = true → q r = true)
    (cb : Array Value) (W : World)
    (hf : ∀ (i : Nat) (p : Pc Int) (V : World), ps[i]? = some p → Below W.heap.size W V → Calls Try.prog f (#[.int .i64 i] ++ cb) V fun e w' => e = .returned (.bool (q p)) ∧ ∃ k, w' = V.drewN k) :
    Calls Try.prog 55 #[.int .i64 ps.length, .func (.func f) #[] cb] W fun e w' => e = .returned (.int .i64 (ps.countP (fun p => !q p) : Nat)) ∧ Below W.heap.size W w' := by
  have h := Any.sort_Search Try.laysSearch f cb ps.length (fun i => match ps[i]? with | some p => q p | none => true) W eg hl
    (fun m os i hi => by
      have e : ps[i]? = some ps[i] := List.getElem?_eq_getElem hi
      rw [e]
      exact (hf i ps[i] _ e (below_grown_sl _ W m os (Nat.le_refl _))).mono fun _ _ ⟨he, k, hk⟩ => ⟨he, k, #[], by rw [hk, Go.Sort.grow_empty]⟩)
    (fun a b hab hb hp => by
      have e1 : ps[a]? = some ps[a] := List.getElem?_eq_getElem (by omega)
      have e2 : ps[b]? = some ps[b] := List.getElem?_eq_getElem hb
      simp only [e1] at hp
      simp only [e2]
      exact hq a b _ _ hab e1 e2 hp)
  refine h.mono ?_
  rintro e w' ⟨rfl, k, os, rfl⟩
  refine ⟨?_, below_grown_sl _ W k os (Nat.le_refl _)⟩
  rw [range_count ps _ (fun p => !q p) (fun i p hp => by simp only [hp])]

theorem okP_len {ps : List (Pc Int)} (o : OkP ps) : ps.length ≤ 1114112 := by
  have key : ∀ (ps : List (Pc Int)) (a : Int), OkP ps → (∀ p ∈ ps, a ≤ p.lo) → a ≤ 1114112 → (ps.length : Int) ≤ 1114112 - a := by
    intro ps
    induction ps with
    | nil => intro a _ _ h; simp; omega
    | cons p ps ih =>
      intro a o h ha
      have k := o.head
      have := ih (p.hi + 1) o.tail (fun q hq => by have := o.next q hq; omega) (by omega)
      have := h p List.mem_cons_self
      simp only [List.length_cons]
      omega
  have := key ps 0 o (fun p hp => (o.2 p hp).1) (by omega)
  omega

set_option maxHeartbeats 2000000 in
theorem reach_any (B : Nat) (v : Value) (ps : List (Pc Int)) (o : OkP ps) (lo hi : Int) (w : World) (hr : RowP w B v ps) :
    Calls Try.prog 42 #[v, .agg #[.int .i32 lo, .int .i32 hi]] w fun e w' => e = .returned (.tuple #[.int .i64 (frI ps lo), .int .i64 (upI ps hi)]) ∧ Below w.heap.size w w' := by
  have hlen := okP_len o
  obtain ⟨W0, hW0⟩ : ∃ W0, W0 = (w.alloc (.cells #[v] 54)).alloc (.cells #[.int .i32 lo, .int .i32 hi] 28) := ⟨_, rfl⟩
  have hsz : W0.heap.size = w.heap.size + 1 + 1 := by rw [hW0]; simp
  have hB0 : Below w.heap.size w W0 := by rw [hW0]; exact ((Below.refl _ w).alloc (Nat.le_refl _) _).alloc (by simp) _
  obtain ⟨a, cap, rfl, hc1, hc2, hn, hg⟩ := hr.form
  have ca : W0.cell? ⟨w.heap.size, 0, none⟩ = some (.slice a ps.length cap) := by rw [hW0]; exact cell_alloc_sl _ (cell_new_sl w _ _)
  have cr : ∀ k, k < 2 → W0.cell? ⟨w.heap.size + 1, k, none⟩ = (#[.int .i32 lo, .int .i32 hi] : Array Value)[k]? := fun k hk => by
    rw [hW0, World.cell?_alloc_at _ _ _ _ (by simp)]
  have cr0 := cr 0 (by omega)
  have cr1 := cr 1 (by omega)
  have key : ∀ (V : World) (i : Nat) (p : Pc Int), Below W0.heap.size W0 V → ps[i]? = some p → ∃ g, a = some ⟨g, 0, none⟩ ∧ V.cell? ⟨g, i * 3, none⟩ = some (.int .i32 p.lo) ∧ V.cell? ⟨g, i * 3 + 1, none⟩ = some (.int .i32 p.hi) := by
    intro V i p hV hp
    obtain ⟨g, rfl, _, _, hgl, hcell⟩ := hg (by intro e; subst e; simp at hp)
    obtain ⟨c1, c2, _⟩ := hcell i p hp
    refine ⟨g, rfl, ?_, ?_⟩
    · rw [hV.cell (by show g < W0.heap.size; omega), hB0.cell (by show g < w.heap.size; omega)]; exact c1
    · rw [hV.cell (by show g < W0.heap.size; omega), hB0.cell (by show g < w.heap.size; omega)]; exact c2
  have S1 : ∀ V, Below W0.heap.size W0 V → Calls Try.prog 55 #[.int .i64 ps.length, .func (.func 56) #[] #[.pointer (some ⟨w.heap.size, 0, none⟩), .pointer (some ⟨w.heap.size + 1, 0, none⟩)]] V fun e w' => e = .returned (.int .i64 (frI ps lo)) ∧ Below V.heap.size V w' := by
    intro V hV
    refine (search_ps 56 (enters_of Try.func56 (by kernel_rfl) rfl) ps (by omega) (fun p => decide (lo ≤ p.hi)) (fun i j p r hij hp hr h => by have := okP_hi o hp hr hij; simp at h ⊢; omega) _ V ?_).mono ?_
    · intro i p U hp hU
      have hU' : Below W0.heap.size W0 U := hV.trans (hU.mono hV.size)
      obtain ⟨g, rfl, _, c2⟩ := key U i p hU' hp
      exact reach1 _ _ g ps.length cap p.hi lo i U (List.getElem?_eq_some_iff.1 hp).1 ((hU'.cell (by show w.heap.size < W0.heap.size; omega)).trans ca) ((hU'.cell (by show w.heap.size + 1 < W0.heap.size; omega)).trans cr0) c2
    · rintro e w' ⟨rfl, h⟩
      refine ⟨?_, h⟩
      have : (fun p : Pc Int => !decide (lo ≤ p.hi)) = fun p => decide (p.hi < lo) := by
        funext p
        by_cases h : lo ≤ p.hi
        · simp [h]
        · simp [h]; omega
      rw [this]
      rfl
  have S2 : ∀ V, Below W0.heap.size W0 V → Calls Try.prog 55 #[.int .i64 ps.length, .func (.func 57) #[] #[.pointer (some ⟨w.heap.size, 0, none⟩), .pointer (some ⟨w.heap.size + 1, 0, none⟩)]] V fun e w' => e = .returned (.int .i64 (upI ps hi)) ∧ Below V.heap.size V w' := by
    intro V hV
    refine (search_ps 57 (enters_of Try.func57 (by kernel_rfl) rfl) ps (by omega) (fun p => decide (hi < p.lo)) (fun i j p r hij hp hr h => by have := okP_hi o hp hr hij; simp at h ⊢; omega) _ V ?_).mono ?_
    · intro i p U hp hU
      have hU' : Below W0.heap.size W0 U := hV.trans (hU.mono hV.size)
      obtain ⟨g, rfl, c2, _⟩ := key U i p hU' hp
      exact reach2 _ _ g ps.length cap p.lo hi i U (List.getElem?_eq_some_iff.1 hp).1 ((hU'.cell (by show w.heap.size < W0.heap.size; omega)).trans ca) ((hU'.cell (by show w.heap.size + 1 < W0.heap.size; omega)).trans cr1) c2
    · rintro e w' ⟨rfl, h⟩
      refine ⟨?_, h⟩
      have : (fun p : Pc Int => !decide (hi < p.lo)) = fun p => decide (p.lo ≤ hi) := by
        funext p
        by_cases h : hi < p.lo
        · simp [h]
        · simp [h]; omega
      rw [this]
      rfl
  have H1 := hide S1
  have H2 := hide S2
  have CA := hide (fun V (hV : Below W0.heap.size W0 V) => (hV.cell (p := ⟨w.heap.size, 0, none⟩) (by show w.heap.size < W0.heap.size; omega)).trans ca)
  clear S1 S2 key cr cr1 cr0 ca hg hn hr
  generalize frI ps lo = F at *
  generalize upI ps hi = U at *
  go_enter Try.func42, Try.ntmps42
  have hmf : ∀ (fn : Fn) (first cap : Array Value) (w : World), (Instr.makeFunc fn first cap).run Try.prog w = .ok (.func fn first cap) w := fun _ _ _ _ => rfl
  go_wp2_with fail
  rw [← hW0]
  refine (unhide H1 _ (Below.refl _ _)).mono ?_
  rintro e w1 ⟨rfl, hb1⟩
  have c1 := unhide CA _ hb1
  go_wp2_with fail
  refine (unhide H2 _ hb1).mono ?_
  rintro e w2 ⟨rfl, hb2⟩
  go_wp2
  go_ret2
  exact ⟨rfl, hB0.trans ((hb1.trans (hb2.mono hb1.size)).mono (by omega))⟩

/-- the slice of the pieces that meet a range -/
def midV (v : Value) (f u : Nat) : Value := match v with
  | .slice a _ cap => if cap = f then .slice a (u - f) 0 else .slice (a.map fun x => x.add (f * 3)) (u - f) (cap - f)
  | x => x

set_option maxHeartbeats 2000000 in
theorem meeting_any (B : Nat) (v : Value) (ps : List (Pc Int)) (o : OkP ps) (lo hi : Int) (hlh : lo ≤ hi) (w : World) (hr : RowP w B v ps) :
    Calls Try.prog 21 #[v, .agg #[.int .i32 lo, .int .i32 hi]] w fun e w' => e = .returned (midV v (frI ps lo) (upI ps hi)) ∧ Below w.heap.size w w' := by
  have hB1 : Below w.heap.size w (w.alloc (.cells #[.int .i32 lo, .int .i32 hi] 28)) := (Below.refl _ w).alloc (Nat.le_refl _) _
  have H := hide (reach_any B v ps o lo hi _ (hr.below hB1))
  have h1 : frI ps lo ≤ upI ps hi := by
    obtain ⟨A, M, C, c⟩ := cut3 o hlh
    rw [c.fr, c.up]; omega
  have h2 := upI_le ps hi
  have hlen := okP_len o
  obtain ⟨a, cap, rfl, hc1, hc2, hn, hg⟩ := hr.form
  clear hg hr hn
  generalize frI ps lo = F at *
  generalize upI ps hi = U at *
  generalize ps.length = n at *
  have q1 : (F : Int) ≤ (U : Int) := by omega
  have q2 : (U : Int) ≤ (cap : Int) := by omega
  go_enter Try.func21, Try.ntmps21
  go_wp2_with (go_at_call 42; refine (unhide H).mono ?_; rintro e w' ⟨rfl, hb⟩)
  all_goals go_ret
  all_goals exact ⟨by simp [midV, *], hB1.trans (hb.mono (by simp))⟩
end Go.Proofs.Ytnhcbcbceaeceaa.VI
/-
  At and Size of a map.
-/
namespace Go.Proofs.Ytnhcbcbceaeceaa.VI
open Go.RowKit Go.PlainAid Go.Lib Go.PRow Go.Shelf
set_option linter.unusedVariables false
set_option linter.unusedSimpArgs false

/-- what At answers -/
def atV (q : Option Int) : Value := match q with | some v => .tuple #[Value.int .i64 v, .bool true] | none => .tuple #[Value.int .i64 0, .bool false]

set_option maxHeartbeats 2000000 in
theorem at_some (b : Nat) (v : Value) (B : Nat) (ps : List (Pc Int)) (o : OkP ps) (x : Int) (p : Pc Int) (M' : List (Pc Int)) (hM : midP ps x x = p :: M') (w : World) (h : IsMap w b v) (hr : RowP w B v ps) :
    Calls Try.prog 9 #[.pointer (some ⟨b, 0, none⟩), .int .i32 x] w fun e w' => e = .returned (.tuple #[Value.int .i64 p.val, .bool true]) ∧ Below w.heap.size w w' := by
  have HH := hide (held_map b v w h)
  have HMt := hide (meeting_any B v ps o x x (Int.le_refl x) w hr)
  obtain ⟨A, M, C, c⟩ := cut3 o (Int.le_refl x)
  rw [c.mid] at hM
  subst hM
  have eF := c.fr
  have eU := c.up
  have e := c.eq
  have hp : ps[frI ps x]? = some p := by rw [eF, e, List.append_assoc, List.getElem?_append_right (Nat.le_refl _)]; simp
  have hF : frI ps x < upI ps x := by rw [eF, eU]; simp
  have hU := upI_le ps x
  obtain ⟨a, cap, rfl, hc1, hc2, _, hg⟩ := hr.form
  obtain ⟨g, rfl, _, _, hgl, hcell⟩ := hg (by intro e; subst e; simp at hp)
  obtain ⟨c1, c2, c3⟩ := hcell _ _ hp
  have hmv : midV (.slice (some ⟨g, 0, none⟩) ps.length cap) (frI ps x) (upI ps x) = .slice (some ⟨g, frI ps x * 3, none⟩) (upI ps x - frI ps x) (cap - frI ps x) := by
    unfold midV
    simp only
    rw [if_neg (by omega)]
    simp [Addr.add_lit]
  rw [hmv] at HMt
  have KK := hide (fun V (hV : Below w.heap.size w V) => (⟨(hV.cell hgl).trans c1, (hV.cell hgl).trans c2, (hV.cell hgl).trans c3⟩ : V.cell? ⟨g, frI ps x * 3, none⟩ = some (.int .i32 p.lo) ∧ V.cell? ⟨g, frI ps x * 3 + 1, none⟩ = some (.int .i32 p.hi) ∧ V.cell? ⟨g, frI ps x * 3 + 2, none⟩ = some (Value.int .i64 p.val)))
  clear hmv hcell hg c1 c2 c3 hp c e eF eU hr h
  obtain ⟨pl, ph, pv⟩ := p
  simp only at KK
  generalize frI ps x = F at *
  generalize hD : upI ps x - F = D at *
  have hD0 : 0 < D := by omega
  have hDi : (0 : Int) < (D : Int) := by omega
  clear hD hU hF
  go_enter Try.func9, Try.ntmps9
  go_wp2_with (first | (go_at_call 25; refine (unhide HH).mono ?_; rintro e w1 ⟨rfl, rfl⟩) | (go_at_call 21; refine (unhide HMt).mono ?_; rintro e w2 ⟨rfl, hb⟩))
  obtain ⟨d1, d2, d3⟩ := unhide KK _ hb
  go_loopg [16] 1 (fun kx s16 wr => s16 = .int .i64 0 ∧ wr = w2)
  case atStart => exact ⟨rfl, rfl⟩
  case round =>
    obtain ⟨rfl, rfl⟩ := hrel
    go_wp2
    go_ret2
    exact ⟨rfl, (hb.alloc (by exact hb.size) _)⟩

set_option maxHeartbeats 2000000 in
theorem at_none (b : Nat) (v : Value) (B : Nat) (ps : List (Pc Int)) (o : OkP ps) (x : Int) (hM : midP ps x x = []) (w : World) (h : IsMap w b v) (hr : RowP w B v ps) :
    Calls Try.prog 9 #[.pointer (some ⟨b, 0, none⟩), .int .i32 x] w fun e w' => e = .returned (.tuple #[Value.int .i64 0, .bool false]) ∧ Below w.heap.size w w' := by
  have HH := hide (held_map b v w h)
  have HMt := hide (meeting_any B v ps o x x (Int.le_refl x) w hr)
  obtain ⟨A, M, C, c⟩ := cut3 o (Int.le_refl x)
  rw [c.mid] at hM
  subst hM
  have hF : upI ps x - frI ps x = 0 := by rw [c.fr, c.up]; simp
  obtain ⟨a, cap, rfl, hc1, hc2, _, hg⟩ := hr.form
  obtain ⟨a', c', hmv⟩ : ∃ a' c', midV (.slice a ps.length cap) (frI ps x) (upI ps x) = .slice a' 0 c' := by
    unfold midV
    simp only
    rw [hF]
    split <;> exact ⟨_, _, rfl⟩
  rw [hmv] at HMt
  clear hmv hg c hr h hF
  go_enter Try.func9, Try.ntmps9
  go_wp2_with (first | (go_at_call 25; refine (unhide HH).mono ?_; rintro e w1 ⟨rfl, rfl⟩) | (go_at_call 21; refine (unhide HMt).mono ?_; rintro e w2 ⟨rfl, hb⟩))
  go_loopg [16] 1 (fun kx s16 wr => s16 = .int .i64 0 ∧ wr = w2)
  case atStart => exact ⟨rfl, rfl⟩
  case round =>
    obtain ⟨rfl, rfl⟩ := hrel
    go_wp2
    go_ret2
    exact ⟨rfl, hb⟩

theorem at_any (b : Nat) (v : Value) (B : Nat) (ps : List (Pc Int)) (o : OkP ps) (x : Int) (w : World) (h : IsMap w b v) (hr : RowP w B v ps) :
    Calls Try.prog 9 #[.pointer (some ⟨b, 0, none⟩), .int .i32 x] w fun e w' => e = .returned (atV (atP ps x)) ∧ Below w.heap.size w w' := by
  rw [at_mid o x]
  cases hM : midP ps x x with
  | nil => exact at_none b v B ps o x hM w h hr
  | cons p M' => exact at_some b v B ps o x p M' hM w h hr
end Go.Proofs.Ytnhcbcbceaeceaa.VI
/-
  size, and Size of a map.
-/
namespace Go.Proofs.Ytnhcbcbceaeceaa.VI
open Go.RowKit Go.PlainAid Go.Lib Go.PRow Go.Shelf
set_option linter.unusedVariables false
set_option linter.unusedSimpArgs false

theorem sizeP_bound {ps : List (Pc Int)} (o : OkP ps) : 0 ≤ sizeP ps ∧ sizeP ps ≤ 1114112 := by
  have key : ∀ (ps : List (Pc Int)) (a : Int), OkP ps → (∀ p ∈ ps, a ≤ p.lo) → a ≤ 1114112 → 0 ≤ sizeP ps ∧ sizeP ps ≤ 1114112 - a := by
    intro ps
    induction ps with
    | nil => intro a _ _ h; simp [sizeP]; omega
    | cons p ps ih =>
      intro a o h ha
      have k := o.head
      have := ih (p.hi + 1) o.tail (fun q hq => by have := o.next q hq; omega) (by omega)
      have := h p List.mem_cons_self
      simp only [sizeP]
      omega
  have := key ps 0 o (fun p hp => (o.2 p hp).1) (by omega)
  omega
theorem okP_take {ps : List (Pc Int)} (o : OkP ps) (i : Nat) : OkP (ps.take i) := ⟨o.1.sublist (List.take_sublist _ _), fun p hp => o.2 p (List.mem_of_mem_take hp)⟩
theorem sizeP_take (ps : List (Pc Int)) (i : Nat) (p : Pc Int) (h : ps[i]? = some p) : sizeP (ps.take (i + 1)) = sizeP (ps.take i) + (p.hi - p.lo + 1) := by
  rw [List.take_add_one, h]
  simp [sizeP_append, sizeP]

set_option maxHeartbeats 2000000 in
theorem size_any (B : Nat) (v : Value) (ps : List (Pc Int)) (o : OkP ps) (w : World) (hr : RowP w B v ps) :
    Calls Try.prog 23 #[v] w fun e w' => e = .returned (.int .i64 (sizeP ps)) ∧ Below w.heap.size w w' := by
  have hlen := okP_len o
  obtain ⟨a, cap, rfl, hc1, hc2, _, hg⟩ := hr.form
  have KK := hide (fun (i : Nat) (p : Pc Int) (hp : ps[i]? = some p) => (show ∃ g, a = some ⟨g, 0, none⟩ ∧ ∀ V, Below w.heap.size w V → V.cell? ⟨g, i * 3, none⟩ = some (.int .i32 p.lo) ∧ V.cell? ⟨g, i * 3 + 1, none⟩ = some (.int .i32 p.hi) ∧ V.cell? ⟨g, i * 3 + 2, none⟩ = some (Value.int .i64 p.val) from by
    obtain ⟨g, rfl, _, _, hgl, hcell⟩ := hg (by intro e; subst e; simp at hp)
    obtain ⟨c1, c2, c3⟩ := hcell _ _ hp
    exact ⟨g, rfl, fun V hV => ⟨(hV.cell hgl).trans c1, (hV.cell hgl).trans c2, (hV.cell hgl).trans c3⟩⟩))
  have HS := hide (fun i => sizeP_bound (okP_take o i))
  have HO := hide o
  clear hg hr o
  go_enter Try.func23, Try.ntmps23
  go_wp2
  go_loopg [3, 8] ps.length (fun kx s3 s8 wr => ∃ i : Nat, s8 = .int .i64 i ∧ i ≤ ps.length ∧ s3 = .int .i64 (sizeP (ps.take i)) ∧ kx = ps.length - i ∧ Below w.heap.size w wr)
  case atStart => exact ⟨0, rfl, Nat.zero_le _, by simp [sizeP], by simp, Below.refl _ _⟩
  case round =>
    obtain ⟨i, rfl, hi, rfl, rfl, hb⟩ := hrel
    by_cases hlt : i < ps.length
    · obtain ⟨⟨pl, ph, pv⟩, hp⟩ : ∃ p, ps[i]? = some p := ⟨_, List.getElem?_eq_getElem hlt⟩
      have hst := sizeP_take ps i _ hp
      have b1 := unhide HS i
      have b2 := unhide HS (i + 1)
      have hm := (unhide HO).2 _ (List.mem_of_getElem? hp)
      obtain ⟨g, rfl, hcell⟩ := unhide KK i _ hp
      obtain ⟨d1, d2, d3⟩ := hcell _ hb
      have hs := hb.size
      have hnext := hide hst
      rw [hst] at b2
      clear hst hp hcell
      generalize sizeP (ps.take i) = S at *
      simp only at *
      have q1 : (i : Int) < (ps.length : Int) := by omega
      have q2 : IntKind.i32.wrap (ph - pl) = ph - pl := by rw [IntKind.wrap_i32]; omega
      have q3 : IntKind.i64.wrap (ph - pl) = ph - pl := by rw [IntKind.wrap_i64]; omega
      have q4 : IntKind.i64.wrap (ph - pl + 1) = ph - pl + 1 := by rw [IntKind.wrap_i64]; omega
      have q5 : IntKind.i64.wrap (S + (ph - pl + 1)) = S + (ph - pl + 1) := by rw [IntKind.wrap_i64]; omega
      have q6 : IntKind.i64.wrap ((i : Int) + 1) = (i : Int) + 1 := by rw [IntKind.wrap_i64]; omega
      go_wp2
      go_roundg (ps.length - (i + 1))
      case measure => omega
      case rel => exact ⟨i + 1, by simp, by omega, by rw [unhide hnext], rfl, hb.alloc (by omega) _⟩
    · obtain rfl : i = ps.length := by omega
      rw [List.take_length]
      go_wp2
      go_ret
      exact ⟨rfl, hb⟩

theorem size_map (b : Nat) (v : Value) (B : Nat) (ps : List (Pc Int)) (o : OkP ps) (w : World) (h : IsMap w b v) (hr : RowP w B v ps) :
    Calls Try.prog 28 #[.pointer (some ⟨b, 0, none⟩)] w fun e w' => e = .returned (.int .i64 (sizeP ps)) ∧ Below w.heap.size w w' := by
  have HH := hide (held_map b v w h)
  have HS := hide (size_any B v ps o w hr)
  clear h hr
  go_enter Try.func28, Try.ntmps28
  go_wp2_with (first | (go_at_call 25; refine (unhide HH).mono ?_; rintro e w1 ⟨rfl, rfl⟩) | (go_at_call 23; refine (unhide HS).mono ?_; rintro e w2 ⟨rfl, hb⟩))
  go_ret
  exact ⟨rfl, hb⟩
end Go.Proofs.Ytnhcbcbceaeceaa.VI

/-
  maps.Keys of a map of brackets, collected into a list.
-/
import Derived.Test.YtijiiapnbeljnaaGreatDoorBrK
import Derived.Test.YtijiiapnbeljnaaGreatDoorSeq4W
import Derived.Sort.MapsRangeIn
import Derived.RangeFuncSeq
namespace Go.Proofs.YtijiiapnbeljnaaGreatDoor
open Go.RowKit Go.PlainAid Go.Lib Go.Shelf Go.Maps
open Go.Seq4W (Gives4 Kp4 KpR CalmR range4G own_block own_blockF own_pure own_size)
attribute [local go_sem] Oper.semAt_some
set_option linter.unusedVariables false
set_option linter.unusedSimpArgs false

theorem keyOf_r {key : Value} {kl : Lit} (h : keyOf Tryz.prog 21 key = some kl) : ∃ x : Int, key = .int .i32 x ∧ kl = .int .i32 x := by
  cases key <;> simp [keyOf, Tryz.underlying21, mapKey] at h
  rename_i q a
  obtain ⟨⟨rfl, hw⟩, rfl⟩ := h
  exact ⟨a, rfl, rfl⟩
theorem brR_inv2 {v : Value} {y : DataW Unit × List MemPlace} (h : brR v = some y) : ∃ c, v = id c := ⟨v, rfl⟩
/-- the keys that have come -/
def CollR (rows : List BrD) (left : Lit → Bool) (ss : List Int) : Prop :=
  ss.Nodup ∧ (∀ x ∈ ss, (findB rows x).isSome = true ∧ left (.int .i32 x) = false) ∧ (∀ x, (findB rows x).isSome = true → x ∉ ss → left (.int .i32 x) = true)
theorem CollR.start (rows : List BrD) : CollR rows (Maps.has (rowsD rows)) [] :=
  ⟨List.nodup_nil, ⟨fun x hx => absurd hx (by simp), fun x hx _ => by rw [(rowsD_all rows).2.1]; exact hx⟩⟩
theorem same_r (x y : Int) : (Lit.int .i32 x).sameKey (.int .i32 y) = decide (x = y) := by
  by_cases h : x = y
  · subst h; simp [Lit.sameKey]
  · rw [Maps.sameKey_ne (by intro e; cases e; exact h rfl)]; simp [h]
theorem CollR.step {rows : List BrD} {left : Lit → Bool} {ss : List Int} (h : CollR rows left ss) {x : Int} (hl : left (.int .i32 x) = true) (hx : (findB rows x).isSome = true) : CollR rows (fun z => left z && !z.sameKey (.int .i32 x)) (ss ++ [x]) := by
  obtain ⟨h1, h2, h3⟩ := h
  refine ⟨?_, fun y hy => ?_, fun y hy hn => ?_⟩
  · rw [List.nodup_append]
    refine ⟨h1, by simp, fun a ha b hb e => ?_⟩
    simp only [List.mem_singleton] at hb
    subst hb; subst e
    have := (h2 a ha).2
    rw [hl] at this; cases this
  · rcases List.mem_append.1 hy with hy | hy
    · exact ⟨(h2 y hy).1, by simp [(h2 y hy).2]⟩
    · simp only [List.mem_singleton] at hy
      subst hy
      exact ⟨hx, by simp [same_r]⟩
  · simp only [List.mem_append, List.mem_singleton, not_or] at hn
    simp [h3 y hy hn.1, same_r, hn.2]
theorem CollR.done {rows : List BrD} {left : Lit → Bool} {ss : List Int} (h : CollR rows left ss) (hl : ∀ kl, left kl = false) : ss.Nodup ∧ ∀ x, x ∈ ss ↔ (findB rows x).isSome = true := by
  refine ⟨h.1, fun x => ⟨fun hx => (h.2.1 x hx).1, fun hx => ?_⟩⟩
  refine Decidable.byContradiction fun hn => ?_
  have := h.2.2 x hx hn
  rw [hl] at this; cases this

/-- a front of the keys -/
def SpK (rows : List BrD) (pre : List Int) : Prop := pre.Nodup ∧ ∀ x ∈ pre, (findB rows x).isSome = true
theorem nodup_len : ∀ (l m : List Int), l.Nodup → (∀ x ∈ l, x ∈ m) → l.length ≤ m.length
  | [], m, _, _ => Nat.zero_le _
  | a :: l, m, hn, hs => by
    have ha := hs a (by simp)
    rw [List.nodup_cons] at hn
    have h := nodup_len l (m.erase a) hn.2 (fun x hx => by
      refine (List.mem_erase_of_ne ?_).2 (hs x (by simp [hx]))
      rintro rfl
      exact hn.1 hx)
    have h2 := List.length_erase_of_mem ha
    have h3 : 0 < m.length := List.length_pos_of_mem ha
    simp only [List.length_cons]
    omega
theorem SpK.len {rows : List BrD} {pre : List Int} (h : SpK rows pre) : pre.length ≤ rows.length := by
  have := nodup_len pre (rows.map (·.at_)) h.1 (fun x hx => by
    obtain ⟨z, hz⟩ := Option.isSome_iff_exists.1 (h.2 x hx)
    have h1 := findB_mem hz
    have h2 := findB_at hz
    exact List.mem_map.2 ⟨z, h1, h2⟩)
  simpa using this
theorem CollR.front {rows : List BrD} {left : Lit → Bool} {ss : List Int} (h : CollR rows left ss) : SpK rows ss := ⟨h.1, fun x hx => (h.2.1 x hx).1⟩

set_option maxRecDepth 100000 in
set_option maxHeartbeats 1000000 in
theorem keys1_in (rows : List BrD) (n l Bm b : Nat) (hn : 1 ≤ n) (J Jx : List Int → World → Prop) (W : World)
    (hY : ∀ pre x W1, J pre W1 → SpK rows (pre ++ [x]) → W.heap.size + 0 ≤ W1.heap.size → YieldAt Fence.wide (n - 1) Tryz.prog l #[.int .i32 x] W1 fun e W' =>
      (e = .returned (.bool true) ∧ J (pre ++ [x]) W' ∧ Kp4 0 (fun _ => False) W.heap.size W1 W') ∨ (e = .returned (.bool false) ∧ Jx (pre ++ [x]) W' ∧ KeepsFrom W.heap.size W1 W'))
    (hJ : OwnFrom W.heap.size J) (hm : W.cell? ⟨Bm, 0, none⟩ = some (.map (some b))) (hown : BrMap W b rows) (h0 : J [] W) :
    CallsIn Fence.wide n Tryz.prog 85 #[.func (.yield l) #[] #[], .pointer (some ⟨Bm, 0, none⟩)] W fun e W' => (∃ v, e = .returned v) ∧
      ((∃ xs, (xs.Nodup ∧ ∀ x, x ∈ xs ↔ (findB rows x).isSome = true) ∧ J xs W') ∨ (∃ pre, SpK rows pre ∧ Jx pre W')) := by
  have HYY := hide hY
  clear hY
  have hF : ∀ f, Fence.wide.fn f := fun _ => trivial
  refine callsIn_of_wp Tryz.func85 rfl trivial ?_ rfl
  simp only [Tryz.ntmps85, List.size_toArray, List.length_cons, List.length_nil, Nat.reduceAdd, Nat.reduceSub, Array.replicate_succ, Array.replicate_zero, List.push_toArray, List.append_toArray, List.nil_append, List.cons_append]
  gi_wp2_with (first | (gi_at_range; refine wpListIn_range_own _ rfl _ 81 rfl 21 26 keyedR Tryz.underlying81 _ b rows.length _ rfl hown ?_; intro w0 hrg0 hg0 hs0) | gi_in)
  go_frame
  gi_loopw [3] (fun _ wr => ∃ (left : Lit → Bool) (cnt : Nat) (ss : List Int), wr.ranges Tryz.prog 21 brR b W.heap.size rows.length (rowsD rows) left cnt ∧ CollR rows left ss ∧ W.heap.size ≤ wr.heap.size ∧ J ss wr)
    (fun _ wr => wr.rangeLeft b W.heap.size)
  case atStart =>
    exact ⟨_, _, [], hrg0, CollR.start rows, hg0.size, hJ [] W w0 none h0 hg0 (fun r e => by cases e)⟩
  case round =>
    obtain ⟨left, cnt, ss, hrg, hC, hsz, hJs⟩ := hrel
    gi_wp2_with (first | (gi_at_next; refine wpListIn_next_ranges _ rfl _ rfl 21 keyedR brR (Value.int .i32) id (fun key kl hk => by obtain ⟨x, hx, _⟩ := keyOf_r hk; exact ⟨x, hx⟩) (fun v _ _ => ⟨v, rfl⟩) b W.heap.size rows.length _ _ _ rfl hrg ?_ ?_) | gi_in)
    · intro hc0 hl0
      gi_wp2
      refine bodyPost_end (results_none rfl _ _ _) rfl ?_
      exact ⟨⟨_, rfl⟩, .inl ⟨ss, hC.done hl0, hJs⟩⟩
    · intro x c kl yd yp w2 cnt2 hkey hlk hv hat hrg2 hlt hg2 hs2 hen
      obtain ⟨x', ex, rfl⟩ := keyOf_r hkey
      obtain rfl : x = x' := by cases ex; rfl
      have hx : (findB rows x).isSome = true := by
        cases hf : findB rows x with
        | some z => rfl
        | none =>
          have h1 := hat (.map [])
          have h2 := hat (.agg [])
          rw [(rowsD_all rows).2.2, hf] at h1 h2
          rw [← h2] at h1; cases h1
      have hJ2 : J ss w2 := hJ ss wr w2 (some W.heap.size) hJs hg2 (fun r e => by
        cases e
        obtain ⟨es, clock, since, seen, c0, _, _, _, _, hr, _⟩ := hrg
        exact ⟨Nat.le_refl _, _, hr, rfl⟩)
      obtain ⟨fn, tmps, assign, body, hy, hR⟩ := unhide HYY ss x w2 hJ2 (hC.step hlk hx).front (by omega)
      have hsz2 : W.heap.size ≤ w2.heap.size := by omega
      clear hs2
      gi_wp2
      refine hR.mono ?_
      rintro e W3 (⟨rfl, hJ3, hk3⟩ | ⟨rfl, hJx3, hk3⟩)
      · gi_wp2
        have hrg3 := hrg2.of_walks hk3.2.1
        have hsz3 := Nat.le_trans hsz2 hk3.1.size
        go_roundw
        case rel => exact ⟨_, cnt2, ss ++ [x], hrg3, hC.step hlk hx, hsz3, hJ3⟩
        case measure => rw [hrg3.left_eq, hrg.left_eq]; exact hlt
      · gi_wp2
        refine bodyPost_ret (results_none rfl _ _ _) rfl ?_
        exact ⟨⟨_, rfl⟩, .inr ⟨_, (hC.step hlk hx).front, hJx3⟩⟩
theorem keys_gives (rows : List BrD) (Bm b : Nat) (w : World) (hm : w.cell? ⟨Bm, 0, none⟩ = some (.map (some b))) (hown : BrMap w b rows) (n : Nat) (hn : 1 ≤ n) :
    Gives4 n Tryz.prog 85 #[.pointer (some ⟨Bm, 0, none⟩)] (fun x : Int => #[.int .i32 x]) 0 (fun _ => False) 0 0 (fun xs => xs.Nodup ∧ ∀ x, x ∈ xs ↔ (findB rows x).isSome = true) (SpK rows) w :=
  fun l J Jx W hW hJ hJx hcalm hY h0 => keys1_in rows n l Bm b hn J Jx W hY hJ ((hW.cell (World.block_lt_of_cell? _ _ hm)).trans hm) (hown.below hW) h0
theorem keys_any (b : Nat) (w : World) : Calls Tryz.prog 51 #[.map (some b)] w fun e w' => e = .returned (.func (.func 85) #[] #[.pointer (some ⟨w.heap.size, 0, none⟩)]) ∧ w' = w.alloc (.cells #[.map (some b)] 81) := by
  go_enter Tryz.func51, Tryz.ntmps51
  go_wp2
  go_ret
  exact ⟨rfl, rfl⟩
theorem infoR : (Tryz.prog.info? 21).map (fun i => (i.zero, i.size, i.bytes)) = some (some (.int .i32 0), 1, 4) := by kernel_rfl
/-- what holds between two rounds of AppendSeq -/
def AI (w : World) (q : Nat) (pre : List Int) (V : World) : Prop :=
  (∃ v, V.heap[w.heap.size]? = some (.cells #[v] 23 (0, 0)) ∧ V.ownsRow q 21 1 v pre.length (pre.map (Value.int .i32))) ∧ Below w.heap.size w V
theorem own_AI {B : Nat} (w : World) (q : Nat) (hB : w.heap.size ≤ B) : OwnFrom B (AI w q) := by
  rintro s A C row ⟨⟨v, e2, e3⟩, e9⟩ hg hr
  have kc : ∀ {g : Nat} {o : Obj}, A.heap[g]? = some o → o.isCells = true → C.heap[g]? = some o := fun h ho => (grownBy_keeps_cells hg (fun r e => (hr r e).2) h ho).trans h
  exact ⟨⟨v, kc e2 rfl, row_keptB e3 fun g cur hh _ _ => (kc hh rfl).trans hh.symm⟩, e9.grown hg (by have := e9.size; omega) (fun k e => by have := (hr k e).1; omega)⟩

set_option maxRecDepth 100000 in
set_option maxHeartbeats 1000000 in
theorem appendSeq_any (rows : List BrD) (hlen : rows.length ≤ 1099511627776) (Bm b : Nat) (w : World) (hm : w.cell? ⟨Bm, 0, none⟩ = some (.map (some b))) (hown : BrMap w b rows) :
    Calls Tryz.prog 106 #[.slice none 0 0, .func (.func 85) #[] #[.pointer (some ⟨Bm, 0, none⟩)]] w fun e w' => Below w.heap.size w w' ∧ ∃ (xs : List Int) (v : Value), (xs.Nodup ∧ ∀ x, x ∈ xs ↔ (findB rows x).isSome = true) ∧ e = .returned v ∧ w'.ownsRow w.heap.size 21 1 v xs.length (xs.map (Value.int .i32)) := by
  obtain ⟨W0, hW0⟩ : ∃ W0, w.alloc (Obj.cells #[Value.slice none 0 0] 23) = W0 := ⟨_, rfl⟩
  have hb0 : Below w.heap.size w W0 := by rw [← hW0]; exact below_alloc _ _
  have hs0 : W0.heap.size = w.heap.size + 1 := by rw [← hW0]; simp
  have hI0 : AI w (W0.heap.size + 2) [] W0 := ⟨⟨_, by rw [← hW0]; exact heap_alloc_new w _, rfl, .inl ⟨rfl, rfl⟩⟩, hb0⟩
  obtain ⟨i0, hi0, hz0, hz1, hz2⟩ := info_parts infoR
  refine (callsIn_wide (n := 8)).1 ?_
  refine callsIn_of_wp_marks Tryz.func106 rfl trivial ?_ rfl
  simp only [Tryz.ntmps106, List.size_toArray, List.length_cons, List.length_nil, Nat.reduceAdd, Nat.reduceSub, Array.replicate_succ, Array.replicate_zero, List.push_toArray, List.append_toArray, List.nil_append, List.cons_append]
  have hF : ∀ f, Fence.wide.fn f := fun _ => trivial
  gi_wp2_with fail
  clear hW0
  refine range4G (by omega) (gf := 85) (lb := #[.pointer (some ⟨Bm, 0, none⟩)]) rfl (enters_of Tryz.func85 (by kernel_rfl) rfl) (keys_gives rows Bm b w hm hown _ (by omega)) hb0 (fun _ => rfl)
    (AI w (W0.heap.size + 2)) (fun _ _ _ => False) (own_AI w _ (by omega)) (fun c _ _ _ _ h _ _ => h) (Seq4W.CalmR.none _ _ _) hI0 ?fr ?assign ?body ?done ?stop
  case assign =>
    intro l2 x V K hK
    gi_wp2
    exact hK
  case body =>
    rintro l2 pre x V hl hsz2 ⟨r, hr⟩ ⟨⟨vs, h1, h2⟩, h8⟩ hSp
    have hpl : pre.length + 1 ≤ 1099511627776 := by have := hSp.len; simp only [List.length_append, List.length_cons, List.length_nil] at this; omega
    obtain ⟨sa, sn, sc, rfl⟩ : ∃ a n c, vs = .slice a n c := by
      rcases h2.2 with ⟨rfl, _⟩ | ⟨g, cap, cur, rfl, _⟩
      · exact ⟨_, _, _, rfl⟩
      · exact ⟨_, _, _, rfl⟩
    have cF : V.cell? ⟨w.heap.size, 0, none⟩ = some (.slice sa sn sc) := by simp [World.cell?, h1]
    have lV : w.heap.size + 1 ≤ V.heap.size := by omega
    have H8 := hide h8
    clear h8 hSp
    gi_wp2_with (gi_at_builtin; refine wpListIn_append_own _ rfl _ _ 23 rfl (W0.heap.size + 2) 21 i0 (.int .i32 0) 1 4 Tryz.underlying23 hi0 hz0 hz1 hz2 rfl (by decide) _ _ _ rfl (h2.alloc _) ⟨V.heap.size, 0, none⟩ 1 1 [.int .i32 x] rfl rfl (cells_new _ _ _) (by simp [Value.oneCell']) (by unfold maxLen; omega) (by omega) (by simp; omega) ?_; intro v' w7 hown' hgrow _; obtain ⟨g', cap', rfl⟩ := ownsRow_succ hown'; obtain ⟨q5, hbx', hrow', ko, hs', hkeep, hos⟩ := box_put h1 h2 (by omega) hown' hgrow; have c5 : w7.cell? ⟨w.heap.size, 0, none⟩ = some (.slice sa sn sc) := (by simp [World.cell?, q5]); have f5 : w7.frozen? ⟨w.heap.size, 0, none⟩ = false := (by simp [World.frozen?, q5]))
    have h8 := unhide H8
    refine ⟨ko.from _, ⟨ko.walks, fun k ob hk hc hx => ?_⟩, ⟨_, hbx', ?_⟩, ?_⟩
    · rcases hk with hk | hk
      · omega
      · exact hk.elim
    · rw [List.map_append, List.map_singleton, List.length_append]
      exact hrow'
    · exact ⟨hos.1.trans h8.os, hos.2.1.trans h8.tape, hos.2.2.trans h8.output, Nat.le_trans h8.size (by omega), fun k hk => (hkeep k (by omega) (by omega) (by omega)).trans (h8.block k hk)⟩
  case done =>
    rintro D xs V hD hS ⟨⟨v, e2, e3⟩, e9⟩ hK
    have p1 : Boxed V w.heap.size 23 v := e2
    have c1 := p1.cell
    gi_wp2
    refine ⟨by simp, .inl ⟨_, _, rfl, run_takeDeferred hK, ?_⟩⟩
    refine ⟨_, results_tmp rfl _ _ _, e9.grown (grownBy_putObj' V D _) e9.size (fun k e => by cases e; omega), xs, v, hS, rfl, ?_⟩
    exact row_base (row_keptB e3 fun g cur hh _ _ => World.putObj_heap_other (by rintro rfl; rw [hK] at hh; cases hh)) (by omega)
  case stop =>
    rintro D c pre V hD hSp h hK
    exact h.elim
theorem collect_any (rows : List BrD) (hlen : rows.length ≤ 1099511627776) (Bm b : Nat) (w : World) (hm : w.cell? ⟨Bm, 0, none⟩ = some (.map (some b))) (hown : BrMap w b rows) :
    Calls Tryz.prog 83 #[.func (.func 85) #[] #[.pointer (some ⟨Bm, 0, none⟩)]] w fun e w' => Below w.heap.size w w' ∧ ∃ (xs : List Int) (v : Value), (xs.Nodup ∧ ∀ x, x ∈ xs ↔ (findB rows x).isSome = true) ∧ e = .returned v ∧ w'.ownsRow w.heap.size 21 1 v xs.length (xs.map (Value.int .i32)) := by
  have HA := hide (appendSeq_any rows hlen Bm b w hm hown)
  clear hm hown
  go_enter Tryz.func83, Tryz.ntmps83
  go_wp2_with (go_at_call 106; with_reducible refine (unhide HA).mono ?_; rintro e w' ⟨hb, xs, v, h1, rfl, h2⟩; have HH := hide (⟨hb, h1, h2⟩ : _ ∧ _ ∧ _); clear hb h1 h2)
  go_ret
  obtain ⟨hb, h1, h2⟩ := unhide HH
  exact ⟨hb, xs, v, h1, rfl, h2⟩
end Go.Proofs.YtijiiapnbeljnaaGreatDoor

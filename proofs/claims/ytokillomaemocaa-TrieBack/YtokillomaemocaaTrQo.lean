/-
  These texts, one behind the other: TrSp, TrSo.
-/
import Derived.Test.YtokillomaemocaaPHeadK
import Derived.Test.YtokillomaemocaaTrQb
import Derived.Test.YtokillomaemocaaTrQg
import Derived.Test.YtokillomaemocaaTShelf
/-
  Spans in memory, and a copy of them.
-/
namespace Go.Proofs.Ytokillomaemocaa.VK
open Go.RowKit Go.PlainAid Go.Lib Go.PRow
set_option linter.unusedVariables false
set_option linter.unusedSimpArgs false
theorem hide {p : Prop} (h : p) : Hid p := h
theorem unhide {p : Prop} (h : Hid p) : p := h
/-- spans in memory, wherever they lie -/
def SpAt (w : World) (a : Option Addr) (ps : List (Pc Int)) : Prop := ps ≠ [] → ∃ g off, a = some ⟨g, off, none⟩ ∧ g < w.heap.size ∧ ∀ j u, (cellsP ps)[j]? = some u → w.cell? ⟨g, off + j, none⟩ = some u
theorem SpAt.below {w w' : World} {a : Option Addr} {ps : List (Pc Int)} (h : SpAt w a ps) (hb : Below w.heap.size w w') : SpAt w' a ps := fun h0 => by
  obtain ⟨g, off, rfl, hg, hc⟩ := h h0
  exact ⟨g, off, rfl, Nat.lt_of_lt_of_le hg hb.size, fun j u hj => (hb.cell (p := ⟨g, off + j, none⟩) hg).trans (hc j u hj)⟩
theorem SpAt.get {w : World} {a : Option Addr} {ps : List (Pc Int)} (h : SpAt w a ps) {i : Nat} {p : Pc Int} (hp : ps[i]? = some p) : ∃ g off, a = some ⟨g, off, none⟩ ∧ g < w.heap.size ∧ w.cell? ⟨g, off + i * 3, none⟩ = some (.int .i32 p.lo) ∧ w.cell? ⟨g, off + i * 3 + 1, none⟩ = some (.int .i32 p.hi) ∧ w.cell? ⟨g, off + i * 3 + 2, none⟩ = some (.int .u8 p.val) := by
  obtain ⟨g, off, rfl, hg, hc⟩ := h (by intro e; rw [e] at hp; simp at hp)
  obtain ⟨h0, h1, h2⟩ := cellsP_at ps i p hp
  exact ⟨g, off, rfl, hg, hc _ _ h0, by rw [Nat.add_assoc]; exact hc _ _ h1, by rw [Nat.add_assoc]; exact hc _ _ h2⟩
theorem SpAt.src {w : World} {a : Option Addr} {ps : List (Pc Int)} (h : SpAt w a ps) (c : Nat) : Src Try.prog 3 22 (.slice a ps.length c) ps.length (cellsP ps) w := by
  by_cases h0 : ps = []
  · subst h0
    cases a with
    | none => exact Src.ofNil w Try.underlying22 c
    | some a => exact Src.ofSlice w Try.underlying22 a 0 c [] (by simp) (by simp) (by simp)
  · obtain ⟨g, off, rfl, hg, hc⟩ := h h0
    refine Src.ofSlice w Try.underlying22 ⟨g, off, none⟩ ps.length c (cellsP ps) (cellsP_len ps) (fun j x hj => ?_) (cellsP_one ps)
    rw [Addr.add_lit]
    exact hc j x hj
theorem RowP.of {W : World} {B g cap n : Nat} {cur : Array Value} {ps : List (Pc Int)} (hb : B ≤ g) (hh : W.heap[g]? = some (.cells cur 72 (0, 0))) (hn : ps.length = n) (hc : n ≤ cap) (hm : cap ≤ maxLen) (hs : cur.size = cap * 3) (ht : cur.toList.take (n * 3) = cellsP ps) :
    RowP W B (.slice (some ⟨g, 0, none⟩) n cap) ps := by
  subst hn
  exact ⟨cellsP_len ps, .inr ⟨g, cap, cur, rfl, hb, hh, hc, hm, hs, ht⟩⟩
def zP : Value := .agg #[.int .i32 0, .int .i32 0, .int .u8 0]
theorem zs_len (n : Nat) : (zs zP n).length = n * 3 := by rw [zs_length]; rfl
theorem append_new (g : Nat) (u0 : Option Addr) (vc : Nat) (qs : List (Pc Int)) (w : World) (hsrcv : Src Try.prog 3 22 (.slice u0 qs.length vc) qs.length (cellsP qs) w) (hbig : qs.length * 12 ≤ 140737488355328) :
    ∃ s' w', (∀ ty, (Builtin.append_ #[22, 22] ty #[.slice (some ⟨g, 0, none⟩) 0 0, .slice u0 qs.length vc]).run Try.prog w = .ok s' w') ∧ RowP w' w.heap.size s' qs ∧ Below w.heap.size w w' := by
  obtain ⟨i0, hi0, hz0, hzs, hzb⟩ := info_parts infoP
  have hqc := cellsP_len qs
  by_cases hq : qs = []
  · subst hq
    exact ⟨_, _, fun ty => run_append_none w 22 22 ty 72 i0 Try.underlying22 hi0 (some ⟨g, 0, none⟩) 0 0 _ (by rw [hzs]; exact hsrcv) (Nat.le_refl _), RowV.nil _ _ _ _ _, Below.refl _ _⟩
  have hm : 0 < qs.length := List.length_pos_iff.2 hq
  have hsrcs : Src Try.prog 3 22 (.slice (some ⟨g, 0, none⟩) 0 0) 0 [] w := Src.ofSlice w Try.underlying22 _ 0 0 [] (by simp) (by simp) (by simp)
  have hG1 : 0 + qs.length ≤ grownCap w (0 + qs.length) 0 72 := grownCap_ge w _ 0 72
  have hG2 := grownCap_le_maxLen w (0 + qs.length) 0 72 (by unfold maxLen; omega)
  refine ⟨_, _, fun ty => by
    have := run_append_grow_src w 22 22 ty 72 i0 zP Try.underlying22 hi0 hz0 (some ⟨g, 0, none⟩) 0 0 [] (by rw [hzs]; exact hsrcs.cellsD) (.slice u0 qs.length vc) qs.length (cellsP qs) (by rw [hzs]; exact hsrcv) (by omega) (by omega) (by rw [hzb]; exact growslice_fits (by omega) (by omega))
    exact this, RowP.of (cur := ([] ++ cellsP qs).toArray ++ Builtin.zeroCells zP.cells (grownCap w (0 + qs.length) 0 72 - (0 + qs.length))) (Nat.le_refl _) (heap_alloc_new w.drew _) (by simp) hG1 hG2 (by
      have := zs_len (grownCap w (0 + qs.length) 0 72 - (0 + qs.length))
      rw [zs, Array.length_toList] at this
      rw [Array.size_append, List.size_toArray, List.length_append, hqc, this, List.length_nil]; omega) ?_, ?_⟩
  · rw [Array.toList_append, List.nil_append, List.take_left' (by simp [hqc])]
  · exact ((Below.refl _ w).drew).alloc (Nat.le_refl _) _
set_option maxRecDepth 100000 in
/-- slices.Clone -/
theorem clone_any (a : Option Addr) (cap : Nat) (ps : List (Pc Int)) (n : Nat) (hn : ps.length = n) (hn2 : n * 12 ≤ 140737488355328) (w : World) (h : SpAt w a ps) (hc : n ≤ cap) :
    Calls Try.prog 87 #[.slice a n cap] w fun e w' => ∃ s, e = .returned s ∧ RowP w' w.heap.size s ps ∧ Below w.heap.size w w' := by
  cases a with
  | none =>
    have h0 : ps = [] := by
      cases ps with
      | nil => rfl
      | cons p t => obtain ⟨_, _, e, _⟩ := h (by simp); cases e
    subst h0
    subst hn
    have he : ∀ W : World, (binOp .eql 22 (.slice none ([] : List (Pc Int)).length cap) (.slice none 0 0)).run Try.prog W = .ok (.bool true) W := fun W => run_eql_slice_nil W _ _ none _ _ Try.underlying22
    simp only [List.length_nil] at he ⊢
    go_enter Try.func87, Try.ntmps87
    go_wp2
    go_ret
    exact ⟨_, rfl, RowV.nil _ _ _ _ _, Below.refl _ _⟩
  | some ad =>
    have hb1 : Below w.heap.size w (w.alloc (.cells #[] 72)) := (Below.refl _ w).alloc (Nat.le_refl _) _
    have hs := (h.below hb1).src cap
    rw [hn] at hs
    obtain ⟨s', w', hr0, hrow, hb2⟩ := append_new w.heap.size (some ad) cap ps (w.alloc (.cells #[] 72)) (by rw [hn]; exact hs) (by omega)
    rw [hn] at hr0
    have hr := hr0 22
    have HF := hide (And.intro (hrow.mono (show w.heap.size ≤ _ by simp)) (hb1.trans (hb2.mono (by simp))))
    have he : ∀ W : World, (binOp .eql 22 (.slice (some ad) n cap) (.slice none 0 0)).run Try.prog W = .ok (.bool false) W := fun W => run_eql_slice_nil W _ _ (some ad) _ _ Try.underlying22
    clear hrow hb1 hb2 hs h hr0
    go_enter Try.func87, Try.ntmps87
    go_wp2_with (at_builtin; refine wpList_append_run _ rfl _ _ _ _ rfl _ _ rfl rfl s' w' hr ?_)
    go_ret
    exact ⟨_, rfl, (unhide HF).1, (unhide HF).2⟩
end Go.Proofs.Ytokillomaemocaa.VK
/-
  slices.SortFunc of pieces by their beginnings.
-/
namespace Go.Proofs.Ytokillomaemocaa.VK
open Go.RowKit Go.PlainAid Go.Lib Go.PRow Go.Shelf
open Go.Sort (grow alloc_eq_grow grow_grow)
set_option linter.unusedVariables false
set_option linter.unusedSimpArgs false

theorem nan_any (x : Int) (w : World) : Calls Try.prog 117 #[.int .i32 x] w fun e w' => e = .returned (.bool false) ∧ w' = w := by
  go_enter Try.func117, Try.ntmps117
  go_wp2
  go_ret
  exact ⟨rfl, rfl⟩
theorem compare_any (x y : Int) (w : World) : Calls Try.prog 90 #[.int .i32 x, .int .i32 y] w fun e w' => e = .returned (.int .i64 (Lib.compareInt x y)) ∧ w' = w := by
  unfold Lib.compareInt
  by_cases h1 : x < y <;> by_cases h2 : y < x
  any_goals (exfalso; omega)
  all_goals
    go_enter Try.func90, Try.ntmps90
    go_wp2_with (go_at_call 117; refine (nan_any _ _).mono ?_; rintro e w' ⟨rfl, rfl⟩)
    go_ret
    exact ⟨by simp [h1, h2], rfl⟩
abbrev encP (p : Pc Int) : List Value := [.int .i32 p.lo, .int .i32 p.hi, Value.int .u8 p.val]
theorem less_any (p q : Pc Int) (w : World) : Calls Try.prog 89 #[.agg #[.int .i32 p.lo, .int .i32 p.hi, Value.int .u8 p.val], .agg #[.int .i32 q.lo, .int .i32 q.hi, Value.int .u8 q.val]] w fun e w' => e = .returned (.int .i64 (Lib.compareInt p.lo q.lo)) ∧ ∃ k os', w' = grow (w.drewN k) os' := by
  have hcon := fun W' => compare_any p.lo q.lo W'
  generalize Lib.compareInt p.lo q.lo = r at hcon ⊢
  go_enter Try.func89, Try.ntmps89
  go_wp2_with (go_at_call 90; refine (hcon _).mono ?_; rintro e w' ⟨rfl, rfl⟩)
  go_ret
  exact ⟨rfl, 0, _, by rw [alloc_eq_grow, alloc_eq_grow, grow_grow]; rfl⟩

theorem flat_cells [Inhabited (Pc Int)] (ps : List (Pc Int)) : Sort.flatK encP 3 ps.toArray = (cellsP ps).toArray := by
  refine Sort.ext_get! (by simp [cellsP_len]) fun t ht => ?_
  have ht' : t < ps.length * 3 := by simpa using ht
  rw [Sort.get_flatK _ _ _ t (by simpa using ht')]
  obtain ⟨i, c, hc, rfl⟩ : ∃ i c, c < 3 ∧ t = i * 3 + c := ⟨t / 3, t % 3, by omega, by omega⟩
  have e1 : (i * 3 + c) / 3 = i := by omega
  have e2 : (i * 3 + c) % 3 = c := by omega
  rw [e1, e2]
  have hi : i < ps.length := by omega
  obtain ⟨c0, c1, c2⟩ := cellsP_at ps i _ (List.getElem?_eq_getElem hi)
  have e3 : ps.toArray[i]! = ps[i] := by simp [hi]
  rw [e3]
  have h3 : c = 0 ∨ c = 1 ∨ c = 2 := by omega
  rcases h3 with rfl | rfl | rfl
  · rw [Nat.add_zero]; simp [c0]
  · simp [c1]
  · simp [c2]
theorem swo_lo : Sort.SWO (ltOf fun p q : Pc Int => Lib.compareInt p.lo q.lo) := by
  have h : ∀ x y : Pc Int, ltOf (fun p q : Pc Int => Lib.compareInt p.lo q.lo) x y = decide (x.lo < y.lo) := by
    intro x y
    unfold ltOf Lib.compareInt
    by_cases h1 : x.lo < y.lo
    · simp [h1]
    · by_cases h2 : y.lo < x.lo <;> simp [h1, h2]
  refine ⟨fun x => ?_, fun x y z h1 h2 => ?_, fun x y z h1 h2 => ?_⟩
  · rw [h]; simp
  · rw [h] at *; simp at *; omega
  · rw [h] at *; simp at *; omega
theorem lt_lo (x y : Pc Int) (h : ltOf (fun p q : Pc Int => Lib.compareInt p.lo q.lo) x y = false) : ¬ x.lo < y.lo := by
  intro h1
  unfold ltOf Lib.compareInt at h
  simp [h1] at h

set_option maxRecDepth 100000 in
theorem sort_row (B : Nat) (v : Value) (ps : List (Pc Int)) (w : World) (hr : RowP w B v ps) (hl : ps.length < 4611686018427387904) :
    Calls Try.prog 88 #[v, .func (.func 89) #[] #[]] w fun e w' => e = .returned (.tuple #[]) ∧ ∃ qs : List (Pc Int), qs.Perm ps ∧ qs.Pairwise (fun p q => ¬ q.lo < p.lo) ∧ RowP w' B v qs ∧ w.grownBy w' (blk v) := by
  by_cases hps : ps = []
  · subst hps
    obtain ⟨a, cap, rfl, -, -, -, -⟩ := hr.form
    have hcon := AnyF.slices_SortFunc_none Try.sortK a cap (.func (.func 89) #[] #[]) w
    change Calls Try.prog 88 _ _ _ at hcon
    refine hcon.mono ?_
    rintro e w' ⟨rfl, rfl⟩
    exact ⟨rfl, [], List.Perm.refl _, List.Pairwise.nil, hr, rfl, rfl, rfl, Nat.le_refl _, fun _ _ _ => rfl⟩
  have hpos : 0 < ps.length := List.length_pos_iff.2 hps
  rcases hr.2 with ⟨a, rfl, hn⟩ | ⟨g, cap, cur, rfl, hb, hh, hn, hc, hs, ht⟩
  · omega
  · letI : Inhabited (Pc Int) := ⟨⟨0, 0, default⟩⟩
    have hm2 : ps.length * 3 ≤ cur.size := by rw [hs]; exact Nat.mul_le_mul_right _ hn
    have hgl := (Array.getElem?_eq_some_iff.1 hh).1
    have hH : Sort.HoldsK encP 3 w g 0 ps.toArray := by
      intro j hj
      rw [flat_cells] at hj ⊢
      have hj' : j < (cellsP ps).length := by simpa using hj
      refine ⟨?_, by simp [World.frozen?, hh]⟩
      rw [Nat.zero_add]
      refine (row_cell hh ht hm2 j _ (List.getElem?_eq_getElem hj')).trans ?_
      simp [hj']
    have eg : ∀ args w, (callFunc 89 args).run Try.prog w = .ok (.enter 89 args) w := enters_of Try.func89 (by kernel_rfl) rfl
    have hcon := AnyQ.slices_SortFunc Try.sortK 3 Try.isAgg72 Try.sizeOf72 encP (fun _ => rfl) (fun x v hv => by simp [encP] at hv; rcases hv with rfl | rfl | rfl <;> rfl) (fun p q => Lib.compareInt p.lo q.lo) swo_lo 89 #[] g 0 cap ps.toArray w eg (fun m os dk _ x y => less_any x y _) hH hgl (by simpa using hl)
    change Calls Try.prog 88 _ _ _ at hcon
    refine hcon.mono ?_
    rintro e w' ⟨rfl, d', n, os, hp, hsd, rfl⟩
    have hds : d'.size = ps.length := by simpa using hp.1
    obtain ⟨qs, rfl⟩ : ∃ qs : List (Pc Int), d' = qs.toArray := ⟨d'.toList, by simp⟩
    have hql : qs.length = ps.length := by simpa using hds
    refine ⟨rfl, qs, ?_, ?_, ⟨?_, .inr ⟨g, cap, Sort.putCells id 0 (cellsP qs).toArray cur, by rw [hql], hb, ?_, by omega, hc, by simpa [Sort.putCells] using hs, ?_⟩⟩, ?_⟩
    · have := hp.2.2
      rw [show ps.toArray.size = qs.toArray.size by simp [hql]] at this
      have e : List.take ps.length qs = qs := List.take_of_length_le (by omega)
      simpa [hql, e] using this
    · refine List.pairwise_iff_getElem.2 fun i j hi hj hij => ?_
      have := hsd i j (Nat.zero_le _) hij (by simpa [← hql] using hj)
      have e1 : qs.toArray[i]! = qs[i] := by simp [hi]
      have e2 : qs.toArray[j]! = qs[j] := by simp [hj]
      rw [e1, e2] at this
      exact lt_lo _ _ this
    · exact cellsP_len qs
    · unfold Go.Proofs.sortWorldK Sort.putRowK
      rw [flat_cells]
      show ((Sort.putRow id (Sort.ahead w n) g 0 (cellsP qs).toArray).heap ++ os)[g]? = _
      rw [Array.getElem?_append_left (by simpa using hgl)]
      show ((Sort.ahead w n).heap.modify g (Sort.onCells (Sort.putCells id 0 (cellsP qs).toArray)))[g]? = _
      rw [Array.getElem?_modify, if_pos rfl]
      show (w.heap[g]?).map _ = _
      rw [hh]
      rfl
    · have hcl := cellsP_len qs
      refine List.ext_getElem? fun j => ?_
      rw [List.getElem?_take]
      split
      · next hj =>
        have hjc : j < cur.size := by omega
        simp only [Sort.putCells, Array.getElem?_toList, Array.getElem?_mapIdx, Array.getElem?_eq_getElem hjc, Option.map_some]
        rw [if_pos (by simp; omega)]
        simp [show j < (cellsP qs).length by omega]
      · next hj =>
        rw [List.getElem?_eq_none (by omega)]
    · refine ⟨rfl, rfl, rfl, by simp [Go.Proofs.sortWorldK, grow, Sort.putRowK, Sort.ahead], fun k hk hne => ?_⟩
      have hkg : g ≠ k := by
        intro e
        subst e
        refine hne ?_
        cases cap with
        | zero => omega
        | succ c => rfl
      show ((Sort.putRow id (Sort.ahead w n) g 0 (Sort.flatK encP 3 qs.toArray)).heap ++ os)[k]? = _
      rw [Array.getElem?_append_left (by simpa using hk)]
      show ((Sort.ahead w n).heap.modify g _)[k]? = _
      rw [Array.getElem?_modify, if_neg hkg]
      rfl
end Go.Proofs.Ytokillomaemocaa.VK

/-
  Spans in memory, and a copy of them.
-/
import Derived.Test.YtokillomaemocaaPHeadK
import Derived.Test.YtokillomaemocaaTrBuM
import Derived.Test.YtokillomaemocaaTrNewU
namespace Go.Proofs.Ytokillomaemocaa.VK
open Go.RowKit Go.PlainAid Go.Lib Go.PRow
set_option linter.unusedVariables false
set_option linter.unusedSimpArgs false
theorem hide {p : Prop} (h : p) : Hid p := h
theorem unhide {p : Prop} (h : Hid p) : p := h
/-- spans in memory, wherever they lie -/
def SpAt (w : World) (a : Option Addr) (ps : List (Pc Int)) : Prop := ps ≠ [] → ∃ g off, a = some ⟨g, off, none⟩ ∧ g < w.heap.size ∧ ∀ j u, (cellsP ps)[j]? = some u → w.cell? ⟨g, off + j, none⟩ = some u
theorem SpAt.below {w w' : World} {a : Option Addr} {ps : List (Pc Int)} (h : SpAt w a ps) (hb : Below w.heap.size w w') : SpAt w' a ps := fun h0 => by
  obtain ⟨g, off, rfl, hg, hc⟩ := h h0
  exact ⟨g, off, rfl, Nat.lt_of_lt_of_le hg hb.size, fun j u hj => (hb.cell (p := ⟨g, off + j, none⟩) hg).trans (hc j u hj)⟩
theorem SpAt.get {w : World} {a : Option Addr} {ps : List (Pc Int)} (h : SpAt w a ps) {i : Nat} {p : Pc Int} (hp : ps[i]? = some p) : ∃ g off, a = some ⟨g, off, none⟩ ∧ g < w.heap.size ∧ w.cell? ⟨g, off + i * 3, none⟩ = some (.int .i32 p.lo) ∧ w.cell? ⟨g, off + i * 3 + 1, none⟩ = some (.int .i32 p.hi) ∧ w.cell? ⟨g, off + i * 3 + 2, none⟩ = some (.int .u8 p.val) := by
  obtain ⟨g, off, rfl, hg, hc⟩ := h (by intro e; rw [e] at hp; simp at hp)
  obtain ⟨h0, h1, h2⟩ := cellsP_at ps i p hp
  exact ⟨g, off, rfl, hg, hc _ _ h0, by rw [Nat.add_assoc]; exact hc _ _ h1, by rw [Nat.add_assoc]; exact hc _ _ h2⟩
theorem SpAt.src {w : World} {a : Option Addr} {ps : List (Pc Int)} (h : SpAt w a ps) (c : Nat) : Src Try.prog 3 22 (.slice a ps.length c) ps.length (cellsP ps) w := by
  by_cases h0 : ps = []
  · subst h0
    cases a with
    | none => exact Src.ofNil w Try.underlying22 c
    | some a => exact Src.ofSlice w Try.underlying22 a 0 c [] (by simp) (by simp) (by simp)
  · obtain ⟨g, off, rfl, hg, hc⟩ := h h0
    refine Src.ofSlice w Try.underlying22 ⟨g, off, none⟩ ps.length c (cellsP ps) (cellsP_len ps) (fun j x hj => ?_) (cellsP_one ps)
    rw [Addr.add_lit]
    exact hc j x hj
theorem RowP.of {W : World} {B g cap n : Nat} {cur : Array Value} {ps : List (Pc Int)} (hb : B ≤ g) (hh : W.heap[g]? = some (.cells cur 72 (0, 0))) (hn : ps.length = n) (hc : n ≤ cap) (hm : cap ≤ maxLen) (hs : cur.size = cap * 3) (ht : cur.toList.take (n * 3) = cellsP ps) :
    RowP W B (.slice (some ⟨g, 0, none⟩) n cap) ps := by
  subst hn
  exact ⟨cellsP_len ps, .inr ⟨g, cap, cur, rfl, hb, hh, hc, hm, hs, ht⟩⟩
def zP : Value := .agg #[.int .i32 0, .int .i32 0, .int .u8 0]
theorem zs_len (n : Nat) : (zs zP n).length = n * 3 := by rw [zs_length]; rfl
theorem append_new (g : Nat) (u0 : Option Addr) (vc : Nat) (qs : List (Pc Int)) (w : World) (hsrcv : Src Try.prog 3 22 (.slice u0 qs.length vc) qs.length (cellsP qs) w) (hbig : qs.length * 12 ≤ 140737488355328) :
    ∃ s' w', (∀ ty, (Builtin.append_ #[22, 22] ty #[.slice (some ⟨g, 0, none⟩) 0 0, .slice u0 qs.length vc]).run Try.prog w = .ok s' w') ∧ RowP w' w.heap.size s' qs ∧ Below w.heap.size w w' := by
  obtain ⟨i0, hi0, hz0, hzs, hzb⟩ := info_parts infoP
  have hqc := cellsP_len qs
  by_cases hq : qs = []
  · subst hq
    exact ⟨_, _, fun ty => run_append_none w 22 22 ty 72 i0 Try.underlying22 hi0 (some ⟨g, 0, none⟩) 0 0 _ (by rw [hzs]; exact hsrcv) (Nat.le_refl _), RowV.nil _ _ _ _ _, Below.refl _ _⟩
  have hm : 0 < qs.length := List.length_pos_iff.2 hq
  have hsrcs : Src Try.prog 3 22 (.slice (some ⟨g, 0, none⟩) 0 0) 0 [] w := Src.ofSlice w Try.underlying22 _ 0 0 [] (by simp) (by simp) (by simp)
  have hG1 : 0 + qs.length ≤ grownCap w (0 + qs.length) 0 72 := grownCap_ge w _ 0 72
  have hG2 := grownCap_le_maxLen w (0 + qs.length) 0 72 (by unfold maxLen; omega)
  refine ⟨_, _, fun ty => by
    have := run_append_grow_src w 22 22 ty 72 i0 zP Try.underlying22 hi0 hz0 (some ⟨g, 0, none⟩) 0 0 [] (by rw [hzs]; exact hsrcs.cellsD) (.slice u0 qs.length vc) qs.length (cellsP qs) (by rw [hzs]; exact hsrcv) (by omega) (by omega) (by rw [hzb]; exact growslice_fits (by omega) (by omega))
    exact this, RowP.of (cur := ([] ++ cellsP qs).toArray ++ Builtin.zeroCells zP.cells (grownCap w (0 + qs.length) 0 72 - (0 + qs.length))) (Nat.le_refl _) (heap_alloc_new w.drew _) (by simp) hG1 hG2 (by
      have := zs_len (grownCap w (0 + qs.length) 0 72 - (0 + qs.length))
      rw [zs, Array.length_toList] at this
      rw [Array.size_append, List.size_toArray, List.length_append, hqc, this, List.length_nil]; omega) ?_, ?_⟩
  · rw [Array.toList_append, List.nil_append, List.take_left' (by simp [hqc])]
  · exact ((Below.refl _ w).drew).alloc (Nat.le_refl _) _
set_option maxRecDepth 100000 in
/-- slices.Clone -/
theorem clone_any (a : Option Addr) (cap : Nat) (ps : List (Pc Int)) (n : Nat) (hn : ps.length = n) (hn2 : n * 12 ≤ 140737488355328) (w : World) (h : SpAt w a ps) (hc : n ≤ cap) :
    Calls Try.prog 87 #[.slice a n cap] w fun e w' => ∃ s, e = .returned s ∧ RowP w' w.heap.size s ps ∧ Below w.heap.size w w' := by
  cases a with
  | none =>
    have h0 : ps = [] := by
      cases ps with
      | nil => rfl
      | cons p t => obtain ⟨_, _, e, _⟩ := h (by simp); cases e
    subst h0
    subst hn
    have he : ∀ W : World, (binOp .eql 22 (.slice none ([] : List (Pc Int)).length cap) (.slice none 0 0)).run Try.prog W = .ok (.bool true) W := fun W => run_eql_slice_nil W _ _ none _ _ Try.underlying22
    simp only [List.length_nil] at he ⊢
    go_enter Try.func87, Try.ntmps87
    go_wp2
    go_ret
    exact ⟨_, rfl, RowV.nil _ _ _ _ _, Below.refl _ _⟩
  | some ad =>
    have hb1 : Below w.heap.size w (w.alloc (.cells #[] 72)) := (Below.refl _ w).alloc (Nat.le_refl _) _
    have hs := (h.below hb1).src cap
    rw [hn] at hs
    obtain ⟨s', w', hr0, hrow, hb2⟩ := append_new w.heap.size (some ad) cap ps (w.alloc (.cells #[] 72)) (by rw [hn]; exact hs) (by omega)
    rw [hn] at hr0
    have hr := hr0 22
    have HF := hide (And.intro (hrow.mono (show w.heap.size ≤ _ by simp)) (hb1.trans (hb2.mono (by simp))))
    have he : ∀ W : World, (binOp .eql 22 (.slice (some ad) n cap) (.slice none 0 0)).run Try.prog W = .ok (.bool false) W := fun W => run_eql_slice_nil W _ _ (some ad) _ _ Try.underlying22
    clear hrow hb1 hb2 hs h hr0
    go_enter Try.func87, Try.ntmps87
    go_wp2_with (at_builtin; refine wpList_append_run _ rfl _ _ _ _ rfl _ _ rfl rfl s' w' hr ?_)
    go_ret
    exact ⟨_, rfl, (unhide HF).1, (unhide HF).2⟩
end Go.Proofs.Ytokillomaemocaa.VK

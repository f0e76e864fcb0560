/-
  A trie in memory, and what is read of it.
-/
import Derived.Test.YtokillomaemocaaTrQc
import Derived.Test.YtokillomaemocaaTrQd
import Derived.Lib.QuietBelow
namespace Go.Proofs.Ytokillomaemocaa.VU
open Go.RowKit Go.PlainAid Go.Lib Go.PRow Go.Maps Go.TrM
set_option linter.unusedVariables false
set_option linter.unusedSimpArgs false
theorem hideA {p : Prop} (h : p) : Hid p := h
theorem unhideA {p : Prop} (h : Hid p) : p := h
/-- the trie of the values vs at bt -/
structure TrAt (w : World) (B bt : Nat) (vt vm vl : Value) (vs : List El) : Prop where
  ht : w.heap[bt]? = some (.cells #[vt, vm, vl] 104 (0, 0))
  rt : VW.RowE w B vt ((partsV vs).top.map Int.ofNat)
  rm : VW.RowE w B vm ((partsV vs).mid.map Int.ofNat)
  rl : RowE w B vl (partsV vs).low
  len : vs.length = 1114112
theorem TrAt.lt {w : World} {B bt : Nat} {vt vm vl : Value} {vs : List El} (h : TrAt w B bt vt vm vl vs) : bt < w.heap.size := (Array.getElem?_eq_some_iff.1 h.ht).1
theorem TrAt.below {w w' : World} {B bt : Nat} {vt vm vl : Value} {vs : List El} (h : TrAt w B bt vt vm vl vs) (b : Below w.heap.size w w') : TrAt w' B bt vt vm vl vs :=
  ⟨(b.block _ h.lt).trans h.ht, h.rt.below b, h.rm.below b, h.rl.below b, h.len⟩
/-- the parts of the values vs, as they are handed on -/
structure PaAt (w : World) (B : Nat) (vt vm vl : Value) (vs : List El) : Prop where
  rt : VW.RowE w B vt ((partsV vs).top.map Int.ofNat)
  rm : VW.RowE w B vm ((partsV vs).mid.map Int.ofNat)
  rl : RowE w B vl (partsV vs).low
  len : vs.length = 1114112
theorem TrAt.pa {w : World} {B bt : Nat} {vt vm vl : Value} {vs : List El} (h : TrAt w B bt vt vm vl vs) : PaAt w B vt vm vl vs := ⟨h.rt, h.rm, h.rl, h.len⟩
theorem PaAt.below {w w' : World} {B : Nat} {vt vm vl : Value} {vs : List El} (h : PaAt w B vt vm vl vs) (b : Below w.heap.size w w') : PaAt w' B vt vm vl vs :=
  ⟨h.rt.below b, h.rm.below b, h.rl.below b, h.len⟩
theorem cellT {w : World} {bn : Nat} {x y z : Value} {t : TypeId} (h : w.heap[bn]? = some (.cells #[x, y, z] t (0, 0))) : w.cell? ⟨bn, 0, none⟩ = some x ∧ w.cell? ⟨bn, 1, none⟩ = some y ∧ w.cell? ⟨bn, 2, none⟩ = some z := by
  refine ⟨?_, ?_, ?_⟩ <;> simp [World.cell?, h]
theorem top272 {vs : List El} (h : vs.length = 1114112) : (partsV vs).top.length = 272 := by rw [top_len, h]
/-- the number of the low block at a place -/
def lowP (vs : List El) (p : Nat) : Nat := ((lowsV vs).2[p]?).getD 0
set_option maxRecDepth 100000 in
set_option maxHeartbeats 2000000 in
theorem lowAtP_any (w : World) (B : Nat) (vt vm vl : Value) (vs : List El) (h : PaAt w B vt vm vl vs) (p : Nat) (hp : p < 17408) :
    Calls Try.prog 102 #[.agg #[vt, vm, vl], .int .i64 p] w fun e w' => e = .returned (.int .i64 (lowP vs p : Int)) ∧ Below w.heap.size w w' := by
  have hpl := place_at vs (p := p) (by rw [h.len]; omega)
  obtain ⟨m, l, h1, h2, h3, h4, h5, h6⟩ := hpl
  have hml := mids_le vs
  have hll := lows_le vs
  rw [h.len] at hml hll
  obtain ⟨gt, ct, rfl, hct, _, hc1⟩ := h.rt.cell (j := p / 64) (x := (m : Int)) (by rw [List.getElem?_map, h1]; rfl)
  obtain ⟨gm, cm, rfl, hcm, _, hc2⟩ := h.rm.cell (j := m * 64 + p % 64) (x := (l : Int)) (by rw [List.getElem?_map, h3]; rfl)
  have hlv : lowP vs p = l := by unfold lowP; rw [h4]; rfl
  have ht272 := top272 h.len
  have hmid := mid_len vs
  obtain ⟨W, hW⟩ : ∃ W, w.alloc (.cells #[.slice (some ⟨gt, 0, none⟩) ((partsV vs).top.map Int.ofNat).length ct, .slice (some ⟨gm, 0, none⟩) ((partsV vs).mid.map Int.ofNat).length cm, vl] 27) = W := ⟨_, rfl⟩
  have hB : Below w.heap.size w W := by rw [← hW]; exact (Below.refl _ w).alloc (Nat.le_refl _) _
  have hbx : W.heap[w.heap.size]? = some (.cells #[.slice (some ⟨gt, 0, none⟩) ((partsV vs).top.map Int.ofNat).length ct, .slice (some ⟨gm, 0, none⟩) ((partsV vs).mid.map Int.ofNat).length cm, vl] 27 (0, 0)) := by rw [← hW]; exact heap_alloc_new w _
  obtain ⟨c0, c1, c2⟩ := cellT hbx
  have d1 : W.cell? ⟨gt, p / 64, none⟩ = some (.int .u16 (m : Int)) := (hB.cell (World.block_lt_of_cell? _ _ hc1)).trans hc1
  have d2 : W.cell? ⟨gm, m * 64 + p % 64, none⟩ = some (.int .u16 (l : Int)) := (hB.cell (World.block_lt_of_cell? _ _ hc2)).trans hc2
  rw [hlv]
  simp only [List.length_map] at c0 c1 hW ⊢
  have k1 : m < 272 := by omega
  have k2 : l < 17408 := by omega
  have i1 : p / 64 < (partsV vs).top.length := by omega
  have i2 : m * 64 + p % 64 < (partsV vs).mid.length := by omega
  generalize (partsV vs).top.length = T at *
  generalize (partsV vs).mid.length = M at *
  have HB := hideA hB
  have q1 : IntKind.i64.wrap ((m : Int) * 64) = (m : Int) * 64 := by rw [IntKind.wrap_i64]; omega
  have q2 : IntKind.i64.wrap ((m : Int) * 64 + (p : Int) % 64) = (m : Int) * 64 + (p : Int) % 64 := by rw [IntKind.wrap_i64]; omega
  have q3 : (p : Int) / 64 < (T : Int) := by omega
  have q4 : (m : Int) * 64 + (p : Int) % 64 < (M : Int) := by omega
  subst hW
  clear hbx h1 h2 h3 h4 h5 h6 h hml hll hct hcm hc1 hc2 hlv hmid hB ht272
  go_enter Try.func102, Try.ntmps102
  go_wp2
  go_ret
  exact ⟨rfl, unhideA HB⟩
theorem lowAt_any (w : World) (B bt : Nat) (vt vm vl : Value) (vs : List El) (h : TrAt w B bt vt vm vl vs) (p : Nat) (hp : p < 17408) :
    Calls Try.prog 102 #[.agg #[vt, vm, vl], .int .i64 p] w fun e w' => e = .returned (.int .i64 (lowP vs p : Int)) ∧ Below w.heap.size w w' := lowAtP_any w B vt vm vl vs h.pa p hp
set_option maxRecDepth 100000 in
set_option maxHeartbeats 2000000 in
theorem low_any (w : World) (B bt : Nat) (vt vm vl : Value) (vs : List El) (h : TrAt w B bt vt vm vl vs) (r : Nat) (hr : r < 1114112) :
    Calls Try.prog 68 #[.pointer (some ⟨bt, 0, none⟩), .int .i32 r] w fun e w' => e = .returned (.int .i64 (lowP vs (r / 64) : Int)) ∧ Below w.heap.size w w' := by
  obtain ⟨c0, c1, c2⟩ := cellT h.ht
  have hlow := lowAt_any w B bt vt vm vl vs h (r / 64) (by omega)
  have HL := hideA hlow
  clear hlow h
  go_enter Try.func68, Try.ntmps68
  go_wp2_with fail
  have hdiv : (r : Int) / 64 = ((r / 64 : Nat) : Int) := by omega
  rw [hdiv]
  clear hdiv
  refine (unhideA HL).mono ?_
  rintro e w' ⟨rfl, hB⟩
  have HB := hideA hB
  clear hB
  go_wp2
  go_ret
  exact ⟨rfl, unhideA HB⟩
set_option maxRecDepth 100000 in
set_option maxHeartbeats 2000000 in
theorem absent_any (w : World) (B bt : Nat) (vt vm vl : Value) (vs : List El) (h : TrAt w B bt vt vm vl vs) :
    Calls Try.prog 50 #[.pointer (some ⟨bt, 0, none⟩)] w fun e w' => e = .returned (.bool false) ∧ w' = w := by
  obtain ⟨c0, c1, c2⟩ := cellT h.ht
  obtain ⟨a, cap, rfl, _⟩ := h.rt.form
  rw [List.length_map, top272 h.len] at c0
  clear h
  go_enter Try.func50, Try.ntmps50
  go_wp2
  go_ret
  exact ⟨rfl, rfl⟩
set_option maxRecDepth 100000 in
set_option maxHeartbeats 2000000 in
theorem absent_nil (w : World) : Calls Try.prog 50 #[.pointer none] w fun e w' => e = .returned (.bool true) ∧ w' = w := by
  go_enter Try.func50, Try.ntmps50
  go_wp2
  go_ret
  exact ⟨rfl, rfl⟩
theorem low_cell {vs : List El} (h : vs.length = 1114112) {n : Nat} {x : El} (hn : n < 1114112) (hx : vs[n]? = some x) : (partsV vs).low[lowP vs (n / 64) * 64 + n % 64]? = some x ∧ lowP vs (n / 64) < 17408 := by
  obtain ⟨m, l, _, _, _, h4, h5, h6⟩ := place_at vs (p := n / 64) (by rw [h]; omega)
  have hl := lows_le vs
  rw [h] at hl
  have e : lowP vs (n / 64) = l := by unfold lowP; rw [h4]; rfl
  rw [e]
  refine ⟨?_, by omega⟩
  show (lowsV vs).1.flatten[_]? = _
  rw [flat_at _ (lows_each vs) l (n % 64) _ h6 (by omega), List.getElem?_take, if_pos (by omega), List.getElem?_drop, show 64 * (n / 64) + n % 64 = n by omega, hx]
end Go.Proofs.Ytokillomaemocaa.VU

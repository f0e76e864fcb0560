/-
  TrieKnown walked.
-/
import Derived.Test.YtokillomaemocaaTrKnM
import Derived.Test.YtokillomaemocaaTrMpI
import Derived.Test.YtokillomaemocaaTrAt2I
import Derived.Test.YtokillomaemocaaTrFr
namespace Go.Proofs.Ytokillomaemocaa.trieKnown
open Go.ChangeShapes Go.WideShapes Go.ChangeAt Go.RowKit Go.PlainAid Go.Lib Go.ChangeMaps Go.PRow Go.TrM
open Go.Proofs.Ytokillomaemocaa.VK (SpAt)
set_option linter.unusedVariables false
set_option linter.unusedSimpArgs false
theorem more_any (x : Int) (h0 : 0 ≤ x) (h1 : x < 256) (w : World) : Calls Try.prog 43 #[.int .u8 x] w fun e w' => e = .returned (.int .i64 (x + 1)) ∧ w' = w := by
  have q1 : IntKind.i64.wrap x = x := by rw [IntKind.wrap_i64]; omega
  have q2 : IntKind.i64.wrap (x + 1) = x + 1 := by rw [IntKind.wrap_i64]; omega
  go_enter Try.func43, Try.ntmps43
  go_wp2
  go_ret
  exact ⟨rfl, rfl⟩
theorem more_ok (w : World) (vs : List Int) (h : ∀ x ∈ vs, 0 ≤ x ∧ x < 256) : VI.FnOk w 43 #[] (fun x => x + 1) vs := by
  refine ⟨enters_of Try.func43 (by kernel_rfl) rfl, fun x hx => ⟨?_, fun W _ => ?_⟩⟩
  · have := h x hx
    show (Lit.int .i64 (x + 1)).wf = true
    simp [Lit.wf, IntKind.min, IntKind.max, IntKind.signed, IntKind.bits]
    omega
  · refine (more_any x (h x hx).1 (h x hx).2 W).mono ?_
    rintro e w' ⟨rfl, rfl⟩
    exact ⟨rfl, Below.refl _ _⟩
theorem val_small (vs : List Int) (h : vs = valsF 0 [⟨65, 90, 1⟩]) : ∀ x ∈ vs, 0 ≤ x ∧ x < 256 := by
  intro x hx
  rw [h, VK.known_eq] at hx
  unfold oneV at hx
  simp only [List.mem_append, List.mem_replicate] at hx
  omega
/-- a cell of a row, in whatever world follows -/
theorem cellW {W : World} {B : Nat} {a : Option Addr} {n c : Nat} {xs : List Int} (h : VW.RowE W B (.slice a n c) xs) {N : Nat} (hN : xs.length = N) (hp : 0 < N) : ∃ g, a = some ⟨g, 0, none⟩ ∧ n = N ∧ ∀ V, Below W.heap.size W V → ∀ j x, xs[j]? = some x → V.cell? ⟨g, j, none⟩ = some (.int .u16 x) := by
  obtain ⟨y, hy⟩ : ∃ y, xs[0]? = some y := ⟨_, List.getElem?_eq_getElem (by omega)⟩
  obtain ⟨g, cap, e, _, _, _⟩ := h.cell hy
  injection e with e1 e2 e3
  refine ⟨g, e1, by omega, fun V hV j x hx => ?_⟩
  obtain ⟨g', cap', e', _, _, hc⟩ := h.cell hx
  injection e' with e1' _ _
  rw [e1] at e1'
  injection e1' with e1'
  injection e1' with e1'
  subst e1'
  exact (hV.cell (World.block_lt_of_cell? _ _ hc)).trans hc
theorem cellU {W : World} {B : Nat} {a : Option Addr} {n c : Nat} {xs : List Int} (h : VU.RowE W B (.slice a n c) xs) {N : Nat} (hN : xs.length = N) (hp : 0 < N) : ∃ g, a = some ⟨g, 0, none⟩ ∧ n = N ∧ ∀ V, Below W.heap.size W V → ∀ j x, xs[j]? = some x → V.cell? ⟨g, j, none⟩ = some (.int .u8 x) := by
  obtain ⟨y, hy⟩ : ∃ y, xs[0]? = some y := ⟨_, List.getElem?_eq_getElem (by omega)⟩
  obtain ⟨g, cap, e, _, _, _⟩ := h.cell hy
  injection e with e1 e2 e3
  refine ⟨g, e1, by omega, fun V hV j x hx => ?_⟩
  obtain ⟨g', cap', e', _, _, hc⟩ := h.cell hx
  injection e' with e1' _ _
  rw [e1] at e1'
  injection e1' with e1'
  injection e1' with e1'
  subst e1'
  exact (hV.cell (World.block_lt_of_cell? _ _ hc)).trans hc
set_option maxRecDepth 100000 in
set_option maxHeartbeats 4000000 in
theorem walk (w : World) : Calls Try.prog 10 #[] w fun e w' => e = .returned (.bool true) ∧ Below w.heap.size w w' := by
  have hb0 : ∀ (V : World), Below V.heap.size V (V.alloc (.cells #[.int .i32 65, .int .i32 90, .int .u8 1] 72)) := fun V => (Below.refl _ V).alloc (Nat.le_refl _) _
  have hb1 : ∀ (V : World), Below V.heap.size V (V.alloc (.cells #[.int .i32 5, .int .i32 4, .int .u8 1] 72)) := fun V => (Below.refl _ V).alloc (Nat.le_refl _) _
  have hb2 : ∀ (V : World), Below V.heap.size V (V.alloc (.cells #[.int .i32 0, .int .i32 9, .int .u8 1, .int .i32 32, .int .i32 41, .int .u8 1, .int .i32 9, .int .i32 15, .int .u8 2] 72)) := fun V => (Below.refl _ V).alloc (Nat.le_refl _) _
  have HB0 := VU.hide hb0
  have HB1 := VU.hide hb1
  have HB2 := VU.hide hb2
  clear hb0 hb1 hb2
  obtain ⟨r1, r2, r3⟩ := VK.known_ref
  have HR := VU.hide (And.intro r1 (And.intro r2 r3))
  clear r1 r2 r3
  go_enter Try.func10, Try.ntmps10
  go_wp2_with fail
  refine VK.build_any _ 0 (by decide) (by decide) (some ⟨w.heap.size, 0, none⟩) 1 [⟨65, 90, 1⟩] 1 rfl (by omega) (Nat.le_refl _) (fun p hp => by rw [List.mem_singleton.1 hp]; exact ⟨by decide, by decide⟩) _ (VK.sp_one w 65 90 1) (VK.hide fun _ w1 bt vt vm vl hT hbb hbt => ?_) (VK.hide fun h => absurd (VU.unhide HR).1 h)
  obtain ⟨vs, hvs⟩ : ∃ vs, vs = valsF 0 [⟨65, 90, 1⟩] := ⟨_, rfl⟩
  rw [← hvs] at hT
  have HW1 := VU.hide ((VU.unhide HB0 w).trans (hbb.mono (by simp)))
  have HT := VU.hide hT
  have HV := VU.hide hvs
  have HBT := VU.hide hbt
  clear hT hbb hbt hvs
  go_wp2_with fail
  refine VK.build_any _ 0 (by decide) (by decide) (some ⟨w1.heap.size, 0, none⟩) 1 [⟨5, 4, 1⟩] 1 rfl (by omega) (Nat.le_refl _) (fun p hp => by rw [List.mem_singleton.1 hp]; exact ⟨by decide, by decide⟩) _ (VK.sp_one w1 5 4 1) (VK.hide fun h => absurd h (by rw [(VU.unhide HR).2.1]; decide)) (VK.hide fun _ w2 hb2 => ?_)
  rw [(VU.unhide HR).2.1]
  have HW2 := VU.hide ((VU.unhide HB1 w1).trans (hb2.mono (by simp)))
  clear hb2
  go_wp2_with fail
  refine VK.build_any _ 0 (by decide) (by decide) (some ⟨w2.heap.size, 0, none⟩) 3 [⟨0, 9, 1⟩, ⟨32, 41, 1⟩, ⟨9, 15, 2⟩] 3 rfl (by omega) (Nat.le_refl _) (fun p hp => by simp only [List.mem_cons, List.not_mem_nil, or_false] at hp; rcases hp with rfl | rfl | rfl <;> exact ⟨by decide, by decide⟩) _ (VK.sp_three w2 0 9 1 32 41 1 9 15 2) (VK.hide fun h => absurd h (by rw [(VU.unhide HR).2.2]; decide)) (VK.hide fun _ w3 hb3 => ?_)
  rw [(VU.unhide HR).2.2]
  have HW3 := VU.hide ((VU.unhide HW2).trans (((VU.unhide HB2 w2).trans (hb3.mono (by simp))).mono (VU.unhide HW2).size))
  clear hb3
  go_wp2_with fail
  refine (VU.from_none w3).mono ?_
  rintro e w4 ⟨rfl, hb4⟩
  have HW4 := VU.hide ((VU.unhide HW3).trans (hb4.mono (VU.unhide HW3).size))
  clear hb4
  have HT4 := VU.hide ((VU.unhide HT).below (VU.unhide HW4))
  have HLEN := VU.hide (VU.unhide HT).len
  clear HT HW2 HW3
  go_wp2_with fail
  refine (VU.parts_any w4 _ bt vt vm vl _ (VU.unhide HT4) (VK.low_le _ (VU.unhide HLEN))).mono ?_
  rintro e w5 ⟨a1, n1, c1, a2, n2, c2, a3, n3, c3, rfl, ⟨p1, p2, p3⟩, hb5⟩
  obtain ⟨k1, k2, k3⟩ := VK.known_parts vs (VU.unhide HV)
  rw [k1] at p1
  rw [k2] at p2
  rw [k3] at p3
  obtain ⟨g1, rfl, rfl, d1⟩ := cellW p1 (N := 272) (by simp) (by omega)
  obtain ⟨g2, rfl, rfl, d2⟩ := cellW p2 (N := 128) (by simp) (by omega)
  obtain ⟨g3, rfl, rfl, d3⟩ := cellU p3 (N := 128) (by simp) (by omega)
  have HD := VU.hide (And.intro d1 (And.intro d2 d3))
  have HW5 := VU.hide ((VU.unhide HW4).trans (hb5.mono (VU.unhide HW4).size))
  have HT5 := VU.hide ((VU.unhide HT4).below hb5)
  clear hb5 k1 k2 k3 p1 p2 p3 d1 d2 d3 HT4 HW4
  obtain ⟨V, hV⟩ : ∃ V, V = w5.alloc (.cells #[.slice (some ⟨g1, 0, none⟩) 272 c1, .slice (some ⟨g2, 0, none⟩) 128 c2, .slice (some ⟨g3, 0, none⟩) 128 c3] 27) := ⟨_, rfl⟩
  have hbV : Below w5.heap.size w5 V := by rw [hV]; exact (Below.refl _ w5).alloc (Nat.le_refl _) _
  have hVx : V.heap[w5.heap.size]? = some (.cells #[.slice (some ⟨g1, 0, none⟩) 272 c1, .slice (some ⟨g2, 0, none⟩) 128 c2, .slice (some ⟨g3, 0, none⟩) 128 c3] 27 (0, 0)) := by rw [hV]; exact World.alloc_heap_new w5 _
  have HBV := VU.hide hbV
  have HVX := VU.hide hVx
  have HVE := VU.hide hV
  clear hbV hVx hV
  go_wp2_with fail
  rw [← VU.unhide HVE]
  refine VI.map_any _ V _ bt vt vm vl vs ((VU.unhide HT5).below (VU.unhide HBV)) _ _ (fun x => x + 1) (more_ok V vs (val_small vs (VU.unhide HV))) (VI.hide fun w6 bu ut um ul hU hb6 hbu => ?_)
  have h56 := (VU.unhide HBV).trans (hb6.mono (VU.unhide HBV).size)
  have hbx := (hb6.block _ (Array.getElem?_eq_some_iff.1 (VU.unhide HVX)).1).trans (VU.unhide HVX)
  have HW6 := VU.hide ((VU.unhide HW1).trans (((VU.unhide HW5).trans (h56.mono (VU.unhide HW5).size)).mono (VU.unhide HW1).size))
  have HAT := VU.hide (fun (W : World) (hW : Below w6.heap.size w6 W) (r : Int) (x : Int) hx => VI.at_any W _ bu ut um ul _ (hU.below hW) r x hx)
  obtain ⟨e1, e2, e3⟩ := VU.cellT hbx
  obtain ⟨d1, d2, d3⟩ := VU.unhide HD
  have t0 := d1 w6 h56 0 0 rfl
  have t1 := d1 w6 h56 1 1 rfl
  have m0 := d2 w6 h56 0 0 rfl
  have m1 := d2 w6 h56 1 1 rfl
  have m2 := d2 w6 h56 2 0 rfl
  have m64 := d2 w6 h56 64 0 rfl
  have l0 := d3 w6 h56 0 0 rfl
  have l64 := d3 w6 h56 64 0 rfl
  have l65 := d3 w6 h56 65 1 rfl
  have HX : Hid (∀ r x : Int, VU.atN r < 1114112 → valF 0 [⟨65, 90, 1⟩] (VU.atN r) = x → (vs.map (fun x => x + 1))[VI.atN r]? = some (x + 1)) := fun r x h hv => by
    have := VK.known_at r x h hv
    rw [← VU.unhide HV] at this
    show (vs.map (fun x => x + 1))[VU.atN r]? = some (x + 1)
    rw [List.getElem?_map, this]
    rfl
  have HD0 := VU.hide (Below.refl w6.heap.size w6)
  clear d1 d2 d3 hbx h56 hU hb6 hbu
  go_wp2_with fail
  refine (VU.unhide HAT w6 (VU.unhide HD0) 65 2 (VU.unhide HX 65 1 (by decide +kernel) (by decide +kernel))).mono ?_
  rintro e w7 ⟨rfl, hb7⟩
  have HD1 := VU.hide ((VU.unhide HD0).trans (hb7.mono (VU.unhide HD0).size))
  clear hb7
  go_wp2_with fail
  refine (VU.unhide HAT w7 (VU.unhide HD1) 64 1 (VU.unhide HX 64 0 (by decide +kernel) (by decide +kernel))).mono ?_
  rintro e w8 ⟨rfl, hb8⟩
  have HD2 := VU.hide ((VU.unhide HD1).trans (hb8.mono (VU.unhide HD1).size))
  clear hb8
  go_wp2_with fail
  refine (VK.awake_any w8).mono ?_
  rintro e w9 ⟨rfl, hb9⟩
  have HD3 := VU.hide ((VU.unhide HD2).trans (hb9.mono (VU.unhide HD2).size))
  clear hb9
  go_wp2
  go_ret
  exact ⟨rfl, (VU.unhide HW6).trans ((VU.unhide HD3).mono (VU.unhide HW6).size)⟩
end Go.Proofs.Ytokillomaemocaa.trieKnown

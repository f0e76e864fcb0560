/-
  The law's awake.
-/
import Derived.Test.YtokillomaemocaaTrBd
import Derived.Test.YtokillomaemocaaTrAwM
import Derived.Test.YtokillomaemocaaTrAt2U
import Derived.Test.YtokillomaemocaaTrQy
namespace Go.Proofs.Ytokillomaemocaa.VK
open Go.RowKit Go.PlainAid Go.Lib Go.PRow Go.TrM
set_option linter.unusedVariables false
set_option linter.unusedSimpArgs false
theorem valsF_at (rest : Int) (ps : List (Pc Int)) {k : Nat} (h : k < 1114112) : (valsF rest ps)[k]? = some (valF rest ps k) := by
  unfold valsF
  rw [List.getElem?_map, List.getElem?_range h]
  rfl
theorem one_eq : valsF 3 [⟨65, 90, 5⟩] = oneV (3 : Int) 5 := by
  have f0 : ∀ r : Nat, (r < 65 ∨ 90 < r) → valF 3 [⟨65, 90, 5⟩] r = 3 := fun r h => valF_out (fun p hp => by
    rw [List.mem_singleton.1 hp]
    intro hc
    have h1 : (65 : Int) ≤ (r : Int) := hc.1
    have h2 : (r : Int) ≤ 90 := hc.2
    omega)
  have f1 : ∀ r : Nat, 65 ≤ r → r ≤ 90 → valF 3 [⟨65, 90, 5⟩] r = 5 := fun r h1 h2 => valF_in (p := ⟨65, 90, 5⟩) (List.pairwise_singleton _ _) (List.mem_singleton.2 rfl) (by show (65 : Int) ≤ r; omega) (by show (r : Int) ≤ 90; omega)
  have e1 := range_more (valF 3 [⟨65, 90, 5⟩]) 0 65 3 (fun r _ h => f0 r (by omega))
  have e2 := range_more (valF 3 [⟨65, 90, 5⟩]) 65 26 5 (fun r h1 h2 => f1 r h1 (by omega))
  have e3 := range_more (valF 3 [⟨65, 90, 5⟩]) 91 1114021 3 (fun r h1 h2 => f0 r (by omega))
  rw [Nat.zero_add] at e1
  unfold valsF oneV
  rw [show 1114112 = 91 + 1114021 from rfl, ← e3, show 91 = 65 + 26 from rfl, ← e2, ← e1]
  rfl
theorem sp_one (w : World) (lo hi v : Int) : SpAt (w.alloc (.cells #[.int .i32 lo, .int .i32 hi, .int .u8 v] 72)) (some ⟨w.heap.size, 0, none⟩) [⟨lo, hi, v⟩] := fun _ => by
  refine ⟨w.heap.size, 0, rfl, by simp, fun j u hj => ?_⟩
  rw [Nat.zero_add, World.cell?_alloc_mark]
  have e : cellsP [(⟨lo, hi, v⟩ : Pc Int)] = [.int .i32 lo, .int .i32 hi, .int .u8 v] := rfl
  rw [e] at hj
  simpa using hj
theorem one_at (r x : Int) (h : VU.atN r < 1114112) (hv : valF 3 [⟨65, 90, 5⟩] (VU.atN r) = x) : (valsF 3 [⟨65, 90, 5⟩])[VU.atN r]? = some x := by rw [valsF_at 3 _ h, hv]
theorem ref_one : (refP [⟨65, 90, 5⟩]).2 = 0 := by decide
theorem row_len {W : World} {B : Nat} {a : Option Addr} {n c : Nat} {xs : List Int} (h : VU.RowE W B (.slice a n c) xs) : n = xs.length := by
  obtain ⟨a', c', e, _⟩ := h.form
  injection e
theorem row_lenW {W : World} {B : Nat} {a : Option Addr} {n c : Nat} {xs : List Int} (h : VW.RowE W B (.slice a n c) xs) : n = xs.length := by
  obtain ⟨a', c', e, _⟩ := h.form
  injection e
theorem low_le (vs : List Int) (h : vs.length = 1114112) : (partsV vs).low.length * 1 ≤ 140737488355328 := by
  rw [low_len]
  have := lows_le vs
  rw [h] at this
  omega
set_option maxRecDepth 100000 in
set_option maxHeartbeats 4000000 in
theorem awake_any (w : World) : Calls Try.prog 11 #[] w fun e w' => e = .returned (.bool true) ∧ Below w.heap.size w w' := by
  have hb0 : Below w.heap.size w (w.alloc (.cells #[.int .i32 65, .int .i32 90, .int .u8 5] 72)) := (Below.refl _ w).alloc (Nat.le_refl _) _
  have HSP := hide (sp_one w 65 90 5)
  have HB0 := hide hb0
  clear hb0
  go_enter Try.func11, Try.ntmps11
  go_wp2_with fail
  refine build_any _ 3 (by decide) (by decide) (some ⟨w.heap.size, 0, none⟩) 1 [⟨65, 90, 5⟩] 1 rfl (by omega) (Nat.le_refl _) (fun p hp => by rw [List.mem_singleton.1 hp]; exact ⟨by decide, by decide⟩) _ (unhide HSP) (hide fun _ w1 bt vt vm vl hT hb1 hbt => ?_) (hide fun h => absurd ref_one h)
  obtain ⟨vs, hvs⟩ : ∃ vs, vs = valsF 3 [⟨65, 90, 5⟩] := ⟨_, rfl⟩
  rw [← hvs] at hT
  have HB1 := hide ((unhide HB0).trans (hb1.mono (unhide HB0).size))
  have HT := hide hT
  have HLEN := hide hT.len
  have hlo : lowsV vs = lowsV (oneV (3 : Int) 5) := congrArg lowsV (hvs.trans one_eq)
  rw [lows_one (by decide)] at hlo
  have hmi : (midsV vs).1 = (midsV (oneV (3 : Int) 5)).1 := congrArg (fun v => (midsV v).1) (hvs.trans one_eq)
  rw [mids_one (by decide)] at hmi
  have HX : Hid (∀ r x : Int, VU.atN r < 1114112 → valF 3 [⟨65, 90, 5⟩] (VU.atN r) = x → vs[VU.atN r]? = some x) := fun r x h hv => by rw [hvs]; exact one_at r x h hv
  clear hvs
  clear hT hb1 hbt HSP
  have HBK := hide (VU.blocks_any w1 _ bt vt vm vl _ (unhide HT))
  rw [hlo, hmi] at HBK
  have HLO := hide hlo
  clear hlo hmi
  go_wp2_with fail
  refine (unhide HBK).mono ?_
  rintro e w2 ⟨rfl, hb2⟩
  have HB2 := hide ((unhide HB1).trans (hb2.mono (unhide HB1).size))
  have HT2 := hide ((unhide HT).below hb2)
  clear hb2
  have HAT := hide (fun (W : World) (hW : Below w2.heap.size w2 W) (r : Int) (x : Int) hx => VU.at_any W _ bt vt vm vl _ ((unhide HT2).below hW) r x hx)
  have HPA := hide (fun (W : World) (hW : Below w2.heap.size w2 W) => VU.parts_any W _ bt vt vm vl _ ((unhide HT2).below hW) (low_le _ (unhide HLEN)))
  have HD0 := hide (Below.refl w2.heap.size w2)
  go_wp2_with fail
  refine (unhide HAT w2 (unhide HD0) 64 3 (unhide HX 64 3 (by decide +kernel) (by decide +kernel))).mono ?_
  rintro e w3 ⟨rfl, hb3⟩
  have HD1 := hide ((unhide HD0).trans (hb3.mono (unhide HD0).size))
  clear hb3
  go_wp2_with fail
  refine (unhide HAT w3 (unhide HD1) 65 5 (unhide HX 65 5 (by decide +kernel) (by decide +kernel))).mono ?_
  rintro e w4 ⟨rfl, hb4⟩
  have HD2 := hide ((unhide HD1).trans (hb4.mono (unhide HD1).size))
  clear hb4
  go_wp2_with fail
  refine (unhide HAT w4 (unhide HD2) 90 5 (unhide HX 90 5 (by decide +kernel) (by decide +kernel))).mono ?_
  rintro e w5 ⟨rfl, hb5⟩
  have HD3 := hide ((unhide HD2).trans (hb5.mono (unhide HD2).size))
  clear hb5
  go_wp2_with fail
  refine (unhide HAT w5 (unhide HD3) (-1) 3 (unhide HX (-1) 3 (by decide +kernel) (by decide +kernel))).mono ?_
  rintro e w6 ⟨rfl, hb6⟩
  have HD4 := hide ((unhide HD3).trans (hb6.mono (unhide HD3).size))
  clear hb6
  go_wp2_with fail
  refine (unhide HPA w6 (unhide HD4)).mono ?_
  rintro e w7 ⟨x1, n1, y1, x2, n2, y2, x3, n3, y3, rfl, f1, hb7⟩
  have hln := row_lenW f1.1
  rw [List.length_map, VU.top272 (unhide HLEN)] at hln
  subst hln
  have hfd : ∀ W : World, (Instr.field 27 (.agg #[.slice x1 272 y1, .slice x2 n2 y2, .slice x3 n3 y3]) 0).run Try.prog W = .ok (.slice x1 272 y1) W := fun W => by kernel_rfl
  have HD5 := hide ((unhide HD4).trans (hb7.mono (unhide HD4).size))
  clear hb7 f1
  go_wp2_with fail
  refine (unhide HPA w7 (unhide HD5)).mono ?_
  rintro e w8 ⟨x1, n1, y1, x2, n2, y2, x3, n3, y3, rfl, f1, hb8⟩
  have hln := row_len f1.2.2
  rw [low_len, unhide HLO] at hln
  have hln : n3 = 128 := hln
  subst hln
  have hfd2 : ∀ W : World, (Instr.field 27 (.agg #[.slice x1 n1 y1, .slice x2 n2 y2, .slice x3 128 y3]) 2).run Try.prog W = .ok (.slice x3 128 y3) W := fun W => by kernel_rfl
  have HD6 := hide ((unhide HD5).trans (hb8.mono (unhide HD5).size))
  clear hb8 f1
  go_wp2
  go_ret
  exact ⟨rfl, (unhide HB2).trans ((unhide HD6).mono (unhide HB2).size)⟩
end Go.Proofs.Ytokillomaemocaa.VK

/-
  TrieTurns walked.
-/
import Derived.Test.YtokillomaemocaaTrTx
import Derived.Test.YtokillomaemocaaTrQx
import Derived.Test.YtokillomaemocaaTrSaU
import Derived.Test.YtokillomaemocaaTrSaS
import Derived.Laws.EntriesVeiled
namespace Go.Proofs.Ytokillomaemocaa.trieTurns
open Go.ChangeShapes Go.WideShapes Go.ChangeAt Go.RowKit Go.PlainAid Go.Lib Go.ChangeMaps Go.PRow Go.TrM
open Go.Proofs.Ytokillomaemocaa.VK (SpAt textE)
open Go.Proofs.Ytokillomaemocaa.trieSmall (Blt build_blt)
set_option linter.unusedVariables false
set_option linter.unusedSimpArgs false
theorem okB {x : Int} (h0 : 0 ≤ x) (h1 : x < 256) : VU.okE x := by
  show (Lit.int .u8 x).wf = true
  simp [Lit.wf, IntKind.min, IntKind.max, IntKind.signed, IntKind.bits]
  omega
theorem okT (x : Int) : VS.okE (textE x) := by show 2 ≤ maxLen; decide
theorem vals_small (rest : Int) (hr0 : 0 ≤ rest) (hr1 : rest < 256) (ps : List (Pc Int)) (hv : ∀ p ∈ ps, 0 ≤ p.val ∧ p.val < 256) : ∀ x ∈ valsF rest ps, 0 ≤ x ∧ x < 256 := by
  intro x hx
  unfold valsF at hx
  obtain ⟨r, _, rfl⟩ := List.mem_map.1 hx
  unfold valF
  split
  · rename_i p hp
    exact hv p (List.mem_of_find?_eq_some hp)
  · exact ⟨hr0, hr1⟩
theorem wrap_small (x : Int) : 0 ≤ IntKind.u8.wrap x ∧ IntKind.u8.wrap x < 256 := by rw [IntKind.wrap_u8]; omega
theorem one_ok (w : World) (b : Nat) (add : Int) (hb : w.heap[b]? = some (.cells #[.int .u8 add] 5 (0, 0))) (vs : List Int) : VU.FnOk w 32 #[.pointer (some ⟨b, 0, none⟩)] (fun x => IntKind.u8.wrap (x + add)) vs := by
  refine ⟨enters_of Try.func32 (by kernel_rfl) rfl, fun x hx => ⟨okB (wrap_small _).1 (wrap_small _).2, fun W hW => ?_⟩⟩
  have h := (hW.block _ (Array.getElem?_eq_some_iff.1 hb).1).trans hb
  refine (VK.one_any x add b W (by simp [World.cell?, h])).mono ?_
  rintro e w' ⟨rfl, rfl⟩
  exact ⟨rfl, Below.refl _ _⟩
theorem two_ok (w : World) (b : Nat) (most : Int) (g0 : 0 ≤ most) (g1 : most < 256) (hb : w.heap[b]? = some (.cells #[.int .u8 most] 5 (0, 0))) (vs : List Int) (hv : ∀ x ∈ vs, 0 ≤ x ∧ x < 256) : VS.FnOk w 33 #[.pointer (some ⟨b, 0, none⟩)] (fun x => textE (min x most)) vs := by
  refine ⟨enters_of Try.func33 (by kernel_rfl) rfl, fun x hx => ⟨okT _, fun W hW => ?_⟩⟩
  have h := (hW.block _ (Array.getElem?_eq_some_iff.1 hb).1).trans hb
  exact VK.two_any x most (hv x hx).1 (hv x hx).2 g0 g1 b W (by simp [World.cell?, h])
theorem three_ok (w : World) (b6 b7 b12 b13 : Nat) (add most : Int) (g0 : 0 ≤ most) (g1 : most < 256) (h6 : w.heap[b6]? = some (.cells #[.int .u8 add] 5 (0, 0))) (h7 : w.heap[b7]? = some (.cells #[.int .u8 most] 5 (0, 0)))
    (h12 : w.heap[b12]? = some (.cells #[.func (.func 32) #[] #[.pointer (some ⟨b6, 0, none⟩)]] 51 (0, 0))) (h13 : w.heap[b13]? = some (.cells #[.func (.func 33) #[] #[.pointer (some ⟨b7, 0, none⟩)]] 64 (0, 0))) (vs : List Int) :
    VS.FnOk w 34 #[.pointer (some ⟨b13, 0, none⟩), .pointer (some ⟨b12, 0, none⟩)] (fun x => textE (min (IntKind.u8.wrap (x + add)) most)) vs := by
  refine ⟨enters_of Try.func34 (by kernel_rfl) rfl, fun x hx => ⟨okT _, fun W hW => ?_⟩⟩
  have k6 := (hW.block _ (Array.getElem?_eq_some_iff.1 h6).1).trans h6
  have k7 := (hW.block _ (Array.getElem?_eq_some_iff.1 h7).1).trans h7
  have k12 := (hW.block _ (Array.getElem?_eq_some_iff.1 h12).1).trans h12
  have k13 := (hW.block _ (Array.getElem?_eq_some_iff.1 h13).1).trans h13
  exact VK.three_any x add most g0 g1 b6 b7 b12 b13 W (by simp [World.cell?, k6]) (by simp [World.cell?, k7]) (by simp [World.cell?, k12]) (by simp [World.cell?, k13])
theorem same_ok (w : World) (vs : List Int) (hv : ∀ x ∈ vs, 0 ≤ x ∧ x < 256) : VU.FnOk w 20 #[] (fun x => x) vs := by
  refine ⟨enters_of Try.func20 (by kernel_rfl) rfl, fun x hx => ⟨okB (hv x hx).1 (hv x hx).2, fun W hW => ?_⟩⟩
  refine (VK.same_any x W).mono ?_
  rintro e w' ⟨rfl, rfl⟩
  exact ⟨rfl, Below.refl _ _⟩
set_option maxRecDepth 100000 in
set_option maxHeartbeats 4000000 in
theorem walk (rest : Int) (a : Option Addr) (n cap : Nat) (ps : List (Pc Int)) (add most : Int) (w : World) (hr0 : 0 ≤ rest) (hr1 : rest ≤ 255) (hn : ps.length = n) (hc : n ≤ cap) (hS : SpAt w a ps) (hv : ∀ p ∈ ps, 0 ≤ p.val ∧ p.val < 256) (ha0 : 0 ≤ add) (ha1 : add ≤ 255) (hm0 : 0 ≤ most) (hm1 : most ≤ 255) :
    Calls Try.prog 8 #[.int .u8 rest, .slice a n cap, .int .u8 add, .int .u8 most] w fun e w' => e = .returned (.bool true) ∧ Below w.heap.size w w' := by
  obtain ⟨V, hV⟩ : ∃ V, V = (w.alloc (.cells #[.int .u8 add] 5)).alloc (.cells #[.int .u8 most] 5) := ⟨_, rfl⟩
  have hbV : Below w.heap.size w V := by rw [hV]; exact ((Below.refl _ w).alloc (Nat.le_refl _) _).alloc (by simp) _
  have h6 : V.heap[w.heap.size]? = some (.cells #[.int .u8 add] 5 (0, 0)) := by rw [hV]; exact VU.heap_al (VU.heap_at (w := w) _ _ rfl) _
  have h7 : V.heap[w.heap.size + 1]? = some (.cells #[.int .u8 most] 5 (0, 0)) := by rw [hV]; exact VU.heap_at (w := w.alloc _) _ _ (by simp)
  have HV := VU.hide hV
  have HB := VU.hide hbV
  have HX := VU.hide (And.intro h6 h7)
  have HAW := VU.hide (VK.awake_any V)
  have HS := VU.hide (hS.below hbV)
  have HVV := VU.hide hv
  have HN := VU.hide hn
  clear hS hv hn hbV h6 h7 hV
  by_cases h60 : 60 < n
  · go_enter Try.func8, Try.ntmps8
    go_wp2_with fail
    rw [← VU.unhide HV]
    refine (VU.unhide HAW).mono ?_
    rintro e w1 ⟨rfl, hb1⟩
    have HF := VU.hide ((VU.unhide HB).trans (hb1.mono (VU.unhide HB).size))
    clear hb1
    go_wp2
    go_ret
    exact ⟨rfl, VU.unhide HF⟩
  go_enter Try.func8, Try.ntmps8
  go_wp2_with fail
  rw [← VU.unhide HV]
  refine (build_blt rest hr0 hr1 a cap ps n (VU.unhide HN) (by omega) hc (VU.unhide HVV) V (VU.unhide HS)).mono ?_
  rintro e w1 ⟨v7, v8, v9, rfl, hbl, hb1⟩
  by_cases h0 : (refP ps).2 = 0
  · obtain ⟨rfl, h, _⟩ := hbl
    obtain ⟨bt, vt, vm, vl, rfl, hT⟩ := h h0
    rw [h0]
    have HT := VU.hide hT
    have HB1 := VU.hide ((VU.unhide HB).trans (hb1.mono (VU.unhide HB).size))
    have HX1 := VU.hide (And.intro ((hb1.block _ (Array.getElem?_eq_some_iff.1 (VU.unhide HX).1).1).trans (VU.unhide HX).1) ((hb1.block _ (Array.getElem?_eq_some_iff.1 (VU.unhide HX).2).1).trans (VU.unhide HX).2))
    clear hT h hb1 HAW HS
    go_upto_region 8 with fail
    obtain ⟨V2, hV2⟩ : ∃ V2, V2 = (w1.alloc (.cells #[.func (.func 32) #[] #[.pointer (some ⟨w.heap.size, 0, none⟩)]] 51)).alloc (.cells #[.func (.func 33) #[] #[.pointer (some ⟨w.heap.size + 1, 0, none⟩)]] 64) := ⟨_, rfl⟩
    have hb2 : Below w1.heap.size w1 V2 := by rw [hV2]; exact ((Below.refl _ w1).alloc (Nat.le_refl _) _).alloc (by simp) _
    have h12 : V2.heap[w1.heap.size]? = some (.cells #[.func (.func 32) #[] #[.pointer (some ⟨w.heap.size, 0, none⟩)]] 51 (0, 0)) := by rw [hV2]; exact VU.heap_al (VU.heap_at (w := w1) _ _ rfl) _
    have h13 : V2.heap[w1.heap.size + 1]? = some (.cells #[.func (.func 33) #[] #[.pointer (some ⟨w.heap.size + 1, 0, none⟩)]] 64 (0, 0)) := by rw [hV2]; exact VU.heap_at (w := w1.alloc _) _ _ (by simp)
    rw [← hV2]
    have HT2 := VU.hide ((VU.unhide HT).below hb2)
    have HB2 := VU.hide ((VU.unhide HB1).trans (hb2.mono (VU.unhide HB1).size))
    have HX2 := VU.hide (And.intro ((hb2.block _ (Array.getElem?_eq_some_iff.1 (VU.unhide HX1).1).1).trans (VU.unhide HX1).1) (And.intro ((hb2.block _ (Array.getElem?_eq_some_iff.1 (VU.unhide HX1).2).1).trans (VU.unhide HX1).2) (And.intro h12 h13)))
    clear hV2 hb2 h12 h13 HT HB1 HX1 HX
    have HSM := VU.hide (vals_small rest hr0 (by omega) ps (VU.unhide HVV))
    have HLN := VU.hide (VU.unhide HT2).len
    generalize valsF rest ps = vs at *
    go_cut [14] from 32 to 36 (fun v14 wx => Hid ((∃ B1 b1 t1 m1 l1, v14 = .pointer (some ⟨b1, 0, none⟩) ∧ VS.TrAt wx B1 b1 t1 m1 l1 (vs.map fun x => textE (min (IntKind.u8.wrap (x + add)) most))) ∧ Below V2.heap.size V2 wx))
    case first =>
      have hS1 : Below V2.heap.size V2 V2.drew := (Below.refl _ V2).drew
      have L12 : ∀ X : World, Below V2.heap.size V2 X → X.cell? ⟨w1.heap.size, 0, none⟩ = some (.func (.func 32) #[] #[.pointer (some ⟨w.heap.size, 0, none⟩)]) := fun X hX => by
        have h := (hX.block _ (Array.getElem?_eq_some_iff.1 (VU.unhide HX2).2.2.1).1).trans (VU.unhide HX2).2.2.1
        simp [World.cell?, h]
      have L13 : ∀ X : World, Below V2.heap.size V2 X → X.cell? ⟨w1.heap.size + 1, 0, none⟩ = some (.func (.func 33) #[] #[.pointer (some ⟨w.heap.size + 1, 0, none⟩)]) := fun X hX => by
        have h := (hX.block _ (Array.getElem?_eq_some_iff.1 (VU.unhide HX2).2.2.2).1).trans (VU.unhide HX2).2.2.2
        simp [World.cell?, h]
      refine PStep.wp_only ?_
      refine wp_region_held (S := fun W => Below V2.heap.size V2 W) (by kernel_rfl) ?_
      show wpAnyH _ _ _ _ _ _ _ _ V2.drew
      refine PStep.take (i := 0) (v := .pointer (some ⟨bt, 0, none⟩)) (some 32) rfl rfl (by kernel_rfl) (by kernel_rfl) (by kernel_rfl) (fun _ _ _ h => h) (.inl ⟨rfl, fun X hX => by simp [go_sem, execOp, Act.eval, Act.put]⟩) hS1 ?_
      refine PStep.take (i := 1) (v := .func (.func 32) #[] #[.pointer (some ⟨w.heap.size, 0, none⟩)]) (some 33) rfl rfl (by kernel_rfl) (by kernel_rfl) (by kernel_rfl) (fun _ _ _ h => h) (.inl ⟨rfl, fun X hX => by have h := L12 X hX; simp [go_sem, execOp, Act.eval, Act.put, h]⟩) hS1 ?_
      refine PStep.take (i := 3) (v := .func (.func 33) #[] #[.pointer (some ⟨w.heap.size + 1, 0, none⟩)]) (some 35) rfl rfl (by kernel_rfl) (by kernel_rfl) (by kernel_rfl) (fun _ _ _ h => h) (.inl ⟨rfl, fun X hX => by have h := L13 X hX; simp [go_sem, execOp, Act.eval, Act.put, h]⟩) hS1 ?_
      refine wpAnyH_all (rs := [2]) (by kernel_rfl) (by simp) ?_
      intro i hi4
      obtain rfl : i = 2 := by simpa using hi4
      refine PStep.wpOp_call (f := 27) (args := #[.pointer (some ⟨bt, 0, none⟩), .func (.func 32) #[] #[.pointer (some ⟨w.heap.size, 0, none⟩)]]) (w' := V2.drew) rfl rfl (some 34) rfl (by simp [go_sem, execOp, Act.eval, Act.put]) (VU.map_ex V2.drew _ bt vt vm vl vs ((VU.unhide HT2).below (Below.refl _ V2).drew) _ _ _ (one_ok V2.drew _ add (VU.unhide HX2).1 vs)) ?_
      rintro e V3 ⟨b3, t3, m3, l3, rfl, hT3, hb3⟩
      have hB3 : Below V2.heap.size V2 V3 := hS1.trans hb3
      refine ⟨_, rfl, hB3, ?_⟩
      refine wpAnyH_all (rs := [4]) (by kernel_rfl) (by simp) ?_
      intro i hi4
      obtain rfl : i = 4 := by simpa using hi4
      have h7 := (hB3.block _ (Array.getElem?_eq_some_iff.1 (VU.unhide HX2).2.1).1).trans (VU.unhide HX2).2.1
      refine PStep.wpOp_call (f := 25) (args := #[.pointer (some ⟨b3, 0, none⟩), .func (.func 33) #[] #[.pointer (some ⟨w.heap.size + 1, 0, none⟩)]]) (w' := V3) rfl rfl (some 36) rfl (by simp [go_sem, execOp, Act.eval, Act.put]) (VS.map_ex V3 _ b3 t3 m3 l3 _ hT3 _ _ _ (two_ok V3 _ most hm0 (by omega) h7 _ (fun x hx => by obtain ⟨y, _, rfl⟩ := List.mem_map.1 hx; exact wrap_small _))) ?_
      rintro e V4 ⟨b4, t4, m4, l4, rfl, hT4, hb4⟩
      have hB4 : Below V2.heap.size V2 V4 := hB3.trans (hb4.mono hB3.size)
      refine ⟨_, rfl, hB4, ?_⟩
      refine PStep.take (i := 5) (v := .pointer (some ⟨b4, 0, none⟩)) (some 14) rfl rfl (by kernel_rfl) (by kernel_rfl) (by kernel_rfl) (fun _ _ _ h => h) (.inl ⟨rfl, fun X hX => by simp [go_sem, execOp, Act.eval, Act.put]⟩) hB4 ?_
      refine wpAnyH_done (by kernel_rfl) ?_ _
      rw [List.map_map] at hT4
      have HF := VU.hide (And.intro (show ∃ B1 b1 t1 m1 l1, (.pointer (some ⟨b4, 0, none⟩) : Value) = .pointer (some ⟨b1, 0, none⟩) ∧ VS.TrAt V4 B1 b1 t1 m1 l1 (vs.map fun x => textE (min (IntKind.u8.wrap (x + add)) most)) from ⟨_, _, _, _, _, rfl, hT4⟩) hB4)
      clear hT3 hT4 hb3 hb4 hB3 hB4 h7 hS1 L12 L13
      simp only [Act.put, PStep.only, List.setIfInBounds_toArray, List.set_cons_succ, List.set_cons_zero]
      go_wp2_with fail
      go_meet
      exact HF
    case rest =>
      obtain ⟨⟨B1, b1, t1, m1, l1, rfl, hA⟩, hbc⟩ := VU.unhide hcut
      have HA := VU.hide hA
      have HBC := VU.hide hbc
      have HTC := VU.hide ((VU.unhide HT2).below hbc)
      have k : ∀ {q : Nat} {o : Obj}, V2.heap[q]? = some o → wc.heap[q]? = some o := fun h => (hbc.block _ (Array.getElem?_eq_some_iff.1 h).1).trans h
      obtain ⟨h6, h7, h12, h13⟩ := VU.unhide HX2
      have h3 := three_ok wc w.heap.size (w.heap.size + 1) w1.heap.size (w1.heap.size + 1) add most hm0 (by omega) (k h6) (k h7) (k h12) (k h13) vs
      have H3 := VU.hide h3
      clear hA hbc h3 k h6 h7 h12 h13 HT2 HX2 hcut
      go_wp2_with fail
      refine VS.map_any _ wc _ bt vt vm vl vs (VU.unhide HTC) _ _ _ (VU.unhide H3) (VS.hide fun w2 b2 t2 m2 l2 hT2 hb2 _ => ?_)
      have HA2 := VU.hide ((VU.unhide HA).below hb2)
      have HB2' := VU.hide hT2
      have HTD := VU.hide ((VU.unhide HTC).below hb2)
      have HBD := VU.hide ((VU.unhide HBC).trans (hb2.mono (VU.unhide HBC).size))
      clear hT2 hb2 HA HTC HBC H3
      go_wp2_with fail
      refine (VS.same_yes w2 _ _ _ _ _ _ _ _ _ _ _ _ (VU.unhide HA2) (VU.unhide HB2') rfl).mono ?_
      rintro e w3 ⟨rfl, hb3⟩
      have HTE := VU.hide ((VU.unhide HTD).below hb3)
      have HBE := VU.hide ((VU.unhide HBD).trans (hb3.mono (VU.unhide HBD).size))
      clear hb3 HA2 HB2' HTD HBD
      go_wp2_with fail
      refine VU.map_any _ w3 _ bt vt vm vl vs (VU.unhide HTE) _ _ (fun x => x) (same_ok w3 vs (VU.unhide HSM)) (VU.hide fun w4 b4 t4 m4 l4 hT4 hb4 _ => ?_)
      rw [List.map_id'] at hT4
      have HT4 := VU.hide hT4
      have HTF := VU.hide ((VU.unhide HTE).below hb4)
      have HBF := VU.hide ((VU.unhide HBE).trans (hb4.mono (VU.unhide HBE).size))
      clear hT4 hb4 HTE HBE
      go_wp2_with fail
      refine (VU.same_yes w4 _ _ _ _ _ _ _ _ _ _ _ _ (VU.unhide HT4) (VU.unhide HTF) rfl).mono ?_
      rintro e w5 ⟨rfl, hb5⟩
      have HBG := VU.hide ((VU.unhide HBF).trans (hb5.mono (VU.unhide HBF).size))
      clear hb5 HT4 HTF HBF
      go_wp2_with fail
      refine (VK.awake_any w5).mono ?_
      rintro e w6 ⟨rfl, hb6⟩
      have HBH := VU.hide ((VU.unhide HB2).trans (((VU.unhide HBG).trans (hb6.mono (VU.unhide HBG).size)).mono (VU.unhide HB2).size))
      clear hb6
      go_wp2
      go_ret
      exact ⟨rfl, VU.unhide HBH⟩
  · obtain ⟨rfl, _, _⟩ := hbl
    have HF1 := VU.hide ((VU.unhide HB).trans (hb1.mono (VU.unhide HB).size))
    have hz : ¬ ((refP ps).2 : Int) = 0 := by omega
    generalize (refP ps).2 = k0 at *
    have HAW1 := VU.hide (VK.awake_any w1)
    clear hb1
    go_wp2_with fail
    refine (VU.unhide HAW1).mono ?_
    rintro e w2 ⟨rfl, hb2⟩
    have HF := VU.hide ((VU.unhide HF1).trans (hb2.mono (VU.unhide HF1).size))
    clear hb2
    go_wp2
    go_ret
    exact ⟨rfl, VU.unhide HF⟩
end Go.Proofs.Ytokillomaemocaa.trieTurns

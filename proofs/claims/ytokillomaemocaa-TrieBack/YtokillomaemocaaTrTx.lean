/-
  The law's text, same; TrieTurns' three functions.
-/
import Derived.Test.YtokillomaemocaaTrMpU
import Derived.Test.YtokillomaemocaaTrMpS
import Derived.Laws.IdiomStrings
import Derived.Lib.QuietBelow
namespace Go.Proofs.Ytokillomaemocaa.VK
open Go.RowKit Go.PlainAid Go.Lib Go.PRow Go.TrM
set_option linter.unusedVariables false
set_option linter.unusedSimpArgs false
theorem hideT {p : Prop} (h : p) : Hid p := h
theorem unhideT {p : Prop} (h : Hid p) : p := h
def textE (x : Int) : List UInt8 := [x.toNat.toUInt8, x.toNat.toUInt8]
theorem toU8 {x : Int} (h0 : 0 ≤ x) (h1 : x < 256) : (x.toNat.toUInt8.toNat : Int) = x := by
  have : x.toNat.toUInt8.toNat = x.toNat % 256 := UInt8.toNat_ofNat'
  omega
theorem two_conv (w : World) (b : UInt8) :
    (convert 25 9 (.slice (some ⟨w.heap.size, 0, none⟩) 2 2)).run Try.prog (w.alloc (.cells #[.int .u8 (b.toNat : Int), .int .u8 (b.toNat : Int)] 5)) = .ok (.string ⟨#[b, b]⟩) (w.alloc (.cells #[.int .u8 (b.toNat : Int), .int .u8 (b.toNat : Int)] 5)) := by
  refine run_convert_bytes_back (P := Try.prog) _ 25 9 5 ⟨w.heap.size, 0, none⟩ 2 [b, b] Try.underlying25 Try.underlying5 Try.underlying9 (fun j hj => ?_)
  have hj : j = 0 ∨ j = 1 := by simp at hj; omega
  have h := heap_alloc_new w (.cells #[.int .u8 (b.toNat : Int), .int .u8 (b.toNat : Int)] 5)
  generalize w.alloc (.cells #[.int .u8 (b.toNat : Int), .int .u8 (b.toNat : Int)] 5) = W at h
  rcases hj with rfl | rfl
  · show W.cell? ⟨w.heap.size, 0, none⟩ = _
    simp [World.cell?, h]
  · show W.cell? ⟨w.heap.size, 1, none⟩ = _
    simp [World.cell?, h]
set_option maxRecDepth 100000 in
theorem text_any (x : Int) (h0 : 0 ≤ x) (h1 : x < 256) (w : World) : Calls Try.prog 26 #[.int .u8 x] w fun e w' => e = .returned (VS.enc (textE x)) ∧ Below w.heap.size w w' := by
  have hc := two_conv w x.toNat.toUInt8
  rw [toU8 h0 h1] at hc
  have HB := hideT ((Below.refl w.heap.size w).alloc (Nat.le_refl _) (.cells #[.int .u8 x, .int .u8 x] 5))
  go_enter Try.func26, Try.ntmps26
  go_wp2
  go_ret
  exact ⟨rfl, unhideT HB⟩
theorem same_any (x : Int) (w : World) : Calls Try.prog 20 #[.int .u8 x] w fun e w' => e = .returned (.int .u8 x) ∧ w' = w := by
  go_enter Try.func20, Try.ntmps20
  go_wp2
  go_ret
  exact ⟨rfl, rfl⟩
theorem one_any (x add : Int) (b : Nat) (w : World) (hc : w.cell? ⟨b, 0, none⟩ = some (.int .u8 add)) : Calls Try.prog 32 #[.int .u8 x, .pointer (some ⟨b, 0, none⟩)] w fun e w' => e = .returned (.int .u8 (IntKind.u8.wrap (x + add))) ∧ w' = w := by
  go_enter Try.func32, Try.ntmps32
  go_wp2
  go_ret
  exact ⟨rfl, rfl⟩
theorem two_any (x most : Int) (h0 : 0 ≤ x) (h1 : x < 256) (g0 : 0 ≤ most) (g1 : most < 256) (b : Nat) (w : World) (hc : w.cell? ⟨b, 0, none⟩ = some (.int .u8 most)) : Calls Try.prog 33 #[.int .u8 x, .pointer (some ⟨b, 0, none⟩)] w fun e w' => e = .returned (VS.enc (textE (min x most))) ∧ Below w.heap.size w w' := by
  have HX := hideT (fun W => text_any (min x most) (by omega) (by omega) W)
  go_enter Try.func33, Try.ntmps33
  go_wp2_with fail
  refine (unhideT HX _).mono ?_
  rintro e w1 ⟨rfl, hb⟩
  have HB := hideT hb
  clear hb
  go_wp2
  go_ret
  exact ⟨rfl, unhideT HB⟩
set_option maxRecDepth 100000 in
set_option maxHeartbeats 4000000 in
theorem three_any (x add most : Int) (g0 : 0 ≤ most) (g1 : most < 256) (b6 b7 b12 b13 : Nat) (w : World) (c6 : w.cell? ⟨b6, 0, none⟩ = some (.int .u8 add)) (c7 : w.cell? ⟨b7, 0, none⟩ = some (.int .u8 most)) (c12 : w.cell? ⟨b12, 0, none⟩ = some (.func (.func 32) #[] #[.pointer (some ⟨b6, 0, none⟩)])) (c13 : w.cell? ⟨b13, 0, none⟩ = some (.func (.func 33) #[] #[.pointer (some ⟨b7, 0, none⟩)])) :
    Calls Try.prog 34 #[.int .u8 x, .pointer (some ⟨b13, 0, none⟩), .pointer (some ⟨b12, 0, none⟩)] w fun e w' => e = .returned (VS.enc (textE (min (IntKind.u8.wrap (x + add)) most))) ∧ Below w.heap.size w w' := by
  have X6 := fun dq os => cell_regrown c6 dq os
  have X7 := fun dq os => cell_regrown c7 dq os
  have X12 := fun dq os => cell_regrown c12 dq os
  have X13 := fun dq os => cell_regrown c13 dq os
  obtain ⟨k0, k1⟩ : 0 ≤ IntKind.u8.wrap (x + add) ∧ IntKind.u8.wrap (x + add) < 256 := by rw [IntKind.wrap_u8]; omega
  have H1 := hideT (fun dq os => (one_any x add b6 (Sort.grow (redrawn w dq) os) (X6 dq os)).mono (fun e w' h => (⟨h.1, by rw [h.2]; exact Below.refl _ _⟩ : e = .returned (.int .u8 (IntKind.u8.wrap (x + add))) ∧ Below (Sort.grow (redrawn w dq) os).heap.size (Sort.grow (redrawn w dq) os) w')))
  have H2 := hideT (fun dq os => two_any (IntKind.u8.wrap (x + add)) most k0 k1 g0 g1 b7 (Sort.grow (redrawn w dq) os) (X7 dq os))
  clear c6 c7 c12 c13 X6 X7 k0 k1
  generalize IntKind.u8.wrap (x + add) = z at *
  go_enter Try.func34, Try.ntmps34
  go_wp2_with fail
  refine wp_region_quiet_below (by kernel_rfl) (by kernel_rfl) ?_
  iterate 3 (go_big_quiet_step (fail))
  go_big_quiet_step (first | (go_at_call 32; exact Calls.regrown_of (unhideT H1 _ _)))
  go_big_quiet_step (first | (go_at_call 33; exact Calls.regrown_of (unhideT H2 _ _)))
  iterate 1 (go_big_quiet_step (fail))
  refine wpQuiet_nil ?_
  intro _ hw'
  obtain ⟨⟨dq, osq⟩, hw''⟩ := hw'
  subst hw''
  have HB5 := hideT (below_regrown w dq osq)
  clear X12 X13
  go_wp2
  go_ret
  exact ⟨rfl, unhideT HB5⟩
end Go.Proofs.Ytokillomaemocaa.VK

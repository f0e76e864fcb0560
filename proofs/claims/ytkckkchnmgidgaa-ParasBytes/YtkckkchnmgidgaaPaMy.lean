/-
  Props made by hand, further: Bracket, Twin, and whether they may be (one answer or the other).
-/
import Derived.Test.YtkckkchnmgidgaaPaP
import Derived.Deep.LoopGhost
namespace Go.Proofs.Ytkckkchnmgidgaa
open Go.RowKit Go.PlainAid Go.Lib
set_option linter.unusedVariables false
set_option maxRecDepth 100000
set_option maxHeartbeats 4000000

theorem bracket_any (rest : Int) (a : Option Addr) (n c : Nat) (l : List CharD) (r : Int) (w : World) (hl : l.length = n) (h : ReadsC w a l) (hn : n ≤ 1099511627776) :
    Calls Try.prog 37 #[propsV rest a n c, .int .i32 r] w fun e w' => (∃ x y : Int, e = .returned (.tuple #[.int .i32 x, .int .u8 y])) ∧ Below w.heap.size w w' := by
  have HAT := hide (fun (w' : World) (hb : Below w.heap.size w w') => at_any rest a n c l r w' hl (h.below hb) hn)
  generalize (lookC l r).isSome = q at *
  generalize atC l r = X at *
  obtain ⟨x1, x2, x3, x4, x5, x6, x7⟩ := X
  clear h hl
  unfold propsV at *
  by_cases h1 : x4 = 1
  · subst h1
    go_enter Try.func37, Try.ntmps37
    go_wp2_with (go_at_call 53; refine (unhide HAT _ ((Below.refl _ _).alloc (Nat.le_refl _) _)).mono ?_; rintro e w' ⟨rfl, hb⟩; dsimp only [charV]; have HB := hide hb; clear hb)
    go_quiet (fail)
    go_wp2
    go_ret2
    exact ⟨⟨_, _, rfl⟩, (below_box (unhide HB)).trans (below_drewN (((Below.refl _ _).alloc (Nat.le_refl _) _).mono (below_box (unhide HB)).size) nq)⟩
  · by_cases h2 : x4 = 2
    · subst h2
      go_enter Try.func37, Try.ntmps37
      go_wp2_with (go_at_call 53; refine (unhide HAT _ ((Below.refl _ _).alloc (Nat.le_refl _) _)).mono ?_; rintro e w' ⟨rfl, hb⟩; dsimp only [charV]; have HB := hide hb; clear hb)
      go_quiet (fail)
      go_wp2
      go_ret2
      exact ⟨⟨_, _, rfl⟩, (below_box (unhide HB)).trans (below_drewN (((Below.refl _ _).alloc (Nat.le_refl _) _).mono (below_box (unhide HB)).size) nq)⟩
    · have q1 : (x4 != 1) = true := by simpa using h1
      have q2 : (x4 != 2) = true := by simpa using h2
      go_enter Try.func37, Try.ntmps37
      go_wp2_with (go_at_call 53; refine (unhide HAT _ ((Below.refl _ _).alloc (Nat.le_refl _) _)).mono ?_; rintro e w' ⟨rfl, hb⟩; dsimp only [charV]; have HB := hide hb; clear hb)
      go_ret2
      exact ⟨⟨_, _, rfl⟩, (below_box (unhide HB)).trans (((Below.refl _ _).alloc (Nat.le_refl _) _).mono (below_box (unhide HB)).size)⟩
theorem twin_any (rest : Int) (a : Option Addr) (n c : Nat) (l : List CharD) (r : Int) (w : World) (hl : l.length = n) (h : ReadsC w a l) (hn : n ≤ 1099511627776) :
    Calls Try.prog 40 #[propsV rest a n c, .int .i32 r] w fun e w' => (∃ x : Int, e = .returned (.int .i32 x)) ∧ Below w.heap.size w w' := by
  have HAT := hide (fun (w' : World) (hb : Below w.heap.size w w') => at_any rest a n c l r w' hl (h.below hb) hn)
  generalize (lookC l r).isSome = q at *
  generalize atC l r = X at *
  obtain ⟨x1, x2, x3, x4, x5, x6, x7⟩ := X
  clear h hl
  unfold propsV at *
  cases q
  · go_enter Try.func40, Try.ntmps40
    go_wp2_with (go_at_call 53; refine (unhide HAT _ ((Below.refl _ _).alloc (Nat.le_refl _) _)).mono ?_; rintro e w' ⟨rfl, hb⟩; dsimp only [charV]; have HB := hide hb; clear hb)
    go_ret
    exact ⟨⟨_, rfl⟩, (below_box (unhide HB)).trans (((Below.refl _ _).alloc (Nat.le_refl _) _).mono (below_box (unhide HB)).size)⟩
  · cases hx : (x5 == 0)
    all_goals
      go_enter Try.func40, Try.ntmps40
      go_wp2_with (go_at_call 53; refine (unhide HAT _ ((Below.refl _ _).alloc (Nat.le_refl _) _)).mono ?_; rintro e w' ⟨rfl, hb⟩; dsimp only [charV]; have HB := hide hb; clear hb)
      go_ret
      exact ⟨⟨_, rfl⟩, (below_box (unhide HB)).trans (((Below.refl _ _).alloc (Nat.le_refl _) _).mono (below_box (unhide HB)).size)⟩
theorem may_any (rest : Int) (a : Option Addr) (n c : Nat) (l : List CharD) (w : World) (hl : l.length = n) (h : ReadsC w a l) (hn : n ≤ 1099511627776) :
    Calls Try.prog 14 #[propsV rest a n c] w fun e w' => (∃ z : Bool, e = .returned (.bool z)) ∧ Below w.heap.size w w' := by
  have HA := hide h
  have HLEN := hide hl
  have HBR := hide (fun (w' : World) (r : Int) (hb : Below w.heap.size w w') => bracket_any rest a n c l r w' hl (h.below hb) hn)
  have HTW := hide (fun (w' : World) (r : Int) (hb : Below w.heap.size w w') => twin_any rest a n c l r w' hl (h.below hb) hn)
  have HCL := hide (fun (w' : World) (r : Int) (hb : Below w.heap.size w w') => class_any rest a n c l r w' hl (h.below hb) hn)
  clear h hl
  unfold propsV at *
  obtain ⟨W2, hW2⟩ : ∃ W2, w.alloc (.cells #[.int .u8 rest, .slice a n c] 25) = W2 := ⟨_, rfl⟩
  have hb2 : Below w.heap.size w W2 := by rw [← hW2]; exact (Below.refl _ w).alloc (Nat.le_refl _) _
  have b0 : Blk W2 w.heap.size [.int .u8 rest, .slice a n c] 25 := by
    rw [← hW2]; exact Blk.new w [.int .u8 rest, .slice a n c] _
  have HW2 := hide hW2
  clear hW2
  go_enter Try.func14, Try.ntmps14
  go_wp2
  rw [unhide HW2]
  go_loopg [3] n (fun g v3 wx => ∃ i : Nat, i + g = n ∧ v3 = .int .i64 (i : Nat) ∧ Below w.heap.size w wx ∧ Blk wx w.heap.size [.int .u8 rest, .slice a n c] 25)
  case atStart => exact ⟨0, by omega, rfl, hb2, b0⟩
  case round =>
    obtain ⟨i, hig, rfl, hB, hX⟩ := hrel
    have e0 := hX.cell (j := 0) rfl
    have e1 := hX.cell (j := 1) rfl
    by_cases hlt : i < n
    · obtain ⟨x, hx⟩ : ∃ x, l[i]? = some x := ⟨_, List.getElem?_eq_getElem (by rw [unhide HLEN]; exact hlt)⟩
      obtain ⟨b, off, rfl, hc⟩ := (unhide HA).below hB i x hx
      have c0 := hc 0 _ rfl
      rw [Nat.add_zero] at c0
      have HB := hide hB
      have HX := hide hX
      have HIG := hide hig
      clear hB hX hc hx hig
      go_wp2_with (first
        | (go_at_call 37; refine (unhide HBR _ _ (unhide HB)).mono ?_; rintro e w' ⟨⟨p, q, rfl⟩, hb⟩; have hx' := (unhide HX).below hb; have hb' := (unhide HB).trans (hb.mono (unhide HB).size); clear HB HX hb; have e0' := hx'.cell (j := 0) rfl; have e1' := hx'.cell (j := 1) rfl; have HB := hide hb'; have HX := hide hx'; clear hb' hx')
        | (go_at_call 40; refine (unhide HTW _ _ (unhide HB)).mono ?_; rintro e w' ⟨⟨p, rfl⟩, hb⟩; have hx' := (unhide HX).below hb; have hb' := (unhide HB).trans (hb.mono (unhide HB).size); clear HB HX hb; have e0' := hx'.cell (j := 0) rfl; have e1' := hx'.cell (j := 1) rfl; have HB := hide hb'; have HX := hide hx'; clear hb' hx')
        | (go_at_call 39; refine (unhide HCL _ _ (unhide HB)).mono ?_; rintro e w' ⟨rfl, hb⟩; have hx' := (unhide HX).below hb; have hb' := (unhide HB).trans (hb.mono (unhide HB).size); clear HB HX hb; have e0' := hx'.cell (j := 0) rfl; have e1' := hx'.cell (j := 1) rfl; have HB := hide hb'; have HX := hide hx'; clear hb' hx')
        | (go_at_call 38; refine (rClass_any _ _).mono ?_; rintro e w' ⟨rfl, rfl⟩))
      all_goals first
        | (go_ret
           exact ⟨⟨_, rfl⟩, unhide HB⟩)
        | (go_roundg (gk - 1)
           case measure => have := unhide HIG; omega
           case rel => exact ⟨i + 1, by have := unhide HIG; omega, by go_num, unhide HB, unhide HX⟩)
    · have HB := hide hB
      clear hB hX
      go_wp2
      go_ret
      exact ⟨⟨_, rfl⟩, unhide HB⟩
end Go.Proofs.Ytkckkchnmgidgaa

/-
  FromRunes of the document; a list that is copied with two marks behind it.
-/
import Derived.Test.YtghcheoholkpbaaWApart
namespace Go.Proofs.Ytghcheoholkpbaa
open Go.RowKit Go.PlainAid Go.Lib
set_option linter.unusedVariables false

set_option maxRecDepth 100000 in
set_option maxHeartbeats 2000000 in
theorem rFromRunes_any (a : Option Addr) (cap : Nat) (zs : List Int) (w : World) (h : Reads w a zs) (hc : zs.length ≤ 1099511627776) :
    Calls Try.prog 22 #[.slice a zs.length cap] w fun e w' => ∃ v, e = .returned v ∧ w'.ownsRow w.heap.size 22 1 v (units zs).length (u16s (units zs)) ∧ Below w.heap.size w w' := by
  obtain ⟨i0, hi, hz0, hz1, hz2⟩ := info_parts infoUnit
  have HR := hide h
  clear h
  generalize hlen : zs.length = len at *
  have HLEN := hide hlen
  clear hlen
  go_enter Try.func22, Try.ntmps22
  go_wp2
  go_loopw [3, 4] (fun v3 v4 wr => ∃ k : Nat, k ≤ len ∧ v4 = .int .i64 k ∧ wr.ownsRow w.heap.size 22 1 v3 (units (zs.take k)).length (u16s (units (zs.take k))) ∧ Below w.heap.size w wr) (fun _ v4 _ => len - (intOf v4).toNat)
  case atStart => exact ⟨0, Nat.zero_le _, rfl, by simpa [units] using World.ownsRow_nil _ _ _ _, Below.refl _ _⟩
  case round =>
    obtain ⟨k, hk, rfl, hrow, hB⟩ := hrel
    by_cases hlt : k < len
    · obtain ⟨b, off, rfl, hcell⟩ := (unhide HR).below hB k (by rw [unhide HLEN]; exact hlt)
      have HT : Hid (units (zs.take (k + 1)) = units (zs.take k) ++ unitsOf (zs.getD k 0)) := by
        show _ = _
        rw [take_snoc' zs k (by rw [unhide HLEN]; exact hlt), units_append]; simp [units]
      have hun : (units (zs.take k)).length ≤ 8796093022208 := by
        have h1 := units_len (zs.take k); rw [List.length_take] at h1; omega
      simp only [List.getD_eq_getElem?_getD] at hcell HT
      generalize hr : zs[k]?.getD 0 = r at *
      clear hr
      have hBs := hB.size
      obtain ⟨a3, c3, rfl⟩ := row_is hrow
      have HUA := hide (fun m => u16s_append (units (zs.take k)) m)
      generalize hM : (units (zs.take k)).length = M at *
      have HMM := hide hM
      clear hM
      cases hp : pairB r
      · cases hs : scalarB r
        · have HU : Hid (unitsOf r = [65533]) := by show _ = _; unfold unitsOf; rw [hp, hs]; rfl
          go_wp2_with (first
            | (go_at_call 15; refine (rSplit_no _ _ hp).mono ?_; rintro e w' ⟨rfl, rfl⟩)
            | (go_at_call 57; refine (refScalar_any _ _).mono ?_; rintro e w' ⟨rfl, rfl⟩; rw [hs])
            | (at_builtin; refine wpList_append_own_at _ rfl _ _ 31 rfl w.heap.size 22 i0 (.int .u16 0) 1 2 Try.underlying31 hi hz0 hz1 hz2 rfl (by decide) _ _ _ rfl (hrow.alloc _) ⟨_, 0, none⟩ 1 1 [.int .u16 65533] rfl rfl (cell_one_new _ _ _) (by simp [Value.oneCell']) (by unfold maxLen; omega) (by omega) (by simp; omega) ?_; intro v' w4 hown hgrow _ _))
          have hB4 := belowGrown (hB.alloc hBs _) (by simp; omega) (hrow.alloc _) hgrow
          go_roundw
          case rel => exact ⟨k + 1, by omega, by go_num, by rw [unhide HT, unhide HU, List.length_append, unhide HMM, unhide HUA]; exact hown, hB4⟩
          case measure => simp [intOf]; omega
        · have HU : Hid (unitsOf r = [r]) := by show _ = _; unfold unitsOf; rw [hp, hs]; rfl
          have hb : 0 ≤ r ∧ r ≤ 65535 := by unfold pairB at hp; unfold scalarB at hs; simp at hp hs; omega
          obtain ⟨h0, h1⟩ := hb
          go_wp2_with (first
            | (go_at_call 15; refine (rSplit_no _ _ hp).mono ?_; rintro e w' ⟨rfl, rfl⟩)
            | (go_at_call 57; refine (refScalar_any _ _).mono ?_; rintro e w' ⟨rfl, rfl⟩; rw [hs])
            | (at_builtin; refine wpList_append_own_at _ rfl _ _ 31 rfl w.heap.size 22 i0 (.int .u16 0) 1 2 Try.underlying31 hi hz0 hz1 hz2 rfl (by decide) _ _ _ rfl (hrow.alloc _) ⟨_, 0, none⟩ 1 1 [.int .u16 r] rfl rfl (cell_one_new _ _ _) (by simp [Value.oneCell']) (by unfold maxLen; omega) (by omega) (by simp; omega) ?_; intro v' w4 hown hgrow _ _))
          have hB4 := belowGrown (hB.alloc hBs _) (by simp; omega) (hrow.alloc _) hgrow
          go_roundw
          case rel => exact ⟨k + 1, by omega, by go_num, by rw [unhide HT, unhide HU, List.length_append, unhide HMM, unhide HUA]; exact hown, hB4⟩
          case measure => simp [intOf]; omega
      · have HU : Hid (unitsOf r = [hiN r, loN r]) := by show _ = _; unfold unitsOf; rw [hp]; rfl
        have HS := hide (fun w => rSplit_yes r w hp)
        generalize hiN r = h at *
        generalize loN r = l at *
        go_wp2_with (first
          | (go_at_call 15; refine (unhide HS _).mono ?_; rintro e w' ⟨rfl, rfl⟩)
          | (at_builtin; refine wpList_append_own_at _ rfl _ _ 31 rfl w.heap.size 22 i0 (.int .u16 0) 1 2 Try.underlying31 hi hz0 hz1 hz2 rfl (by decide) _ _ _ rfl (hrow.alloc _) ⟨_, 0, none⟩ 2 2 [.int .u16 h, .int .u16 l] rfl rfl (cell_two_new _ _ _ _) (by simp [Value.oneCell']) (by unfold maxLen; omega) (by omega) (by simp; omega) ?_; intro v' w4 hown hgrow _ _))
        have hB4 := belowGrown (hB.alloc hBs _) (by simp; omega) (hrow.alloc _) hgrow
        go_roundw
        case rel => exact ⟨k + 1, by omega, by go_num, by rw [unhide HT, unhide HU, List.length_append, unhide HMM, unhide HUA]; exact hown, hB4⟩
        case measure => simp [intOf]; omega
    · have hke : zs.take k = zs := List.take_of_length_le (by rw [unhide HLEN]; omega)
      rw [hke] at hrow
      have HK := hide hke
      clear hke
      go_wp2
      go_ret
      exact ⟨_, rfl, hrow, hB⟩

end Go.Proofs.Ytghcheoholkpbaa

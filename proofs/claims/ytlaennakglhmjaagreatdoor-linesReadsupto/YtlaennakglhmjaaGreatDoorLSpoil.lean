/-
  The law's spoil (furrowlaw03): what it leaves as it was.
-/
import Derived.Test.YtlaennakglhmjaaGreatDoorLSame
import Derived.Test.YtlaennakglhmjaaGreatDoorLShape
namespace Go.Proofs.YtlaennakglhmjaaGreatDoor
open Go.RowKit Go.PlainAid Go.Lib Go.Shelf
set_option linter.unusedVariables false

set_option maxRecDepth 100000 in
set_option maxHeartbeats 2000000 in
theorem spoil_sh (B : Nat) (v : Value) (n : Nat) (xs : List Value) (w : World) (hnb : n ≤ 1099511627776) (hBw : B ≤ w.heap.size) (hown : w.ownsRow B 9 1 v n xs) :
    Calls Tryz.prog 11 #[v] w fun e w' => (∃ u, e = .returned u) ∧ w.grownBy w' v.ownBlock ∧ Shapes w w' := by
  obtain ⟨i0, hi0, hz0, hz1, hz2⟩ := info_parts infoStr
  obtain ⟨a, c, rfl⟩ := row_slice2 hown
  obtain ⟨K, hK⟩ : ∃ K, (Value.slice a n c).ownBlock = K := ⟨_, rfl⟩
  rw [hK]
  have HK := hide hK
  clear hK
  go_enter Tryz.func11, Tryz.ntmps11
  go_wp2
  go_loopw [2] (fun v2 wr => ∃ (i : Nat) (ys : List Value), i ≤ n ∧ v2 = .int .i64 i ∧ wr.ownsRow B 9 1 (.slice a n c) n ys ∧ w.grownBy wr K ∧ Shapes w wr) (fun v2 _ => n - (RowKit.intOf v2).toNat)
  case atStart => exact ⟨0, xs, Nat.zero_le _, rfl, hown, World.grownBy.refl _ _, Shapes.refl _⟩
  case round =>
    clear hown
    obtain ⟨i, ys, hi, rfl, hown, hgr, hsh⟩ := hrel
    by_cases hlt : i < n
    · obtain ⟨g, c', he, hc1, hc2, hgb, hgl⟩ := row_form hown (by omega)
      obtain ⟨rfl, rfl⟩ : a = some ⟨g, 0, none⟩ ∧ c = c' := by simpa using he
      obtain ⟨y, hy⟩ : ∃ y, ys[i]? = some y := ⟨_, List.getElem?_eq_getElem (by have := hown.1; omega)⟩
      have y0 : wr.cell? ⟨g, i, none⟩ = some y := (hown.cellAt i (by omega)).trans hy
      have f0 := hown.frozenAt i
      have hst := hown.stored i (.string ⟨#[115, 112, 111, 105, 108, 116]⟩)
      have HKg : Hid (K = some g) := by have := unhide HK; rw [← this]; rfl
      have HST := hide hst
      have HG := hide (hgr.andThen (row := K) (row' := some g) hst.2 (fun j e => .inr (HKg.out.trans e)))
      have HS := hide (hsh.trans (Shapes.setCell wr g i (.string ⟨#[115, 112, 111, 105, 108, 116]⟩)))
      clear hst he hy hsh
      have hm1 : maxLen = 9223372036854775807 := rfl
      rw [hm1] at hc2
      go_wp2
      go_roundw
      case rel => exact ⟨i + 1, _, by omega, by go_num, (unhide HST).1, unhide HG, unhide HS⟩
      case measure => simp [RowKit.intOf]; omega
    · obtain rfl : i = n := by omega
      go_wp2
      go_loopw [0, 12] (fun v0 v12 wr2 => ∃ (k : Nat) (ys : List Value) (V : Value), k ≤ 40 ∧ v0 = V ∧ v12 = .int .i64 (k : Nat) ∧ wr2.ownsRow B 9 1 V (i + k) ys ∧ (∀ j, V.ownBlock = some j → w.heap.size ≤ j ∨ K = some j) ∧ w.grownBy wr2 K ∧ Shapes w wr2) (fun _ v12 _ => 40 - (RowKit.intOf v12).toNat)
      case atStart => exact ⟨0, ys, _, by omega, rfl, rfl, hown, fun j e => .inr ((unhide HK).symm.trans e), hgr, hsh⟩
      case round =>
        clear hown hgr hsh
        obtain ⟨k, ys, V, hk, hV, rfl, hown, hor, hgr, hsh⟩ := hrel
        subst hV
        by_cases hlt2 : k < 40
        · have d0 : decide ((k : Int) < 40) = true := decide_eq_true (by omega)
          have d0' : (k : Int) < 40 := by omega
          obtain ⟨a2, c2, rfl⟩ := row_slice2 hown
          have hsz : w.heap.size ≤ wr.heap.size := hgr.size
          go_wp2_with (at_builtin; refine wpList_append_shapes rfl _ _ 39 rfl B 9 i0 (.string ⟨#[]⟩) 1 16 Tryz.underlying39 hi0 hz0 hz1 hz2 rfl (by decide) _ _ _ rfl (hown.alloc _) ⟨wr.heap.size, 0, none⟩ 1 1 [.string ⟨#[103, 114, 111, 119, 110]⟩] rfl rfl (cell_one_new _ _ _) (by simp [Value.oneCell']) (by unfold maxLen; omega) (by omega) (by simp; omega) ?_; intro v' w4 hown' hgrow hat hsh4)
          have HG2 := hide ((hgr.trans (World.grownBy_alloc wr _ K)).andThen (row := K) hgrow (fun j e => hor j e))
          have HO2 : Hid (∀ j, v'.ownBlock = some j → w.heap.size ≤ j ∨ K = some j) := by
            intro j e
            rcases hat with h | h
            · exact hor j (h.symm.trans e)
            · rw [h] at e; have := Option.some.inj e; simp at this; left; omega
          have HS2 := hide ((hsh.trans (Shapes.grown (World.grownBy_alloc wr _ none))).trans hsh4)
          clear hgrow hat hsh hsh4
          go_roundw
          case rel => exact ⟨k + 1, _, _, by omega, rfl, by go_num, hown', HO2.out, unhide HG2, unhide HS2⟩
          case measure => simp [RowKit.intOf]; omega
        · obtain rfl : k = 40 := by omega
          go_wp2
          go_end0
          exact ⟨⟨_, rfl⟩, hgr, hsh⟩
end Go.Proofs.YtlaennakglhmjaaGreatDoor

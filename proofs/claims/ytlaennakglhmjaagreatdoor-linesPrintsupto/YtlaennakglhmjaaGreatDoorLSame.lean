/-
  The law's sameTexts and spoil: two lists that hold the same are told so; what is spoilt is one list's own memory.
-/
import Derived.Test.YtlaennakglhmjaaGreatDoorRCut2
import Derived.Test.YtlaennakglhmjaaGreatDoorRChars
import Derived.Maps.AppendAt
import Derived.Maps.Range
namespace Go.Proofs.YtlaennakglhmjaaGreatDoor
open Go.RowKit Go.PlainAid Go.Lib Go.Shelf
set_option linter.unusedVariables false

/-- the texts of a list, in memory -/
def TxAt (w : World) (a : Option Addr) (l : List (List UInt8)) : Prop := ∀ (i : Nat) (x : List UInt8), l[i]? = some x → ∃ g, a = some ⟨g, 0, none⟩ ∧ w.cell? ⟨g, i, none⟩ = some (.string (S x))
theorem texts_row {w : World} {base : Nat} {v : Value} {l : List (List UInt8)} (h : TextsAt w base v l) : ∃ a c, v = .slice a l.length c ∧ TxAt w a l := by
  rcases h.2 with ⟨rfl, h0⟩ | ⟨g, cap, cur, rfl, _, hg, _⟩
  · refine ⟨none, 0, by rw [h0], fun i x hx => ?_⟩
    have := (List.getElem?_eq_some_iff.1 hx).1
    omega
  · refine ⟨_, _, rfl, fun i x hx => ⟨g, rfl, ?_⟩⟩
    have hi := (List.getElem?_eq_some_iff.1 hx).1
    refine (World.ownsRow.cellAt h i (by omega)).trans ?_
    simp [List.getElem?_map, hx]
theorem TxAt.below {w w' : World} {a : Option Addr} {l : List (List UInt8)} (h : TxAt w a l) (hb : Below w.heap.size w w') : TxAt w' a l := by
  intro i x hx
  obtain ⟨g, h1, h2⟩ := h i x hx
  have hlt : g < w.heap.size := by
    refine Decidable.byContradiction fun hn => ?_
    have : w.heap[g]? = none := Array.getElem?_eq_none (by omega)
    simp [World.cell?, this] at h2
  exact ⟨g, h1, (hb.cell (p := ⟨g, i, none⟩) hlt).trans h2⟩

set_option maxRecDepth 100000 in
set_option maxHeartbeats 2000000 in
theorem spoil_any (B : Nat) (v : Value) (n : Nat) (xs : List Value) (w : World) (hnb : n ≤ 1099511627776) (hBw : B ≤ w.heap.size) (hown : w.ownsRow B 9 1 v n xs) :
    Calls Tryz.prog 11 #[v] w fun e w' => (∃ u, e = .returned u) ∧ w.grownBy w' v.ownBlock := by
  obtain ⟨i0, hi0, hz0, hz1, hz2⟩ := info_parts infoStr
  obtain ⟨a, c, rfl⟩ := row_slice2 hown
  obtain ⟨K, hK⟩ : ∃ K, (Value.slice a n c).ownBlock = K := ⟨_, rfl⟩
  rw [hK]
  have HK := hide hK
  clear hK
  go_enter Tryz.func11, Tryz.ntmps11
  go_wp2
  go_loopw [2] (fun v2 wr => ∃ (i : Nat) (ys : List Value), i ≤ n ∧ v2 = .int .i64 i ∧ wr.ownsRow B 9 1 (.slice a n c) n ys ∧ w.grownBy wr K) (fun v2 _ => n - (RowKit.intOf v2).toNat)
  case atStart => exact ⟨0, xs, Nat.zero_le _, rfl, hown, World.grownBy.refl _ _⟩
  case round =>
    clear hown
    obtain ⟨i, ys, hi, rfl, hown, hgr⟩ := hrel
    by_cases hlt : i < n
    · obtain ⟨g, c', he, hc1, hc2, hgb, hgl⟩ := row_form hown (by omega)
      obtain ⟨rfl, rfl⟩ : a = some ⟨g, 0, none⟩ ∧ c = c' := by simpa using he
      obtain ⟨y, hy⟩ : ∃ y, ys[i]? = some y := ⟨_, List.getElem?_eq_getElem (by have := hown.1; omega)⟩
      have y0 : wr.cell? ⟨g, i, none⟩ = some y := (hown.cellAt i (by omega)).trans hy
      have f0 := hown.frozenAt i
      have hst := hown.stored i (.string ⟨#[115, 112, 111, 105, 108, 116]⟩)
      have HKg : Hid (K = some g) := by have := unhide HK; rw [← this]; rfl
      have HST := hide hst
      have HG := hide (hgr.andThen (row := K) (row' := some g) hst.2 (fun j e => .inr (HKg.out.trans e)))
      clear hst he hy
      have hm1 : maxLen = 9223372036854775807 := rfl
      rw [hm1] at hc2
      go_wp2
      go_roundw
      case rel => exact ⟨i + 1, _, by omega, by go_num, (unhide HST).1, unhide HG⟩
      case measure => simp [RowKit.intOf]; omega
    · obtain rfl : i = n := by omega
      go_wp2
      go_loopw [0, 12] (fun v0 v12 wr2 => ∃ (k : Nat) (ys : List Value) (V : Value), k ≤ 40 ∧ v0 = V ∧ v12 = .int .i64 (k : Nat) ∧ wr2.ownsRow B 9 1 V (i + k) ys ∧ (∀ j, V.ownBlock = some j → w.heap.size ≤ j ∨ K = some j) ∧ w.grownBy wr2 K) (fun _ v12 _ => 40 - (RowKit.intOf v12).toNat)
      case atStart => exact ⟨0, ys, _, by omega, rfl, rfl, hown, fun j e => .inr ((unhide HK).symm.trans e), hgr⟩
      case round =>
        clear hown hgr
        obtain ⟨k, ys, V, hk, hV, rfl, hown, hor, hgr⟩ := hrel
        subst hV
        by_cases hlt2 : k < 40
        · have d0 : decide ((k : Int) < 40) = true := decide_eq_true (by omega)
          have d0' : (k : Int) < 40 := by omega
          obtain ⟨a2, c2, rfl⟩ := row_slice2 hown
          have hsz : w.heap.size ≤ wr.heap.size := hgr.size
          go_wp2_with (at_builtin; refine wpList_append_own_at _ rfl _ _ 39 rfl B 9 i0 (.string ⟨#[]⟩) 1 16 Tryz.underlying39 hi0 hz0 hz1 hz2 rfl (by decide) _ _ _ rfl (hown.alloc _) ⟨wr.heap.size, 0, none⟩ 1 1 [.string ⟨#[103, 114, 111, 119, 110]⟩] rfl rfl (cell_one_new _ _ _) (by simp [Value.oneCell']) (by unfold maxLen; omega) (by omega) (by simp; omega) ?_; intro v' w4 hown' hgrow _ hat)
          have HG2 := hide ((hgr.trans (World.grownBy_alloc wr _ K)).andThen (row := K) hgrow (fun j e => hor j e))
          have HO2 : Hid (∀ j, v'.ownBlock = some j → w.heap.size ≤ j ∨ K = some j) := by
            intro j e
            rcases hat with h | h
            · exact hor j (h.symm.trans e)
            · rw [h] at e; have := Option.some.inj e; simp at this; left; omega
          clear hgrow hat
          go_roundw
          case rel => exact ⟨k + 1, _, _, by omega, rfl, by go_num, hown', HO2.out, unhide HG2⟩
          case measure => simp [RowKit.intOf]; omega
        · obtain rfl : k = 40 := by omega
          go_wp2
          go_end0
          exact ⟨⟨_, rfl⟩, hgr⟩
end Go.Proofs.YtlaennakglhmjaaGreatDoor

/-
  The document's Runes (furrowref01), and samePairs of furrowlaw01.
-/
import Derived.Test.YtkpmcojoiijonaaRefSpots
import Derived.Test.YtkpmcojoiijonaaPairRow
import Derived.Test.YtkpmcojoiijonaaCopy
namespace Go.Proofs.Ytkpmcojoiijonaa
open Go.RowKit Go.PlainAid Go.Lib
set_option linter.unusedVariables false

/-- the numbers of the characters -/
def runeInts (s : ByteArray) : List Int := (chars s 0).map fun p => (p.2 : Int)
theorem runeInts_vals (s : ByteArray) : runeVals s = (runeInts s).map (Value.int .i32) := by unfold runeVals runeInts; rw [List.map_map]; rfl
theorem runeInts_len (s : ByteArray) : (runeInts s).length = (chars s 0).length := by simp [runeInts]
theorem rune_at (s : ByteArray) : ∀ (f i k : Nat), s.size - i ≤ f → ∀ x, ((chars s i).map (·.1))[k]? = some x → ((chars s i).map (fun p => (p.2 : Int)))[k]? = some (((Utf8.decode s x).1 : Nat) : Int) := by
  intro f
  induction f with
  | zero => intro i k h x hx; rw [chars_end s i (by omega)] at hx; simp at hx
  | succ f ih =>
    intro i k h x hx
    by_cases hi : i < s.size
    · have hb := dec_bounds s i hi
      rw [chars_step s i hi] at hx ⊢
      cases k with
      | zero =>
        obtain rfl : i = x := by simpa using hx
        simp
      | succ k => exact ih _ k (by omega) x (by simpa using hx)
    · rw [chars_end s i hi] at hx; simp at hx

/-- rows of two types are apart -/
theorem rows_apart {W : World} {B B' : Nat} {e e' : TypeId} {z z' : Nat} {v v' : Value} {n n' : Nat} {xs xs' : List Value} (h : W.ownsRow B e z v n xs) (h' : W.ownsRow B' e' z' v' n' xs') (he : e ≠ e') : v.ownBlock = none ∨ v.ownBlock ≠ v'.ownBlock := by
  rcases h.2 with ⟨rfl, _⟩ | ⟨g, cap, cur, rfl, _, hg, _⟩
  · exact .inl rfl
  · right
    intro hk
    rcases h'.2 with ⟨rfl, _⟩ | ⟨g', cap', cur', rfl, _, hg', _⟩
    · simp [Value.ownBlock] at hk
    · have : g = g' := by simpa [Value.ownBlock] using hk
      subst this
      rw [hg] at hg'; cases hg'; exact he rfl

set_option maxRecDepth 100000 in
set_option maxHeartbeats 1000000 in
theorem refRunes_any (s : ByteArray) (w : World) (hs : s.size ≤ 1099511627776) :
    Calls Try.prog 45 #[.string s] w fun e w' => ∃ v, e = .returned v ∧ w'.ownsRow w.heap.size 21 1 v (chars s 0).length ((runeInts s).map (Value.int .i32)) ∧ Below w.heap.size w w' := by
  obtain ⟨i0, hi, hz0, hz1, hz2⟩ := info_parts infoRune
  have hcl := chars_length s 0
  have hpl := places_length s
  go_enter Try.func45, Try.ntmps45
  go_wp2_with fail
  refine (refSpots_any s w hs).mono ?_
  rintro e w1 ⟨v, rfl, hrow, hb1⟩
  obtain ⟨l, c, rfl, hx1, hx2⟩ := sc_row hrow
  clear hx1 hx2
  rw [hpl]
  rw [hpl] at hrow
  have HPL := hide hpl
  have HRL := hide (runeInts_len s)
  have HRA : Hid (∀ k x, (places s)[k]? = some x → (runeInts s)[k]? = some (((Utf8.decode s x).1 : Nat) : Int)) := fun k x h => rune_at s s.size 0 k (by omega) x h
  clear hpl
  generalize hL : (chars s 0).length = L at *
  have HL := hide hL
  clear hL
  go_wp2
  go_loopw [4, 5] (fun v4 v5 wr => ∃ k : Nat, k ≤ L ∧ v5 = .int .i64 k ∧ wr.ownsRow w.heap.size 21 1 v4 k (((runeInts s).take k).map (Value.int .i32)) ∧ Below w.heap.size w wr ∧ wr.ownsRow w.heap.size 62 4 (.slice l L c) L (spotCs s (places s))) (fun _ v5 _ => L - (intOf v5).toNat)
  case atStart => exact ⟨0, Nat.zero_le _, rfl, by simpa using World.ownsRow_nil w1 _ _ _, hb1, hrow⟩
  case round =>
    clear hrow hb1
    obtain ⟨k, hk, rfl, hrow, hB, hsr⟩ := hrel
    by_cases hlt : k < L
    · obtain ⟨x, hx⟩ : ∃ x, (places s)[k]? = some x := ⟨_, List.getElem?_eq_getElem (by rw [unhide HPL]; exact hlt)⟩
      obtain ⟨l', c'', he, hx1, hsp⟩ := sc_row hsr
      clear hx1
      obtain ⟨rfl, rfl⟩ : l = l' ∧ c = c'' := by simpa using he
      obtain ⟨g, rfl, _, _, y2, _⟩ := hsp k x hx
      clear hsp he
      have hr := unhide HRA k x hx
      have HT : Hid (((runeInts s).take (k + 1)).map (Value.int .i32) = ((runeInts s).take k).map (Value.int .i32) ++ [.int .i32 ((Utf8.decode s x).1 : Nat)]) := by
        show _ = _
        rw [List.take_add_one, hr]; simp
      have hBs := hB.size
      generalize (Utf8.decode s x).1 = R at *
      clear hx hr
      obtain ⟨a', n', c', rfl⟩ : ∃ a' n' c', u4 = .slice a' n' c' := by
        rcases hrow.2 with ⟨rfl, _⟩ | ⟨g, cap, cur, rfl, _⟩
        · exact ⟨_, _, _, rfl⟩
        · exact ⟨_, _, _, rfl⟩
      go_wp2_with (at_builtin; refine wpList_append_own _ rfl _ _ 64 rfl w.heap.size 21 i0 (.int .i32 0) 1 4 Try.underlying64 hi hz0 hz1 hz2 rfl (by decide) _ _ _ rfl (hrow.alloc _) ⟨wr.heap.size, 0, none⟩ 1 1 [.int .i32 (R : Nat)] rfl rfl (cell_one_new _ _ _) (by simp [Value.oneCell']) (by unfold maxLen; omega) (by omega) (by simp; omega) ?_; intro v' w4 hown' hgrow _)
      have hsr2 := (hsr.alloc (.cells #[.int .i32 (R : Nat)] 21)).kept hgrow (rows_apart hsr hrow (by decide))
      have hB2 := below_grown2 (hB.alloc hBs _) (by simp; omega) (hrow.alloc _) hgrow
      clear hsr hrow hB hgrow
      go_roundw
      case rel => exact ⟨k + 1, by omega, by go_num, by rw [unhide HT]; exact hown', hB2, hsr2⟩
      case measure => simp [intOf]; omega
    · obtain rfl : k = L := by omega
      have HE : Hid ((runeInts s).take k = runeInts s) := by
        show _ = _
        rw [List.take_of_length_le (by rw [unhide HRL]; exact Nat.le_refl _)]
      rw [unhide HE] at hrow
      go_wp2
      go_ret
      exact ⟨_, rfl, by rw [unhide HL]; exact hrow, hB⟩

end Go.Proofs.Ytkpmcojoiijonaa

/-
  Strict of package utf; the document's Check (furrowref01).
-/
import Derived.Test.YtjkchpjopgpeeaaRefSpots
import Derived.Test.YtjkchpjopgpeeaaRunes
import Derived.BigQuiet
import Derived.Deep.Onto
import Derived.Deep.QuietTactic
namespace Go.Proofs.Ytjkchpjopgpeeaa
open Go.RowKit Go.PlainAid Go.Lib Go.Shelf
set_option linter.unusedVariables false

set_option maxRecDepth 100000 in
set_option maxHeartbeats 2000000 in
theorem strict_any (s : ByteArray) (w : World) (hs : s.size ≤ 1099511627776) :
    Calls Try.prog 18 #[.string s] w fun e w' => (((∀ i ∈ places s, why s i = 0) ∧ ∃ v, e = .returned (.tuple #[v, .pointer none]) ∧ w'.ownsRow w.heap.size 21 1 v (chars s 0).length (runeVals s)) ∨
      (∃ pre i rest b, places s = pre ++ i :: rest ∧ (∀ j ∈ pre, why s j = 0) ∧ why s i ≠ 0 ∧ w.heap.size ≤ b ∧ e = .returned (.tuple #[.slice none 0 0, .pointer (some ⟨b, 0, none⟩)]) ∧ w'.heap[b]? = some (spotBlk s i))) ∧ Below w.heap.size w w' := by
  go_enter Try.func18, Try.ntmps18
  go_wp2_with fail
  refine (firstWrong_any s _ (by unfold maxLen; omega)).mono ?_
  rintro e w1 ⟨⟨hall, rfl⟩ | ⟨pre, i, rest, h1, h2, h3, rfl⟩, hb⟩
  · have HA := hide hall
    clear hall
    go_wp2_with fail
    refine (runes_any s _ (by omega)).mono ?_
    rintro e w2 ⟨cap, rfl, hrow, hb2⟩
    have hs1 : w.heap.size ≤ w1.heap.size := hb.size
    have HR : Hid (w2.ownsRow w.heap.size 21 1 (.slice (some ⟨(w1.alloc (spotCells 0 0 0 0)).heap.size, 0, none⟩) (chars s 0).length cap) (chars s 0).length (runeVals s)) := World.ownsRow.mono hrow (by simp; omega)
    have HB : Hid (Below w.heap.size w w2) := (hb.alloc hb.size _).trans (hb2.mono (by simp; omega))
    simp only [World.size_alloc] at HR
    clear hrow hb2
    go_wp2
    go_ret2
    exact ⟨.inl ⟨unhide HA, _, rfl, unhide HR⟩, unhide HB⟩
  · have H1 := hide h1
    have H2 := hide h2
    have H3 := hide h3
    clear h1 h2 h3
    go_wp2
    go_ret2
    exact ⟨.inr ⟨pre, i, rest, _, unhide H1, unhide H2, unhide H3, hb.size, rfl, heap_alloc_new w1 _⟩, hb.alloc hb.size _⟩

set_option maxRecDepth 100000 in
set_option maxHeartbeats 2000000 in
theorem refCheck_any (s : ByteArray) (w : World) (hs : s.size ≤ 1099511627776) :
    Calls Try.prog 17 #[.string s] w fun e w' => ∃ (a : Nat) (c : Int), checkV s a c ∧ e = .returned (.tuple #[.int .i64 a, .int .i64 c]) ∧ Below w.heap.size w w' := by
  have hcl := chars_length s 0
  have hpl := places_length s
  go_enter Try.func17, Try.ntmps17
  go_wp2_with fail
  refine (refSpots_any s _ (by omega)).mono ?_
  rintro e w1 ⟨v, rfl, hrow, hb1⟩
  obtain ⟨l, c, rfl, hx1, hsp⟩ := sc_row hrow
  clear hx1 hrow
  rw [hpl]
  generalize hL : (chars s 0).length = L at *
  have HL := hide hL
  have HPL := hide hpl
  have HSP := hide hsp
  have HB1 := hide hb1
  clear hL hpl hsp hb1
  go_wp2
  go_loopw [5] (fun v5 wr => ∃ i : Nat, i ≤ L ∧ v5 = .int .i64 (i : Nat) ∧ wr = w1 ∧ Hid (∀ j ∈ (places s).take i, why s j = 0)) (fun v5 _ => L - (intOf v5).toNat)
  case atStart => exact ⟨0, Nat.zero_le _, rfl, rfl, by show ∀ j ∈ _, _; simp⟩
  case round =>
    obtain ⟨i, hi, rfl, hw, HT⟩ := hrel
    subst hw
    by_cases hlt : i < L
    · obtain ⟨x, hx⟩ : ∃ x, (places s)[i]? = some x := ⟨_, List.getElem?_eq_getElem (by rw [unhide HPL]; exact hlt)⟩
      obtain ⟨g, rfl, x0, x1, x2, x3⟩ := unhide HSP i x hx
      have HNX : Hid (why s x = 0 → ∀ j ∈ (places s).take (i + 1), why s j = 0) := fun h => by
        rw [List.take_add_one, hx, Option.toList_some]
        intro j hj
        rcases List.mem_append.1 hj with k | k
        · exact HT.out j k
        · rw [List.mem_singleton.1 k]; exact h
      have HNO : Hid (why s x ≠ 0 → checkV s x (why s x)) := fun h => by
        refine .inr ⟨(places s).take i, (places s).drop (i + 1), ?_, HT.out, h, rfl⟩
        have hv : (places s)[i]'((List.getElem?_eq_some_iff.1 hx).1) = x := (List.getElem?_eq_some_iff.1 hx).2
        rw [← hv, ← List.drop_eq_getElem_cons, List.take_append_drop]
      clear hx HT
      generalize why s x = Y at *
      by_cases hY : Y = 0
      · have d : (Y != 0) = false := by simpa using hY
        go_wp2
        go_roundw
        case rel => exact ⟨i + 1, by omega, by go_num, trivial, HNX.out hY⟩
        case measure => simp [intOf]; omega
      · have d : (Y != 0) = true := by simpa using hY
        go_wp2
        go_quiet (fail)
        go_wp2
        go_ret2
        exact ⟨x, Y, HNO.out hY, rfl, below_drewN (unhide HB1) nq⟩
    · obtain rfl : i = L := by omega
      have HALL : Hid (checkV s s.size 0) := by
        refine .inl ⟨?_, rfl, rfl⟩
        have := HT.out
        rwa [List.take_of_length_le (by rw [unhide HPL]; exact Nat.le_refl _)] at this
      go_wp2
      go_ret2
      exact ⟨_, _, HALL.out, rfl, unhide HB1⟩
end Go.Proofs.Ytjkchpjopgpeeaa

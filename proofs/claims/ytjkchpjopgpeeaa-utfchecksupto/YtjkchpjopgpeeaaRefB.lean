/-
  The document's answer for layer 1: Encode and Same over lists of runes.
-/
import Derived.Test.YtjkchpjopgpeeaaRefA
import Derived.Test.YtjkchpjopgpeeaaCopy
import Derived.Deep.QuietTactic
import Derived.BigQuiet
namespace Go.Proofs.Ytjkchpjopgpeeaa
open Go.RowKit Go.PlainAid Go.Lib

theorem runesBytes_snoc (l : List Int) (z : Int) : runesBytes (l ++ [z]) = runesBytes l ++ Utf8.encode z := by simp [runesBytes]
theorem take_snoc' (zs : List Int) (k : Nat) (h : k < zs.length) : zs.take (k + 1) = zs.take k ++ [zs.getD k 0] := by
  rw [List.take_succ_eq_append_getElem h]; simp [List.getD, List.getElem?_eq_getElem h]

set_option maxRecDepth 100000 in
set_option maxHeartbeats 1000000 in
theorem refEncode_any (a : Option Addr) (cap : Nat) (zs : List Int) (w : World) (h : Reads w a zs) (hc : zs.length ≤ 1099511627776) :
    Calls Try.prog 24 #[.slice a zs.length cap] w fun e w' => e = .returned (.string (runesBytes zs)) ∧ Below w.heap.size w w' := by
  have HR := hide h
  clear h
  generalize hlen : zs.length = len at *
  have HLEN := hide hlen
  clear hlen
  go_enter Try.func24, Try.ntmps24
  go_wp2
  go_loopw [3, 4] (fun v3 v4 wr => ∃ k : Nat, k ≤ len ∧ v4 = .int .i64 k ∧ v3 = .string (runesBytes (zs.take k)) ∧ Below w.heap.size w wr) (fun _ v4 _ => len - (intOf v4).toNat)
  case atStart => exact ⟨0, Nat.zero_le _, rfl, rfl, Below.refl _ _⟩
  case round =>
    obtain ⟨k, hk, rfl, rfl, hB⟩ := hrel
    by_cases hlt : k < len
    · obtain ⟨b, off, rfl, hcell⟩ := (unhide HR).below hB k (by rw [unhide HLEN]; exact hlt)
      have HT : Hid (runesBytes (zs.take (k + 1)) = runesBytes (zs.take k) ++ Utf8.encode (zs.getD k 0)) := by
        show _ = _
        rw [take_snoc' zs k (by rw [unhide HLEN]; exact hlt), runesBytes_snoc]
      have hsz : (runesBytes (zs.take k)).size ≤ 4 * k := by
        have := runesBytes_size_le (zs.take k)
        rw [List.length_take] at this; omega
      have hez := encode_size_le (zs.getD k 0)
      simp only [List.getD_eq_getElem?_getD] at hcell hez HT
      generalize hr : zs[k]?.getD 0 = r at *
      generalize hbs : runesBytes (zs.take k) = bs at *
      clear hr hbs
      go_wp2_with (go_at_call 39; refine (sequence_any _ _).mono ?_; rintro e w2 ⟨rfl, hb2⟩)
      go_roundw
      case rel => exact ⟨k + 1, by omega, by go_num, by rw [unhide HT], hB.trans (hb2.mono hB.size)⟩
      case measure => simp [intOf]; omega
    · have hke : zs.take k = zs := List.take_of_length_le (by rw [unhide HLEN]; omega)
      have HK := hide hke
      clear hke
      go_wp2
      go_ret
      exact ⟨ret_str (by rw [unhide HK]), hB⟩

set_option maxRecDepth 100000 in
set_option maxHeartbeats 1000000 in
/-- two lists that hold the same are told the same -/
theorem same_yes (a b : Option Addr) (ca cb : Nat) (zs : List Int) (w : World) (ha : Reads w a zs) (hb : Reads w b zs) (hn : zs.length ≤ 1099511627776) :
    Calls Try.prog 30 #[.slice a zs.length ca, .slice b zs.length cb] w fun e w' => e = .returned (.bool true) ∧ Below w.heap.size w w' := by
  have HA := hide ha
  have HB := hide hb
  clear ha hb
  generalize hlen : zs.length = n at *
  have HLEN := hide hlen
  clear hlen
  go_enter Try.func30, Try.ntmps30
  go_wp2
  go_loopw [5] (fun v5 wr => ∃ k m : Nat, k ≤ n ∧ v5 = .int .i64 k ∧ wr = w.drewN m) (fun v5 _ => n - (intOf v5).toNat)
  case atStart => exact ⟨0, 0, Nat.zero_le _, rfl, rfl⟩
  case round =>
    obtain ⟨k, m, hk, rfl, rfl⟩ := hrel
    by_cases hlt : k < n
    · obtain ⟨b1, o1, rfl, c1⟩ := unhide HA k (by rw [unhide HLEN]; exact hlt)
      obtain ⟨b2, o2, rfl, c2⟩ := unhide HB k (by rw [unhide HLEN]; exact hlt)
      simp only [List.getD_eq_getElem?_getD] at c1 c2
      generalize zs[k]?.getD 0 = r at *
      go_wp2
      go_quiet (fail)
      go_wp2
      go_roundw
      case rel => exact ⟨k + 1, _, by omega, by go_num, rfl⟩
      case measure => simp [intOf]; omega
    · go_wp2
      go_ret
      exact ⟨rfl, below_drewN (Below.refl _ _) m⟩

end Go.Proofs.Ytjkchpjopgpeeaa

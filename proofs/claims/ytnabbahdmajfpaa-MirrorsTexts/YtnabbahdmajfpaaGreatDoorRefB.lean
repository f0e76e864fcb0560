/-
  The document's answer for layer 1: Encode and Same over lists of runes.
-/
import Derived.Test.YtnabbahdmajfpaaGreatDoorRefA
import Derived.Test.YtnabbahdmajfpaaGreatDoorUb
import Derived.Deep.QuietTactic
import Derived.BigQuiet
namespace Go.Proofs.YtnabbahdmajfpaaGreatDoor
open Go.RowKit Go.PlainAid Go.Lib

theorem runesBytes_snoc (l : List Int) (z : Int) : runesBytes (l ++ [z]) = runesBytes l ++ Utf8.encode z := by simp [runesBytes]
theorem take_snoc' (zs : List Int) (k : Nat) (h : k < zs.length) : zs.take (k + 1) = zs.take k ++ [zs.getD k 0] := by
  rw [List.take_succ_eq_append_getElem h]; simp [List.getD, List.getElem?_eq_getElem h]

set_option maxRecDepth 100000 in
set_option maxHeartbeats 1000000 in
theorem refEncode_any (a : Option Addr) (cap : Nat) (zs : List Int) (w : World) (h : Reads w a zs) (hc : zs.length ≤ 1099511627776) :
    Calls Tryz.prog 53 #[.slice a zs.length cap] w fun e w' => e = .returned (.string (runesBytes zs)) ∧ Below w.heap.size w w' := by
  have HR := hide h
  clear h
  generalize hlen : zs.length = len at *
  have HLEN := hide hlen
  clear hlen
  go_enter Tryz.func53, Tryz.ntmps53
  go_wp2
  go_loopw [3, 4] (fun v3 v4 wr => ∃ k : Nat, k ≤ len ∧ v4 = .int .i64 k ∧ v3 = .string (runesBytes (zs.take k)) ∧ Below w.heap.size w wr) (fun _ v4 _ => len - (intOf v4).toNat)
  case atStart => exact ⟨0, Nat.zero_le _, rfl, rfl, Below.refl _ _⟩
  case round =>
    obtain ⟨k, hk, rfl, rfl, hB⟩ := hrel
    by_cases hlt : k < len
    · obtain ⟨b, off, rfl, hcell⟩ := (unhide HR).below hB k (by rw [unhide HLEN]; exact hlt)
      have HT : Hid (runesBytes (zs.take (k + 1)) = runesBytes (zs.take k) ++ Utf8.encode (zs.getD k 0)) := by
        show _ = _
        rw [take_snoc' zs k (by rw [unhide HLEN]; exact hlt), runesBytes_snoc]
      have hsz : (runesBytes (zs.take k)).size ≤ 4 * k := by
        have := runesBytes_size_le (zs.take k)
        rw [List.length_take] at this; omega
      have hez := encode_size_le (zs.getD k 0)
      simp only [List.getD_eq_getElem?_getD] at hcell hez HT
      generalize hr : zs[k]?.getD 0 = r at *
      generalize hbs : runesBytes (zs.take k) = bs at *
      clear hr hbs
      go_wp2_with (go_at_call 72; refine (sequence_any _ _).mono ?_; rintro e w2 ⟨rfl, hb2⟩)
      go_roundw
      case rel => exact ⟨k + 1, by omega, by go_num, by rw [unhide HT], hB.trans (hb2.mono hB.size)⟩
      case measure => simp [intOf]; omega
    · have hke : zs.take k = zs := List.take_of_length_le (by rw [unhide HLEN]; omega)
      have HK := hide hke
      clear hke
      go_wp2
      go_ret
      exact ⟨ret_str (by rw [unhide HK]), hB⟩

end Go.Proofs.YtnabbahdmajfpaaGreatDoor

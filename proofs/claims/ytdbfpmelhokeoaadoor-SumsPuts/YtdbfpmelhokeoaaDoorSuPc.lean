/-
  The law SumsPieces, walked.
-/
import Derived.Test.YtdbfpmelhokeoaaDoorSuK
namespace Go.Proofs.YtdbfpmelhokeoaaDoor
open Go.RowKit Go.PlainAid Go.Lib Go.SuM
set_option linter.unusedVariables false
set_option linter.unusedSimpArgs false
theorem LS_app (a b : ByteArray) : LS (a ++ b) = LS a ++ LS b := by unfold LS; rw [ByteArray.data_append, Array.toList_append]
/-- CRC of a list that was just made -/
theorem crc_new (l : List ByteArray) (vs : Array Value) (hv : vs = (l.map Value.string).toArray) (m : Nat) (hm : l.length = m) (hs : ∀ s ∈ l, s.size ≤ maxLen) (hl : l.length ≤ maxLen) (W : World) (hf : FoursAt W) : Calls Tryd.prog 16 #[.slice (some ⟨W.heap.size, 0, none⟩) m m] (W.alloc (.cells vs 9)) fun e w' => e = .returned (.int .u32 ((crcL l : Nat) : Int)) ∧ Below W.heap.size W w' := by
  have hb1 : Below W.heap.size W (W.alloc (.cells vs 9)) := (Below.refl _ _).alloc (Nat.le_refl _) _
  subst hm
  refine (crc_any l (some ⟨W.heap.size, 0, none⟩) l.length _ (hf.below hb1) ⟨fun _ => ⟨_, _, rfl, fun i hi => ?_⟩, hs⟩ hl hl).mono fun e w' h => ⟨h.1, by rw [h.2]; exact hb1⟩
  rw [Nat.zero_add, World.cell?_alloc_mark, hv]
  simp
set_option maxHeartbeats 2000000 in
theorem pieces_walk (a b c : ByteArray) (ha : a.size ≤ 140737488351232) (hb : b.size ≤ 140737488351232) (hc : c.size ≤ 140737488351232) (w : World) (hf : FoursAt w) : Calls Tryd.prog 10 #[.string a, .string b, .string c] w fun e w' => e = .returned (.bool true) ∧ Below w.heap.size w w' := by
  have small : ∀ n : Nat, n ≤ 4 * 140737488351232 → n ≤ maxLen := fun n h => by unfold maxLen; omega
  have s1 : (a ++ b ++ c).size ≤ maxLen := small _ (by rw [ByteArray.size_append, ByteArray.size_append]; omega)
  have s2 : (b ++ c).size ≤ maxLen := small _ (by rw [ByteArray.size_append]; omega)
  have one : ∀ s : ByteArray, s.size ≤ maxLen → ∀ W, FoursAt W → Calls Tryd.prog 16 #[.slice (some ⟨W.heap.size, 0, none⟩) 1 1] (W.alloc (.cells #[.string s] 9)) fun e w' => e = .returned (.int .u32 ((more 0 (LS s) : Nat) : Int)) ∧ Below W.heap.size W w' := fun s hs W hW =>
    crc_new [s] _ rfl 1 rfl (fun x hx => by rw [List.mem_singleton.1 hx]; exact hs) (by simp [maxLen]) W hW
  have eV : more 0 (LS (a ++ b ++ c)) = more (more (more 0 (LS a)) (LS b)) (LS c) := by rw [LS_app, LS_app, more_app, more_app]
  have e1 : more 0 (LS (b ++ c)) = zer c.size (more 0 (LS b)) ^^^ more 0 (LS c) := by rw [LS_app, ← joined_ok, LS_len]
  have e2 : more 0 (LS (a ++ b ++ c)) = zer (b.size + c.size) (more 0 (LS a)) ^^^ more 0 (LS (b ++ c)) := by
    rw [show LS (a ++ b ++ c) = LS a ++ LS (b ++ c) by rw [LS_app, LS_app, LS_app, List.append_assoc], ← joined_ok, LS_len, ByteArray.size_append]
  have C1 := hide (one _ s1)
  have C2 := hide (one a (small _ (by omega)))
  have C3 := hide (one b (small _ (by omega)))
  have C4 := hide (one c (small _ (by omega)))
  have C5 := hide (one _ s2)
  have C6 : Hid (∀ W, FoursAt W → Calls Tryd.prog 16 #[.slice (some ⟨W.heap.size, 0, none⟩) 3 3] (W.alloc (.cells #[.string a, .string b, .string c] 9)) fun e w' => e = .returned (.int .u32 ((more 0 (LS (a ++ b ++ c)) : Nat) : Int)) ∧ Below W.heap.size W w') := fun W hW => by
    have := crc_new [a, b, c] _ rfl 3 rfl (fun x hx => small _ (by simp at hx; rcases hx with rfl | rfl | rfl <;> omega)) (by simp [maxLen]) W hW
    rw [show crcL [a, b, c] = more 0 (LS (a ++ b ++ c)) from eV.symm] at this
    exact this
  have C7 : Hid (∀ W, FoursAt W → Calls Tryd.prog 16 #[.slice (some ⟨W.heap.size, 0, none⟩) 3 3] (W.alloc (.cells #[.string a, .string ⟨#[]⟩, .string (b ++ c)] 9)) fun e w' => e = .returned (.int .u32 ((more 0 (LS (a ++ b ++ c)) : Nat) : Int)) ∧ Below W.heap.size W w') := fun W hW => by
    have := crc_new [a, ⟨#[]⟩, b ++ c] _ rfl 3 rfl (fun x hx => by simp at hx; rcases hx with rfl | rfl | rfl; exact small _ (by omega); simp [maxLen, ByteArray.size]; exact s2) (by simp [maxLen]) W hW
    have e : crcL [a, ⟨#[]⟩, b ++ c] = more 0 (LS (a ++ b ++ c)) := by
      show more (more (more 0 (LS a)) []) (LS (b ++ c)) = _
      rw [more_nil (more_lt _ _), eV, LS_app, more_app]
    rw [e] at this
    exact this
  have M1 := hide (fun W hW => more_any (more 0 (LS a)) (more_lt _ _) b (small _ (by omega)) W hW)
  have M2 := hide (fun W hW => more_any (more (more 0 (LS a)) (LS b)) (more_lt _ _) c (small _ (by omega)) W hW)
  have J1 := hide (joined_any (more 0 (LS b)) (more 0 (LS c)) c.size (more_lt _ _) (more_lt _ _) (by omega))
  have J2 := hide (joined_any (more 0 (LS a)) (more 0 (LS (b ++ c))) (b.size + c.size) (more_lt _ _) (more_lt _ _) (by omega))
  rw [← eV] at M2
  rw [← e1] at J1
  rw [← e2] at J2
  rw [Int.natCast_add] at J2
  have HA := hide awake_any
  have HF := hide hf
  generalize more (more 0 (LS a)) (LS b) = mab at *
  generalize more 0 (LS (a ++ b ++ c)) = V at *
  generalize more 0 (LS (b ++ c)) = V1 at *
  generalize more 0 (LS a) = ca at *
  generalize more 0 (LS b) = cb at *
  generalize more 0 (LS c) = cc at *
  have g1 : ¬ 9223372036854775807 < a.size + b.size := by omega
  have g2 : ¬ 9223372036854775807 < b.size + c.size := by omega
  have g3 : ¬ 9223372036854775807 < a.size + b.size + c.size := by omega
  clear one small s1 s2 eV e1 e2 hf
  go_enter Tryd.func10, Tryd.ntmps10
  go_wp2_with fail
  with_reducible refine (unhide C1 w (unhide HF)).mono ?_
  rintro e w1 ⟨rfl, hb1⟩
  have HF1 := hide ((unhide HF).below hb1)
  have HB1 := hide hb1
  clear hb1
  go_wp2_with fail
  with_reducible refine (unhide C2 w1 (unhide HF1)).mono ?_
  rintro e w2 ⟨rfl, hb2⟩
  have HF2 := hide ((unhide HF1).below hb2)
  have HB2 := hide ((unhide HB1).trans (hb2.mono (unhide HB1).size))
  clear hb2
  go_wp2_with fail
  with_reducible refine (unhide M1 w2 (unhide HF2)).mono ?_
  rintro e w' ⟨rfl, hww⟩
  obtain rfl : w2 = w' := hww.symm
  clear hww
  go_wp2_with fail
  with_reducible refine (unhide M2 w2 (unhide HF2)).mono ?_
  rintro e w' ⟨rfl, hww⟩
  obtain rfl : w2 = w' := hww.symm
  clear hww
  go_wp2_with fail
  with_reducible refine (unhide C3 w2 (unhide HF2)).mono ?_
  rintro e w3 ⟨rfl, hb3⟩
  have HF3 := hide ((unhide HF2).below hb3)
  have HB3 := hide ((unhide HB2).trans (hb3.mono (unhide HB2).size))
  clear hb3
  go_wp2_with fail
  with_reducible refine (unhide C4 w3 (unhide HF3)).mono ?_
  rintro e w4 ⟨rfl, hb4⟩
  have HF4 := hide ((unhide HF3).below hb4)
  have HB4 := hide ((unhide HB3).trans (hb4.mono (unhide HB3).size))
  clear hb4
  go_wp2_with fail
  with_reducible refine (unhide J1 w4).mono ?_
  rintro e w' ⟨rfl, hww⟩
  obtain rfl : w4 = w' := hww.symm
  clear hww
  go_wp2_with fail
  with_reducible refine (unhide C2 w4 (unhide HF4)).mono ?_
  rintro e w5 ⟨rfl, hb5⟩
  have HF5 := hide ((unhide HF4).below hb5)
  have HB5 := hide ((unhide HB4).trans (hb5.mono (unhide HB4).size))
  clear hb5
  go_wp2_with fail
  with_reducible refine (unhide J2 w5).mono ?_
  rintro e w' ⟨rfl, hww⟩
  obtain rfl : w5 = w' := hww.symm
  clear hww
  go_wp2_with fail
  with_reducible refine (unhide C6 w5 (unhide HF5)).mono ?_
  rintro e w6 ⟨rfl, hb6⟩
  have HF6 := hide ((unhide HF5).below hb6)
  have HB6 := hide ((unhide HB5).trans (hb6.mono (unhide HB5).size))
  clear hb6
  go_wp2_with fail
  with_reducible refine (unhide C7 w6 (unhide HF6)).mono ?_
  rintro e w7 ⟨rfl, hb7⟩
  have HF7 := hide ((unhide HF6).below hb7)
  have HB7 := hide ((unhide HB6).trans (hb7.mono (unhide HB6).size))
  clear hb7
  go_wp2_with fail
  with_reducible refine (unhide C5 w7 (unhide HF7)).mono ?_
  rintro e w8 ⟨rfl, hb8⟩
  have HF8 := hide ((unhide HF7).below hb8)
  have HB8 := hide ((unhide HB7).trans (hb8.mono (unhide HB7).size))
  clear hb8
  go_wp2_with fail
  with_reducible refine (unhide HA w8 (unhide HF8)).mono ?_
  rintro e w9 ⟨rfl, hb9⟩
  go_wp2
  go_ret
  exact ⟨rfl, (unhide HB8).trans (hb9.mono (unhide HB8).size)⟩
end Go.Proofs.YtdbfpmelhokeoaaDoor

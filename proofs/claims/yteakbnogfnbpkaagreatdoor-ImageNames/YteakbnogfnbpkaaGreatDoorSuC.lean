/-
  CRC of a list of texts; the document's step, More and CRC.
-/
import Derived.Test.YteakbnogfnbpkaaGreatDoorSuB
namespace Go.Proofs.YteakbnogfnbpkaaGreatDoor
open Go.RowKit Go.PlainAid Go.Lib Go.SuM
set_option linter.unusedVariables false
set_option linter.unusedSimpArgs false
/-- the sum of texts one behind the other -/
def crcL (l : List ByteArray) : Nat := l.foldl (fun c s => more c (LS s)) 0
theorem crcL_lt (l : List ByteArray) : crcL l < 4294967296 := by
  have : ∀ (l : List ByteArray) (c : Nat), c < 4294967296 → l.foldl (fun c s => more c (LS s)) c < 4294967296 := by
    intro l
    induction l with
    | nil => intro c h; exact h
    | cons s l ih => intro c h; exact ih _ (more_lt _ _)
  exact this l 0 (by decide)
theorem crcL_snoc (l : List ByteArray) (s : ByteArray) : crcL (l ++ [s]) = more (crcL l) (LS s) := by unfold crcL; rw [List.foldl_append]; rfl
/-- a list of texts in memory -/
structure TxAt (w : World) (a : Option Addr) (l : List ByteArray) : Prop where
  at_ : l ≠ [] → ∃ b off, a = some ⟨b, off, none⟩ ∧ ∀ i (h : i < l.length), w.cell? ⟨b, off + i, none⟩ = some (.string l[i])
  small : ∀ s ∈ l, s.size ≤ maxLen
theorem slice_get {w : World} {a : Option Addr} {l : List ByteArray} (h : TxAt w a l) {k : Nat} (hk : k < l.length) : ∃ b off, a = some ⟨b, off, none⟩ ∧ w.cell? ⟨b, off + k, none⟩ = some (.string l[k]) ∧ l[k].size ≤ maxLen := by
  obtain ⟨b, off, rfl, hc⟩ := h.at_ (by intro e; rw [e] at hk; exact absurd hk (by simp))
  exact ⟨b, off, rfl, hc k hk, h.small _ (List.getElem_mem hk)⟩
set_option maxHeartbeats 1000000 in
theorem crc_any (l : List ByteArray) (a : Option Addr) (cap : Nat) (w : World) (hf : FoursAt w) (h : TxAt w a l) (hl : l.length ≤ maxLen) (hcap : cap ≤ maxLen) : Calls Tryz.prog 135 #[.slice a l.length cap] w fun e w' => e = .returned (.int .u32 ((crcL l : Nat) : Int)) ∧ w' = w := by
  unfold maxLen at hl hcap
  have HM := hide (fun c hc s hs => more_any c hc s hs w hf)
  have HT := hide h
  clear hf h
  obtain ⟨n, hn⟩ : ∃ n, n = l.length := ⟨_, rfl⟩
  rw [← hn] at hl ⊢
  have HNE := hide hn
  clear hn
  go_enter Tryz.func135, Tryz.ntmps135
  go_wp2
  go_loop [3, 8] (fun v3 v8 => ∃ k : Nat, k ≤ n ∧ v8 = .int .i64 (k : Int) ∧ v3 = .int .u32 ((crcL (l.take k) : Nat) : Int)) (fun _ v8 => n - (intOf v8).toNat)
  case atStart => exact ⟨0, Nat.zero_le _, rfl, rfl⟩
  case round =>
    obtain ⟨k, hk, rfl, rfl⟩ := hrel
    by_cases hlt : k < n
    · have hkl : k < l.length := by rw [← unhide HNE]; exact hlt
      obtain ⟨b, off, rfl, hc, hsz⟩ := slice_get (unhide HT) hkl
      have HN : Hid (crcL (l.take (k + 1)) = more (crcL (l.take k)) (LS l[k])) := by
        show _ = _
        rw [List.take_succ_eq_append_getElem hkl, crcL_snoc]
      have HC := hide (unhide HM (crcL (l.take k)) (crcL_lt _) l[k] hsz)
      generalize crcL (l.take k) = c at *
      generalize l[k] = s at *
      clear hsz hkl
      go_wp2_with (go_at_call 174; refine (unhide HC).mono ?_; rintro e w' ⟨rfl, rfl⟩)
      go_round
      case rel => exact ⟨k + 1, by omega, by go_num, int_eq (by rw [unhide HN])⟩
      case measure => simp [intOf]; omega
    · have HE : Hid (l.take k = l) := by
        show _ = _
        have := unhide HNE
        rw [List.take_of_length_le (by omega)]
      go_wp2
      go_ret
      exact ⟨ret_int (by rw [unhide HE]), rfl⟩
end Go.Proofs.YteakbnogfnbpkaaGreatDoor

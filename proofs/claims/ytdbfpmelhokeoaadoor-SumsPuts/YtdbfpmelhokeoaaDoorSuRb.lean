/-
  The document's Bytes, Seal, Open.
-/
import Derived.Test.YtdbfpmelhokeoaaDoorSuRf
import Derived.Test.YtdbfpmelhokeoaaDoorSuO2
import Derived.Laws.MakeOwn
namespace Go.Proofs.YtdbfpmelhokeoaaDoor
open Go.RowKit Go.PlainAid Go.Lib Go.SuM
set_option linter.unusedVariables false
set_option linter.unusedSimpArgs false
/-- the first bytes of a number, and zeros behind them -/
def part (wd k x : Nat) : List UInt8 := le k x ++ List.replicate (wd - k) 0
theorem part_len {wd k : Nat} (x : Nat) (h : k ≤ wd) : (part wd k x).length = wd := by
  unfold part; rw [List.length_append, le_len, List.length_replicate]; omega
theorem part_set {wd k x : Nat} (h : k < wd) : (part wd k x).set k (UInt8.ofNat (x / 256 ^ k)) = part wd (k + 1) x := by
  unfold part
  rw [List.set_append_right _ _ (by rw [le_len]; exact Nat.le_refl _), le_len, Nat.sub_self, show wd - k = (wd - (k + 1)) + 1 by omega, List.replicate_succ, List.set_cons_zero, le_snoc, List.append_assoc]
  rfl
theorem bytesV_set (l : List UInt8) (k : Nat) (b : UInt8) : bytesV (l.set k b) = (bytesV l).set k (byV b) := by unfold bytesV; rw [List.map_set]
set_option maxHeartbeats 1000000 in
theorem bytes_any (x wd : Nat) (hx : x < 4294967296) (hwd : wd ≤ 4) (w : World) : Calls Tryd.prog 66 #[.int .u32 (x : Int), .int .i64 (wd : Int)] w fun e w' => e = .returned (.string (BA (le wd x))) ∧ Below w.heap.size w w' := by
  obtain ⟨i0, hi0, hz0, hzs, hzb⟩ := info_parts info8
  obtain ⟨w2, hmk, hown, hgr⟩ := run_make_full (P := Tryd.prog) w w.heap.size 57 5 i0 (.int .u8 0) 1 Tryd.underlying57 hi0 hz0 hzs .i64 .i64 wd (by rw [hzb]; omega) (by unfold maxLen; omega) (Nat.le_refl _)
  have hO : OwnB w2 w.heap.size (.slice (some ⟨w.heap.size, 0, none⟩) wd wd) (part wd 0 x) := by
    unfold OwnB
    rw [part_len x (Nat.zero_le _)]
    have e : bytesV (part wd 0 x) = (madeCells #[Value.int .u8 0] (wd * 1)).toList := by
      rw [toList_madeCells_one, Nat.mul_one]
      simp [part, le, bytesV, byV]
    rw [e]
    exact hown
  have hb2 : Below w.heap.size w w2 := (Below.refl _ _).grown hgr (Nat.le_refl _) (fun k hk => by cases hk)
  have HO := hide (And.intro hO hb2)
  clear hO hb2 hown hgr
  go_enter Tryd.func66, Tryd.ntmps66
  go_wp2
  go_loopw [6] (fun v6 wr => ∃ k : Nat, k ≤ wd ∧ v6 = .int .i64 (k : Int) ∧ OwnB wr w.heap.size (.slice (some ⟨w.heap.size, 0, none⟩) wd wd) (part wd k x) ∧ Below w.heap.size w wr) (fun v6 _ => wd - (intOf v6).toNat)
  case atStart => exact ⟨0, Nat.zero_le _, rfl, (unhide HO).1, (unhide HO).2⟩
  case round =>
    obtain ⟨k, hk, rfl, hO, hb⟩ := hrel
    by_cases hlt : k < wd
    · have hpl := part_len x hk
      have hO' : wr.ownsRow w.heap.size 5 1 (.slice (some ⟨w.heap.size, 0, none⟩) wd wd) wd (bytesV (part wd k x)) := by have := hO; unfold OwnB at this; rwa [hpl] at this
      have hc := hO'.cellAt k (by omega)
      have hfz := hO'.frozenAt k
      obtain ⟨z, hz⟩ : ∃ z : UInt8, (bytesV (part wd k x))[k]? = some (byV z) := by
        refine ⟨(part wd k x)[k]'(by omega), ?_⟩
        unfold bytesV
        rw [List.getElem?_map, List.getElem?_eq_getElem (by omega)]
        rfl
      rw [hz] at hc
      unfold byV at hc
      have hst := (hO'.stored k (byV (UInt8.ofNat (x / 256 ^ k)))).1
      rw [← bytesV_set, part_set hlt] at hst
      have HST := hide hst
      have HB := hide hb
      have h8 := u8of (x / 256 ^ k)
      have hsh : (x : Int) / 2 ^ (8 * k) = ((x / 256 ^ k : Nat) : Int) := by
        rw [Int.natCast_ediv, Int.natCast_pow, Int.pow_mul]; rfl
      rw [h8] at HST
      generalize x / 256 ^ k = y at *
      have hk8 : ((8 : Int) * (k : Int)).toNat = 8 * k := by omega
      clear hO hO' hst hb hz
      go_wp2
      refine ⟨⟨k + 1, by omega, by go_num, ?_, (unhide HB).setCell (p := ⟨w.heap.size, k, none⟩) (Nat.le_refl _) _⟩, by simp [intOf]; omega⟩
      unfold OwnB
      rw [part_len x (by omega)]
      exact unhide HST
    · have hk' : k = wd := by omega
      subst hk'
      have hcv := hO.str
      rw [show part k k x = le k x by unfold part; rw [Nat.sub_self]; exact List.append_nil _] at hcv
      have HB := hide hb
      clear hO hb
      go_wp2
      go_ret
      exact ⟨rfl, unhide HB⟩
theorem bytes4 (c : Nat) (hc : c < 4294967296) (w : World) : Calls Tryd.prog 66 #[.int .u32 (c : Int), .int .i64 4] w fun e w' => e = .returned (.string (BA (le 4 c))) ∧ Below w.heap.size w w' := bytes_any c 4 hc (by decide) w
theorem rseal_any (s : ByteArray) (hs : s.size + 4 ≤ maxLen) (w : World) : Calls Tryd.prog 41 #[.string s] w fun e w' => e = .returned (.string (BA (sealL (LS s)))) ∧ Below w.heap.size w w' := by
  unfold maxLen at hs
  have HM := hide (rmore0 s (by unfold maxLen; omega))
  have HY := hide (bytes4 (more 0 (LS s)) (more_lt _ _))
  have HE : Hid (BA (sealL (LS s)) = s ++ BA (le 4 (more 0 (LS s)))) := by
    show _ = _
    rw [show BA (sealL (LS s)) = BA (LS s) ++ BA (le 4 (more 0 (LS s))) from ?_, BA_LS]
    unfold BA sealL
    apply ByteArray.ext
    simp
  have hsz : (BA (le 4 (more 0 (LS s)))).size = 4 := by rw [BA_size, le_len]
  generalize BA (le 4 (more 0 (LS s))) = u at *
  generalize more 0 (LS s) = c at *
  go_enter Tryd.func41, Tryd.ntmps41
  go_wp2_with (first | (go_at_call 19; with_reducible refine (unhide HM _).mono ?_; rintro e w' ⟨rfl, hww⟩; obtain rfl : w = w' := hww.symm) | (go_at_call 66; with_reducible refine (unhide HY _).mono ?_; rintro e w1 ⟨rfl, hb⟩))
  go_ret
  exact ⟨by rw [unhide HE]; rfl, hb⟩
theorem ropen_short (s : ByteArray) (hs : s.size < 4) (w : World) : Calls Tryd.prog 39 #[.string s] w fun e w' => e = .returned (.tuple #[.string ⟨#[]⟩, .int .i64 120]) ∧ w' = w := by
  go_enter Tryd.func39, Tryd.ntmps39
  go_wp2
  go_ret2
  exact ⟨rfl, rfl⟩
theorem seal_extract {s : ByteArray} (h4 : ¬ s.size < 4) : sealedB (LS s) = true ↔ BA (sealL (LS (s.extract 0 (s.size - 4)))) = s := by
  have e0 : LS (s.extract 0 (s.size - 4)) = (LS s).take (s.size - 4) := by rw [LS_extract, List.drop_zero]
  rw [e0]
  unfold sealedB
  rw [decide_eq_true_iff, LS_len]
  constructor
  · intro h; rw [h, BA_LS]
  · intro h
    have := congrArg LS h
    rwa [LS_BA] at this
theorem ropen_yes (s : ByteArray) (hs4 : ¬ s.size < 4) (hs : s.size ≤ maxLen) (hy : sealedB (LS s) = true) (w : World) : Calls Tryd.prog 39 #[.string s] w fun e w' => e = .returned (.tuple #[.string (s.extract 0 (s.size - 4)), .int .i64 0]) ∧ Below w.heap.size w w' := by
  have hsz : (s.extract 0 (s.size - 4)).size + 4 ≤ maxLen := by rw [ByteArray.size_extract]; omega
  unfold maxLen at hs
  have hn : ¬ ((s.size : Int) < 4) := by omega
  have hq := tol_true ((seal_extract hs4).1 hy)
  have HM := hide (rseal_any (s.extract 0 (s.size - 4)) hsz w)
  generalize BA (sealL (LS (s.extract 0 (s.size - 4)))) = u at *
  clear hy hsz
  go_enter Tryd.func39, Tryd.ntmps39
  go_wp2_with (go_at_call 41; with_reducible refine (unhide HM).mono ?_; rintro e w1 ⟨rfl, hb⟩)
  go_ret2
  exact ⟨rfl, hb⟩
theorem ropen_no (s : ByteArray) (hs4 : ¬ s.size < 4) (hs : s.size ≤ maxLen) (hy : sealedB (LS s) = false) (w : World) : Calls Tryd.prog 39 #[.string s] w fun e w' => e = .returned (.tuple #[.string ⟨#[]⟩, .int .i64 121]) ∧ Below w.heap.size w w' := by
  have hsz : (s.extract 0 (s.size - 4)).size + 4 ≤ maxLen := by rw [ByteArray.size_extract]; omega
  unfold maxLen at hs
  have hn : ¬ ((s.size : Int) < 4) := by omega
  have hq := tol_false (fun h => by have := (seal_extract hs4).2 h; rw [hy] at this; cases this)
  have HM := hide (rseal_any (s.extract 0 (s.size - 4)) hsz w)
  generalize BA (sealL (LS (s.extract 0 (s.size - 4)))) = u at *
  clear hy hsz
  go_enter Tryd.func39, Tryd.ntmps39
  go_wp2_with (go_at_call 41; with_reducible refine (unhide HM).mono ?_; rintro e w1 ⟨rfl, hb⟩)
  go_ret2
  exact ⟨rfl, hb⟩
end Go.Proofs.YtdbfpmelhokeoaaDoor

/-
  The law's spoilt: a name as it may be written too has the same loose form.
-/
import Derived.Test.YtkpmcojoiijonaaWoV
import Derived.Deep.CutRange
namespace Go.Proofs.Ytkpmcojoiijonaa
open Go.RowKit Go.PlainAid Go.Lib
set_option linter.unusedVariables false

theorem nums_app (s t : ByteArray) (h : t.size = 0 ∨ ¬ bN t 0 / 64 = 2) : nums (s ++ t) 0 = nums s 0 ++ nums t 0 := by
  unfold nums
  rw [chars_left s t (.inr h) s.size 0 (by omega) (by omega) (fun _ hj => hj)]
  simp
theorem num95 : nums ⟨#[95]⟩ 0 = [95] := by decide +kernel
theorem num45 : nums ⟨#[45, 194, 160]⟩ 0 = [45, 160] := by decide +kernel
theorem numc (c : Int) (h0 : 0 ≤ c) (h1 : c < 128) : nums (byte1 c) 0 = [c] ∧ ¬ bN (byte1 c) 0 / 64 = 2 := by
  have : ∀ k : Fin 128, nums (byte1 ((k.1 : Nat) : Int)) 0 = [((k.1 : Nat) : Int)] ∧ ¬ bN (byte1 ((k.1 : Nat) : Int)) 0 / 64 = 2 := by decide +kernel
  have := this ⟨c.toNat, by omega⟩
  have e : ((c.toNat : Nat) : Int) = c := by omega
  rw [← e]; exact this
theorem app95 (t : ByteArray) : looseL (nums (t ++ ⟨#[95]⟩) 0) = looseL (nums t 0) := by
  rw [nums_app _ _ (.inr (by decide)), num95, looseL_append]
  have : looseL [95] = [] := by decide
  rw [this, List.append_nil]
theorem app45 (t : ByteArray) : looseL (nums (t ++ ⟨#[45, 194, 160]⟩) 0) = looseL (nums t 0) := by
  rw [nums_app _ _ (.inr (by decide)), num45, looseL_append]
  have : looseL [45, 160] = [] := by decide
  rw [this, List.append_nil]
theorem appc (t : ByteArray) (c : Int) (h0 : 0 ≤ c) (h1 : c < 128) : looseL (nums (t ++ byte1 c) 0) = looseL (nums t 0) ++ looseL [c] := by
  obtain ⟨e1, e2⟩ := numc c h0 h1
  rw [nums_app _ _ (.inr e2), e1, looseL_append]
def letterB (c : Int) : Bool := (decide (65 ≤ c) && decide (c ≤ 90)) || (decide (97 ≤ c) && decide (c ≤ 122)) || c == 95
/-- a name of letters and low lines -/
def plainB (s : ByteArray) : Prop := ∀ k, k < s.size → letterB (bt s k) = true
def bytesI (s : ByteArray) : List Int := (List.range s.size).map fun k => bt s k
theorem loose_up (c : Int) (h : 97 ≤ c) (h' : c ≤ 122) : looseL [c - 32] = looseL [c] := by
  have e : ∀ x : Int, 65 ≤ x → x ≤ 122 → x ≠ 95 → looseL [x] = [smallN x] := by
    intro x h1 h2 h3
    have : countsB x = true := by unfold countsB blankB; simp; omega
    simp [looseL, this]
  rw [e _ (by omega) (by omega) (by omega), e _ (by omega) (by omega) (by omega)]
  unfold smallN
  rw [if_pos (by omega), if_neg (by omega)]
  congr 1; omega
theorem loose_dn (c : Int) (h : 65 ≤ c) (h' : c ≤ 90) : looseL [c + 32] = looseL [c] := by
  have := loose_up (c + 32) (by omega) (by omega)
  rw [show c + 32 - 32 = c by omega] at this
  exact this.symm

set_option maxRecDepth 100000 in
set_option maxHeartbeats 4000000 in
theorem spoilt_any (s : ByteArray) (a : Option Addr) (cap : Nat) (ks : List Int) (w : World) (hs : s.size ≤ 64) (hp : plainB s) (hr : ReadsB w a ks) (hf : FitsB ks) (hn : ks.length ≤ 1099511627776) :
    Calls Try.prog 37 #[.string s, .slice a ks.length cap] w fun e w' => ∃ t, e = .returned (.string t) ∧ looseL (nums t 0) = looseL (bytesI s) ∧ t.size ≤ 512 ∧ Below w.heap.size w w' := by
  have HR := hide hr
  have HF := hide hf
  have HP := hide hp
  have hb := get_bt s
  clear hr hf hp
  generalize hH : ks.length = H at *
  have HH := hide hH
  clear hH
  go_enter Try.func37, Try.ntmps37
  go_wp2
  go_loopw [5, 6] (fun v5 v6 wr => ∃ (i : Nat) (t : ByteArray), i ≤ s.size ∧ v6 = .int .i64 i ∧ v5 = .string t ∧ Hid (looseL (nums t 0) = looseL ((bytesI s).take i)) ∧ t.size ≤ 8 * i ∧ Below w.heap.size w wr) (fun _ v6 _ => s.size - (RowKit.intOf v6).toNat)
  case atStart => exact ⟨0, ⟨#[]⟩, Nat.zero_le _, rfl, rfl, (by show _ = _; rw [List.take_zero]; decide +kernel), by decide, Below.refl _ _⟩
  case round =>
    obtain ⟨i, t, hi, rfl, rfl, HT, hts, hB⟩ := hrel
    by_cases hlt : i < s.size
    · have hlet := unhide HP i hlt
      have c0 := bt_nonneg s i
      have c1 := bt_le s i
      have c2 : bt s i ≤ 122 := by unfold letterB at hlet; simp at hlet; omega
      have htk : (bytesI s).take (i + 1) = (bytesI s).take i ++ [bt s i] := by
        rw [List.take_add_one]
        congr 1
        simp [bytesI, hlt]
      have HTK := hide htk
      clear htk
      generalize hc : bt s i = c at *
      go_upto_if 18 with fail
      go_cut [7] from 9 to 73 (fun v7 wx => (∃ kk : Int, v7 = .int .u8 kk ∧ 0 ≤ kk ∧ kk ≤ 255) ∧ wx = wr)
      case first =>
        by_cases hiH : i < H
        · obtain ⟨g, off, rfl, hcell⟩ := (unhide HR).below hB i (by rw [unhide HH]; exact hiH)
          have hft := (unhide HF).at i
          simp only [List.getD_eq_getElem?_getD] at hcell hft
          generalize ks[i]?.getD 0 = kk at *
          go_wp2
          go_meet
          case rel => exact ⟨⟨kk, rfl, hft.1, hft.2⟩, rfl⟩
        · go_wp2
          go_meet
          case rel => exact ⟨⟨0, rfl, by decide, by decide⟩, rfl⟩
      case rest =>
        obtain ⟨⟨kk, rfl, hk0, hk1⟩, rfl⟩ := hcut
        go_upto_region 9 with fail
        go_cut [36] from 9 to 73 (fun v36 wx => (∃ b : Bool, v36 = .bool b ∧ (b = true → 97 ≤ c ∧ c ≤ 122)) ∧ wx = wc)
        case first =>
          go_wp2
          all_goals go_meet
          all_goals (case rel => exact ⟨⟨_, rfl, fun h => by first | (simp at h; done) | (simp at h; omega) | omega⟩, rfl⟩)
        case rest =>
          obtain ⟨⟨b, rfl, hbc⟩, rfl⟩ := hcut
          go_upto_if 36 with fail
          go_cut [8] from 9 to 73 (fun v8 wx => (∃ d : Int, v8 = .int .u8 d ∧ 0 ≤ d ∧ d < 128 ∧ looseL [d] = looseL [c]) ∧ wx = wc)
          case first =>
            cases b with
            | true =>
              obtain ⟨l1, l2⟩ := hbc rfl
              clear hbc
              go_wp2
              go_meet
              case rel => exact ⟨⟨c - 32, by go_num, by omega, by omega, loose_up c l1 l2⟩, rfl⟩
            | false =>
              clear hbc
              go_upto_region 11 with fail
              go_cut [49] from 9 to 73 (fun v49 wx => (∃ b : Bool, v49 = .bool b ∧ (b = true → 65 ≤ c ∧ c ≤ 90)) ∧ wx = wc)
              case first =>
                go_wp2
                all_goals go_meet
                all_goals (case rel => exact ⟨⟨_, rfl, fun h => by first | (simp at h; done) | (simp at h; omega) | omega⟩, rfl⟩)
              case rest =>
                obtain ⟨⟨b, rfl, hbc⟩, rfl⟩ := hcut
                cases b with
                | true =>
                  obtain ⟨l1, l2⟩ := hbc rfl
                  clear hbc
                  go_wp2
                  go_meet
                  case rel => exact ⟨⟨c + 32, by go_num, by omega, by omega, loose_dn c l1 l2⟩, rfl⟩
                | false =>
                  clear hbc
                  go_wp2
                  go_meet
                  case rel => exact ⟨⟨c, rfl, by omega, by omega, rfl⟩, rfl⟩
          case rest =>
            obtain ⟨⟨d, rfl, hd0, hd1, hdc⟩, rfl⟩ := hcut
            have HDC := hide hdc
            clear hdc
            have s0 : (t ++ ⟨#[95]⟩).size = t.size + 1 := by rw [ByteArray.size_append]; rfl
            have a95 := app95 t
            have A95 := hide a95
            clear a95
            go_upto_if 54 with fail
            go_cut [5] from 9 to 73 (fun v5 wx => (∃ t1 : ByteArray, v5 = .string t1 ∧ looseL (nums t1 0) = looseL (nums t 0) ∧ t1.size ≤ t.size + 1) ∧ wx = wc)
            case first =>
              go_wp2
              all_goals go_meet
              all_goals (case rel => first | exact ⟨⟨t, rfl, rfl, by omega⟩, rfl⟩ | exact ⟨⟨t ++ ⟨#[95]⟩, rfl, unhide A95, by omega⟩, rfl⟩)
            case rest =>
              obtain ⟨⟨t1, rfl, ht1, hz1⟩, rfl⟩ := hcut
              have HT1 := hide ht1
              have s1 : (t1 ++ ⟨#[45, 194, 160]⟩).size = t1.size + 3 := by rw [ByteArray.size_append]; rfl
              have A45 := hide (app45 t1)
              clear ht1 s0 A95
              go_upto_if 59 with fail
              go_cut [5] from 9 to 73 (fun v5 wx => (∃ t2 : ByteArray, v5 = .string t2 ∧ looseL (nums t2 0) = looseL (nums t1 0) ∧ t2.size ≤ t1.size + 3) ∧ wx = wc)
              case first =>
                go_wp2
                all_goals go_meet
                all_goals (case rel => first | exact ⟨⟨t1, rfl, rfl, by omega⟩, rfl⟩ | exact ⟨⟨t1 ++ ⟨#[45, 194, 160]⟩, rfl, unhide A45, by omega⟩, rfl⟩)
              case rest =>
                obtain ⟨⟨t2, rfl, ht2, hz2⟩, rfl⟩ := hcut
                have HT2 := hide ht2
                clear ht2 s1 A45
                go_upto_region 17 with fail
                go_cut [68] from 9 to 73 (fun v68 wx => (∃ b : Bool, v68 = .bool b ∧ (b = true → d = 95)) ∧ wx = wc)
                case first =>
                  go_wp2
                  all_goals go_meet
                  all_goals (case rel => exact ⟨⟨_, rfl, fun h => by first | (simp at h; done) | (simp at h; exact h) | (simp at h; omega) | omega⟩, rfl⟩)
                case rest =>
                  obtain ⟨⟨b, rfl, hbc⟩, rfl⟩ := hcut
                  go_upto_if 68 with fail
                  go_cut [8] from 9 to 73 (fun v8 wx => (∃ f : Int, v8 = .int .u8 f ∧ 0 ≤ f ∧ f < 128 ∧ looseL [f] = looseL [d]) ∧ wx = wc)
                  case first =>
                    cases b with
                    | true =>
                      obtain rfl := hbc rfl
                      go_wp2
                      go_meet
                      case rel => exact ⟨⟨32, rfl, by decide, by decide, by decide⟩, rfl⟩
                    | false =>
                      clear hbc
                      go_wp2
                      go_meet
                      case rel => exact ⟨⟨d, rfl, hd0, hd1, rfl⟩, rfl⟩
                  case rest =>
                    obtain ⟨⟨f, rfl, hf0, hf1, hfd⟩, rfl⟩ := hcut
                    have HFD := hide hfd
                    have hcv : (convert 55 9 (.slice (some ⟨wc.heap.size, 0, none⟩) 1 1)).run Try.prog (wc.alloc (.cells #[.int .u8 f] 5)) = .ok (.string (byte1 f)) (wc.alloc (.cells #[.int .u8 f] 5)) := by
                      rw [run_convert_bytes_string (P := Try.prog) _ 55 9 5 _ _ _ Try.underlying55 Try.underlying5 Try.underlying9]
                      rw [run_bytesToString (P := Try.prog) (wc.alloc (.cells #[.int .u8 f] 5)) ⟨wc.heap.size, 0, none⟩ 1 1 [f] (by simp [loadCells, go_sem])]
                      rfl
                    have s3 : (t2 ++ byte1 f).size = t2.size + 1 := by rw [ByteArray.size_append]; rfl
                    have s4 : (byte1 f).size = 1 := rfl
                    have hfin : looseL (nums (t2 ++ byte1 f) 0) = looseL ((bytesI s).take (i + 1)) := by
                      rw [appc t2 f hf0 hf1, unhide HT2, unhide HT1, HT.out, unhide HTK, looseL_append, unhide HFD, unhide HDC]
                    have HFIN := hide hfin
                    clear hfd hfin hbc
                    generalize hbb : byte1 f = bb at *
                    go_wp2
                    go_roundw
                    case rel => exact ⟨i + 1, t2 ++ bb, by omega, by go_num, rfl, unhide HFIN, by omega, hB.alloc hB.size _⟩
                    case measure => simp [RowKit.intOf]; omega
    · obtain rfl : i = s.size := by omega
      have hte : (bytesI s).take s.size = bytesI s := List.take_of_length_le (by simp [bytesI])
      rw [hte] at HT
      clear hte
      go_wp2
      go_ret
      exact ⟨t, rfl, HT.out, by omega, hB⟩
end Go.Proofs.Ytkpmcojoiijonaa

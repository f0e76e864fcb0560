/-
  Go's digits to the base sixteen (strconv.FormatInt), of a code point.
-/
import Derived.Test.YtnabbahdmajfpaaGreatDoorRwShA
import Derived.Laws.BitsLemmas
import Derived.Deep.LoopGhost
namespace Go.Proofs.YtnabbahdmajfpaaGreatDoor
open Go.RowKit Go.PlainAid Go.Lib
set_option linter.unusedVariables false

/-- the byte of a small digit -/
def lowAt (d : Nat) : Nat := if d < 10 then 48 + d else 87 + d
def lowDg (d : Nat) : UInt8 := UInt8.ofNat (lowAt d)
/-- the last k digits of n, the highest first -/
def lowUp : Nat → Nat → List UInt8
  | 0, _ => []
  | k + 1, n => lowDg (n / 16 ^ k % 16) :: lowUp k n
theorem lowUp_len (k n : Nat) : (lowUp k n).length = k := by
  induction k with
  | zero => rfl
  | succ k ih => simp [lowUp, ih]
def rowL (p : Nat) (l : List UInt8) : Array Value := (List.replicate p (Value.int .u8 0) ++ l.map fun b => Value.int .u8 (b.toNat : Int)).toArray
theorem rowL_set (p : Nat) (l : List UInt8) (b : UInt8) : (rowL (p + 1) l).set! p (.int .u8 (b.toNat : Int)) = rowL p (b :: l) := by
  apply Array.ext'
  simp only [rowL, Array.set!_eq_setIfInBounds, List.setIfInBounds_toArray]
  rw [List.replicate_succ', List.append_assoc]
  rw [List.set_append_right _ _ (by simp)]
  simp
theorem rowLF_at (p : Nat) (l : List UInt8) : (rowL (p + 1) l)[p]? = some (.int .u8 0) := by
  simp only [rowL, List.getElem?_toArray]
  rw [List.getElem?_append_left (by simp)]
  simp

theorem low_lit (d : Nat) (h : d < 16) (h' : d < (⟨#[48, 49, 50, 51, 52, 53, 54, 55, 56, 57, 97, 98, 99, 100, 101, 102, 103, 104, 105, 106, 107, 108, 109, 110, 111, 112, 113, 114, 115, 116, 117, 118, 119, 120, 121, 122]⟩ : ByteArray).size) : ((⟨#[48, 49, 50, 51, 52, 53, 54, 55, 56, 57, 97, 98, 99, 100, 101, 102, 103, 104, 105, 106, 107, 108, 109, 110, 111, 112, 113, 114, 115, 116, 117, 118, 119, 120, 121, 122]⟩ : ByteArray)[d]'h') = lowDg d := by
  have : ∀ i : Fin 16, ((#[48, 49, 50, 51, 52, 53, 54, 55, 56, 57, 97, 98, 99, 100, 101, 102, 103, 104, 105, 106, 107, 108, 109, 110, 111, 112, 113, 114, 115, 116, 117, 118, 119, 120, 121, 122] : Array UInt8)[i.val]'(Nat.lt_of_lt_of_le i.isLt (by decide))) = lowDg i.val := by decide
  exact this ⟨d, h⟩
theorem and15 (q : Nat) (hq : q ≤ 1114111) : bits .and .u64 (q : Int) 15 = ((q % 16 : Nat) : Int) := by
  have h := bits_mask .u64 63 (by decide) (fun n h0 h1 => by rw [IntKind.wrap_u64]; omega) 4 (by decide) (q : Int) (by omega) (by omega)
  exact h.trans (by omega)

set_option maxRecDepth 100000 in
set_option maxHeartbeats 2000000 in
theorem fmtBits_16 (n : Nat) (hn : n ≤ 1114111) (w : World) (hg : tz16At w) :
    Calls Tryz.prog 123 #[.slice none 0 0, .int .u64 (n : Int), .int .i64 16, .bool false, .bool false] w fun e w' => (∃ k, n < 16 ^ (k + 1) ∧ (k = 0 ∨ 16 ^ k ≤ n) ∧ e = .returned (.tuple #[.slice none 0 0, .string ⟨(lowUp (k + 1) n).toArray⟩])) ∧ Below w.heap.size w w' := by
  have H2 := hide pow2_16
  have HG := hide hg
  have hgB : 7 < w.heap.size := World.block_lt_of_cell? _ _ hg
  clear hg
  go_enter Tryz.func123, Tryz.ntmps123
  go_wp2_with fail
  have hb1 : Below w.heap.size w (w.alloc (.cells Tryz.zeroCells218 218)) := (Below.refl w.heap.size w).alloc (Nat.le_refl _) _
  have hx : (w.alloc (.cells Tryz.zeroCells218 218)).heap[w.heap.size]? = some (.cells (rowL 65 []) 218 (0, 0)) :=
    (heap_alloc_new w _).trans (congrArg (fun c => some (Obj.cells c 218 (0, 0))) (by kernel_rfl))
  generalize w.alloc (.cells Tryz.zeroCells218 218) = W at hb1 hx ⊢
  refine (unhide H2 _).mono ?_
  rintro e w' ⟨rfl, h⟩
  obtain rfl : W = w' := h.symm
  have HT := hide (tz_16 W ((hb1.cell hgB).trans (unhide HG)))
  have HX := hide hx
  have HB1 := hide hb1
  clear hx hb1
  go_wp2_with fail
  refine (unhide HT).mono ?_
  rintro e w' ⟨rfl, h⟩
  obtain rfl : W = w' := h.symm
  go_wp2
  obtain ⟨B, hB⟩ : ∃ B, B = w.heap.size := ⟨_, rfl⟩
  go_loopg [1, 13] 7 (fun kx s1 s13 wr => ∃ k p q : Nat, k ≤ 5 ∧ p + k = 65 ∧ Hid (k = 0 ∨ 16 ^ k ≤ n) ∧ Hid (q = n / 16 ^ k) ∧ q ≤ 1114111 ∧ s1 = .int .u64 (q : Int) ∧ s13 = .int .i64 (p : Int) ∧ kx = 7 - k ∧ Hid (Below w.heap.size w wr) ∧ Hid (wr.heap[w.heap.size]? = some (.cells (rowL p (lowUp k n)) 218 (0, 0))))
  case atStart => exact ⟨0, 65, n, by omega, rfl, hide (.inl rfl), hide (by simp), hn, rfl, rfl, rfl, HB1, HX⟩
  case round =>
    obtain ⟨k, p, q, hk, hp, HM, HQ, hq1, rfl, rfl, rfl, HB, HR⟩ := hrel
    obtain ⟨p, rfl⟩ : ∃ p', p = p' + 1 := ⟨p - 1, by omega⟩
    have d0 : wr.cell? ⟨w.heap.size, p, none⟩ = some (.int .u8 0) := by simp [World.cell?, unhide HR, rowLF_at]
    have f0 : wr.frozen? ⟨w.heap.size, p, none⟩ = false := by simp [World.frozen?, unhide HR]
    have hp65 : p < 65 := by omega
    have hand := and15 q hq1
    by_cases hc : 16 ≤ q
    · obtain ⟨r, hr⟩ : ∃ r, r = q % 16 := ⟨_, rfl⟩
      rw [← hr] at hand
      have hr16 : r < 16 := by omega
      have hlit := low_lit r hr16 (Nat.lt_of_lt_of_le hr16 (by decide))
      have HRR := hide hr
      clear hr
      have HR2 : Hid ((wr.setCell ⟨w.heap.size, p, none⟩ (.int .u8 ((lowDg r).toNat : Int))).heap[w.heap.size]? = some (.cells (rowL p (lowUp (k + 1) n)) 218 (0, 0))) := by
        show _ = _
        rw [setCell_eq_setRow wr w.heap.size p _ _ _ _ (unhide HR), lowUp, ← unhide HQ, ← unhide HRR, ← rowL_set]
        exact setRow_heap wr w.heap.size _ _ _ _ (unhide HR)
      have HB2 := hide ((unhide HB).setCell (p := ⟨w.heap.size, p, none⟩) (Nat.le_refl _) (.int .u8 ((lowDg r).toNat : Int)))
      have HQ2 : Hid (q / 16 = n / 16 ^ (k + 1)) := by
        show _ = _
        rw [unhide HQ, Nat.div_div_eq_div_mul, Nat.pow_succ]
      have HM2 : Hid (k + 1 = 0 ∨ 16 ^ (k + 1) ≤ n) := by
        right
        have h1 : 16 ≤ n / 16 ^ k := by rw [← unhide HQ]; exact hc
        have h2 := (Nat.le_div_iff_mul_le (Nat.pow_pos (by omega : 0 < 16))).1 h1
        rw [Nat.pow_succ, Nat.mul_comm]; exact h2
      have HK : Hid (k + 1 ≤ 5) := by
        show _ ≤ _
        rcases Nat.lt_or_ge k 5 with h | h
        · omega
        · obtain rfl : k = 5 := by omega
          have h1 : q = n / 1048576 := unhide HQ
          omega
      go_wp2
      go_roundg (7 - (k + 1))
      case measure => omega
      case rel => exact ⟨k + 1, p, q / 16, unhide HK, by omega, HM2, HQ2, by omega, congrArg (Value.int .u64) (by omega), rfl, rfl, HB2, HR2⟩
    · have hq16 : q < 16 := Nat.lt_of_not_le hc
      clear hand
      have hlit := low_lit q hq16 (Nat.lt_of_lt_of_le hq16 (by decide))
      have HR2 : Hid ((wr.setCell ⟨w.heap.size, p, none⟩ (.int .u8 ((lowDg q).toNat : Int))).heap[w.heap.size]? = some (.cells (rowL p (lowUp (k + 1) n)) 218 (0, 0))) := by
        show _ = _
        rw [setCell_eq_setRow wr w.heap.size p _ _ _ _ (unhide HR), lowUp, ← unhide HQ, Nat.mod_eq_of_lt hq16, ← rowL_set]
        exact setRow_heap wr w.heap.size _ _ _ _ (unhide HR)
      have HB2 := hide ((unhide HB).setCell (p := ⟨w.heap.size, p, none⟩) (Nat.le_refl _) (.int .u8 ((lowDg q).toNat : Int)))
      have hsl : ∀ W, (Instr.sliceAt 218 (.pointer (some ⟨w.heap.size, 0, none⟩)) (some (.int .i64 (p : Int))) none none).run Tryz.prog W = .ok (.slice (some ⟨w.heap.size, p, none⟩) (k + 1) (k + 1)) W := fun W => by
        have hal : Tryz.prog.arrayLen 218 = 65 := by kernel_rfl
        rw [run_sliceAt_array_l W 218 ⟨w.heap.size, 0, none⟩ (by kernel_rfl) .i64 (p : Int) (by omega) (by rw [hal]; omega)]
        have hel : Tryz.prog.elem 218 = 5 := by kernel_rfl
        rw [hal, hel]
        have e1 : 65 - p = k + 1 := by omega
        simp [slicedAt, e1, go_sem]
        omega
      have HN := hide (show n < 16 ^ (k + 1) by
        have h1 : n / 16 ^ k < 16 := by rw [← unhide HQ]; exact hq16
        have h2 := (Nat.div_lt_iff_lt_mul (Nat.pow_pos (by omega : 0 < 16))).1 h1
        rw [Nat.pow_succ, Nat.mul_comm]; exact h2)
      generalize hW2 : wr.setCell ⟨w.heap.size, p, none⟩ (.int .u8 ((lowDg q).toNat : Int)) = W2 at HR2 HB2
      have hcv : (convert 76 9 (.slice (some ⟨w.heap.size, p, none⟩) (k + 1) (k + 1))).run Tryz.prog W2 = .ok (.string ⟨(lowUp (k + 1) n).toArray⟩) W2 := by
        have h := run_convert_bytes_back (P := Tryz.prog) W2 76 9 5 ⟨w.heap.size, p, none⟩ (k + 1) (lowUp (k + 1) n) Tryz.underlying76 Tryz.underlying5 Tryz.underlying9 (fun j hj => by
          have h1 : W2.cell? ⟨w.heap.size, p + j, none⟩ = some (.int .u8 ((lowUp (k + 1) n)[j].toNat : Int)) := by
            have h2 : (rowL p (lowUp (k + 1) n))[p + j]? = some (.int .u8 ((lowUp (k + 1) n)[j].toNat : Int)) := by
              simp only [rowL, List.getElem?_toArray]
              rw [List.getElem?_append_right (by simp)]
              simp [hj]
            simp [World.cell?, unhide HR2, h2]
          have e2 : Addr.add ⟨w.heap.size, p, none⟩ j = ⟨w.heap.size, p + j, none⟩ := by simp [Addr.add]
          rw [e2]
          exact h1)
        rwa [lowUp_len] at h
      rw [← hW2] at hcv
      have HW2 := hide hW2
      clear hW2
      go_wp2
      go_ret2
      exact ⟨⟨k, unhide HN, unhide HM, rfl⟩, by rw [unhide HW2]; exact unhide HB2⟩

theorem fmtInt_16i (n : Nat) (hn : n ≤ 1114111) (w : World) (hg : tz16At w) :
    Calls Tryz.prog 99 #[.int .i64 (n : Int), .int .i64 16] w fun e w' => (∃ k, n < 16 ^ (k + 1) ∧ (k = 0 ∨ 16 ^ k ≤ n) ∧ e = .returned (.string ⟨(lowUp (k + 1) n).toArray⟩)) ∧ Below w.heap.size w w' := by
  have H := hide (fmtBits_16 n hn w hg)
  clear hg
  go_enter Tryz.func99, Tryz.ntmps99
  go_wp2_with (go_at_call 123; refine (unhide H).mono ?_; rintro e w' ⟨⟨k, h1, h2, rfl⟩, hb⟩; have H1 := hide h1; have H2 := hide h2; clear h1 h2)
  go_ret
  exact ⟨⟨k, unhide H1, unhide H2, rfl⟩, hb⟩
theorem fmtInt_16 (n : Nat) (hn : n ≤ 1114111) (w : World) (hg : tz16At w) :
    Calls Tryz.prog 75 #[.int .i64 (n : Int), .int .i64 16] w fun e w' => (∃ k, n < 16 ^ (k + 1) ∧ (k = 0 ∨ 16 ^ k ≤ n) ∧ e = .returned (.string ⟨(lowUp (k + 1) n).toArray⟩)) ∧ Below w.heap.size w w' := by
  have H := hide (fmtInt_16i n hn w hg)
  clear hg
  go_enter Tryz.func75, Tryz.ntmps75
  go_wp2_with (go_at_call 99; refine (unhide H).mono ?_; rintro e w' ⟨⟨k, h1, h2, rfl⟩, hb⟩; have H1 := hide h1; have H2 := hide h2; clear h1 h2)
  go_ret
  exact ⟨⟨k, unhide H1, unhide H2, rfl⟩, hb⟩
end Go.Proofs.YtnabbahdmajfpaaGreatDoor

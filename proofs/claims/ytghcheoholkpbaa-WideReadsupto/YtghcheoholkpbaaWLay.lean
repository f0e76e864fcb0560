/-
  Lay of package wide: the bytes of units, in either order.
-/
import Derived.Test.YtghcheoholkpbaaWRow
namespace Go.Proofs.Ytghcheoholkpbaa
open Go.RowKit Go.PlainAid Go.Lib
set_option linter.unusedVariables false

def b8 (z : Int) : UInt8 := UInt8.ofNat z.toNat
theorem b8_val (z : Int) (h0 : 0 ≤ z) (h1 : z ≤ 255) : ((b8 z).toNat : Int) = z := by
  unfold b8; rw [UInt8.toNat_ofNat']; omega
/-- the two bytes of a unit -/
def ub (o u : Int) : List UInt8 := if o = 1 then [b8 (u % 256), b8 (u / 256)] else [b8 (u / 256), b8 (u % 256)]
theorem ub_len (o u : Int) : (ub o u).length = 2 := by unfold ub; split <;> rfl
/-- what Lay answers -/
def layU (o : Int) (mark : Bool) (us : List Int) : List UInt8 := (if mark then ub o 65279 else []) ++ us.flatMap (ub o)
theorem layU_snoc (o : Int) (mark : Bool) (us : List Int) (u : Int) : layU o mark (us ++ [u]) = layU o mark us ++ ub o u := by simp [layU]
theorem flat_len (o : Int) (us : List Int) : (us.flatMap (ub o)).length = 2 * us.length := by
  induction us with
  | nil => rfl
  | cons u us ih => rw [List.flatMap_cons, List.length_append, ub_len, ih, List.length_cons]; omega
theorem layU_len (o : Int) (mark : Bool) (us : List Int) : (layU o mark us).length = 2 * us.length + (if mark then 2 else 0) := by
  unfold layU
  rw [List.length_append, flat_len]
  split
  · rw [ub_len]; omega
  · simp
abbrev u8s (l : List UInt8) : List Value := l.map fun b => Value.int .u8 (b.toNat : Nat)
theorem infoByte : (Try.prog.info? 5).map (fun i => (i.zero, i.size, i.bytes)) = some (some (.int .u8 0), 1, 1) := by kernel_rfl
theorem u8s_append (l m : List UInt8) : u8s (l ++ m) = u8s l ++ u8s m := by simp

theorem isOrder_any (o : Int) (w : World) :
    Calls Try.prog 66 #[.int .u8 o] w fun e w' => e = .returned (.bool (decide (o = 0) || decide (o = 1))) ∧ w' = w := by
  by_cases h0 : o = 0
  · subst h0
    go_enter Try.func66, Try.ntmps66
    go_wp2
    go_ret
    exact ⟨rfl, rfl⟩
  · have e0 : (o == 0) = false := by simpa using h0
    go_enter Try.func66, Try.ntmps66
    go_wp2
    go_ret
    exact ⟨ret_bool (by rw [decide_eq_false h0]; by_cases h1 : o = 1 <;> simp [h1]), rfl⟩

set_option maxRecDepth 100000 in
set_option maxHeartbeats 1000000 in
theorem appendBytes_any (W : World) (B : Nat) (v : Value) (n : Nat) (l : List UInt8) (o u : Int) (ho : o = 0 ∨ o = 1) (h0 : 0 ≤ u) (h1 : u ≤ 65535) (hrow : W.ownsRow B 5 1 v n (u8s l)) (hn : n ≤ 17592186044416) (hB : B ≤ W.heap.size) :
    Calls Try.prog 67 #[v, .int .u8 o, .int .u16 u] W fun e w' => ∃ v', e = .returned v' ∧ w'.ownsRow B 5 1 v' (n + 2) (u8s (l ++ ub o u)) ∧ Below B W w' := by
  obtain ⟨i0, hi, hz0, hz1, hz2⟩ := info_parts infoByte
  obtain ⟨a, c, rfl⟩ := row_is hrow
  have e1 := b8_val (u / 256) (by omega) (by omega)
  have e2 := b8_val (u % 256) (by omega) (by omega)
  have HE1 := hide e1
  have HE2 := hide e2
  clear e1 e2
  have hw : IntKind.u8.wrap u = u % 256 := by rw [IntKind.wrap_u8]
  rcases ho with rfl | rfl
  · have HU : Hid (u8s (l ++ ub 0 u) = u8s l ++ [.int .u8 (u / 256), .int .u8 (u % 256)]) := by
      show _ = _
      rw [u8s_append]; unfold ub; simp [unhide HE1, unhide HE2]
    go_enter Try.func67, Try.ntmps67
    go_wp2_with (at_builtin; refine wpList_append_own_at _ rfl _ _ 85 rfl B 5 i0 (.int .u8 0) 1 1 Try.underlying85 hi hz0 hz1 hz2 rfl (by decide) _ _ _ rfl (hrow.alloc _) ⟨_, 0, none⟩ 2 2 [.int .u8 (u / 256), .int .u8 (u % 256)] rfl rfl (cell_two_new _ _ _ _) (by simp [Value.oneCell']) (by unfold maxLen; omega) (by omega) (by simp; omega) ?_; intro v' w4 hown hgrow _ _)
    go_ret
    rw [unhide HU]
    exact ⟨_, rfl, hown, belowGrown ((Below.refl _ _).alloc hB _) (by simp; omega) (hrow.alloc _) hgrow⟩
  · have HU : Hid (u8s (l ++ ub 1 u) = u8s l ++ [.int .u8 (u % 256), .int .u8 (u / 256)]) := by
      show _ = _
      rw [u8s_append]; unfold ub; simp [unhide HE1, unhide HE2]
    go_enter Try.func67, Try.ntmps67
    go_wp2_with (at_builtin; refine wpList_append_own_at _ rfl _ _ 85 rfl B 5 i0 (.int .u8 0) 1 1 Try.underlying85 hi hz0 hz1 hz2 rfl (by decide) _ _ _ rfl (hrow.alloc _) ⟨_, 0, none⟩ 2 2 [.int .u8 (u % 256), .int .u8 (u / 256)] rfl rfl (cell_two_new _ _ _ _) (by simp [Value.oneCell']) (by unfold maxLen; omega) (by omega) (by simp; omega) ?_; intro v' w4 hown hgrow _ _)
    go_ret
    rw [unhide HU]
    exact ⟨_, rfl, hown, belowGrown ((Below.refl _ _).alloc hB _) (by simp; omega) (hrow.alloc _) hgrow⟩

theorem make_bytes (w : World) (c : Int) (h0 : 0 ≤ c) (hc : c ≤ 17592186044416) :
    ∃ w', (Instr.makeSlice 85 (.int .i64 0) (.int .i64 c)).run Try.prog w = .ok (.slice (some ⟨w.heap.size, 0, none⟩) 0 c.toNat) w' ∧
      w'.ownsRow w.heap.size 5 1 (.slice (some ⟨w.heap.size, 0, none⟩) 0 c.toNat) 0 [] ∧ w.grownBy w' none := by
  obtain ⟨i0, hi, hz0, hz1, hz2⟩ := info_parts infoByte
  obtain ⟨m, rfl⟩ : ∃ m : Nat, c = m := ⟨c.toNat, by omega⟩
  exact run_make_own (P := Try.prog) w w.heap.size 85 5 i0 (.int .u8 0) 1 Try.underlying85 hi hz0 hz1 .i64 .i64 m (by rw [hz2]; omega) (by unfold maxLen; omega) (Nat.le_refl _)
theorem conv_bytes {W : World} {base : Nat} {v : Value} {n : Nat} {l : List UInt8} (h : W.ownsRow base 5 1 v n (u8s l)) : (convert 85 9 v).run Try.prog W = .ok (.string ⟨l.toArray⟩) W := by
  have hl : l.length = n := by have := h.1; simpa using this
  rcases h.2 with ⟨rfl, h0⟩ | ⟨g, cap, cur, rfl, _⟩
  · have hl0 : l = [] := List.eq_nil_of_length_eq_zero (by omega)
    subst hl0
    rw [run_convert_bytes_string (P := Try.prog) W 85 9 5 none 0 0 Try.underlying85 Try.underlying5 Try.underlying9]
    simp [Conv.bytesToString, Sem.run_pure]
    rfl
  · subst hl
    exact run_convert_bytes_back (P := Try.prog) W 85 9 5 ⟨g, 0, none⟩ cap l Try.underlying85 Try.underlying5 Try.underlying9 (fun j hj => h.cells rfl j _ (by simp [List.getElem?_eq_getElem hj]))

set_option maxRecDepth 100000 in
set_option maxHeartbeats 1000000 in
theorem lay_any (a : Option Addr) (cap : Nat) (us : List Int) (o : Int) (mark : Bool) (w : World) (ho : o = 0 ∨ o = 1) (hf : Fits us) (h : ReadsU w a us) (hc : us.length ≤ 1099511627776) :
    Calls Try.prog 44 #[.int .u8 o, .bool mark, .slice a us.length cap] w fun e w' => e = .returned (.tuple #[.string ⟨(layU o mark us).toArray⟩, .int .i64 0]) ∧ Below w.heap.size w w' := by
  have hd : (decide (o = 0) || decide (o = 1)) = true := by rcases ho with rfl | rfl <;> rfl
  have HD := hide hd
  have HR := hide h
  have HFI := hide hf
  have HO := hide ho
  clear h hd hf ho
  obtain ⟨w1, hmk, hown0, hgr0⟩ := make_bytes w (2 * (us.length : Int) + 2) (by omega) (by omega)
  have hB0 : Below w.heap.size w w1 := (Below.refl _ _).grown hgr0 (Nat.le_refl _) (fun k e => by cases e)
  have hsz0 := hB0.size
  have HLL := hide (fun k => layU_len o mark (us.take k))
  have HL0 : Hid (layU o mark (us.take 0) = if mark then ub o 65279 else []) := by show _ = _; simp [layU]
  generalize hlen : us.length = len at *
  have HLEN := hide hlen
  clear hlen
  generalize (2 * (len : Int) + 2).toNat = cc at *
  -- the loop, whatever stands ahead of it
  cases mark
  · go_enter Try.func44, Try.ntmps44
    go_wp2_with (first | (go_at_call 66; refine (isOrder_any _ _).mono ?_; rintro e w' ⟨rfl, rfl⟩; rw [unhide HD]))
    go_loopw [8, 25] (fun v8 v25 wr => ∃ k : Nat, k ≤ len ∧ v25 = .int .i64 k ∧ wr.ownsRow w'.heap.size 5 1 v8 (layU o false (us.take k)).length (u8s (layU o false (us.take k))) ∧ Below w'.heap.size w' wr) (fun _ v25 _ => len - (intOf v25).toNat)
    case atStart => exact ⟨0, Nat.zero_le _, rfl, by rw [unhide HL0]; exact hown0, hB0⟩
    case round =>
      clear hmk hown0 hgr0 hB0 hsz0
      obtain ⟨k, hk, rfl, hrow, hB⟩ := hrel
      by_cases hlt : k < len
      · obtain ⟨b, off, rfl, hcell⟩ := (unhide HR).below hB k (by rw [unhide HLEN]; exact hlt)
        have HT : Hid (layU o false (us.take (k + 1)) = layU o false (us.take k) ++ ub o (uA us k)) := by
          show _ = _
          rw [take_snoc' us k (by rw [unhide HLEN]; exact hlt), layU_snoc]; rfl
        have HN : Hid ((layU o false (us.take (k + 1))).length = (layU o false (us.take k)).length + 2) := by
          show _ = _
          rw [unhide HT, List.length_append, ub_len]
        have hun : (layU o false (us.take k)).length ≤ 17592186044416 := by
          have h1 := unhide HLL k; rw [List.length_take] at h1; simp at h1; omega
        obtain ⟨f0, f1⟩ := (unhide HFI).at k
        generalize uA us k = u at *
        have hBs := hB.size
        go_wp2_with (go_at_call 67; refine (appendBytes_any _ _ _ _ _ _ _ (unhide HO) f0 f1 hrow hun hBs).mono ?_; rintro e w3 ⟨v', rfl, hrow3, hb3⟩)
        go_roundw
        case rel => exact ⟨k + 1, by omega, by go_num, by rw [unhide HN, unhide HT]; exact hrow3, hB.trans hb3⟩
        case measure => simp [intOf]; omega
      · have hke : us.take k = us := List.take_of_length_le (by rw [unhide HLEN]; omega)
        rw [hke] at hrow
        obtain ⟨a', c', rfl⟩ := row_is hrow
        have hcv := conv_bytes hrow
        have HK := hide hke
        clear hke hrow
        go_wp2
        go_returns
        exact ⟨rfl, hB⟩
  · go_enter Try.func44, Try.ntmps44
    go_wp2_with (first | (go_at_call 66; refine (isOrder_any _ _).mono ?_; rintro e w' ⟨rfl, rfl⟩; rw [unhide HD]) | (go_at_call 67; refine (appendBytes_any _ _ _ _ [] _ _ (unhide HO) (by omega) (by omega) hown0 (by omega) hsz0).mono ?_; rintro e w2 ⟨v', rfl, hrow2, hb2⟩))
    go_loopw [8, 25] (fun v8 v25 wr => ∃ k : Nat, k ≤ len ∧ v25 = .int .i64 k ∧ wr.ownsRow w'.heap.size 5 1 v8 (layU o true (us.take k)).length (u8s (layU o true (us.take k))) ∧ Below w'.heap.size w' wr) (fun _ v25 _ => len - (intOf v25).toNat)
    case atStart => exact ⟨0, Nat.zero_le _, rfl, by rw [unhide HL0]; simpa [ub_len] using hrow2, hB0.trans hb2⟩
    case round =>
      clear hmk hown0 hgr0 hB0 hsz0 hrow2 hb2
      obtain ⟨k, hk, rfl, hrow, hB⟩ := hrel
      by_cases hlt : k < len
      · obtain ⟨b, off, rfl, hcell⟩ := (unhide HR).below hB k (by rw [unhide HLEN]; exact hlt)
        have HT : Hid (layU o true (us.take (k + 1)) = layU o true (us.take k) ++ ub o (uA us k)) := by
          show _ = _
          rw [take_snoc' us k (by rw [unhide HLEN]; exact hlt), layU_snoc]; rfl
        have HN : Hid ((layU o true (us.take (k + 1))).length = (layU o true (us.take k)).length + 2) := by
          show _ = _
          rw [unhide HT, List.length_append, ub_len]
        have hun : (layU o true (us.take k)).length ≤ 17592186044416 := by
          have h1 := unhide HLL k; rw [List.length_take] at h1; simp at h1; omega
        obtain ⟨f0, f1⟩ := (unhide HFI).at k
        generalize uA us k = u at *
        have hBs := hB.size
        go_wp2_with (go_at_call 67; refine (appendBytes_any _ _ _ _ _ _ _ (unhide HO) f0 f1 hrow hun hBs).mono ?_; rintro e w3 ⟨v', rfl, hrow3, hb3⟩)
        go_roundw
        case rel => exact ⟨k + 1, by omega, by go_num, by rw [unhide HN, unhide HT]; exact hrow3, hB.trans hb3⟩
        case measure => simp [intOf]; omega
      · have hke : us.take k = us := List.take_of_length_le (by rw [unhide HLEN]; omega)
        rw [hke] at hrow
        obtain ⟨a', c', rfl⟩ := row_is hrow
        have hcv := conv_bytes hrow
        have HK := hide hke
        clear hke hrow
        go_wp2
        go_returns
        exact ⟨rfl, hB⟩

theorem lay_bad (v : Value) (o : Int) (mark : Bool) (w : World) (ho : ¬ (o = 0 ∨ o = 1)) :
    Calls Try.prog 44 #[.int .u8 o, .bool mark, v] w fun e w' => e = .returned (.tuple #[.string ⟨#[]⟩, .int .i64 2]) ∧ w' = w := by
  have hd : (decide (o = 0) || decide (o = 1)) = false := by simpa using ho
  have HD := hide hd
  clear hd
  go_enter Try.func44, Try.ntmps44
  go_wp2_with (go_at_call 66; refine (isOrder_any _ _).mono ?_; rintro e w' ⟨rfl, rfl⟩; rw [unhide HD])
  go_returns
  exact ⟨rfl, rfl⟩
end Go.Proofs.Ytghcheoholkpbaa

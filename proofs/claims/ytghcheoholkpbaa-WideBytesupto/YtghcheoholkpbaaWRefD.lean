/-
  The document's answer for layer 2: Lay and Read.
-/
import Derived.Test.YtghcheoholkpbaaWLent
namespace Go.Proofs.Ytghcheoholkpbaa
open Go.RowKit Go.PlainAid Go.Lib
set_option linter.unusedVariables false

theorem str_append (l m : List UInt8) : (⟨l.toArray⟩ : ByteArray) ++ ⟨m.toArray⟩ = ⟨(l ++ m).toArray⟩ := by
  apply ByteArray.ext
  simp
theorem two_conv (w : World) (x y : Int) (hx : 0 ≤ x) (hx' : x ≤ 255) (hy : 0 ≤ y) (hy' : y ≤ 255) :
    (convert 85 9 (.slice (some ⟨w.heap.size, 0, none⟩) 2 2)).run Try.prog (w.alloc (.cells #[.int .u8 x, .int .u8 y] 5)) = .ok (.string ⟨[b8 x, b8 y].toArray⟩) (w.alloc (.cells #[.int .u8 x, .int .u8 y] 5)) := by
  have e1 := b8_val x hx hx'
  have e2 := b8_val y hy hy'
  refine run_convert_bytes_back (P := Try.prog) _ 85 9 5 ⟨w.heap.size, 0, none⟩ 2 [b8 x, b8 y] Try.underlying85 Try.underlying5 Try.underlying9 (fun j hj => ?_)
  have : j = 0 ∨ j = 1 := by simp at hj; omega
  rcases this with rfl | rfl
  · rw [cell_two_new w _ _ _ 0 _ rfl]; simp [e1]
  · rw [cell_two_new w _ _ _ 1 _ rfl]; simp [e2]

set_option maxRecDepth 100000 in
theorem rBytes_any (o u : Int) (w : World) (ho : o = 0 ∨ o = 1) (h0 : 0 ≤ u) (h1 : u ≤ 65535) :
    Calls Try.prog 68 #[.int .u8 o, .int .u16 u] w fun e w' => e = .returned (.string ⟨(ub o u).toArray⟩) ∧ Below w.heap.size w w' := by
  have q1 : IntKind.u16.wrap (u.tdiv 256) = u / 256 := by rw [IntKind.wrap_u16, Int.tdiv_eq_ediv_of_nonneg h0]; omega
  have q2 : u / 256 % 256 = u / 256 := by omega
  have hc1 := two_conv w (u / 256) (u % 256) (by omega) (by omega) (by omega) (by omega)
  have hc2 := two_conv w (u % 256) (u / 256) (by omega) (by omega) (by omega) (by omega)
  rcases ho with rfl | rfl
  · have HU : Hid (ub 0 u = [b8 (u / 256), b8 (u % 256)]) := by show _ = _; unfold ub; rfl
    generalize b8 (u / 256) = x at *
    generalize b8 (u % 256) = y at *
    go_enter Try.func68, Try.ntmps68
    go_wp2
    go_ret
    exact ⟨ret_str (by rw [unhide HU]), by go_grown⟩
  · have HU : Hid (ub 1 u = [b8 (u % 256), b8 (u / 256)]) := by show _ = _; unfold ub; rfl
    generalize b8 (u / 256) = x at *
    generalize b8 (u % 256) = y at *
    go_enter Try.func68, Try.ntmps68
    go_wp2
    go_ret
    exact ⟨ret_str (by rw [unhide HU]), by go_grown⟩

theorem rLay_bad (v : Value) (o : Int) (mark : Bool) (w : World) (ho : 1 < o) :
    Calls Try.prog 45 #[.int .u8 o, .bool mark, v] w fun e w' => e = .returned (.tuple #[.string ⟨#[]⟩, .int .i64 2]) ∧ w' = w := by
  go_enter Try.func45, Try.ntmps45
  go_wp2
  go_returns
  exact ⟨rfl, rfl⟩
theorem rRead_bad (o : Int) (s : ByteArray) (w : World) (ho : 1 < o) :
    Calls Try.prog 47 #[.int .u8 o, .string s] w fun e w' => e = .returned (.tuple #[.slice none 0 0, .int .u8 0, .int .i64 2]) ∧ w' = w := by
  go_enter Try.func47, Try.ntmps47
  go_wp2
  go_returns
  exact ⟨rfl, rfl⟩
theorem rRead_odd (o : Int) (s : ByteArray) (w : World) (ho : o = 0 ∨ o = 1) (hs : s.size ≤ maxLen) (hev : s.size % 2 ≠ 0) :
    Calls Try.prog 47 #[.int .u8 o, .string s] w fun e w' => e = .returned (.tuple #[.slice none 0 0, .int .u8 0, .int .i64 22]) ∧ w' = w := by
  unfold maxLen at hs
  have hev' : ((s.size : Int) % 2 != 0) = true := by simp; omega
  have d1 : decide (1 < o) = false := by rcases ho with rfl | rfl <;> rfl
  go_enter Try.func47, Try.ntmps47
  go_wp2
  go_returns
  exact ⟨rfl, rfl⟩

set_option maxRecDepth 100000 in
set_option maxHeartbeats 1000000 in
theorem rLay_any (a : Option Addr) (cap : Nat) (us : List Int) (o : Int) (mark : Bool) (w : World) (ho : o = 0 ∨ o = 1) (hf : Fits us) (h : ReadsU w a us) (hc : us.length ≤ 1099511627776) :
    Calls Try.prog 45 #[.int .u8 o, .bool mark, .slice a us.length cap] w fun e w' => e = .returned (.tuple #[.string ⟨(layU o mark us).toArray⟩, .int .i64 0]) ∧ Below w.heap.size w w' := by
  have d1 : decide (1 < o) = false := by rcases ho with rfl | rfl <;> rfl
  have HR := hide h
  have HFI := hide hf
  have HO := hide ho
  clear h hf ho
  have HLL := hide (fun k => layU_len o mark (us.take k))
  have HL0 : Hid (layU o mark (us.take 0) = if mark then ub o 65279 else []) := by show _ = _; simp [layU]
  generalize hlen : us.length = len at *
  have HLEN := hide hlen
  clear hlen
  cases mark
  · go_enter Try.func45, Try.ntmps45
    go_wp2
    go_loopw [8, 9] (fun v8 v9 wr => ∃ k : Nat, k ≤ len ∧ v9 = .int .i64 k ∧ v8 = .string ⟨(layU o false (us.take k)).toArray⟩ ∧ Below w.heap.size w wr) (fun _ v9 _ => len - (intOf v9).toNat)
    case atStart => exact ⟨0, Nat.zero_le _, rfl, by rw [unhide HL0]; rfl, Below.refl _ _⟩
    case round =>
      obtain ⟨k, hk, rfl, rfl, hB⟩ := hrel
      by_cases hlt : k < len
      · obtain ⟨b, off, rfl, hcell⟩ := (unhide HR).below hB k (by rw [unhide HLEN]; exact hlt)
        have HT : Hid ((⟨(layU o false (us.take (k + 1))).toArray⟩ : ByteArray) = ⟨(layU o false (us.take k)).toArray⟩ ++ ⟨(ub o (uA us k)).toArray⟩) := by
          show _ = _
          rw [take_snoc' us k (by rw [unhide HLEN]; exact hlt), layU_snoc, str_append]; rfl
        have hsz : (⟨(layU o false (us.take k)).toArray⟩ : ByteArray).size ≤ 17592186044416 := by
          have h1 := unhide HLL k
          rw [List.length_take] at h1
          rw [size_list]; simp at h1; omega
        have hsu : (⟨(ub o (uA us k)).toArray⟩ : ByteArray).size = 2 := by rw [size_list, ub_len]
        obtain ⟨f0, f1⟩ := (unhide HFI).at k
        have HRB := hide (fun w => rBytes_any o (uA us k) w (unhide HO) f0 f1)
        generalize (⟨(ub o (uA us k)).toArray⟩ : ByteArray) = S at *
        generalize (⟨(layU o false (us.take k)).toArray⟩ : ByteArray) = L at *
        generalize uA us k = u at *
        go_wp2_with (go_at_call 68; refine (unhide HRB _).mono ?_; rintro e w3 ⟨rfl, hb3⟩)
        go_roundw
        case rel => exact ⟨k + 1, by omega, by go_num, by rw [unhide HT], hB.trans (hb3.mono hB.size)⟩
        case measure => simp [intOf]; omega
      · have hke : us.take k = us := List.take_of_length_le (by rw [unhide HLEN]; omega)
        have HK : Hid ((⟨(layU o false (us.take k)).toArray⟩ : ByteArray) = ⟨(layU o false us).toArray⟩) := by show _ = _; rw [hke]
        clear hke
        go_wp2
        go_returns
        rw [unhide HK]
        exact ⟨rfl, hB⟩
  · have HRM := hide (fun w => rBytes_any o 65279 w (unhide HO) (by omega) (by omega))
    go_enter Try.func45, Try.ntmps45
    go_wp2_with (go_at_call 68; refine (unhide HRM _).mono ?_; rintro e w1 ⟨rfl, hb1⟩)
    go_loopw [8, 9] (fun v8 v9 wr => ∃ k : Nat, k ≤ len ∧ v9 = .int .i64 k ∧ v8 = .string ⟨(layU o true (us.take k)).toArray⟩ ∧ Below w.heap.size w wr) (fun _ v9 _ => len - (intOf v9).toNat)
    case atStart => exact ⟨0, Nat.zero_le _, rfl, by rw [unhide HL0]; rfl, hb1⟩
    case round =>
      obtain ⟨k, hk, rfl, rfl, hB⟩ := hrel
      by_cases hlt : k < len
      · obtain ⟨b, off, rfl, hcell⟩ := (unhide HR).below hB k (by rw [unhide HLEN]; exact hlt)
        have HT : Hid ((⟨(layU o true (us.take (k + 1))).toArray⟩ : ByteArray) = ⟨(layU o true (us.take k)).toArray⟩ ++ ⟨(ub o (uA us k)).toArray⟩) := by
          show _ = _
          rw [take_snoc' us k (by rw [unhide HLEN]; exact hlt), layU_snoc, str_append]; rfl
        have hsz : (⟨(layU o true (us.take k)).toArray⟩ : ByteArray).size ≤ 17592186044416 := by
          have h1 := unhide HLL k
          rw [List.length_take] at h1
          rw [size_list]; simp at h1; omega
        have hsu : (⟨(ub o (uA us k)).toArray⟩ : ByteArray).size = 2 := by rw [size_list, ub_len]
        obtain ⟨f0, f1⟩ := (unhide HFI).at k
        have HRB := hide (fun w => rBytes_any o (uA us k) w (unhide HO) f0 f1)
        generalize (⟨(ub o (uA us k)).toArray⟩ : ByteArray) = S at *
        generalize (⟨(layU o true (us.take k)).toArray⟩ : ByteArray) = L at *
        generalize uA us k = u at *
        go_wp2_with (go_at_call 68; refine (unhide HRB _).mono ?_; rintro e w3 ⟨rfl, hb3⟩)
        go_roundw
        case rel => exact ⟨k + 1, by omega, by go_num, by rw [unhide HT], hB.trans (hb3.mono hB.size)⟩
        case measure => simp [intOf]; omega
      · have hke : us.take k = us := List.take_of_length_le (by rw [unhide HLEN]; omega)
        have HK : Hid ((⟨(layU o true (us.take k)).toArray⟩ : ByteArray) = ⟨(layU o true us).toArray⟩) := by show _ = _; rw [hke]
        clear hke
        go_wp2
        go_returns
        rw [unhide HK]
        exact ⟨rfl, hB⟩

end Go.Proofs.Ytghcheoholkpbaa

/-
  The document's Number, Put and Take.
-/
import Derived.Test.YtdbfpmelhokeoaaDoorSuRb
import Derived.Test.YtdbfpmelhokeoaaDoorSuND
import Derived.Test.YtdbfpmelhokeoaaDoorSuPc
namespace Go.Proofs.YtdbfpmelhokeoaaDoor
open Go.RowKit Go.PlainAid Go.Lib Go.SuM
set_option linter.unusedVariables false
set_option linter.unusedSimpArgs false
set_option maxHeartbeats 1000000 in
theorem rnumber_any (s : ByteArray) (hs4 : s.size ≤ 4) (w : World) : Calls Tryd.prog 86 #[.string s] w fun e w' => e = .returned (.int .u32 ((num (LS s) : Nat) : Int)) ∧ w' = w := by
  have hnl : num (LS s) < 4294967296 := by
    have := num_lt (LS s)
    rw [LS_len] at this
    exact Nat.lt_of_lt_of_le this (Nat.pow_le_pow_right (n := 2) (j := 32) (by decide) (by omega))
  go_enter Tryd.func86, Tryd.ntmps86
  go_wp2
  go_loop [3, 4] (fun v3 v4 => ∃ j : Nat, j ≤ s.size ∧ v4 = .int .i64 ((j : Int) - 1) ∧ v3 = .int .u32 ((num ((LS s).drop j) : Nat) : Int)) (fun _ v4 => ((intOf v4) + 1).toNat)
  case atStart => exact ⟨s.size, Nat.le_refl _, rfl, int_eq (by rw [List.drop_of_length_le (by rw [LS_len]; exact Nat.le_refl _)]; rfl)⟩
  case round =>
    obtain ⟨j, hj, rfl, rfl⟩ := hrel
    by_cases h0 : 0 < j
    · obtain ⟨i, rfl⟩ : ∃ i, j = i + 1 := ⟨j - 1, by omega⟩
      have hi : i < s.size := by omega
      have HN := hide (ND.num_drop hi)
      have hxl : num ((LS s).drop (i + 1)) < 16777216 := by
        have := num_lt ((LS s).drop (i + 1))
        rw [List.length_drop, LS_len] at this
        exact Nat.lt_of_lt_of_le this (Nat.pow_le_pow_right (n := 2) (j := 24) (by decide) (by omega))
      have hbl := s[i].toNat_lt
      have hor := ND.or256 _ s[i].toNat hxl hbl
      generalize num ((LS s).drop (i + 1)) = x at *
      have hidx : ((i + 1 : Nat) : Int) - 1 = (i : Int) := by omega
      have hge : (0 : Int) ≤ (i : Int) := by omega
      have h8 := u8mod s[i]
      have hy : (x : Int) * 256 % 4294967296 = ((256 * x : Nat) : Int) := by omega
      go_wp2
      go_round
      case rel => exact ⟨i, by omega, rfl, int_eq (by rw [unhide HN, show (x : Int) * 256 = ((256 * x : Nat) : Int) by omega]; exact hor)⟩
      case measure => simp [intOf]; try omega
    · obtain rfl : j = 0 := by omega
      rw [List.drop_zero]
      obtain ⟨z, hz0⟩ : ∃ z, z = num (LS s) := ⟨_, rfl⟩
      rw [← hz0] at hnl ⊢
      have HZ := hide hz0
      clear hz0
      go_wp2
      go_ret
      exact ⟨ret_int (by rw [← unhide HZ]), rfl⟩
/-- the bytes of numbers of a width -/
def laidW (wd : Nat) (l : List Nat) : List UInt8 := l.flatMap (le wd)
theorem laidW_len (wd : Nat) (l : List Nat) : (laidW wd l).length = wd * l.length := by
  induction l with
  | nil => rfl
  | cons x l ih =>
    have e : laidW wd (x :: l) = le wd x ++ laidW wd l := rfl
    rw [e, List.length_append, ih, le_len, List.length_cons, Nat.mul_add]; omega
theorem laidW_snoc (wd : Nat) (l : List Nat) (x : Nat) : laidW wd (l ++ [x]) = laidW wd l ++ le wd x := by unfold laidW; rw [List.flatMap_append]; simp
theorem BA_app (a b : List UInt8) : BA a ++ BA b = BA (a ++ b) := by
  rw [← BA_LS (BA a ++ BA b), LS_app, LS_BA, LS_BA]
set_option maxHeartbeats 1000000 in
theorem rput_any (wd : Nat) (hwd : wd ≤ 4) (b : ByteArray) (l : List Nat) (an : Option Addr) (cn : Nat) (n : Nat) (hn : l.length = n) (hcn : cn ≤ maxLen) (w : World) (ht : ND.NumsAt w an l) (hbig : b.size + wd * n ≤ maxLen) (hnm : n ≤ maxLen) : Calls Tryd.prog 53 #[.string b, .slice an n cn, .int .i64 (wd : Int)] w fun e w' => e = .returned (.string (BA (LS b ++ laidW wd l))) ∧ Below w.heap.size w w' := by
  unfold maxLen at hbig hcn hnm
  have HT := hide ht
  have HN := hide hn
  clear ht hn
  go_enter Tryd.func53, Tryd.ntmps53
  go_wp2
  go_loopw [0, 7] (fun v0 v7 wr => ∃ (k : Nat) (t : ByteArray), k ≤ n ∧ v7 = .int .i64 (k : Int) ∧ v0 = .string t ∧ t.size = b.size + wd * k ∧ Hid (t = BA (LS b ++ laidW wd (l.take k))) ∧ Hid (Below w.heap.size w wr)) (fun _ v7 _ => n - (intOf v7).toNat)
  case atStart => exact ⟨0, b, Nat.zero_le _, rfl, rfl, by simp, by show _ = _; rw [show LS b ++ laidW wd (l.take 0) = LS b from List.append_nil _, BA_LS], Below.refl _ _⟩
  case round =>
    obtain ⟨k, t, hk, rfl, rfl, hts, HX, HB⟩ := hrel
    by_cases hlt : k < n
    · have hkl : k < l.length := by rw [unhide HN]; exact hlt
      obtain ⟨g, off, rfl, hg, hc, hsm⟩ := ((unhide HT).below (unhide HB)).get hkl
      have HS : Hid (t ++ BA (le wd l[k]) = BA (LS b ++ laidW wd (l.take (k + 1)))) := by
        show _ = _
        rw [unhide HX, List.take_succ_eq_append_getElem hkl, laidW_snoc, BA_app, List.append_assoc]
      have HC := hide (bytes_any l[k] wd hsm hwd wr)
      have hkw : wd * k + wd ≤ wd * n := by
        have := Nat.mul_le_mul_left wd (show k + 1 ≤ n from hlt)
        rw [Nat.mul_add] at this
        omega
      have hsz : (BA (le wd l[k])).size = wd := by rw [BA_size, le_len]
      generalize l[k] = x at *
      have h63 : ¬ 9223372036854775807 < t.size + (BA (le wd x)).size := by rw [hsz]; omega
      obtain ⟨u, hu⟩ : ∃ u, u = BA (le wd x) := ⟨_, rfl⟩
      rw [← hu] at HC HS h63 hsz
      clear hu hsm hkl
      go_wp2_with (go_at_call 66; with_reducible refine (unhide HC).mono ?_; rintro e w4 ⟨rfl, hb4⟩)
      go_roundw
      case rel => exact ⟨k + 1, t ++ u, by omega, by go_num, rfl, by rw [ByteArray.size_append, hsz, hts, Nat.mul_add]; omega, unhide HS, (unhide HB).trans (hb4.mono (unhide HB).size)⟩
      case measure => simp [intOf]; omega
    · have HE : Hid (t = BA (LS b ++ laidW wd l)) := by
        show _ = _
        rw [unhide HX, List.take_of_length_le (by rw [unhide HN]; omega)]
      go_wp2
      go_ret
      exact ⟨congrArg (fun z => Ending.returned (Value.string z)) (unhide HE), unhide HB⟩
/-- the i-th number of a width from the byte at on -/
def numW (wd : Nat) (s : ByteArray) (at_ i : Nat) : Nat := num (((LS s).drop (at_ + wd * i)).take wd)
def numsW (wd : Nat) (s : ByteArray) (at_ n : Nat) : List Nat := (List.range n).map (numW wd s at_)
theorem numsW_len (wd : Nat) (s : ByteArray) (a n : Nat) : (numsW wd s a n).length = n := by simp [numsW]
theorem numsW_succ (wd : Nat) (s : ByteArray) (a n : Nat) : numsW wd s a (n + 1) = numsW wd s a n ++ [numW wd s a n] := by
  unfold numsW
  rw [List.range_succ, List.map_append]
  rfl
theorem numW_ext (wd : Nat) (s : ByteArray) (a i : Nat) : num (LS (s.extract (a + wd * i) (a + wd * i + wd))) = numW wd s a i := by
  unfold numW
  rw [LS_extract, List.drop_take]
  congr 2
  omega
theorem rtake_arg (wd : Nat) (s : ByteArray) (a n : Int) (h : a < 0 ∨ n < 0 ∨ (s.size : Int) < a) (w : World) : Calls Tryd.prog 61 #[.string s, .int .i64 a, .int .i64 n, .int .i64 (wd : Int)] w fun e w' => e = .returned (.tuple #[.slice none 0 0, .int .i64 2]) ∧ w' = w := by
  by_cases h1 : a < 0
  · clear h
    go_enter Tryd.func61, Tryd.ntmps61
    go_wp2
    go_ret2
    exact ⟨rfl, rfl⟩
  · by_cases h2 : n < 0
    · clear h
      go_enter Tryd.func61, Tryd.ntmps61
      go_wp2
      go_ret2
      exact ⟨rfl, rfl⟩
    · have h3 : (s.size : Int) < a := by omega
      clear h
      go_enter Tryd.func61, Tryd.ntmps61
      go_wp2
      go_ret2
      exact ⟨rfl, rfl⟩
set_option maxHeartbeats 1000000 in
theorem rtake_short (wd : Nat) (hwd0 : 0 < wd) (hwd : wd ≤ 4) (s : ByteArray) (hs : s.size ≤ maxLen) (a n : Nat) (ha : a ≤ s.size) (hn : (s.size - a) / wd < n) (hn2 : n ≤ 9223372036854775807) (w : World) : Calls Tryd.prog 61 #[.string s, .int .i64 (a : Int), .int .i64 (n : Int), .int .i64 (wd : Int)] w fun e w' => e = .returned (.tuple #[.slice none 0 0, .int .i64 120]) ∧ w' = w := by
  unfold maxLen at hs
  have h1 : ¬ ((a : Int) < 0) := by omega
  have h2 : ¬ ((n : Int) < 0) := by omega
  have h3 : ¬ ((s.size : Int) < (a : Int)) := by omega
  have h4 : ((s.size : Int) - (a : Int)).tdiv (wd : Int) = (((s.size - a) / wd : Nat) : Int) := by
    rw [show (s.size : Int) - (a : Int) = ((s.size - a : Nat) : Int) by omega, Int.ofNat_tdiv]
  have h5 : ((s.size : Int) - (a : Int)) / (wd : Int) = (((s.size - a) / wd : Nat) : Int) := by
    rw [show (s.size : Int) - (a : Int) = ((s.size - a : Nat) : Int) by omega, Int.natCast_ediv]
  have hq : (s.size - a) / wd ≤ s.size := Nat.le_trans (Nat.div_le_self _ _) (by omega)
  generalize (s.size - a) / wd = q at *
  have h6 : (q : Int) < (n : Int) := by omega
  have h7 : ¬ ((wd : Int) = 0) := by omega
  have h8 : ¬ ((wd : Int) = -1) := by omega
  go_enter Tryd.func61, Tryd.ntmps61
  go_wp2
  go_ret2
  exact ⟨rfl, rfl⟩
set_option maxRecDepth 20000 in
set_option maxHeartbeats 2000000 in
theorem rtake_ok (wd : Nat) (hwd0 : 0 < wd) (hwd : wd ≤ 4) (s : ByteArray) (hs : s.size ≤ maxLen) (a n : Nat) (ha : a ≤ s.size) (hn : wd * n ≤ s.size - a) (hn4 : n * 4 ≤ 140737488355328) (w : World) : Calls Tryd.prog 61 #[.string s, .int .i64 (a : Int), .int .i64 (n : Int), .int .i64 (wd : Int)] w fun e w' => ∃ v, e = .returned (.tuple #[v, .int .i64 0]) ∧ ND.OwnN w' w.heap.size v (numsW wd s a n) ∧ Below w.heap.size w w' := by
  unfold maxLen at hs
  have h1 : ¬ ((a : Int) < 0) := by omega
  have h2 : ¬ ((n : Int) < 0) := by omega
  have h3 : ¬ ((s.size : Int) < (a : Int)) := by omega
  have hnq : n ≤ (s.size - a) / wd := (Nat.le_div_iff_mul_le hwd0).2 (by rw [Nat.mul_comm]; exact hn)
  have h4 : ((s.size : Int) - (a : Int)).tdiv (wd : Int) = (((s.size - a) / wd : Nat) : Int) := by
    rw [show (s.size : Int) - (a : Int) = ((s.size - a : Nat) : Int) by omega, Int.ofNat_tdiv]
  have h5 : ((s.size : Int) - (a : Int)) / (wd : Int) = (((s.size - a) / wd : Nat) : Int) := by
    rw [show (s.size : Int) - (a : Int) = ((s.size - a : Nat) : Int) by omega, Int.natCast_ediv]
  have hq : (s.size - a) / wd ≤ s.size := Nat.le_trans (Nat.div_le_self _ _) (by omega)
  generalize (s.size - a) / wd = q at *
  have h6 : ¬ ((q : Int) < (n : Int)) := by omega
  have h7 : ¬ ((wd : Int) = 0) := by omega
  have h8 : ¬ ((wd : Int) = -1) := by omega
  have HNUM := hide rnumber_any
  go_enter Tryd.func61, Tryd.ntmps61
  go_wp2
  go_loopw [10, 11] (fun v10 v11 wr => ∃ k : Nat, k ≤ n ∧ v11 = .int .i64 (k : Int) ∧ Hid (ND.OwnN wr w.heap.size v10 (numsW wd s a k)) ∧ Hid (Below w.heap.size w wr)) (fun _ v11 _ => n - (intOf v11).toNat)
  case atStart => exact ⟨0, Nat.zero_le _, rfl, ⟨rfl, .inl ⟨rfl, rfl⟩⟩, Below.refl _ _⟩
  case round =>
    obtain ⟨k, hk, rfl, HO, HB⟩ := hrel
    by_cases hlt : k < n
    · have hkw : wd * k + wd ≤ wd * n := by
        have := Nat.mul_le_mul_left wd (show k + 1 ≤ n from hlt)
        rw [Nat.mul_add] at this
        omega
      have hx := numW_ext wd s a k
      have HSU := hide (numsW_succ wd s a k)
      obtain ⟨lo, hlo0⟩ : ∃ lo, lo = a + wd * k := ⟨_, rfl⟩
      have hlo : (a : Int) + (k : Int) * (wd : Int) = (lo : Int) := by rw [hlo0]; push_cast; rw [Int.mul_comm]
      rw [← hlo0] at hx
      have hhs : lo + wd ≤ s.size := by omega
      have hlh : (lo : Int) + (wd : Int) = ((lo + wd : Nat) : Int) := by omega
      obtain ⟨hi, hhi0⟩ : ∃ hi, hi = lo + wd := ⟨_, rfl⟩
      have hhi : (lo : Int) + (wd : Int) = (hi : Int) := by omega
      rw [← hhi0] at hx
      have hT := unhide HNUM (s.extract lo hi) (by rw [ByteArray.size_extract]; omega) wr
      rw [hx] at hT
      have HC := hide hT
      obtain ⟨v', w2, hap, hO2, hb2, _⟩ := ND.append_num wr w.heap.size _ (numsW wd s a k) (numW wd s a k) (unhide HO) (unhide HB).size (by rw [numsW_len]; omega) 34
      rw [← unhide HSU] at hO2
      have HO2 := hide (And.intro hO2 ((unhide HB).trans hb2))
      generalize numW wd s a k = x at *
      have hhs2 : hi ≤ s.size := by omega
      have hlh2 : lo ≤ hi := by omega
      clear hO2 hb2 hx hT hlo0 hhi0 hlh
      go_wp2_with (first | (go_at_call 86; with_reducible refine (unhide HC).mono ?_; rintro e w' ⟨rfl, hww⟩; obtain rfl : wr = w' := hww.symm) | (at_builtin; refine wpList_append_run _ rfl _ _ _ _ rfl _ _ rfl rfl v' w2 hap ?_))
      go_roundw
      case rel => exact ⟨k + 1, by omega, by go_num, (unhide HO2).1, (unhide HO2).2⟩
      case measure => simp [intOf]; omega
    · obtain rfl : k = n := by omega
      go_wp2
      go_ret2
      exact ⟨_, rfl, unhide HO, unhide HB⟩
end Go.Proofs.YtdbfpmelhokeoaaDoor

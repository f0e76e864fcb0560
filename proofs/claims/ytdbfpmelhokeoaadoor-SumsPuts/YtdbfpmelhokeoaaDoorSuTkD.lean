/-
  Take of numbers of type uint32.
-/
import Derived.Test.YtdbfpmelhokeoaaDoorSuPD
import Derived.Test.YtdbfpmelhokeoaaDoorSuO2
import Derived.Laws.MakeOwn
namespace Go.Proofs.YtdbfpmelhokeoaaDoor.ND
open Go.RowKit Go.PlainAid Go.Lib Go.SuM
set_option linter.unusedVariables false
set_option linter.unusedSimpArgs false
theorem num_drop {s : ByteArray} {j : Nat} (h : j < s.size) : num ((LS s).drop j) = 256 * num ((LS s).drop (j + 1)) + s[j].toNat := by
  have hl : j < (LS s).length := by rw [LS_len]; exact h
  rw [List.drop_eq_getElem_cons hl]
  show _ + 256 * _ = _
  have : (LS s)[j] = s[j] := rfl
  rw [this]
  omega
theorem or256 (x b : Nat) (hx : x < 16777216) (hb : b < 256) : bits .or .u32 ((256 * x : Nat) : Int) (b : Int) = ((256 * x + b : Nat) : Int) := by
  rw [u32_or_nat _ _ (by omega) (by omega)]
  congr 1
  exact (Nat.two_pow_add_eq_or_of_lt (i := 8) hb x).symm
set_option maxHeartbeats 1000000 in
theorem taken_any (s : ByteArray) (hs : s.size = 4) (w : World) : Calls Tryd.prog 87 #[.string s] w fun e w' => e = .returned (.int .u32 ((num (LS s) : Nat) : Int)) ∧ w' = w := by
  have hnl : num (LS s) < 4294967296 := by have := num_lt (LS s); rw [LS_len, hs] at this; exact this
  have HS := hide hs
  have hs4 : s.size ≤ 4 := by omega
  clear hs
  go_enter Tryd.func87, Tryd.ntmps87
  go_wp2
  go_loop [3, 4] (fun v3 v4 => ∃ j : Nat, j ≤ s.size ∧ v4 = .int .i64 ((j : Int) - 1) ∧ v3 = .int .u32 ((num ((LS s).drop j) : Nat) : Int)) (fun _ v4 => ((intOf v4) + 1).toNat)
  case atStart => exact ⟨s.size, Nat.le_refl _, rfl, int_eq (by rw [List.drop_of_length_le (by rw [LS_len]; exact Nat.le_refl _)]; rfl)⟩
  case round =>
    obtain ⟨j, hj, rfl, rfl⟩ := hrel
    by_cases h0 : 0 < j
    · obtain ⟨i, rfl⟩ : ∃ i, j = i + 1 := ⟨j - 1, by omega⟩
      have hi : i < s.size := by omega
      have HN := hide (num_drop hi)
      have hxl : num ((LS s).drop (i + 1)) < 16777216 := by
        have := num_lt ((LS s).drop (i + 1))
        rw [List.length_drop, LS_len] at this
        exact Nat.lt_of_lt_of_le this (Nat.pow_le_pow_right (n := 2) (j := 24) (by decide) (by omega))
      have hbl := s[i].toNat_lt
      have hor := or256 _ s[i].toNat hxl hbl
      generalize num ((LS s).drop (i + 1)) = x at *
      have hidx : ((i + 1 : Nat) : Int) - 1 = (i : Int) := by omega
      have hge : (0 : Int) ≤ (i : Int) := by omega
      have h8 := u8mod s[i]
      have hy : (x : Int) * 256 % 4294967296 = ((256 * x : Nat) : Int) := by omega
      go_wp2
      refine ⟨⟨i, by omega, rfl, int_eq (by rw [unhide HN, show (x : Int) * 256 = ((256 * x : Nat) : Int) by omega]; exact hor)⟩, by simp [intOf]; try omega⟩
    · obtain rfl : j = 0 := by omega
      rw [List.drop_zero]
      obtain ⟨z, hz0⟩ : ∃ z, z = num (LS s) := ⟨_, rfl⟩
      rw [← hz0] at hnl ⊢
      have HZ := hide hz0
      clear hz0
      have hz : (z : Int) % 4294967296 = (z : Int) := by omega
      go_wp2
      go_ret
      exact ⟨ret_int (by rw [← unhide HZ]), rfl⟩
/-- the i-th number from the byte at on -/
def numAt (s : ByteArray) (at_ i : Nat) : Nat := num (((LS s).drop (at_ + 4 * i)).take 4)
def numsL (s : ByteArray) (at_ n : Nat) : List Nat := (List.range n).map (numAt s at_)
theorem numAt_lt (s : ByteArray) (a i : Nat) : numAt s a i < 4294967296 := by
  have := num_lt (((LS s).drop (a + 4 * i)).take 4)
  refine Nat.lt_of_lt_of_le this (Nat.pow_le_pow_right (n := 2) (j := 32) (by decide) ?_)
  rw [List.length_take]
  omega
theorem numAt_ext (s : ByteArray) (a i : Nat) (h : a + 4 * i + 4 ≤ s.size) : num (LS ((s.extract a s.size).extract (4 * i) (4 * i + 4))) = numAt s a i := by
  unfold numAt
  rw [LS_extract, LS_extract, take_all, List.take_drop, List.drop_drop, List.drop_take]
  congr 2
  omega
/-- a row of such numbers of one's own -/
def nV (l : List Nat) : List Value := l.map fun (x : Nat) => Value.int .u32 (x : Int)
def OwnN (w : World) (B : Nat) (v : Value) (l : List Nat) : Prop := w.ownsRow B 23 1 v l.length (nV l)
theorem infoN : (Tryd.prog.info? 23).map (fun i => (i.zero, i.size, i.bytes)) = some (some (.int .u32 0), 1, 4) := by kernel_rfl
theorem take_arg (s : ByteArray) (a n : Int) (h : a < 0 ∨ n < 0 ∨ (s.size : Int) < a) (w : World) : Calls Tryd.prog 62 #[.string s, .int .i64 a, .int .i64 n] w fun e w' => e = .returned (.tuple #[.slice none 0 0, .int .i64 2]) ∧ w' = w := by
  by_cases h1 : a < 0
  · clear h
    go_enter Tryd.func62, Tryd.ntmps62
    go_wp2
    go_ret2
    exact ⟨rfl, rfl⟩
  · by_cases h2 : n < 0
    · clear h
      go_enter Tryd.func62, Tryd.ntmps62
      go_wp2
      go_ret2
      exact ⟨rfl, rfl⟩
    · have h3 : (s.size : Int) < a := by omega
      clear h
      go_enter Tryd.func62, Tryd.ntmps62
      go_wp2
      go_ret2
      exact ⟨rfl, rfl⟩
set_option maxHeartbeats 1000000 in
theorem take_short (s : ByteArray) (hs : s.size ≤ maxLen) (a n : Nat) (ha : a ≤ s.size) (hn : (s.size - a) / 4 < n) (hn2 : n ≤ 9223372036854775807) (w : World) : Calls Tryd.prog 62 #[.string s, .int .i64 (a : Int), .int .i64 (n : Int)] w fun e w' => e = .returned (.tuple #[.slice none 0 0, .int .i64 120]) ∧ Below w.heap.size w w' := by
  unfold maxLen at hs
  have h1 : ¬ ((a : Int) < 0) := by omega
  have h2 : ¬ ((n : Int) < 0) := by omega
  have h3 : ¬ ((s.size : Int) < (a : Int)) := by omega
  have hsz : (s.extract a s.size).size = s.size - a := by rw [ByteArray.size_extract]; omega
  have HW := hide width_any
  go_enter Tryd.func62, Tryd.ntmps62
  go_wp2
  go_quiet ((go_at_call 59; exact Calls.quiet_of_same (unhide HW _)))
  generalize s.extract a s.size = r at *
  have h4 : ((s.size - a : Nat) : Int) / 4 < (n : Int) := by omega
  go_wp2
  go_ret2
  exact ⟨rfl, below_drewN _ _ _⟩
theorem nums_set {s : ByteArray} {a n k : Nat} (h : k < n) : (numsL s a k ++ List.replicate (n - k) 0).set k (numAt s a k) = numsL s a (k + 1) ++ List.replicate (n - (k + 1)) 0 := by
  have hl : (numsL s a k).length = k := by simp [numsL]
  rw [List.set_append_right _ _ (by omega), hl, Nat.sub_self, show n - k = (n - (k + 1)) + 1 by omega, List.replicate_succ, List.set_cons_zero]
  unfold numsL
  rw [List.range_succ, List.map_append]
  simp
theorem nums_len (s : ByteArray) (a n k : Nat) (h : k ≤ n) : (numsL s a k ++ List.replicate (n - k) 0).length = n := by simp [numsL]; omega
theorem nV_set (l : List Nat) (k x : Nat) : nV (l.set k x) = (nV l).set k (.int .u32 (x : Int)) := by unfold nV; rw [List.map_set]
set_option maxRecDepth 20000 in
set_option maxHeartbeats 2000000 in
theorem take_ok (s : ByteArray) (hs : s.size ≤ 140737488355328) (a n : Nat) (ha : a ≤ s.size) (hn : 4 * n ≤ s.size - a) (w : World) : Calls Tryd.prog 62 #[.string s, .int .i64 (a : Int), .int .i64 (n : Int)] w fun e w' => e = .returned (.tuple #[.slice (some ⟨w.heap.size, 0, none⟩) n n, .int .i64 0]) ∧ OwnN w' w.heap.size (.slice (some ⟨w.heap.size, 0, none⟩) n n) (numsL s a n) ∧ Below w.heap.size w w' := by
  have h1 : ¬ ((a : Int) < 0) := by omega
  have h2 : ¬ ((n : Int) < 0) := by omega
  have h3 : ¬ ((s.size : Int) < (a : Int)) := by omega
  have hsz : (s.extract a s.size).size = s.size - a := by rw [ByteArray.size_extract]; omega
  have HW := hide width_any
  have HX : Hid (∀ k, a + 4 * k + 4 ≤ s.size → num (LS ((s.extract a s.size).extract (4 * k) (4 * k + 4))) = numAt s a k) := fun k hk => numAt_ext s a k hk
  obtain ⟨i0, hi0, hz0, hzs, hzb⟩ := info_parts infoN
  go_enter Tryd.func62, Tryd.ntmps62
  go_wp2
  go_quiet ((go_at_call 59; exact Calls.quiet_of_same (unhide HW _)))
  generalize s.extract a s.size = r at *
  have h4 : ¬ (((s.size - a : Nat) : Int) / 4 < (n : Int)) := by omega
  have hBW : Below w.heap.size w (w.drewN nq) := below_drewN _ _ _
  have hWs : (w.drewN nq).heap.size = w.heap.size := rfl
  generalize w.drewN nq = W at *
  obtain ⟨w2, hmk, hown, hgr⟩ := run_make_full (P := Tryd.prog) W w.heap.size 34 23 i0 (.int .u32 0) 1 Tryd.underlying34 hi0 hz0 hzs .i64 .i64 n (by rw [hzb]; omega) (by unfold maxLen; omega) (by rw [hWs]; exact Nat.le_refl _)
  rw [hWs] at hmk hown
  have hO : OwnN w2 w.heap.size (.slice (some ⟨w.heap.size, 0, none⟩) n n) (numsL s a 0 ++ List.replicate (n - 0) 0) := by
    unfold OwnN
    rw [nums_len s a n 0 (Nat.zero_le _)]
    have e : nV (numsL s a 0 ++ List.replicate (n - 0) 0) = (madeCells #[Value.int .u32 0] (n * 1)).toList := by
      rw [toList_madeCells_one, Nat.mul_one]
      simp [numsL, nV]
    rw [e]
    exact hown
  have hb2 : Below w.heap.size w w2 := hBW.grown hgr (by rw [hWs]; exact Nat.le_refl _) (fun k hk => by cases hk)
  have HO := hide (And.intro hO hb2)
  clear hO hb2 hown hgr hBW hWs hi0 hz0 hzs hzb
  go_wp2
  go_loopw [11, 38] (fun v11 v38 wr => ∃ k : Nat, k ≤ n ∧ v38 = .int .i64 (k : Int) ∧ OwnN wr w.heap.size (.slice (some ⟨w.heap.size, 0, none⟩) n n) (numsL s a k ++ List.replicate (n - k) 0) ∧ Below w.heap.size w wr) (fun _ v38 _ => n - (intOf v38).toNat)
  case atStart => exact ⟨0, Nat.zero_le _, rfl, (unhide HO).1, (unhide HO).2⟩
  case round =>
    obtain ⟨k, hk, rfl, hO, hb⟩ := hrel
    by_cases hlt : k < n
    · have hpl := nums_len s a n k hk
      have hO' : wr.ownsRow w.heap.size 23 1 (.slice (some ⟨w.heap.size, 0, none⟩) n n) n (nV (numsL s a k ++ List.replicate (n - k) 0)) := by have := hO; unfold OwnN at this; rwa [hpl] at this
      have hc := hO'.cellAt k (by omega)
      have hfz := hO'.frozenAt k
      obtain ⟨z, hz⟩ : ∃ z : Nat, (nV (numsL s a k ++ List.replicate (n - k) 0))[k]? = some (.int .u32 (z : Int)) := by
        refine ⟨(numsL s a k ++ List.replicate (n - k) 0)[k]'(by omega), ?_⟩
        unfold nV
        rw [List.getElem?_map, List.getElem?_eq_getElem (by omega)]
        rfl
      rw [hz] at hc
      have hst := (hO'.stored k (.int .u32 (numAt s a k : Int))).1
      rw [← nV_set, nums_set hlt] at hst
      have HST := hide hst
      have HB := hide hb
      have hkn : 4 * k + 4 ≤ 4 * n := by omega
      have hx := unhide HX k (by omega)
      obtain ⟨lo, hlo0⟩ : ∃ lo, lo = 4 * k := ⟨_, rfl⟩
      obtain ⟨hi, hhi0⟩ : ∃ hi, hi = 4 * k + 4 := ⟨_, rfl⟩
      have hlo : (k : Int) * 4 = (lo : Int) := by omega
      have hhi : ((k : Int) + 1) * 4 = (hi : Int) := by omega
      rw [← hhi0, ← hlo0] at hx
      have hT := taken_any (r.extract lo hi) (by rw [ByteArray.size_extract, hsz]; omega)
      rw [hx] at hT
      have HT := hide hT
      have hhr : hi ≤ r.size := by omega
      have hlh : lo ≤ hi := by omega
      generalize numAt s a k = y at *
      clear hO hO' hst hb hz hx hT hlo0 hhi0 hkn hpl
      go_wp2_with (go_at_call 87; with_reducible refine (unhide HT _).mono ?_; rintro e w' ⟨rfl, hww⟩; obtain rfl : wr = w' := hww.symm)
      go_roundw
      case rel => exact ⟨k + 1, by omega, by go_num, by unfold OwnN; rw [nums_len s a n (k + 1) (by omega)]; exact unhide HST, (unhide HB).setCell (p := ⟨w.heap.size, k, none⟩) (Nat.le_refl _) _⟩
      case measure => simp [intOf]; omega
    · have hkn : k = n := by omega
      have HE : Hid (numsL s a k ++ List.replicate (n - k) 0 = numsL s a n) := by show _ = _; rw [hkn, Nat.sub_self]; exact List.append_nil _
      have HQ := hide (And.intro hO hb)
      clear hO hb hkn
      go_wp2
      go_ret2
      have := (unhide HQ).1
      rw [unhide HE] at this
      exact ⟨rfl, this, (unhide HQ).2⟩
end Go.Proofs.YtdbfpmelhokeoaaDoor.ND

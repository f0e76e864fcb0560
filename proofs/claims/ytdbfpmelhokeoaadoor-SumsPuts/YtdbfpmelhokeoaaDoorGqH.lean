/-
  These texts, one behind the other: SuSH, SuLH, SuPH, SuTkH, SuNH, SuApH, SuLaH.
-/
import Derived.Test.YtdbfpmelhokeoaaDoorSuW
import Derived.Test.YtdbfpmelhokeoaaDoorSuR
import Derived.Laws.MakeOwn
import Derived.Test.YtdbfpmelhokeoaaDoorSuO2
import Derived.Test.YtdbfpmelhokeoaaDoorSuBy
import Derived.Test.YtdbfpmelhokeoaaDoorSuGr
import Derived.Test.YtdbfpmelhokeoaaDoorSuRt
import Derived.Test.YtdbfpmelhokeoaaDoorSuApD
import Derived.Test.YtdbfpmelhokeoaaDoorSuCv
/-
  The width of a number of type uint16, and how many bytes numbers of it have.
-/
namespace Go.Proofs.YtdbfpmelhokeoaaDoor.NH
open Go.RowKit Go.PlainAid Go.Lib Go.SuM
set_option linter.unusedVariables false
set_option linter.unusedSimpArgs false
theorem width_any (w : World) : Calls Tryd.prog 74 #[] w fun e w' => e = .returned (.int .i64 2) ∧ w' = w := by
  have h : bits .xor .u16 IntKind.u16.max 0 = 65536 - 1 := by decide
  go_enter Tryd.func74, Tryd.ntmps74
  go_wp2_with (go_at_call 84; refine (len32_16 _).mono ?_; rintro e w' ⟨rfl, rfl⟩)
  go_ret
  exact ⟨rfl, rfl⟩
theorem size_any (n : Int) (h0 : -9223372036854775808 ≤ n) (hn : n ≤ 2305843009213693951) (w : World) : Calls Tryd.prog 76 #[.int .i64 n] w fun e w' => e = .returned (.int .i64 (2 * max n 0)) ∧ w' = w := by
  by_cases h : 0 < n
  · have hm : (max n 0 : Int) = n := by omega
    have hw : IntKind.i64.wrap (n * 2) = n * 2 := by rw [IntKind.wrap_i64]; omega
    rw [hm]
    clear hm
    go_enter Tryd.func76, Tryd.ntmps76
    go_wp2_with (go_at_call 74; refine (width_any _).mono ?_; rintro e w' ⟨rfl, rfl⟩)
    go_ret
    exact ⟨ret_int (by omega), rfl⟩
  · have hm : (max n 0 : Int) = 0 := by omega
    rw [hm]
    clear hm
    go_enter Tryd.func76, Tryd.ntmps76
    go_wp2_with (go_at_call 74; refine (width_any _).mono ?_; rintro e w' ⟨rfl, rfl⟩)
    all_goals go_ret
    all_goals exact ⟨ret_int (by omega), rfl⟩
end Go.Proofs.YtdbfpmelhokeoaaDoor.NH
/-
  The bytes of a number of type uint16, laid behind a row.
-/
namespace Go.Proofs.YtdbfpmelhokeoaaDoor.NH
open Go.RowKit Go.PlainAid Go.Lib Go.SuM
set_option linter.unusedVariables false
set_option linter.unusedSimpArgs false
set_option maxHeartbeats 1000000 in
theorem lay_any (x : Nat) (hx : x < 65536) (B : Nat) (s : Value) (l : List UInt8) (w : World) (h : OwnB w B s l) (hB : B ≤ w.heap.size) (hbig : l.length + 2 ≤ 140737488355328) : Calls Tryd.prog 77 #[s, .int .u16 (x : Int)] w fun e w' => ∃ s', e = .returned s' ∧ OwnB w' B s' (l ++ le 2 x) ∧ Below B w w' := by
  have HO := hide h
  clear h
  go_enter Tryd.func77, Tryd.ntmps77
  go_wp2_with (go_at_call 74; refine (width_any _).mono ?_; rintro e w' ⟨rfl, hww⟩; obtain rfl : w = w' := hww.symm)
  go_loopw [0, 5, 9] (fun v0 v5 vc wr => ∃ k : Nat, k ≤ 2 ∧ vc = .int .i64 (k : Int) ∧ v5 = .int .u32 ((x / 256 ^ k : Nat) : Int) ∧ OwnB wr B v0 (l ++ le k x) ∧ Below B w wr) (fun _ _ vc _ => 2 - (intOf vc).toNat)
  case atStart => exact ⟨0, by decide, rfl, int_eq (by simp), by rw [show l ++ le 0 x = l from List.append_nil l]; exact unhide HO, Below.refl _ _⟩
  case round =>
    obtain ⟨k, hk, rfl, rfl, hO, hb⟩ := hrel
    by_cases hlt : k < 2
    · have HQ := hide (And.intro hO hb)
      have hlk : (l ++ le k x).length + 1 ≤ 140737488355328 := by rw [List.length_append, le_len]; omega
      have HB : Hid (B ≤ wr.heap.size) := Nat.le_trans hB hb.size
      have HD : Hid (x / 256 ^ (k + 1) = x / 256 ^ k / 256) := by show _ = _; rw [Nat.pow_succ, Nat.div_div_eq_div_mul]
      have HS : Hid (l ++ le (k + 1) x = (l ++ le k x) ++ [UInt8.ofNat (x / 256 ^ k)]) := by show _ = _; rw [le_snoc, List.append_assoc]
      have h8 := u8of (x / 256 ^ k)
      generalize x / 256 ^ k = y at *
      clear hO hb
      go_wp2_with (at_builtin; rw [← h8]; refine append_byte wr B _ (l ++ le k x) (UInt8.ofNat y) (unhide HQ).1 (unhide HB) hlk rfl _ _ rfl rfl 1 rfl ?_; intro v' w1 hO1 hb1)
      go_roundw
      case rel => exact ⟨k + 1, by omega, by go_num, int_eq (by rw [unhide HD]; rfl), by rw [unhide HS]; exact hO1, (unhide HQ).2.trans hb1⟩
      case measure => simp [intOf]; omega
    · have hk' : k = 2 := by omega
      subst hk'
      have HQ := hide (And.intro hO hb)
      clear hO hb
      go_wp2
      go_ret
      exact ⟨_, rfl, (unhide HQ).1, (unhide HQ).2⟩
end Go.Proofs.YtdbfpmelhokeoaaDoor.NH
/-
  Put of numbers of type uint16.
-/
namespace Go.Proofs.YtdbfpmelhokeoaaDoor.NH
open Go.RowKit Go.PlainAid Go.Lib Go.SuM
set_option linter.unusedVariables false
set_option linter.unusedSimpArgs false
/-- numbers in memory -/
structure NumsAt (w : World) (ad : Option Addr) (l : List Nat) : Prop where
  at_ : l ≠ [] → ∃ g off, ad = some ⟨g, off, none⟩ ∧ g < w.heap.size ∧ ∀ i (h : i < l.length), w.cell? ⟨g, off + i, none⟩ = some (.int .u16 (l[i] : Int))
  small : ∀ x ∈ l, x < 65536
def laidL (l : List Nat) : List UInt8 := l.flatMap (le 2)
theorem laidL_len (l : List Nat) : (laidL l).length = 2 * l.length := by
  induction l with
  | nil => rfl
  | cons x l ih =>
    have e : laidL (x :: l) = le 2 x ++ laidL l := rfl
    rw [e, List.length_append, ih, le_len, List.length_cons]; omega
theorem laidL_snoc (l : List Nat) (x : Nat) : laidL (l ++ [x]) = laidL l ++ le 2 x := by unfold laidL; rw [List.flatMap_append]; simp
theorem NumsAt.below {w w' : World} {ad : Option Addr} {l : List Nat} (h : NumsAt w ad l) (hb : Below w.heap.size w w') : NumsAt w' ad l := by
  refine ⟨fun h0 => ?_, h.small⟩
  obtain ⟨g, off, rfl, hg, hc⟩ := h.at_ h0
  exact ⟨g, off, rfl, Nat.lt_of_lt_of_le hg hb.size, fun i hi => (hb.cell (p := ⟨g, off + i, none⟩) hg).trans (hc i hi)⟩
theorem NumsAt.get {w : World} {a : Option Addr} {l : List Nat} (h : NumsAt w a l) {k : Nat} (hk : k < l.length) : ∃ b off, a = some ⟨b, off, none⟩ ∧ b < w.heap.size ∧ w.cell? ⟨b, off + k, none⟩ = some (.int .u16 (l[k] : Int)) ∧ l[k] < 65536 := by
  obtain ⟨b, off, rfl, hb, hc⟩ := h.at_ (by intro e; rw [e] at hk; exact absurd hk (by simp))
  exact ⟨b, off, rfl, hb, hc k hk, h.small _ (List.getElem_mem hk)⟩
set_option maxHeartbeats 2000000 in
theorem put_any (bs : List UInt8) (ad : Option Addr) (ca : Nat) (l : List Nat) (an : Option Addr) (cn : Nat) (w : World) (hb : BytesAt w ad bs) (hlt : ∀ a, ad = some a → bs ≠ [] → a.block < w.heap.size) (hn : NumsAt w an l) (hbig : bs.length + 2 * l.length ≤ 140737488355328) :
    Calls Tryd.prog 47 #[.slice ad bs.length ca, .slice an l.length cn] w fun e w' => ∃ s', e = .returned s' ∧ OwnB w' w.heap.size s' (bs ++ laidL l) ∧ Below w.heap.size w w' := by
  obtain ⟨i0, hi0, hz0, hzs, hzb⟩ := info_parts info8
  have HSZ := hide (size_any (l.length : Int) (by omega) (by omega) w)
  have hmx : 2 * max (l.length : Int) 0 = 2 * (l.length : Int) := by omega
  obtain ⟨w2, hmk0, hown, hgr⟩ := run_make_own (P := Tryd.prog) w w.heap.size 57 5 i0 (.int .u8 0) 1 Tryd.underlying57 hi0 hz0 hzs .i64 .i64 (bs.length + 2 * l.length) (by rw [hzb]; omega) (by unfold maxLen; omega) (Nat.le_refl _)
  have hmk : (Instr.makeSlice 57 (.int .i64 0) (.int .i64 ((bs.length : Int) + 2 * (l.length : Int)))).run Tryd.prog w = .ok (.slice (some ⟨w.heap.size, 0, none⟩) 0 (bs.length + 2 * l.length)) w2 := by
    rw [show ((bs.length : Int) + 2 * (l.length : Int)) = ((bs.length + 2 * l.length : Nat) : Int) by omega]
    exact hmk0
  have hb2 : Below w.heap.size w w2 := (Below.refl _ _).grown hgr (Nat.le_refl _) (fun k hk => by cases hk)
  have hby2 : BytesAt w2 ad bs := fun h0 => by
    obtain ⟨a, rfl, hc⟩ := hb h0
    exact ⟨a, rfl, fun j u hj => (hb2.cell (p := a.add j) (by have := hlt a rfl h0; unfold Addr.add; split <;> exact this)).trans (hc j u hj)⟩
  have hO2 : OwnB w2 w.heap.size (.slice (some ⟨w.heap.size, 0, none⟩) 0 (bs.length + 2 * l.length)) [] := hown
  obtain ⟨v3, w3, hap, hO3, hb3⟩ := append_any8 w2 w.heap.size _ [] ca ad bs hby2 hO2 hb2.size (by simp; omega) 57
  rw [List.nil_append] at hO3
  have HN := hide (fun (w' : World) (h : Below w.heap.size w w') => hn.below h)
  have HB3 := hide (hb2.trans hb3)
  have HO3 := hide hO3
  clear hmk0 hown hgr hby2 hO2 hO3 hb3 hb hlt hn hb2
  generalize hnl : l.length = n at *
  generalize hml : bs.length = m at *
  have HNL := hide hnl
  have HML := hide hml
  clear hnl hml
  go_enter Tryd.func47, Tryd.ntmps47
  go_wp2_with (first | (go_at_call 76; refine (unhide HSZ).mono ?_; rintro e w' ⟨rfl, hww⟩; obtain rfl : w = w' := hww.symm) | (at_builtin; refine wpList_append_run _ rfl _ _ _ _ rfl _ _ rfl rfl v3 w3 hap ?_))
  go_loopw [5, 20] (fun v5 v20 wr => ∃ k : Nat, k ≤ n ∧ v20 = .int .i64 (k : Int) ∧ OwnB wr w.heap.size v5 (bs ++ laidL (l.take k)) ∧ Below w.heap.size w wr) (fun _ v20 _ => n - (intOf v20).toNat)
  case atStart => exact ⟨0, Nat.zero_le _, rfl, by rw [show bs ++ laidL (l.take 0) = bs from List.append_nil bs]; exact unhide HO3, unhide HB3⟩
  case round =>
    obtain ⟨k, hk, rfl, hO, hb⟩ := hrel
    by_cases hlt : k < n
    · have hkl : k < l.length := by rw [unhide HNL]; exact hlt
      obtain ⟨g, off, rfl, hg, hc, hsm⟩ := (unhide HN wr hb).get hkl
      have HS : Hid (bs ++ laidL (l.take (k + 1)) = (bs ++ laidL (l.take k)) ++ le 2 l[k]) := by
        show _ = _
        rw [List.take_succ_eq_append_getElem hkl, laidL_snoc, List.append_assoc]
      have hll : (bs ++ laidL (l.take k)).length + 2 ≤ 140737488355328 := by
        rw [List.length_append, laidL_len, List.length_take, unhide HML, unhide HNL]
        have := Nat.min_le_left k n
        have h1 : 2 * min k n + 2 ≤ 2 * n := by omega
        omega
      have HL := hide (lay_any l[k] hsm w.heap.size _ _ wr hO hb.size hll)
      have HQ := hide hb
      generalize l[k] = x at *
      clear hO hb hll hkl
      go_wp2_with (go_at_call 77; refine (unhide HL).mono ?_; rintro e w4 ⟨s4, rfl, hO4, hb4⟩)
      go_roundw
      case rel => exact ⟨k + 1, by omega, by go_num, by rw [unhide HS]; exact hO4, (unhide HQ).trans hb4⟩
      case measure => simp [intOf]; omega
    · have HE : Hid (l.take k = l) := by
        show _ = _
        have := unhide HNL
        rw [List.take_of_length_le (by omega)]
      have HQ := hide (And.intro hO hb)
      clear hO hb
      go_wp2
      go_ret
      refine ⟨_, rfl, ?_, (unhide HQ).2⟩
      have := (unhide HQ).1
      rw [unhide HE] at this
      exact this
end Go.Proofs.YtdbfpmelhokeoaaDoor.NH
/-
  Take of numbers of type uint16.
-/
namespace Go.Proofs.YtdbfpmelhokeoaaDoor.NH
open Go.RowKit Go.PlainAid Go.Lib Go.SuM
set_option linter.unusedVariables false
set_option linter.unusedSimpArgs false
theorem num_drop {s : ByteArray} {j : Nat} (h : j < s.size) : num ((LS s).drop j) = 256 * num ((LS s).drop (j + 1)) + s[j].toNat := by
  have hl : j < (LS s).length := by rw [LS_len]; exact h
  rw [List.drop_eq_getElem_cons hl]
  show _ + 256 * _ = _
  have : (LS s)[j] = s[j] := rfl
  rw [this]
  omega
theorem or256 (x b : Nat) (hx : x < 16777216) (hb : b < 256) : bits .or .u32 ((256 * x : Nat) : Int) (b : Int) = ((256 * x + b : Nat) : Int) := by
  rw [u32_or_nat _ _ (by omega) (by omega)]
  congr 1
  exact (Nat.two_pow_add_eq_or_of_lt (i := 8) hb x).symm
set_option maxHeartbeats 1000000 in
theorem taken_any (s : ByteArray) (hs : s.size = 2) (w : World) : Calls Tryd.prog 75 #[.string s] w fun e w' => e = .returned (.int .u16 ((num (LS s) : Nat) : Int)) ∧ w' = w := by
  have hnl : num (LS s) < 65536 := by have := num_lt (LS s); rw [LS_len, hs] at this; exact this
  have HS := hide hs
  have hs4 : s.size ≤ 4 := by omega
  clear hs
  go_enter Tryd.func75, Tryd.ntmps75
  go_wp2
  go_loop [3, 4] (fun v3 v4 => ∃ j : Nat, j ≤ s.size ∧ v4 = .int .i64 ((j : Int) - 1) ∧ v3 = .int .u32 ((num ((LS s).drop j) : Nat) : Int)) (fun _ v4 => ((intOf v4) + 1).toNat)
  case atStart => exact ⟨s.size, Nat.le_refl _, rfl, int_eq (by rw [List.drop_of_length_le (by rw [LS_len]; exact Nat.le_refl _)]; rfl)⟩
  case round =>
    obtain ⟨j, hj, rfl, rfl⟩ := hrel
    by_cases h0 : 0 < j
    · obtain ⟨i, rfl⟩ : ∃ i, j = i + 1 := ⟨j - 1, by omega⟩
      have hi : i < s.size := by omega
      have HN := hide (num_drop hi)
      have hxl : num ((LS s).drop (i + 1)) < 16777216 := by
        have := num_lt ((LS s).drop (i + 1))
        rw [List.length_drop, LS_len] at this
        exact Nat.lt_of_lt_of_le this (Nat.pow_le_pow_right (n := 2) (j := 24) (by decide) (by omega))
      have hbl := s[i].toNat_lt
      have hor := or256 _ s[i].toNat hxl hbl
      generalize num ((LS s).drop (i + 1)) = x at *
      have hidx : ((i + 1 : Nat) : Int) - 1 = (i : Int) := by omega
      have hge : (0 : Int) ≤ (i : Int) := by omega
      have h8 := u8mod s[i]
      have hy : (x : Int) * 256 % 4294967296 = ((256 * x : Nat) : Int) := by omega
      go_wp2
      refine ⟨⟨i, by omega, rfl, int_eq (by rw [unhide HN, show (x : Int) * 256 = ((256 * x : Nat) : Int) by omega]; exact hor)⟩, by simp [intOf]; try omega⟩
    · obtain rfl : j = 0 := by omega
      rw [List.drop_zero]
      obtain ⟨z, hz0⟩ : ∃ z, z = num (LS s) := ⟨_, rfl⟩
      rw [← hz0] at hnl ⊢
      have HZ := hide hz0
      clear hz0
      have hz : (z : Int) % 65536 = (z : Int) := by omega
      go_wp2
      go_ret
      exact ⟨ret_int (by rw [← unhide HZ]), rfl⟩
/-- the i-th number from the byte at on -/
def numAt (s : ByteArray) (at_ i : Nat) : Nat := num (((LS s).drop (at_ + 2 * i)).take 2)
def numsL (s : ByteArray) (at_ n : Nat) : List Nat := (List.range n).map (numAt s at_)
theorem numAt_lt (s : ByteArray) (a i : Nat) : numAt s a i < 65536 := by
  have := num_lt (((LS s).drop (a + 2 * i)).take 2)
  refine Nat.lt_of_lt_of_le this (Nat.pow_le_pow_right (n := 2) (j := 16) (by decide) ?_)
  rw [List.length_take]
  omega
theorem numAt_ext (s : ByteArray) (a i : Nat) (h : a + 2 * i + 2 ≤ s.size) : num (LS ((s.extract a s.size).extract (2 * i) (2 * i + 2))) = numAt s a i := by
  unfold numAt
  rw [LS_extract, LS_extract, take_all, List.take_drop, List.drop_drop, List.drop_take]
  congr 2
  omega
/-- a row of such numbers of one's own -/
def nV (l : List Nat) : List Value := l.map fun (x : Nat) => Value.int .u16 (x : Int)
def OwnN (w : World) (B : Nat) (v : Value) (l : List Nat) : Prop := w.ownsRow B 36 1 v l.length (nV l)
theorem infoN : (Tryd.prog.info? 36).map (fun i => (i.zero, i.size, i.bytes)) = some (some (.int .u16 0), 1, 2) := by kernel_rfl
theorem take_arg (s : ByteArray) (a n : Int) (h : a < 0 ∨ n < 0 ∨ (s.size : Int) < a) (w : World) : Calls Tryd.prog 46 #[.string s, .int .i64 a, .int .i64 n] w fun e w' => e = .returned (.tuple #[.slice none 0 0, .int .i64 2]) ∧ w' = w := by
  by_cases h1 : a < 0
  · clear h
    go_enter Tryd.func46, Tryd.ntmps46
    go_wp2
    go_ret2
    exact ⟨rfl, rfl⟩
  · by_cases h2 : n < 0
    · clear h
      go_enter Tryd.func46, Tryd.ntmps46
      go_wp2
      go_ret2
      exact ⟨rfl, rfl⟩
    · have h3 : (s.size : Int) < a := by omega
      clear h
      go_enter Tryd.func46, Tryd.ntmps46
      go_wp2
      go_ret2
      exact ⟨rfl, rfl⟩
set_option maxHeartbeats 1000000 in
theorem take_short (s : ByteArray) (hs : s.size ≤ maxLen) (a n : Nat) (ha : a ≤ s.size) (hn : (s.size - a) / 2 < n) (hn2 : n ≤ 9223372036854775807) (w : World) : Calls Tryd.prog 46 #[.string s, .int .i64 (a : Int), .int .i64 (n : Int)] w fun e w' => e = .returned (.tuple #[.slice none 0 0, .int .i64 120]) ∧ Below w.heap.size w w' := by
  unfold maxLen at hs
  have h1 : ¬ ((a : Int) < 0) := by omega
  have h2 : ¬ ((n : Int) < 0) := by omega
  have h3 : ¬ ((s.size : Int) < (a : Int)) := by omega
  have hsz : (s.extract a s.size).size = s.size - a := by rw [ByteArray.size_extract]; omega
  have HW := hide width_any
  go_enter Tryd.func46, Tryd.ntmps46
  go_wp2
  go_quiet ((go_at_call 74; exact Calls.quiet_of_same (unhide HW _)))
  generalize s.extract a s.size = r at *
  have h4 : ((s.size - a : Nat) : Int) / 2 < (n : Int) := by omega
  go_wp2
  go_ret2
  exact ⟨rfl, below_drewN _ _ _⟩
theorem nums_set {s : ByteArray} {a n k : Nat} (h : k < n) : (numsL s a k ++ List.replicate (n - k) 0).set k (numAt s a k) = numsL s a (k + 1) ++ List.replicate (n - (k + 1)) 0 := by
  have hl : (numsL s a k).length = k := by simp [numsL]
  rw [List.set_append_right _ _ (by omega), hl, Nat.sub_self, show n - k = (n - (k + 1)) + 1 by omega, List.replicate_succ, List.set_cons_zero]
  unfold numsL
  rw [List.range_succ, List.map_append]
  simp
theorem nums_len (s : ByteArray) (a n k : Nat) (h : k ≤ n) : (numsL s a k ++ List.replicate (n - k) 0).length = n := by simp [numsL]; omega
theorem nV_set (l : List Nat) (k x : Nat) : nV (l.set k x) = (nV l).set k (.int .u16 (x : Int)) := by unfold nV; rw [List.map_set]
set_option maxRecDepth 20000 in
set_option maxHeartbeats 2000000 in
theorem take_ok (s : ByteArray) (hs : s.size ≤ 140737488355328) (a n : Nat) (ha : a ≤ s.size) (hn : 2 * n ≤ s.size - a) (w : World) : Calls Tryd.prog 46 #[.string s, .int .i64 (a : Int), .int .i64 (n : Int)] w fun e w' => e = .returned (.tuple #[.slice (some ⟨w.heap.size, 0, none⟩) n n, .int .i64 0]) ∧ OwnN w' w.heap.size (.slice (some ⟨w.heap.size, 0, none⟩) n n) (numsL s a n) ∧ Below w.heap.size w w' := by
  have h1 : ¬ ((a : Int) < 0) := by omega
  have h2 : ¬ ((n : Int) < 0) := by omega
  have h3 : ¬ ((s.size : Int) < (a : Int)) := by omega
  have hsz : (s.extract a s.size).size = s.size - a := by rw [ByteArray.size_extract]; omega
  have HW := hide width_any
  have HX : Hid (∀ k, a + 2 * k + 2 ≤ s.size → num (LS ((s.extract a s.size).extract (2 * k) (2 * k + 2))) = numAt s a k) := fun k hk => numAt_ext s a k hk
  obtain ⟨i0, hi0, hz0, hzs, hzb⟩ := info_parts infoN
  go_enter Tryd.func46, Tryd.ntmps46
  go_wp2
  go_quiet ((go_at_call 74; exact Calls.quiet_of_same (unhide HW _)))
  generalize s.extract a s.size = r at *
  have h4 : ¬ (((s.size - a : Nat) : Int) / 2 < (n : Int)) := by omega
  have hBW : Below w.heap.size w (w.drewN nq) := below_drewN _ _ _
  have hWs : (w.drewN nq).heap.size = w.heap.size := rfl
  generalize w.drewN nq = W at *
  obtain ⟨w2, hmk, hown, hgr⟩ := run_make_full (P := Tryd.prog) W w.heap.size 63 36 i0 (.int .u16 0) 1 Tryd.underlying63 hi0 hz0 hzs .i64 .i64 n (by rw [hzb]; omega) (by unfold maxLen; omega) (by rw [hWs]; exact Nat.le_refl _)
  rw [hWs] at hmk hown
  have hO : OwnN w2 w.heap.size (.slice (some ⟨w.heap.size, 0, none⟩) n n) (numsL s a 0 ++ List.replicate (n - 0) 0) := by
    unfold OwnN
    rw [nums_len s a n 0 (Nat.zero_le _)]
    have e : nV (numsL s a 0 ++ List.replicate (n - 0) 0) = (madeCells #[Value.int .u16 0] (n * 1)).toList := by
      rw [toList_madeCells_one, Nat.mul_one]
      simp [numsL, nV]
    rw [e]
    exact hown
  have hb2 : Below w.heap.size w w2 := hBW.grown hgr (by rw [hWs]; exact Nat.le_refl _) (fun k hk => by cases hk)
  have HO := hide (And.intro hO hb2)
  clear hO hb2 hown hgr hBW hWs hi0 hz0 hzs hzb
  go_wp2
  go_loopw [11, 38] (fun v11 v38 wr => ∃ k : Nat, k ≤ n ∧ v38 = .int .i64 (k : Int) ∧ OwnN wr w.heap.size (.slice (some ⟨w.heap.size, 0, none⟩) n n) (numsL s a k ++ List.replicate (n - k) 0) ∧ Below w.heap.size w wr) (fun _ v38 _ => n - (intOf v38).toNat)
  case atStart => exact ⟨0, Nat.zero_le _, rfl, (unhide HO).1, (unhide HO).2⟩
  case round =>
    obtain ⟨k, hk, rfl, hO, hb⟩ := hrel
    by_cases hlt : k < n
    · have hpl := nums_len s a n k hk
      have hO' : wr.ownsRow w.heap.size 36 1 (.slice (some ⟨w.heap.size, 0, none⟩) n n) n (nV (numsL s a k ++ List.replicate (n - k) 0)) := by have := hO; unfold OwnN at this; rwa [hpl] at this
      have hc := hO'.cellAt k (by omega)
      have hfz := hO'.frozenAt k
      obtain ⟨z, hz⟩ : ∃ z : Nat, (nV (numsL s a k ++ List.replicate (n - k) 0))[k]? = some (.int .u16 (z : Int)) := by
        refine ⟨(numsL s a k ++ List.replicate (n - k) 0)[k]'(by omega), ?_⟩
        unfold nV
        rw [List.getElem?_map, List.getElem?_eq_getElem (by omega)]
        rfl
      rw [hz] at hc
      have hst := (hO'.stored k (.int .u16 (numAt s a k : Int))).1
      rw [← nV_set, nums_set hlt] at hst
      have HST := hide hst
      have HB := hide hb
      have hkn : 2 * k + 2 ≤ 2 * n := by omega
      have hx := unhide HX k (by omega)
      obtain ⟨lo, hlo0⟩ : ∃ lo, lo = 2 * k := ⟨_, rfl⟩
      obtain ⟨hi, hhi0⟩ : ∃ hi, hi = 2 * k + 2 := ⟨_, rfl⟩
      have hlo : (k : Int) * 2 = (lo : Int) := by omega
      have hhi : ((k : Int) + 1) * 2 = (hi : Int) := by omega
      rw [← hhi0, ← hlo0] at hx
      have hT := taken_any (r.extract lo hi) (by rw [ByteArray.size_extract, hsz]; omega)
      rw [hx] at hT
      have HT := hide hT
      have hhr : hi ≤ r.size := by omega
      have hlh : lo ≤ hi := by omega
      generalize numAt s a k = y at *
      clear hO hO' hst hb hz hx hT hlo0 hhi0 hkn hpl
      go_wp2_with (go_at_call 75; with_reducible refine (unhide HT _).mono ?_; rintro e w' ⟨rfl, hww⟩; obtain rfl : wr = w' := hww.symm)
      go_roundw
      case rel => exact ⟨k + 1, by omega, by go_num, by unfold OwnN; rw [nums_len s a n (k + 1) (by omega)]; exact unhide HST, (unhide HB).setCell (p := ⟨w.heap.size, k, none⟩) (Nat.le_refl _) _⟩
      case measure => simp [intOf]; omega
    · have hkn : k = n := by omega
      have HE : Hid (numsL s a k ++ List.replicate (n - k) 0 = numsL s a n) := by show _ = _; rw [hkn, Nat.sub_self]; exact List.append_nil _
      have HQ := hide (And.intro hO hb)
      clear hO hb hkn
      go_wp2
      go_ret2
      have := (unhide HQ).1
      rw [unhide HE] at this
      exact ⟨rfl, this, (unhide HQ).2⟩
end Go.Proofs.YtdbfpmelhokeoaaDoor.NH
/-
  Rows of numbers of type uint16 that a call owns.
-/
namespace Go.Proofs.YtdbfpmelhokeoaaDoor.NH
open Go.RowKit Go.PlainAid Go.Lib Go.SuM
set_option linter.unusedVariables false
set_option linter.unusedSimpArgs false
theorem nV_one (l : List Nat) : ∀ u ∈ nV l, u.oneCell' = true := by
  intro u hu
  obtain ⟨_, _, rfl⟩ := List.mem_map.1 hu
  rfl
theorem OwnN.form {w : World} {B : Nat} {v : Value} {l : List Nat} (h : OwnN w B v l) : ∃ a c, v = .slice a l.length c ∧ l.length ≤ c ∧ c ≤ maxLen := by
  rcases h.2 with ⟨rfl, h0⟩ | ⟨g, cap, cur, rfl, _, _, h1, h2, _⟩
  · exact ⟨none, 0, by rw [h0], by omega, by unfold maxLen; omega⟩
  · exact ⟨_, _, rfl, h1, h2⟩
theorem OwnN.below {w w' : World} {B : Nat} {v : Value} {l : List Nat} (h : OwnN w B v l) (hb : Below w.heap.size w w') : OwnN w' B v l := by
  refine ⟨h.1, ?_⟩
  rcases h.2 with h2 | ⟨g, cap, cur, rfl, h1, h2, r⟩
  · exact .inl h2
  · exact .inr ⟨g, cap, cur, rfl, h1, (hb.block g ((Array.getElem?_eq_some_iff.1 h2).1)).trans h2, r⟩
theorem OwnN.nums {w : World} {B : Nat} {a : Option Addr} {c : Nat} {l : List Nat} (h : OwnN w B (.slice a l.length c) l) (hs : ∀ x ∈ l, x < 65536) : NumsAt w a l := by
  refine ⟨fun h0 => ?_, hs⟩
  have hp := List.length_pos_iff.2 h0
  rcases h.2 with ⟨e, h0⟩ | ⟨g, cap, cur, e, _, hh, _⟩
  · omega
  · simp only [Value.slice.injEq, true_and] at e
    obtain ⟨rfl, rfl⟩ := e
    refine ⟨g, 0, rfl, (Array.getElem?_eq_some_iff.1 hh).1, fun i hi => ?_⟩
    rw [Nat.zero_add, World.ownsRow.cellAt h i (by omega)]
    unfold nV
    rw [List.getElem?_map, List.getElem?_eq_getElem hi]
    rfl
/-- one number more -/
theorem append_num (w : World) (B : Nat) (v : Value) (l : List Nat) (x : Nat) (h : OwnN w B v l) (hB : B ≤ w.heap.size) (hbig : (l.length + 1) * 2 ≤ 140737488355328) (ty : TypeId) :
    ∃ v' w', (Builtin.append_ #[63, 63] ty #[v, .slice (some ⟨w.heap.size, 0, none⟩) 1 1]).run Tryd.prog (w.alloc (.cells #[.int .u16 (x : Int)] 36)) = .ok v' w' ∧ OwnN w' B v' (l ++ [x]) ∧ Below B w w' ∧ w.grownBy w' v.ownBlock := by
  obtain ⟨i0, hi0, hz0, hzs, hzb⟩ := info_parts infoN
  have hb1 : Below B w (w.alloc (.cells #[.int .u16 (x : Int)] 36)) := (Below.refl _ _).alloc hB _
  obtain ⟨v', w', r1, r2, r3, _⟩ := run_append_own_at (P := Tryd.prog) (w := w.alloc (.cells #[.int .u16 (x : Int)] 36)) B 63 ty 36 i0 _ 1 2 Tryd.underlying63 hi0 hz0 hzs hzb rfl (by decide) v l.length (nV l) (World.ownsRow.alloc h _) ⟨w.heap.size, 0, none⟩ 1 1 [.int .u16 (x : Int)] (by simp) (cell_one_new w _ _) (nV_one [x]) (by unfold maxLen; omega) hbig (Nat.le_trans hB (by simp))
  refine ⟨v', w', r1, ?_, hb1.grown r3 (Nat.le_trans hB (by simp)) (fun k hk => (World.ownsRow.lt h k hk).1), (World.grownBy_alloc w _ _).trans r3⟩
  unfold OwnN
  rw [show nV (l ++ [x]) = nV l ++ [.int .u16 (x : Int)] by unfold nV; rw [List.map_append]; rfl, List.length_append]
  exact r2
theorem laid_nums (l : List Nat) (hs : ∀ x ∈ l, x < 65536) (bs : List UInt8) (k : Nat) (hk : k < l.length) : numAt (BA (bs ++ laidL l)) bs.length k = l[k] := by
  unfold numAt
  rw [LS_BA]
  have e : (bs ++ laidL l).drop (bs.length + 2 * k) = (laidL l).drop (2 * k) := by
    rw [List.drop_append, List.drop_of_length_le (by omega), show bs.length + 2 * k - bs.length = 2 * k by omega]
    rfl
  rw [e]
  have : ∀ (l : List Nat) (k : Nat) (hk : k < l.length), ((laidL l).drop (2 * k)).take 2 = le 2 l[k] := by
    intro l
    induction l with
    | nil => intro k hk; exact absurd hk (by simp)
    | cons x l ih =>
      intro k hk
      have e : laidL (x :: l) = le 2 x ++ laidL l := rfl
      rw [e]
      cases k with
      | zero => rw [Nat.mul_zero, List.drop_zero, List.take_left' (le_len _ _)]; rfl
      | succ k =>
        rw [show 2 * (k + 1) = 2 + 2 * k by omega, ← List.drop_drop, List.drop_left' (le_len _ _), ih k (by simpa using hk)]
        rfl
  rw [this l k hk, num_le, Nat.mod_eq_of_lt]
  exact hs _ (List.getElem_mem hk)
theorem laid_back (l : List Nat) (hs : ∀ x ∈ l, x < 65536) (bs : List UInt8) : numsL (BA (bs ++ laidL l)) bs.length l.length = l := by
  apply List.ext_getElem (by simp [numsL])
  intro i h1 h2
  have := laid_nums l hs bs i h2
  simp [numsL, this]
theorem nums_laid (s : ByteArray) (n : Nat) (hn : 2 * n ≤ s.size) : laidL (numsL s 0 n) = (LS s).take (2 * n) := by
  induction n with
  | zero => rfl
  | succ n ih =>
    have e : numsL s 0 (n + 1) = numsL s 0 n ++ [numAt s 0 n] := by unfold numsL; rw [List.range_succ, List.map_append]; rfl
    rw [e, laidL_snoc, ih (by omega)]
    have hl : (((LS s).drop (0 + 2 * n)).take 2).length = 2 := by rw [List.length_take, List.length_drop, LS_len]; omega
    have e2 : le 2 (numAt s 0 n) = ((LS s).drop (0 + 2 * n)).take 2 := by
      have := le_num (((LS s).drop (0 + 2 * n)).take 2)
      rw [hl] at this
      exact this
    rw [e2, Nat.zero_add, show 2 * (n + 1) = 2 * n + 2 by omega, List.take_add]
theorem numsL_lt (s : ByteArray) (a n : Nat) : ∀ x ∈ numsL s a n, x < 65536 := fun x hx => by
  obtain ⟨i, _, rfl⟩ := List.mem_map.1 hx
  exact numAt_lt s a i
end Go.Proofs.YtdbfpmelhokeoaaDoor.NH
/-
  Rows of numbers of type uint16 that grow.
-/
namespace Go.Proofs.YtdbfpmelhokeoaaDoor.NH
open Go.RowKit Go.PlainAid Go.Lib Go.SuM
set_option linter.unusedVariables false
set_option linter.unusedSimpArgs false
/-- one number more, and where the row lies then -/
theorem append_num2 (w : World) (B : Nat) (v : Value) (l : List Nat) (x : Nat) (h : OwnN w B v l) (hB : B ≤ w.heap.size) (hbig : (l.length + 1) * 2 ≤ 140737488355328) (ty : TypeId) :
    ∃ v' w', (Builtin.append_ #[63, 63] ty #[v, .slice (some ⟨w.heap.size, 0, none⟩) 1 1]).run Tryd.prog (w.alloc (.cells #[.int .u16 (x : Int)] 36)) = .ok v' w' ∧ OwnN w' B v' (l ++ [x]) ∧ (w.alloc (.cells #[.int .u16 (x : Int)] 36)).grownBy w' v.ownBlock ∧ (v'.ownBlock = v.ownBlock ∨ v'.ownBlock = some (w.alloc (.cells #[.int .u16 (x : Int)] 36)).heap.size) := by
  obtain ⟨i0, hi0, hz0, hzs, hzb⟩ := info_parts infoN
  obtain ⟨v', w', r1, r2, r3, _, r5⟩ := run_append_own_at (P := Tryd.prog) (w := w.alloc (.cells #[.int .u16 (x : Int)] 36)) B 63 ty 36 i0 _ 1 2 Tryd.underlying63 hi0 hz0 hzs hzb rfl (by decide) v l.length (nV l) (World.ownsRow.alloc h _) ⟨w.heap.size, 0, none⟩ 1 1 [.int .u16 (x : Int)] (by simp) (cell_one_new w _ _) (nV_one [x]) (by unfold maxLen; omega) hbig (Nat.le_trans hB (by simp))
  refine ⟨v', w', r1, ?_, r3, r5⟩
  unfold OwnN
  rw [show nV (l ++ [x]) = nV l ++ [.int .u16 (x : Int)] by unfold nV; rw [List.map_append]; rfl, List.length_append]
  exact r2
end Go.Proofs.YtdbfpmelhokeoaaDoor.NH
/-
  The law's laid: Put of numbers of type uint16, twice.
-/
namespace Go.Proofs.YtdbfpmelhokeoaaDoor.NH
open Go.RowKit Go.PlainAid Go.Lib Go.SuM
set_option linter.unusedVariables false
set_option linter.unusedSimpArgs false
def cutN (x : Nat) : Nat := x % 65536
def Mof (l : List Nat) : List Nat := l.map cutN
theorem cutN_lt (x : Nat) : cutN x < 65536 := Nat.mod_lt _ (by decide)
theorem Mof_lt (l : List Nat) : ∀ x ∈ Mof l, x < 65536 := fun x hx => by
  obtain ⟨y, _, rfl⟩ := List.mem_map.1 hx
  exact cutN_lt y
theorem Mof_snoc (l : List Nat) {k : Nat} (h : k < l.length) : Mof (l.take (k + 1)) = Mof (l.take k) ++ [cutN l[k]] := by
  unfold Mof
  rw [List.take_succ_eq_append_getElem h, List.map_append]
  rfl
theorem Mof_len (l : List Nat) : (Mof l).length = l.length := List.length_map _
def Apart (v u : Value) : Prop := ∀ k, v.ownBlock = some k → u.ownBlock = some k → False
theorem Apart.ne {v u : Value} (h : Apart v u) : v.ownBlock = none ∨ v.ownBlock ≠ u.ownBlock := by
  cases hv : v.ownBlock with
  | none => exact .inl rfl
  | some k => exact .inr fun e => h k hv e.symm
theorem Apart.symm {v u : Value} (h : Apart v u) : Apart u v := fun k h1 h2 => h k h2 h1
/-- one number more in each of two rows -/
theorem two_more (w : World) (B : Nat) (v u : Value) (l : List Nat) (y : Nat) (h : OwnN w B v l) (g : ND.OwnN w B u l) (hA : Apart v u) (hB : B ≤ w.heap.size) (hbig : (l.length + 1) * 4 ≤ 140737488355328) :
    ∃ v' w1 u' w2, (Builtin.append_ #[63, 63] 63 #[v, .slice (some ⟨w.heap.size, 0, none⟩) 1 1]).run Tryd.prog (w.alloc (.cells #[.int .u16 (y : Int)] 36)) = .ok v' w1 ∧
      (Builtin.append_ #[34, 34] 34 #[u, .slice (some ⟨w1.heap.size, 0, none⟩) 1 1]).run Tryd.prog (w1.alloc (.cells #[.int .u32 (y : Int)] 23)) = .ok u' w2 ∧
      OwnN w2 B v' (l ++ [y]) ∧ ND.OwnN w2 B u' (l ++ [y]) ∧ Apart v' u' ∧ Below B w w2 := by
  obtain ⟨v', w1, r1, h1, g1, o1⟩ := append_num2 w B v l y h hB (by omega) 63
  have hs1 : w.heap.size < w1.heap.size := by
    have := g1.size
    simp at this
    omega
  have hb1 : Below B w w1 := ((Below.refl B w).alloc hB _).grown g1 (by simp; omega) (fun k hk => (World.ownsRow.lt h k hk).1)
  have hu1 : ND.OwnN w1 B u l := (World.ownsRow.alloc g _).kept g1 hA.symm.ne
  have hA1 : Apart v' u := fun k e1 e2 => by
    rcases o1 with o1 | o1
    · exact hA k (o1.symm.trans e1) e2
    · rw [o1] at e1
      have e3 := Option.some.inj e1
      have := (World.ownsRow.lt g k e2).2
      simp at e3
      omega
  obtain ⟨u', w2, r2, h2, g2, o2⟩ := ND.append_num2 w1 B u l y hu1 (by omega) (by omega) 34
  have hv2 : OwnN w2 B v' (l ++ [y]) := (World.ownsRow.alloc h1 _).kept g2 hA1.ne
  have hA2 : Apart v' u' := fun k e1 e2 => by
    rcases o2 with o2 | o2
    · exact hA1 k e1 (o2.symm.trans e2)
    · rw [o2] at e2
      have e3 := Option.some.inj e2
      have := (World.ownsRow.lt h1 k e1).2
      simp at e3
      omega
  refine ⟨v', w1, u', w2, r1, r2, hv2, h2, hA2, ?_⟩
  exact hb1.trans (((Below.refl B w1).alloc (by omega) _).grown g2 (by simp; omega) (fun k hk => (World.ownsRow.lt hu1 k hk).1))
def nines : List UInt8 := [9, 9, 9, 9, 9, 9, 9, 9]
def eights : List UInt8 := [1, 2, 3, 4, 5, 6, 7, 8]
theorem nine_row : (#[.int .u8 9, .int .u8 9, .int .u8 9, .int .u8 9, .int .u8 9, .int .u8 9, .int .u8 9, .int .u8 9] : Array Value) = (bytesV nines).toArray := rfl
theorem eight_row : (#[.int .u8 1, .int .u8 2, .int .u8 3, .int .u8 4, .int .u8 5, .int .u8 6, .int .u8 7, .int .u8 8] : Array Value) = (bytesV eights).toArray := rfl
theorem nines_gat (l : List UInt8) (i : Nat) (h : l.length ≤ i) (h2 : i < l.length + 8) : gat (l ++ nines) i = 9 := by
  unfold gat
  rw [List.getElem?_append_right h]
  have : ∀ j : Fin 8, ((nines[j.val]?).getD 0).toNat = 9 := by decide
  exact this ⟨i - l.length, by omega⟩
set_option maxRecDepth 20000 in
set_option maxHeartbeats 4000000 in
theorem laid_walk (b : ByteArray) (hb : b.size ≤ 1048576) (l : List Nat) (a : Option Addr) (n cap : Nat) (hn : l.length = n) (hn2 : n ≤ 1048576) (hnc : n ≤ cap) (hcap : cap ≤ maxLen) (w : World) (ht : ND.NumsAt w a l) : Calls Tryd.prog 24 #[.string b, .slice a n cap, .int .i64 2] w fun e w' => e = .returned (.bool true) ∧ Below w.heap.size w w' := by
  have HT := hide ht
  have HN := hide hn
  unfold maxLen at hcap
  clear ht hn
  go_enter Tryd.func24, Tryd.ntmps24
  go_wp2
  go_loopw [7, 8, 9] (fun v7 v8 v9 wr => ∃ k : Nat, k ≤ n ∧ v9 = .int .i64 (k : Int) ∧ Hid (OwnN wr w.heap.size v7 (Mof (l.take k)) ∧ ND.OwnN wr w.heap.size v8 (Mof (l.take k)) ∧ Apart v7 v8 ∧ Below w.heap.size w wr)) (fun _ _ v9 _ => n - (intOf v9).toNat)
  case atStart => exact ⟨0, Nat.zero_le _, rfl, ⟨rfl, .inl ⟨rfl, rfl⟩⟩, ⟨rfl, .inl ⟨rfl, rfl⟩⟩, fun k h _ => by simp [Value.ownBlock] at h, Below.refl _ _⟩
  case round =>
    obtain ⟨k, hk, rfl, HX⟩ := hrel
    by_cases hlt : k < n
    · have hkl : k < l.length := by rw [unhide HN]; exact hlt
      obtain ⟨g, off, rfl, hg, hc, hsm⟩ := ((unhide HT).below (unhide HX).2.2.2).get hkl
      obtain ⟨v', w1, u', w2, hr1, hr2, q1, q2, q3, q4⟩ := two_more wr w.heap.size _ _ (Mof (l.take k)) (cutN l[k]) (unhide HX).1 (unhide HX).2.1 (unhide HX).2.2.1 (Nat.le_trans (Nat.le_refl _) (unhide HX).2.2.2.size) (by rw [Mof_len, List.length_take]; omega)
      rw [← Mof_snoc l hkl] at q1 q2
      have HY : Hid (OwnN w2 w.heap.size v' (Mof (l.take (k + 1))) ∧ ND.OwnN w2 w.heap.size u' (Mof (l.take (k + 1))) ∧ Apart v' u' ∧ Below w.heap.size w w2) := ⟨q1, q2, q3, (unhide HX).2.2.2.trans q4⟩
      generalize l[k] = x at *
      obtain ⟨y, hy0⟩ : ∃ y, y = cutN x := ⟨_, rfl⟩
      have hy : (x : Int) % 65536 = (y : Int) := by rw [hy0]; unfold cutN; omega
      have hyw : IntKind.wrap .u16 (x : Int) = (y : Int) := Eq.trans (by simp [IntKind.wrap, IntKind.min, IntKind.max, IntKind.signed, IntKind.bits]) hy
      have hy2 : (y : Int) % 4294967296 = (y : Int) := by have := cutN_lt x; omega
      rw [← hy0] at hr1 hr2
      clear hy0
      clear q1 q2 q3 q4 HX hkl
      go_wp2_with (first | (at_builtin; refine wpList_append_run _ rfl _ _ _ _ rfl _ _ rfl rfl v' w1 hr1 ?_) | (at_builtin; refine wpList_append_run _ rfl _ _ _ _ rfl _ _ rfl rfl u' w2 hr2 ?_))
      exact ⟨⟨k + 1, by omega, by go_num, unhide HY⟩, by simp [intOf]; omega⟩
    · have hE : l.take k = l := List.take_of_length_le (by rw [unhide HN]; omega)
      have hX := unhide HX
      rw [hE] at hX
      obtain ⟨h7, h8, hA78, hB0⟩ := hX
      have hML : (Mof l).length = n := by rw [Mof_len, unhide HN]
      obtain ⟨v7, W1, r7, p7, g7, o7⟩ := append_num2 wr w.heap.size _ (Mof l) 77 h7 hB0.size (by rw [hML]; omega) 63
      have hr7 : (Builtin.append_ #[63, 63] 63 #[u7, .slice (some ⟨wr.heap.size, 0, none⟩) 1 1]).run Tryd.prog (wr.alloc (.cells #[.int .u16 77] 36)) = .ok v7 W1 := r7
      have hB1 : Below w.heap.size w W1 := hB0.trans (((Below.refl _ wr).alloc hB0.size _).grown g7 (by have := hB0.size; simp; omega) (fun k hk => (World.ownsRow.lt h7 k hk).1))
      have h81 : ND.OwnN W1 w.heap.size u8 (Mof l) := (World.ownsRow.alloc h8 _).kept g7 hA78.symm.ne
      obtain ⟨a8, c8, rfl, hc8, hm8⟩ := h81.form
      have hp7 := p7
      obtain ⟨g0, c7, rfl, hc7, hm7⟩ : ∃ g0 c7, v7 = .slice (some ⟨g0, 0, none⟩) (n + 1) c7 ∧ n + 1 ≤ c7 ∧ c7 ≤ maxLen := by
        rcases hp7.2 with ⟨_, h0⟩ | ⟨g, cap, cur, e, _, _, h1, h2, _⟩
        · simp at h0
        · rw [List.length_append, hML] at e h1
          exact ⟨g, cap, e, h1, h2⟩
      rw [hML] at hc8 h81 ⊢
      have hnum : NumsAt W1 (some ⟨g0, 0, none⟩) (Mof l) := ⟨fun _ => ⟨g0, 0, rfl, (World.ownsRow.lt p7 g0 rfl).2, fun i hi => by
        have hpo : W1.ownsRow w.heap.size 36 1 (.slice (some ⟨g0, 0, none⟩) (n + 1) c7) (n + 1) (nV (Mof l ++ [77])) := by have := p7; unfold OwnN at this; rwa [List.length_append, hML] at this
        rw [Nat.zero_add, World.ownsRow.cellAt hpo i (by omega)]
        unfold nV
        rw [List.getElem?_map, List.getElem?_append_left hi, List.getElem?_eq_getElem hi]
        rfl⟩, Mof_lt l⟩
      have h77 : W1.cell? ⟨g0, n, none⟩ = some (.int .u16 77) := by
        have hpo : W1.ownsRow w.heap.size 36 1 (.slice (some ⟨g0, 0, none⟩) (n + 1) c7) (n + 1) (nV (Mof l ++ [77])) := by have := p7; unfold OwnN at this; rwa [List.length_append, hML] at this
        rw [World.ownsRow.cellAt hpo n (by omega)]
        unfold nV
        rw [List.getElem?_map, ← hML, List.getElem?_append_right (Nat.le_refl _), Nat.sub_self]
        rfl
      have hg0 := (World.ownsRow.lt p7 g0 rfl).2
      have hcut : ND.NumsAt W1 a8 (Mof l) := by
        have h := h81
        rw [← hML] at h
        exact h.nums (fun x hx => Nat.lt_of_lt_of_le (Mof_lt l x hx) (by decide))
      have HB1 := hide hB1
      have HNUM := hide hnum
      have HCUT := hide hcut
      have H77 := hide h77
      have HML := hide hML
      unfold maxLen at hm7 hm8
      clear hE h7 h8 hA78 hB0 hML r7 p7 hp7 g7 o7 hB1 h81 hnum hcut h77 HX
      obtain ⟨cr, W2, hcv, hCR, hb2⟩ := conv_row b (by unfold maxLen; omega) W1
      have hsz2 : W1.heap.size < W2.heap.size := by obtain ⟨cur, fr, h1, _⟩ := hCR; exact (Array.getElem?_eq_some_iff.1 h1).1
      obtain ⟨gr, c12, W3, r12, hBR, hb3, hgr1, hgr2, hgr3, hgr4⟩ := append_conv (W2.alloc (.cells #[.int .u8 9, .int .u8 9, .int .u8 9, .int .u8 9, .int .u8 9, .int .u8 9, .int .u8 9, .int .u8 9] 5)) W1.heap.size cr (LS b) nines ⟨W2.heap.size, 0, none⟩ 8 (hCR.alloc _) (fun j u hj => by
        rw [Addr.add_lit, Nat.zero_add, World.cell?_alloc_mark, nine_row]
        simpa using hj) (by decide) (by rw [LS_len]; show b.size + 8 ≤ _; omega) W1.heap.size (Nat.le_refl _) 57
      rw [LS_len] at r12 hgr3
      have hr12 : (Builtin.append_ #[57, 57] 57 #[.slice (some ⟨W1.heap.size, 0, none⟩) b.size cr, .slice (some ⟨W2.heap.size, 0, none⟩) 8 8]).run Tryd.prog (W2.alloc (.cells #[.int .u8 9, .int .u8 9, .int .u8 9, .int .u8 9, .int .u8 9, .int .u8 9, .int .u8 9, .int .u8 9] 5)) = .ok (.slice (some ⟨gr, 0, none⟩) (b.size + 8) c12) W3 := r12
      have hgr3' : b.size + 8 ≤ c12 := hgr3
      have hb13 : Below W1.heap.size W1 W3 := (hb2.alloc (by omega) _).trans hb3
      have HB3 := hide ((unhide HB1).trans (hb13.mono (unhide HB1).size))
      have HNUM3 := hide ((unhide HNUM).below hb13)
      have HCUT3 := hide ((unhide HCUT).below hb13)
      have HS13 := hide hb13.size
      have H773 : Hid (W3.cell? ⟨g0, n, none⟩ = some (.int .u16 77)) := (hb13.cell (p := ⟨g0, n, none⟩) hg0).trans (unhide H77)
      have HBR := hide hBR
      unfold maxLen at hgr4
      clear hCR hb2 r12 hBR hb3 hgr3 hb13 HNUM HCUT H77
      go_wp2_with (first | (at_builtin; refine wpList_append_run _ rfl _ _ _ _ rfl _ _ rfl rfl _ W1 hr7 ?_) | (at_builtin; refine wpList_append_run _ rfl _ _ _ _ rfl _ _ rfl rfl _ W3 hr12 ?_))
      have hP : ∀ W : World, Below W3.heap.size W3 W → Calls Tryd.prog 47 #[.slice (some ⟨gr, 0, none⟩) b.size c12, .slice (some ⟨g0, 0, none⟩) n c7] W fun e w' => ∃ s', e = .returned s' ∧ OwnB w' W.heap.size s' (LS b ++ laidL (Mof l)) ∧ Below W.heap.size W w' := fun W hW => by
        have hbr := (unhide HBR).below hW
        have hby := hbr.bytes b.size
        rw [List.take_left' (LS_len b)] at hby
        have h := put_any (LS b) (some ⟨gr, 0, none⟩) c12 (Mof l) (some ⟨g0, 0, none⟩) c7 W hby (fun a0 e _ => by have := Option.some.inj e; subst this; exact Nat.lt_of_lt_of_le hgr2 hW.size) ((unhide HNUM3).below hW) (by rw [LS_len, unhide HML]; omega)
        rwa [LS_len, unhide HML] at h
      have HP := hide hP
      clear hP
      go_wp2_with fail
      with_reducible refine (unhide HP W3 (Below.refl _ _)).mono ?_
      rintro e W4 ⟨s1, rfl, hO1, hb4⟩
      have HB4 := hide hb4
      have HO1 := hide hO1
      clear hO1 hb4
      go_wp2_with fail
      with_reducible refine (unhide HP W4 (unhide HB4)).mono ?_
      rintro e W5 ⟨s2, rfl, hO2, hb5⟩
      have HB5 := hide ((unhide HB4).trans (hb5.mono (unhide HB4).size))
      have HO15 := hide ((unhide HO1).below hb5)
      have HS45 := hide hb5.size
      have hlt1 : ∀ k, s1.ownBlock = some k → W3.heap.size ≤ k ∧ k < W4.heap.size := World.ownsRow.lt (unhide HO1)
      have HO2 := hide hO2
      have HLT1 := hide hlt1
      clear hO2 hb5 hlt1 HO1
      have hR : ∀ W : World, Below W3.heap.size W3 W → Calls Tryd.prog 53 #[.string b, .slice a8 n c8, .int .i64 2] W fun e w' => e = .returned (.string (BA (LS b ++ laidL (Mof l)))) ∧ Below W.heap.size W w' := fun W hW =>
        rput_any 2 (by decide) b (Mof l) a8 c8 n (unhide HML) (by unfold maxLen; omega) W ((unhide HCUT3).below hW) (by unfold maxLen; omega) (by unfold maxLen; omega)
      have HR := hide hR
      clear hR
      go_wp2_with fail
      with_reducible refine (unhide HR W5 (unhide HB5)).mono ?_
      rintro e W6 ⟨rfl, hb6⟩
      have HB6 := hide ((unhide HB5).trans (hb6.mono (unhide HB5).size))
      have HO16 := hide ((unhide HO15).below hb6)
      have HO26 := hide ((unhide HO2).below hb6)
      have hcv1 := (unhide HO16).str
      have hcv2 := (unhide HO26).str
      have hwl : (LS b ++ laidL (Mof l)).length = b.size + 2 * n := by rw [List.length_append, laidL_len, LS_len, unhide HML]
      have hws : (BA (LS b ++ laidL (Mof l))).size = b.size + 2 * n := by rw [BA_size, hwl]
      generalize LS b ++ laidL (Mof l) = PL at *
      generalize hwt : BA PL = want at *
      obtain ⟨m, hm⟩ : ∃ m, m = b.size + 2 * n := ⟨_, rfl⟩
      rw [← hm] at hwl hws
      have HWL := hide hwl
      have HWT := hide hwt
      have hm20 : m ≤ 8388608 := by omega
      have HM := hide hm
      clear hb6 HO15 HO2 hwl hwt hm
      obtain ⟨g1, hg1a, hg1b, hg1c⟩ : ∃ g1, W3.heap.size ≤ g1 ∧ (∀ k, s1.ownBlock = some k → k = g1) ∧ s2.ownBlock ≠ some g1 := by
        cases hs1 : s1.ownBlock with
        | none => exact ⟨W6.heap.size, (unhide HB6).size, (fun k h => by cases h), (fun h => by have := (World.ownsRow.lt (unhide HO26) _ h).2; omega)⟩
        | some k =>
          have h1 := unhide HLT1 k hs1
          exact ⟨k, h1.1, fun k2 h => (Option.some.inj h).symm, fun h => by have := (World.ownsRow.lt (unhide HO26) _ h).1; omega⟩
      have HB0 := hide (And.intro hg1b hg1c)
      obtain ⟨a1, c1, rfl⟩ := (unhide HO16).form
      rw [unhide HWL] at HB0 hcv1 ⊢
      have HO16' : Hid (OwnB W6 W3.heap.size (.slice a1 m c1) PL) := by have := unhide HO16; rwa [unhide HWL] at this
      clear hg1b hg1c HO16 HLT1
      generalize wr = Wr at *
      go_wp2
      go_loopw [16] (fun v16 wx => ∃ (k2 : Nat) (l2 : List UInt8), k2 ≤ m ∧ v16 = .int .i64 (k2 : Int) ∧ Hid (l2.length = m ∧ OwnB wx W3.heap.size (.slice a1 m c1) l2 ∧ Beside g1 W6 wx (.slice a1 m c1))) (fun v16 _ => m - (intOf v16).toNat)
      case atStart => exact ⟨0, PL, Nat.zero_le _, rfl, unhide HWL, unhide HO16', ⟨⟨rfl, rfl, rfl, Nat.le_refl _, fun _ _ _ => rfl⟩, fun k h => .inl ((unhide HB0).1 k h)⟩⟩
      case round =>
        obtain ⟨k2, l2, hk2, rfl, HX2⟩ := hrel
        by_cases hlt2 : k2 < m
        · obtain ⟨gs, rfl⟩ : ∃ gs, a1 = some ⟨gs, 0, none⟩ := by
            rcases (unhide HX2).2.1.2 with ⟨_, h0⟩ | ⟨g, cap, cur, e, _⟩
            · rw [(unhide HX2).1] at h0; omega
            · simp only [Value.slice.injEq] at e; exact ⟨g, e.1⟩
          have hkl : k2 < l2.length := by rw [(unhide HX2).1]; exact hlt2
          have hown : wr.ownsRow W3.heap.size 5 1 (.slice (some ⟨gs, 0, none⟩) m c1) m (bytesV l2) := by have := (unhide HX2).2.1; unfold OwnB at this; rwa [(unhide HX2).1] at this
          have hc0 : wr.cell? ⟨gs, k2, none⟩ = some (.int .u8 (l2[k2].toNat : Int)) := by
            rw [World.ownsRow.cellAt hown k2 (by omega)]
            unfold bytesV
            rw [List.getElem?_map, List.getElem?_eq_getElem hkl]
            rfl
          have hfz := World.ownsRow.frozenAt hown k2
          have hst := hown.stored k2 (.int .u8 (((l2[k2].toNat : Int) + 1) % 256))
          have hY : Hid ((l2.set k2 (UInt8.ofNat (l2[k2].toNat + 1))).length = m ∧ OwnB (wr.setCell ⟨gs, k2, none⟩ (.int .u8 (((l2[k2].toNat : Int) + 1) % 256))) W3.heap.size (.slice (some ⟨gs, 0, none⟩) m c1) (l2.set k2 (UInt8.ofNat (l2[k2].toNat + 1))) ∧ Beside g1 W6 (wr.setCell ⟨gs, k2, none⟩ (.int .u8 (((l2[k2].toNat : Int) + 1) % 256))) (.slice (some ⟨gs, 0, none⟩) m c1)) := by
            refine ⟨by rw [List.length_set]; exact (unhide HX2).1, ?_, (unhide HX2).2.2.grown hst.2 (.inl rfl)⟩
            unfold OwnB
            rw [List.length_set, (unhide HX2).1, bytesV_set, u8of]
            exact hst.1
          have hxl := l2[k2].toNat_lt
          generalize l2[k2].toNat = x at *
          clear hown hst HX2 hkl
          go_wp2
          exact ⟨⟨k2 + 1, _, by omega, by go_num, unhide hY⟩, by simp [intOf]; omega⟩
        · have HX3 : Hid (∃ l3, l3.length = m ∧ OwnB wr W3.heap.size (.slice a1 m c1) l3 ∧ Beside g1 W6 wr (.slice a1 m c1)) := ⟨l2, unhide HX2⟩
          clear HX2
          generalize wr = W7 at *
          obtain ⟨l3, hl3, ho3, hbs3⟩ := unhide HX3
          have hW37 : W3.heap.size ≤ W7.heap.size := Nat.le_trans (unhide HB6).size hbs3.1.size
          obtain ⟨v13, W8, r8, ho8, hg8, hv8⟩ := append_rowB (W7.alloc (.cells #[.int .u8 1, .int .u8 2, .int .u8 3, .int .u8 4, .int .u8 5, .int .u8 6, .int .u8 7, .int .u8 8] 5)) W3.heap.size (.slice a1 m c1) l3 (World.ownsRow.alloc ho3 _) (by simp; omega) eights 8 ⟨W7.heap.size, 0, none⟩ (fun j u hj => by
            rw [Addr.add_lit, Nat.zero_add, World.cell?_alloc_mark, eight_row]
            simpa using hj) (by rw [hl3]; show m + 8 ≤ _; omega) 57
          have hr8 : (Builtin.append_ #[57, 57] 57 #[.slice a1 m c1, .slice (some ⟨W7.heap.size, 0, none⟩) 8 8]).run Tryd.prog (W7.alloc (.cells #[.int .u8 1, .int .u8 2, .int .u8 3, .int .u8 4, .int .u8 5, .int .u8 6, .int .u8 7, .int .u8 8] 5)) = .ok v13 W8 := r8
          have hbs8 : Beside g1 W6 W8 v13 := (hbs3.alloc _).grown hg8 hv8
          have hb38 : Below W3.heap.size W3 W8 := hbs8.below (unhide HB6) hg1a (Nat.le_refl _)
          have ho28 : OwnB W8 W4.heap.size s2 PL := World.ownsRow.kept (unhide HO26) hbs8.1 (.inr (unhide HB0).2)
          have hcv28 := ho28.str
          rw [unhide HWT] at hcv28
          obtain ⟨a13, c13, rfl⟩ := ho8.form
          have hl8 : (l3 ++ eights).length = m + 8 := by rw [List.length_append, hl3]; rfl
          rw [hl8] at hr8
          have hbr8 := (unhide HBR).below hb38
          have hfr8 := hbr8.front (cap := c12) b.size (by rw [List.length_append, LS_len]; omega)
          rw [List.take_left' (LS_len b), BA_LS] at hfr8
          have HCELL : Hid (∀ j : Nat, b.size ≤ j → j < b.size + 8 → W8.cell? ⟨gr, j, none⟩ = some (.int .u8 9)) := fun j h1 h2 => by
            rw [hbr8.cell (by rw [List.length_append, LS_len]; show j < b.size + 8; exact h2), nines_gat (LS b) j (by rw [LS_len]; exact h1) (by rw [LS_len]; exact h2)]
            rfl
          have HNUM8 := hide ((unhide HNUM3).below hb38)
          have HCUT8 := hide ((unhide HCUT3).below hb38)
          have h778 : W8.cell? ⟨g0, n, none⟩ = some (.int .u16 77) := (hb38.cell (p := ⟨g0, n, none⟩) (Nat.lt_of_lt_of_le hg0 (unhide HS13))).trans (unhide H773)
          have H778 := hide h778
          have HB8 := hide ((unhide HB3).trans (hb38.mono (unhide HB3).size))
          clear r8 ho8 hg8 hv8 hbs8 hb38 ho28 hl8 hbr8 h778 ho3 hbs3 hl3 HX3 HO26 hcv1 hcv2
          go_wp2_with (at_builtin; refine wpList_append_run _ rfl _ _ _ _ rfl _ _ rfl rfl _ W8 hr8 ?_)
          clear hcv28 hfr8 hr8 hcv hr12 hr7
          obtain ⟨bs, hbs⟩ : ∃ bs, bs = b.size := ⟨_, rfl⟩
          rw [← hbs] at HCELL hb hgr3' ⊢
          clear hws
          have HBS := hide hbs
          clear hbs
          go_loop [17] (fun v17 => ∃ k3 : Nat, bs ≤ k3 ∧ k3 ≤ bs + 8 ∧ v17 = .int .i64 (k3 : Int)) (fun v17 => bs + 8 - (intOf v17).toNat)
          case atStart => exact ⟨bs, Nat.le_refl _, by omega, rfl⟩
          case round =>
            obtain ⟨k3, hk3, hk3', rfl⟩ := hrel
            by_cases hlt3 : k3 < bs + 8
            · have hc9 := unhide HCELL k3 hk3 hlt3
              go_wp2
              go_round
              case rel => exact ⟨k3 + 1, by omega, by omega, by go_num⟩
              case measure => simp [intOf]; omega
            · go_wp2
              go_loopw [18] (fun v18 wy => ∃ k4 : Nat, k4 ≤ n ∧ v18 = .int .i64 (k4 : Int) ∧ Hid (∃ q, wy = W8.drewN q)) (fun v18 _ => n - (intOf v18).toNat)
              case atStart => exact ⟨0, Nat.zero_le _, rfl, ⟨0, rfl⟩⟩
              case round =>
                obtain ⟨k4, hk4, rfl, HQ⟩ := hrel
                obtain ⟨q, rfl⟩ := unhide HQ
                clear HQ
                by_cases hlt4 : k4 < n
                · have hkl : k4 < (Mof l).length := by rw [unhide HML]; exact hlt4
                  have hn8 : NumsAt (W8.drewN q) (some ⟨g0, 0, none⟩) (Mof l) := (unhide HNUM8).below (below_drewN _ _ _)
                  have hc8' : ND.NumsAt (W8.drewN q) a8 (Mof l) := (unhide HCUT8).below (below_drewN _ _ _)
                  obtain ⟨gx, ox, e1, _, hcx, hxs⟩ := hn8.get hkl
                  obtain ⟨gy, oy, rfl, _, hcy, _⟩ := hc8'.get hkl
                  simp only [Option.some.injEq, Addr.mk.injEq, and_true] at e1
                  obtain ⟨rfl, rfl⟩ := e1
                  rw [Nat.zero_add] at hcx
                  generalize (Mof l)[k4] = x at *
                  have hx32 : (x : Int) % 4294967296 = (x : Int) := by omega
                  clear hn8 hc8' hkl
                  generalize hW : W8.drewN q = W at *
                  have HW := hide hW
                  clear hW
                  go_wp2
                  go_quiet (fail)
                  go_wp2
                  exact ⟨⟨k4 + 1, by omega, by go_num, ⟨q + nq, by rw [← unhide HW, World.drewN_drewN]⟩⟩, by simp [intOf]; omega⟩
                · have HBq := hide ((unhide HB8).trans (below_drewN w.heap.size W8 q))
                  have h77q : (W8.drewN q).cell? ⟨g0, n, none⟩ = some (.int .u16 77) := unhide H778
                  generalize W8.drewN q = W at *
                  go_wp2
                  go_ret
                  exact ⟨rfl, unhide HBq⟩
end Go.Proofs.YtdbfpmelhokeoaaDoor.NH

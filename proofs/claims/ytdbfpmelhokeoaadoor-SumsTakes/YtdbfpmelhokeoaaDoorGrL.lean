/-
  These texts, one behind the other: SuSL, SuLL, SuPL, SuTkL, SuNL, SuToL.
-/
import Derived.Test.YtdbfpmelhokeoaaDoorSuW
import Derived.Test.YtdbfpmelhokeoaaDoorSuR
import Derived.Laws.MakeOwn
import Derived.Test.YtdbfpmelhokeoaaDoorSuO2
import Derived.Test.YtdbfpmelhokeoaaDoorSuBy
import Derived.Test.YtdbfpmelhokeoaaDoorSuRt
import Derived.Test.YtdbfpmelhokeoaaDoorSuGr
/-
  The width of a number of type furrowlaw12.Large, and how many bytes numbers of it have.
-/
namespace Go.Proofs.YtdbfpmelhokeoaaDoor.NL
open Go.RowKit Go.PlainAid Go.Lib Go.SuM
set_option linter.unusedVariables false
set_option linter.unusedSimpArgs false
theorem width_any (w : World) : Calls Tryd.prog 70 #[] w fun e w' => e = .returned (.int .i64 4) ∧ w' = w := by
  have h : bits .xor .u32 IntKind.u32.max 0 = 4294967296 - 1 := by decide
  go_enter Tryd.func70, Tryd.ntmps70
  go_wp2_with (go_at_call 84; refine (len32_32 _).mono ?_; rintro e w' ⟨rfl, rfl⟩)
  go_ret
  exact ⟨rfl, rfl⟩
theorem size_any (n : Int) (h0 : -9223372036854775808 ≤ n) (hn : n ≤ 2305843009213693951) (w : World) : Calls Tryd.prog 72 #[.int .i64 n] w fun e w' => e = .returned (.int .i64 (4 * max n 0)) ∧ w' = w := by
  by_cases h : 0 < n
  · have hm : (max n 0 : Int) = n := by omega
    have hw : IntKind.i64.wrap (n * 4) = n * 4 := by rw [IntKind.wrap_i64]; omega
    rw [hm]
    clear hm
    go_enter Tryd.func72, Tryd.ntmps72
    go_wp2_with (go_at_call 70; refine (width_any _).mono ?_; rintro e w' ⟨rfl, rfl⟩)
    go_ret
    exact ⟨ret_int (by omega), rfl⟩
  · have hm : (max n 0 : Int) = 0 := by omega
    rw [hm]
    clear hm
    go_enter Tryd.func72, Tryd.ntmps72
    go_wp2_with (go_at_call 70; refine (width_any _).mono ?_; rintro e w' ⟨rfl, rfl⟩)
    all_goals go_ret
    all_goals exact ⟨ret_int (by omega), rfl⟩
end Go.Proofs.YtdbfpmelhokeoaaDoor.NL
/-
  The bytes of a number of type furrowlaw12.Large, laid behind a row.
-/
namespace Go.Proofs.YtdbfpmelhokeoaaDoor.NL
open Go.RowKit Go.PlainAid Go.Lib Go.SuM
set_option linter.unusedVariables false
set_option linter.unusedSimpArgs false
set_option maxHeartbeats 1000000 in
theorem lay_any (x : Nat) (hx : x < 4294967296) (B : Nat) (s : Value) (l : List UInt8) (w : World) (h : OwnB w B s l) (hB : B ≤ w.heap.size) (hbig : l.length + 4 ≤ 140737488355328) : Calls Tryd.prog 73 #[s, .int .u32 (x : Int)] w fun e w' => ∃ s', e = .returned s' ∧ OwnB w' B s' (l ++ le 4 x) ∧ Below B w w' := by
  have HO := hide h
  clear h
  go_enter Tryd.func73, Tryd.ntmps73
  go_wp2_with (go_at_call 70; refine (width_any _).mono ?_; rintro e w' ⟨rfl, hww⟩; obtain rfl : w = w' := hww.symm)
  go_loopw [0, 5, 8] (fun v0 v5 vc wr => ∃ k : Nat, k ≤ 4 ∧ vc = .int .i64 (k : Int) ∧ v5 = .int .u32 ((x / 256 ^ k : Nat) : Int) ∧ OwnB wr B v0 (l ++ le k x) ∧ Below B w wr) (fun _ _ vc _ => 4 - (intOf vc).toNat)
  case atStart => exact ⟨0, by decide, rfl, int_eq (by simp), by rw [show l ++ le 0 x = l from List.append_nil l]; exact unhide HO, Below.refl _ _⟩
  case round =>
    obtain ⟨k, hk, rfl, rfl, hO, hb⟩ := hrel
    by_cases hlt : k < 4
    · have HQ := hide (And.intro hO hb)
      have hlk : (l ++ le k x).length + 1 ≤ 140737488355328 := by rw [List.length_append, le_len]; omega
      have HB : Hid (B ≤ wr.heap.size) := Nat.le_trans hB hb.size
      have HD : Hid (x / 256 ^ (k + 1) = x / 256 ^ k / 256) := by show _ = _; rw [Nat.pow_succ, Nat.div_div_eq_div_mul]
      have HS : Hid (l ++ le (k + 1) x = (l ++ le k x) ++ [UInt8.ofNat (x / 256 ^ k)]) := by show _ = _; rw [le_snoc, List.append_assoc]
      have h8 := u8of (x / 256 ^ k)
      generalize x / 256 ^ k = y at *
      clear hO hb
      go_wp2_with (at_builtin; rw [← h8]; refine append_byte wr B _ (l ++ le k x) (UInt8.ofNat y) (unhide HQ).1 (unhide HB) hlk rfl _ _ rfl rfl 1 rfl ?_; intro v' w1 hO1 hb1)
      go_roundw
      case rel => exact ⟨k + 1, by omega, by go_num, int_eq (by rw [unhide HD]; rfl), by rw [unhide HS]; exact hO1, (unhide HQ).2.trans hb1⟩
      case measure => simp [intOf]; omega
    · have hk' : k = 4 := by omega
      subst hk'
      have HQ := hide (And.intro hO hb)
      clear hO hb
      go_wp2
      go_ret
      exact ⟨_, rfl, (unhide HQ).1, (unhide HQ).2⟩
end Go.Proofs.YtdbfpmelhokeoaaDoor.NL
/-
  Put of numbers of type furrowlaw12.Large.
-/
namespace Go.Proofs.YtdbfpmelhokeoaaDoor.NL
open Go.RowKit Go.PlainAid Go.Lib Go.SuM
set_option linter.unusedVariables false
set_option linter.unusedSimpArgs false
/-- numbers in memory -/
structure NumsAt (w : World) (ad : Option Addr) (l : List Nat) : Prop where
  at_ : l ≠ [] → ∃ g off, ad = some ⟨g, off, none⟩ ∧ g < w.heap.size ∧ ∀ i (h : i < l.length), w.cell? ⟨g, off + i, none⟩ = some (.int .u32 (l[i] : Int))
  small : ∀ x ∈ l, x < 4294967296
def laidL (l : List Nat) : List UInt8 := l.flatMap (le 4)
theorem laidL_len (l : List Nat) : (laidL l).length = 4 * l.length := by
  induction l with
  | nil => rfl
  | cons x l ih =>
    have e : laidL (x :: l) = le 4 x ++ laidL l := rfl
    rw [e, List.length_append, ih, le_len, List.length_cons]; omega
theorem laidL_snoc (l : List Nat) (x : Nat) : laidL (l ++ [x]) = laidL l ++ le 4 x := by unfold laidL; rw [List.flatMap_append]; simp
theorem NumsAt.below {w w' : World} {ad : Option Addr} {l : List Nat} (h : NumsAt w ad l) (hb : Below w.heap.size w w') : NumsAt w' ad l := by
  refine ⟨fun h0 => ?_, h.small⟩
  obtain ⟨g, off, rfl, hg, hc⟩ := h.at_ h0
  exact ⟨g, off, rfl, Nat.lt_of_lt_of_le hg hb.size, fun i hi => (hb.cell (p := ⟨g, off + i, none⟩) hg).trans (hc i hi)⟩
theorem NumsAt.get {w : World} {a : Option Addr} {l : List Nat} (h : NumsAt w a l) {k : Nat} (hk : k < l.length) : ∃ b off, a = some ⟨b, off, none⟩ ∧ b < w.heap.size ∧ w.cell? ⟨b, off + k, none⟩ = some (.int .u32 (l[k] : Int)) ∧ l[k] < 4294967296 := by
  obtain ⟨b, off, rfl, hb, hc⟩ := h.at_ (by intro e; rw [e] at hk; exact absurd hk (by simp))
  exact ⟨b, off, rfl, hb, hc k hk, h.small _ (List.getElem_mem hk)⟩
set_option maxHeartbeats 2000000 in
theorem put_any (bs : List UInt8) (ad : Option Addr) (ca : Nat) (l : List Nat) (an : Option Addr) (cn : Nat) (w : World) (hb : BytesAt w ad bs) (hlt : ∀ a, ad = some a → bs ≠ [] → a.block < w.heap.size) (hn : NumsAt w an l) (hbig : bs.length + 4 * l.length ≤ 140737488355328) :
    Calls Tryd.prog 45 #[.slice ad bs.length ca, .slice an l.length cn] w fun e w' => ∃ s', e = .returned s' ∧ OwnB w' w.heap.size s' (bs ++ laidL l) ∧ Below w.heap.size w w' := by
  obtain ⟨i0, hi0, hz0, hzs, hzb⟩ := info_parts info8
  have HSZ := hide (size_any (l.length : Int) (by omega) (by omega) w)
  have hmx : 4 * max (l.length : Int) 0 = 4 * (l.length : Int) := by omega
  obtain ⟨w2, hmk0, hown, hgr⟩ := run_make_own (P := Tryd.prog) w w.heap.size 57 5 i0 (.int .u8 0) 1 Tryd.underlying57 hi0 hz0 hzs .i64 .i64 (bs.length + 4 * l.length) (by rw [hzb]; omega) (by unfold maxLen; omega) (Nat.le_refl _)
  have hmk : (Instr.makeSlice 57 (.int .i64 0) (.int .i64 ((bs.length : Int) + 4 * (l.length : Int)))).run Tryd.prog w = .ok (.slice (some ⟨w.heap.size, 0, none⟩) 0 (bs.length + 4 * l.length)) w2 := by
    rw [show ((bs.length : Int) + 4 * (l.length : Int)) = ((bs.length + 4 * l.length : Nat) : Int) by omega]
    exact hmk0
  have hb2 : Below w.heap.size w w2 := (Below.refl _ _).grown hgr (Nat.le_refl _) (fun k hk => by cases hk)
  have hby2 : BytesAt w2 ad bs := fun h0 => by
    obtain ⟨a, rfl, hc⟩ := hb h0
    exact ⟨a, rfl, fun j u hj => (hb2.cell (p := a.add j) (by have := hlt a rfl h0; unfold Addr.add; split <;> exact this)).trans (hc j u hj)⟩
  have hO2 : OwnB w2 w.heap.size (.slice (some ⟨w.heap.size, 0, none⟩) 0 (bs.length + 4 * l.length)) [] := hown
  obtain ⟨v3, w3, hap, hO3, hb3⟩ := append_any8 w2 w.heap.size _ [] ca ad bs hby2 hO2 hb2.size (by simp; omega) 57
  rw [List.nil_append] at hO3
  have HN := hide (fun (w' : World) (h : Below w.heap.size w w') => hn.below h)
  have HB3 := hide (hb2.trans hb3)
  have HO3 := hide hO3
  clear hmk0 hown hgr hby2 hO2 hO3 hb3 hb hlt hn hb2
  generalize hnl : l.length = n at *
  generalize hml : bs.length = m at *
  have HNL := hide hnl
  have HML := hide hml
  clear hnl hml
  go_enter Tryd.func45, Tryd.ntmps45
  go_wp2_with (first | (go_at_call 72; refine (unhide HSZ).mono ?_; rintro e w' ⟨rfl, hww⟩; obtain rfl : w = w' := hww.symm) | (at_builtin; refine wpList_append_run _ rfl _ _ _ _ rfl _ _ rfl rfl v3 w3 hap ?_))
  go_loopw [5, 20] (fun v5 v20 wr => ∃ k : Nat, k ≤ n ∧ v20 = .int .i64 (k : Int) ∧ OwnB wr w.heap.size v5 (bs ++ laidL (l.take k)) ∧ Below w.heap.size w wr) (fun _ v20 _ => n - (intOf v20).toNat)
  case atStart => exact ⟨0, Nat.zero_le _, rfl, by rw [show bs ++ laidL (l.take 0) = bs from List.append_nil bs]; exact unhide HO3, unhide HB3⟩
  case round =>
    obtain ⟨k, hk, rfl, hO, hb⟩ := hrel
    by_cases hlt : k < n
    · have hkl : k < l.length := by rw [unhide HNL]; exact hlt
      obtain ⟨g, off, rfl, hg, hc, hsm⟩ := (unhide HN wr hb).get hkl
      have HS : Hid (bs ++ laidL (l.take (k + 1)) = (bs ++ laidL (l.take k)) ++ le 4 l[k]) := by
        show _ = _
        rw [List.take_succ_eq_append_getElem hkl, laidL_snoc, List.append_assoc]
      have hll : (bs ++ laidL (l.take k)).length + 4 ≤ 140737488355328 := by
        rw [List.length_append, laidL_len, List.length_take, unhide HML, unhide HNL]
        have := Nat.min_le_left k n
        have h1 : 4 * min k n + 4 ≤ 4 * n := by omega
        omega
      have HL := hide (lay_any l[k] hsm w.heap.size _ _ wr hO hb.size hll)
      have HQ := hide hb
      generalize l[k] = x at *
      clear hO hb hll hkl
      go_wp2_with (go_at_call 73; refine (unhide HL).mono ?_; rintro e w4 ⟨s4, rfl, hO4, hb4⟩)
      go_roundw
      case rel => exact ⟨k + 1, by omega, by go_num, by rw [unhide HS]; exact hO4, (unhide HQ).trans hb4⟩
      case measure => simp [intOf]; omega
    · have HE : Hid (l.take k = l) := by
        show _ = _
        have := unhide HNL
        rw [List.take_of_length_le (by omega)]
      have HQ := hide (And.intro hO hb)
      clear hO hb
      go_wp2
      go_ret
      refine ⟨_, rfl, ?_, (unhide HQ).2⟩
      have := (unhide HQ).1
      rw [unhide HE] at this
      exact this
end Go.Proofs.YtdbfpmelhokeoaaDoor.NL
/-
  Take of numbers of type furrowlaw12.Large.
-/
namespace Go.Proofs.YtdbfpmelhokeoaaDoor.NL
open Go.RowKit Go.PlainAid Go.Lib Go.SuM
set_option linter.unusedVariables false
set_option linter.unusedSimpArgs false
theorem num_drop {s : ByteArray} {j : Nat} (h : j < s.size) : num ((LS s).drop j) = 256 * num ((LS s).drop (j + 1)) + s[j].toNat := by
  have hl : j < (LS s).length := by rw [LS_len]; exact h
  rw [List.drop_eq_getElem_cons hl]
  show _ + 256 * _ = _
  have : (LS s)[j] = s[j] := rfl
  rw [this]
  omega
theorem or256 (x b : Nat) (hx : x < 16777216) (hb : b < 256) : bits .or .u32 ((256 * x : Nat) : Int) (b : Int) = ((256 * x + b : Nat) : Int) := by
  rw [u32_or_nat _ _ (by omega) (by omega)]
  congr 1
  exact (Nat.two_pow_add_eq_or_of_lt (i := 8) hb x).symm
set_option maxHeartbeats 1000000 in
theorem taken_any (s : ByteArray) (hs : s.size = 4) (w : World) : Calls Tryd.prog 71 #[.string s] w fun e w' => e = .returned (.int .u32 ((num (LS s) : Nat) : Int)) ∧ w' = w := by
  have hnl : num (LS s) < 4294967296 := by have := num_lt (LS s); rw [LS_len, hs] at this; exact this
  have HS := hide hs
  have hs4 : s.size ≤ 4 := by omega
  clear hs
  go_enter Tryd.func71, Tryd.ntmps71
  go_wp2
  go_loop [3, 4] (fun v3 v4 => ∃ j : Nat, j ≤ s.size ∧ v4 = .int .i64 ((j : Int) - 1) ∧ v3 = .int .u32 ((num ((LS s).drop j) : Nat) : Int)) (fun _ v4 => ((intOf v4) + 1).toNat)
  case atStart => exact ⟨s.size, Nat.le_refl _, rfl, int_eq (by rw [List.drop_of_length_le (by rw [LS_len]; exact Nat.le_refl _)]; rfl)⟩
  case round =>
    obtain ⟨j, hj, rfl, rfl⟩ := hrel
    by_cases h0 : 0 < j
    · obtain ⟨i, rfl⟩ : ∃ i, j = i + 1 := ⟨j - 1, by omega⟩
      have hi : i < s.size := by omega
      have HN := hide (num_drop hi)
      have hxl : num ((LS s).drop (i + 1)) < 16777216 := by
        have := num_lt ((LS s).drop (i + 1))
        rw [List.length_drop, LS_len] at this
        exact Nat.lt_of_lt_of_le this (Nat.pow_le_pow_right (n := 2) (j := 24) (by decide) (by omega))
      have hbl := s[i].toNat_lt
      have hor := or256 _ s[i].toNat hxl hbl
      generalize num ((LS s).drop (i + 1)) = x at *
      have hidx : ((i + 1 : Nat) : Int) - 1 = (i : Int) := by omega
      have hge : (0 : Int) ≤ (i : Int) := by omega
      have h8 := u8mod s[i]
      have hy : (x : Int) * 256 % 4294967296 = ((256 * x : Nat) : Int) := by omega
      go_wp2
      refine ⟨⟨i, by omega, rfl, int_eq (by rw [unhide HN, show (x : Int) * 256 = ((256 * x : Nat) : Int) by omega]; exact hor)⟩, by simp [intOf]; try omega⟩
    · obtain rfl : j = 0 := by omega
      rw [List.drop_zero]
      obtain ⟨z, hz0⟩ : ∃ z, z = num (LS s) := ⟨_, rfl⟩
      rw [← hz0] at hnl ⊢
      have HZ := hide hz0
      clear hz0
      have hz : (z : Int) % 4294967296 = (z : Int) := by omega
      go_wp2
      go_ret
      exact ⟨ret_int (by rw [← unhide HZ]), rfl⟩
/-- the i-th number from the byte at on -/
def numAt (s : ByteArray) (at_ i : Nat) : Nat := num (((LS s).drop (at_ + 4 * i)).take 4)
def numsL (s : ByteArray) (at_ n : Nat) : List Nat := (List.range n).map (numAt s at_)
theorem numAt_lt (s : ByteArray) (a i : Nat) : numAt s a i < 4294967296 := by
  have := num_lt (((LS s).drop (a + 4 * i)).take 4)
  refine Nat.lt_of_lt_of_le this (Nat.pow_le_pow_right (n := 2) (j := 32) (by decide) ?_)
  rw [List.length_take]
  omega
theorem numAt_ext (s : ByteArray) (a i : Nat) (h : a + 4 * i + 4 ≤ s.size) : num (LS ((s.extract a s.size).extract (4 * i) (4 * i + 4))) = numAt s a i := by
  unfold numAt
  rw [LS_extract, LS_extract, take_all, List.take_drop, List.drop_drop, List.drop_take]
  congr 2
  omega
/-- a row of such numbers of one's own -/
def nV (l : List Nat) : List Value := l.map fun (x : Nat) => Value.int .u32 (x : Int)
def OwnN (w : World) (B : Nat) (v : Value) (l : List Nat) : Prop := w.ownsRow B 39 1 v l.length (nV l)
theorem infoN : (Tryd.prog.info? 39).map (fun i => (i.zero, i.size, i.bytes)) = some (some (.int .u32 0), 1, 4) := by kernel_rfl
theorem take_arg (s : ByteArray) (a n : Int) (h : a < 0 ∨ n < 0 ∨ (s.size : Int) < a) (w : World) : Calls Tryd.prog 44 #[.string s, .int .i64 a, .int .i64 n] w fun e w' => e = .returned (.tuple #[.slice none 0 0, .int .i64 2]) ∧ w' = w := by
  by_cases h1 : a < 0
  · clear h
    go_enter Tryd.func44, Tryd.ntmps44
    go_wp2
    go_ret2
    exact ⟨rfl, rfl⟩
  · by_cases h2 : n < 0
    · clear h
      go_enter Tryd.func44, Tryd.ntmps44
      go_wp2
      go_ret2
      exact ⟨rfl, rfl⟩
    · have h3 : (s.size : Int) < a := by omega
      clear h
      go_enter Tryd.func44, Tryd.ntmps44
      go_wp2
      go_ret2
      exact ⟨rfl, rfl⟩
set_option maxHeartbeats 1000000 in
theorem take_short (s : ByteArray) (hs : s.size ≤ maxLen) (a n : Nat) (ha : a ≤ s.size) (hn : (s.size - a) / 4 < n) (hn2 : n ≤ 9223372036854775807) (w : World) : Calls Tryd.prog 44 #[.string s, .int .i64 (a : Int), .int .i64 (n : Int)] w fun e w' => e = .returned (.tuple #[.slice none 0 0, .int .i64 120]) ∧ Below w.heap.size w w' := by
  unfold maxLen at hs
  have h1 : ¬ ((a : Int) < 0) := by omega
  have h2 : ¬ ((n : Int) < 0) := by omega
  have h3 : ¬ ((s.size : Int) < (a : Int)) := by omega
  have hsz : (s.extract a s.size).size = s.size - a := by rw [ByteArray.size_extract]; omega
  have HW := hide width_any
  go_enter Tryd.func44, Tryd.ntmps44
  go_wp2
  go_quiet ((go_at_call 70; exact Calls.quiet_of_same (unhide HW _)))
  generalize s.extract a s.size = r at *
  have h4 : ((s.size - a : Nat) : Int) / 4 < (n : Int) := by omega
  go_wp2
  go_ret2
  exact ⟨rfl, below_drewN _ _ _⟩
theorem nums_set {s : ByteArray} {a n k : Nat} (h : k < n) : (numsL s a k ++ List.replicate (n - k) 0).set k (numAt s a k) = numsL s a (k + 1) ++ List.replicate (n - (k + 1)) 0 := by
  have hl : (numsL s a k).length = k := by simp [numsL]
  rw [List.set_append_right _ _ (by omega), hl, Nat.sub_self, show n - k = (n - (k + 1)) + 1 by omega, List.replicate_succ, List.set_cons_zero]
  unfold numsL
  rw [List.range_succ, List.map_append]
  simp
theorem nums_len (s : ByteArray) (a n k : Nat) (h : k ≤ n) : (numsL s a k ++ List.replicate (n - k) 0).length = n := by simp [numsL]; omega
theorem nV_set (l : List Nat) (k x : Nat) : nV (l.set k x) = (nV l).set k (.int .u32 (x : Int)) := by unfold nV; rw [List.map_set]
set_option maxRecDepth 20000 in
set_option maxHeartbeats 2000000 in
theorem take_ok (s : ByteArray) (hs : s.size ≤ 140737488355328) (a n : Nat) (ha : a ≤ s.size) (hn : 4 * n ≤ s.size - a) (w : World) : Calls Tryd.prog 44 #[.string s, .int .i64 (a : Int), .int .i64 (n : Int)] w fun e w' => e = .returned (.tuple #[.slice (some ⟨w.heap.size, 0, none⟩) n n, .int .i64 0]) ∧ OwnN w' w.heap.size (.slice (some ⟨w.heap.size, 0, none⟩) n n) (numsL s a n) ∧ Below w.heap.size w w' := by
  have h1 : ¬ ((a : Int) < 0) := by omega
  have h2 : ¬ ((n : Int) < 0) := by omega
  have h3 : ¬ ((s.size : Int) < (a : Int)) := by omega
  have hsz : (s.extract a s.size).size = s.size - a := by rw [ByteArray.size_extract]; omega
  have HW := hide width_any
  have HX : Hid (∀ k, a + 4 * k + 4 ≤ s.size → num (LS ((s.extract a s.size).extract (4 * k) (4 * k + 4))) = numAt s a k) := fun k hk => numAt_ext s a k hk
  obtain ⟨i0, hi0, hz0, hzs, hzb⟩ := info_parts infoN
  go_enter Tryd.func44, Tryd.ntmps44
  go_wp2
  go_quiet ((go_at_call 70; exact Calls.quiet_of_same (unhide HW _)))
  generalize s.extract a s.size = r at *
  have h4 : ¬ (((s.size - a : Nat) : Int) / 4 < (n : Int)) := by omega
  have hBW : Below w.heap.size w (w.drewN nq) := below_drewN _ _ _
  have hWs : (w.drewN nq).heap.size = w.heap.size := rfl
  generalize w.drewN nq = W at *
  obtain ⟨w2, hmk, hown, hgr⟩ := run_make_full (P := Tryd.prog) W w.heap.size 59 39 i0 (.int .u32 0) 1 Tryd.underlying59 hi0 hz0 hzs .i64 .i64 n (by rw [hzb]; omega) (by unfold maxLen; omega) (by rw [hWs]; exact Nat.le_refl _)
  rw [hWs] at hmk hown
  have hO : OwnN w2 w.heap.size (.slice (some ⟨w.heap.size, 0, none⟩) n n) (numsL s a 0 ++ List.replicate (n - 0) 0) := by
    unfold OwnN
    rw [nums_len s a n 0 (Nat.zero_le _)]
    have e : nV (numsL s a 0 ++ List.replicate (n - 0) 0) = (madeCells #[Value.int .u32 0] (n * 1)).toList := by
      rw [toList_madeCells_one, Nat.mul_one]
      simp [numsL, nV]
    rw [e]
    exact hown
  have hb2 : Below w.heap.size w w2 := hBW.grown hgr (by rw [hWs]; exact Nat.le_refl _) (fun k hk => by cases hk)
  have HO := hide (And.intro hO hb2)
  clear hO hb2 hown hgr hBW hWs hi0 hz0 hzs hzb
  go_wp2
  go_loopw [11, 38] (fun v11 v38 wr => ∃ k : Nat, k ≤ n ∧ v38 = .int .i64 (k : Int) ∧ OwnN wr w.heap.size (.slice (some ⟨w.heap.size, 0, none⟩) n n) (numsL s a k ++ List.replicate (n - k) 0) ∧ Below w.heap.size w wr) (fun _ v38 _ => n - (intOf v38).toNat)
  case atStart => exact ⟨0, Nat.zero_le _, rfl, (unhide HO).1, (unhide HO).2⟩
  case round =>
    obtain ⟨k, hk, rfl, hO, hb⟩ := hrel
    by_cases hlt : k < n
    · have hpl := nums_len s a n k hk
      have hO' : wr.ownsRow w.heap.size 39 1 (.slice (some ⟨w.heap.size, 0, none⟩) n n) n (nV (numsL s a k ++ List.replicate (n - k) 0)) := by have := hO; unfold OwnN at this; rwa [hpl] at this
      have hc := hO'.cellAt k (by omega)
      have hfz := hO'.frozenAt k
      obtain ⟨z, hz⟩ : ∃ z : Nat, (nV (numsL s a k ++ List.replicate (n - k) 0))[k]? = some (.int .u32 (z : Int)) := by
        refine ⟨(numsL s a k ++ List.replicate (n - k) 0)[k]'(by omega), ?_⟩
        unfold nV
        rw [List.getElem?_map, List.getElem?_eq_getElem (by omega)]
        rfl
      rw [hz] at hc
      have hst := (hO'.stored k (.int .u32 (numAt s a k : Int))).1
      rw [← nV_set, nums_set hlt] at hst
      have HST := hide hst
      have HB := hide hb
      have hkn : 4 * k + 4 ≤ 4 * n := by omega
      have hx := unhide HX k (by omega)
      obtain ⟨lo, hlo0⟩ : ∃ lo, lo = 4 * k := ⟨_, rfl⟩
      obtain ⟨hi, hhi0⟩ : ∃ hi, hi = 4 * k + 4 := ⟨_, rfl⟩
      have hlo : (k : Int) * 4 = (lo : Int) := by omega
      have hhi : ((k : Int) + 1) * 4 = (hi : Int) := by omega
      rw [← hhi0, ← hlo0] at hx
      have hT := taken_any (r.extract lo hi) (by rw [ByteArray.size_extract, hsz]; omega)
      rw [hx] at hT
      have HT := hide hT
      have hhr : hi ≤ r.size := by omega
      have hlh : lo ≤ hi := by omega
      generalize numAt s a k = y at *
      clear hO hO' hst hb hz hx hT hlo0 hhi0 hkn hpl
      go_wp2_with (go_at_call 71; with_reducible refine (unhide HT _).mono ?_; rintro e w' ⟨rfl, hww⟩; obtain rfl : wr = w' := hww.symm)
      go_roundw
      case rel => exact ⟨k + 1, by omega, by go_num, by unfold OwnN; rw [nums_len s a n (k + 1) (by omega)]; exact unhide HST, (unhide HB).setCell (p := ⟨w.heap.size, k, none⟩) (Nat.le_refl _) _⟩
      case measure => simp [intOf]; omega
    · have hkn : k = n := by omega
      have HE : Hid (numsL s a k ++ List.replicate (n - k) 0 = numsL s a n) := by show _ = _; rw [hkn, Nat.sub_self]; exact List.append_nil _
      have HQ := hide (And.intro hO hb)
      clear hO hb hkn
      go_wp2
      go_ret2
      have := (unhide HQ).1
      rw [unhide HE] at this
      exact ⟨rfl, this, (unhide HQ).2⟩
end Go.Proofs.YtdbfpmelhokeoaaDoor.NL
/-
  Rows of numbers of type furrowlaw12.Large that a call owns.
-/
namespace Go.Proofs.YtdbfpmelhokeoaaDoor.NL
open Go.RowKit Go.PlainAid Go.Lib Go.SuM
set_option linter.unusedVariables false
set_option linter.unusedSimpArgs false
theorem nV_one (l : List Nat) : ∀ u ∈ nV l, u.oneCell' = true := by
  intro u hu
  obtain ⟨_, _, rfl⟩ := List.mem_map.1 hu
  rfl
theorem OwnN.form {w : World} {B : Nat} {v : Value} {l : List Nat} (h : OwnN w B v l) : ∃ a c, v = .slice a l.length c ∧ l.length ≤ c ∧ c ≤ maxLen := by
  rcases h.2 with ⟨rfl, h0⟩ | ⟨g, cap, cur, rfl, _, _, h1, h2, _⟩
  · exact ⟨none, 0, by rw [h0], by omega, by unfold maxLen; omega⟩
  · exact ⟨_, _, rfl, h1, h2⟩
theorem OwnN.below {w w' : World} {B : Nat} {v : Value} {l : List Nat} (h : OwnN w B v l) (hb : Below w.heap.size w w') : OwnN w' B v l := by
  refine ⟨h.1, ?_⟩
  rcases h.2 with h2 | ⟨g, cap, cur, rfl, h1, h2, r⟩
  · exact .inl h2
  · exact .inr ⟨g, cap, cur, rfl, h1, (hb.block g ((Array.getElem?_eq_some_iff.1 h2).1)).trans h2, r⟩
theorem OwnN.nums {w : World} {B : Nat} {a : Option Addr} {c : Nat} {l : List Nat} (h : OwnN w B (.slice a l.length c) l) (hs : ∀ x ∈ l, x < 4294967296) : NumsAt w a l := by
  refine ⟨fun h0 => ?_, hs⟩
  have hp := List.length_pos_iff.2 h0
  rcases h.2 with ⟨e, h0⟩ | ⟨g, cap, cur, e, _, hh, _⟩
  · omega
  · simp only [Value.slice.injEq, true_and] at e
    obtain ⟨rfl, rfl⟩ := e
    refine ⟨g, 0, rfl, (Array.getElem?_eq_some_iff.1 hh).1, fun i hi => ?_⟩
    rw [Nat.zero_add, World.ownsRow.cellAt h i (by omega)]
    unfold nV
    rw [List.getElem?_map, List.getElem?_eq_getElem hi]
    rfl
/-- one number more -/
theorem append_num (w : World) (B : Nat) (v : Value) (l : List Nat) (x : Nat) (h : OwnN w B v l) (hB : B ≤ w.heap.size) (hbig : (l.length + 1) * 4 ≤ 140737488355328) (ty : TypeId) :
    ∃ v' w', (Builtin.append_ #[59, 59] ty #[v, .slice (some ⟨w.heap.size, 0, none⟩) 1 1]).run Tryd.prog (w.alloc (.cells #[.int .u32 (x : Int)] 39)) = .ok v' w' ∧ OwnN w' B v' (l ++ [x]) ∧ Below B w w' ∧ w.grownBy w' v.ownBlock := by
  obtain ⟨i0, hi0, hz0, hzs, hzb⟩ := info_parts infoN
  have hb1 : Below B w (w.alloc (.cells #[.int .u32 (x : Int)] 39)) := (Below.refl _ _).alloc hB _
  obtain ⟨v', w', r1, r2, r3, _⟩ := run_append_own_at (P := Tryd.prog) (w := w.alloc (.cells #[.int .u32 (x : Int)] 39)) B 59 ty 39 i0 _ 1 4 Tryd.underlying59 hi0 hz0 hzs hzb rfl (by decide) v l.length (nV l) (World.ownsRow.alloc h _) ⟨w.heap.size, 0, none⟩ 1 1 [.int .u32 (x : Int)] (by simp) (cell_one_new w _ _) (nV_one [x]) (by unfold maxLen; omega) hbig (Nat.le_trans hB (by simp))
  refine ⟨v', w', r1, ?_, hb1.grown r3 (Nat.le_trans hB (by simp)) (fun k hk => (World.ownsRow.lt h k hk).1), (World.grownBy_alloc w _ _).trans r3⟩
  unfold OwnN
  rw [show nV (l ++ [x]) = nV l ++ [.int .u32 (x : Int)] by unfold nV; rw [List.map_append]; rfl, List.length_append]
  exact r2
theorem laid_nums (l : List Nat) (hs : ∀ x ∈ l, x < 4294967296) (bs : List UInt8) (k : Nat) (hk : k < l.length) : numAt (BA (bs ++ laidL l)) bs.length k = l[k] := by
  unfold numAt
  rw [LS_BA]
  have e : (bs ++ laidL l).drop (bs.length + 4 * k) = (laidL l).drop (4 * k) := by
    rw [List.drop_append, List.drop_of_length_le (by omega), show bs.length + 4 * k - bs.length = 4 * k by omega]
    rfl
  rw [e]
  have : ∀ (l : List Nat) (k : Nat) (hk : k < l.length), ((laidL l).drop (4 * k)).take 4 = le 4 l[k] := by
    intro l
    induction l with
    | nil => intro k hk; exact absurd hk (by simp)
    | cons x l ih =>
      intro k hk
      have e : laidL (x :: l) = le 4 x ++ laidL l := rfl
      rw [e]
      cases k with
      | zero => rw [Nat.mul_zero, List.drop_zero, List.take_left' (le_len _ _)]; rfl
      | succ k =>
        rw [show 4 * (k + 1) = 4 + 4 * k by omega, ← List.drop_drop, List.drop_left' (le_len _ _), ih k (by simpa using hk)]
        rfl
  rw [this l k hk, num_le, Nat.mod_eq_of_lt]
  exact hs _ (List.getElem_mem hk)
theorem laid_back (l : List Nat) (hs : ∀ x ∈ l, x < 4294967296) (bs : List UInt8) : numsL (BA (bs ++ laidL l)) bs.length l.length = l := by
  apply List.ext_getElem (by simp [numsL])
  intro i h1 h2
  have := laid_nums l hs bs i h2
  simp [numsL, this]
theorem nums_laid (s : ByteArray) (n : Nat) (hn : 4 * n ≤ s.size) : laidL (numsL s 0 n) = (LS s).take (4 * n) := by
  induction n with
  | zero => rfl
  | succ n ih =>
    have e : numsL s 0 (n + 1) = numsL s 0 n ++ [numAt s 0 n] := by unfold numsL; rw [List.range_succ, List.map_append]; rfl
    rw [e, laidL_snoc, ih (by omega)]
    have hl : (((LS s).drop (0 + 4 * n)).take 4).length = 4 := by rw [List.length_take, List.length_drop, LS_len]; omega
    have e2 : le 4 (numAt s 0 n) = ((LS s).drop (0 + 4 * n)).take 4 := by
      have := le_num (((LS s).drop (0 + 4 * n)).take 4)
      rw [hl] at this
      exact this
    rw [e2, Nat.zero_add, show 4 * (n + 1) = 4 * n + 4 by omega, List.take_add]
theorem numsL_lt (s : ByteArray) (a n : Nat) : ∀ x ∈ numsL s a n, x < 4294967296 := fun x hx => by
  obtain ⟨i, _, rfl⟩ := List.mem_map.1 hx
  exact numAt_lt s a i
end Go.Proofs.YtdbfpmelhokeoaaDoor.NL
/-
  The law's took: Take of numbers of type furrowlaw12.Large, twice.
-/
namespace Go.Proofs.YtdbfpmelhokeoaaDoor.NL
open Go.RowKit Go.PlainAid Go.Lib Go.SuM
set_option linter.unusedVariables false
set_option linter.unusedSimpArgs false
set_option maxRecDepth 20000 in
set_option maxHeartbeats 2000000 in
theorem took_fail (c : Int) (hc : c = 2 ∨ c = 120) (s : ByteArray) (a n : Int) (w : World) (h1 : ∀ W, Calls Tryd.prog 44 #[.string s, .int .i64 a, .int .i64 n] W fun e w' => e = .returned (.tuple #[.slice none 0 0, .int .i64 c]) ∧ Below W.heap.size W w') (h2 : ∀ W, Calls Tryd.prog 61 #[.string s, .int .i64 a, .int .i64 n, .int .i64 4] W fun e w' => e = .returned (.tuple #[.slice none 0 0, .int .i64 c]) ∧ w' = W) : Calls Tryd.prog 37 #[.string s, .int .i64 a, .int .i64 n, .int .i64 4] w fun e w' => e = .returned (.bool true) ∧ Below w.heap.size w w' := by
  have H1 := hide h1
  have H2 := hide h2
  have hc2 : ¬ c = 0 := by omega
  clear h1 h2
  go_enter Tryd.func37, Tryd.ntmps37
  go_wp2_with fail
  with_reducible refine (unhide H1 w).mono ?_
  rintro e w1 ⟨rfl, hb1⟩
  have HB1 := hide hb1
  clear hb1
  go_wp2_with fail
  with_reducible refine (unhide H1 w1).mono ?_
  rintro e w2 ⟨rfl, hb2⟩
  have HB2 := hide ((unhide HB1).trans (hb2.mono (unhide HB1).size))
  clear hb2
  go_wp2_with fail
  with_reducible refine (unhide H2 w2).mono ?_
  rintro e w3 ⟨rfl, rfl⟩
  generalize w3 = W2 at *
  go_wp2
  go_loopw [15] (fun v15 wr => v15 = .int .i64 0 ∧ Hid (wr = W2)) (fun _ _ => 0)
  case atStart => exact ⟨rfl, rfl⟩
  case round =>
    obtain ⟨rfl, HE⟩ := hrel
    obtain rfl : wr = W2 := unhide HE
    generalize wr = W3 at *
    go_wp2
    go_loopw [9, 82] (fun v9 v83 wx => ∃ (k2 : Nat) (l2 : List Nat), k2 ≤ 9 ∧ v83 = .int .i64 (k2 : Int) ∧ Hid (l2.length = k2 ∧ OwnN wx w.heap.size v9 l2 ∧ Below w.heap.size w wx)) (fun _ v83 _ => 9 - (intOf v83).toNat)
    case atStart => exact ⟨0, [], by decide, rfl, rfl, ⟨rfl, .inl ⟨rfl, rfl⟩⟩, unhide HB2⟩
    case round =>
      obtain ⟨k2, l2, hk2, rfl, HX⟩ := hrel
      by_cases hlt2 : k2 < 9
      · obtain ⟨v', w5, hap0, hO5, hb5, _⟩ := append_num wr w.heap.size _ l2 5 (unhide HX).2.1 (unhide HX).2.2.size (by rw [(unhide HX).1]; omega) 59
        have hap : (Builtin.append_ #[59, 59] 59 #[u9, .slice (some ⟨wr.heap.size, 0, none⟩) 1 1]).run Tryd.prog (wr.alloc (.cells #[.int .u32 5] 39)) = .ok v' w5 := hap0
        have HN : Hid ((l2 ++ [5]).length = k2 + 1 ∧ OwnN w5 w.heap.size v' (l2 ++ [5]) ∧ Below w.heap.size w w5) := ⟨by rw [List.length_append, (unhide HX).1]; rfl, hO5, (unhide HX).2.2.trans hb5⟩
        clear hap0 hO5 hb5 HX
        go_wp2_with (at_builtin; refine wpList_append_run _ rfl _ _ _ _ rfl _ _ rfl rfl v' w5 hap ?_)
        exact ⟨⟨k2 + 1, _, by omega, by go_num, unhide HN⟩, by simp [intOf]; omega⟩
      · obtain rfl : k2 = 9 := by omega
        obtain ⟨a9, c9, rfl, hcl9, hcm9⟩ := (unhide HX).2.1.form
        rw [(unhide HX).1] at hcl9 ⊢
        unfold maxLen at hcm9
        have HB9 := hide (unhide HX).2.2
        clear HX
        generalize wr = W9 at *
        go_wp2
        go_loopw [16] (fun v16 wy => v16 = .int .i64 0 ∧ Hid (wy = W9)) (fun _ _ => 0)
        case atStart => exact ⟨rfl, rfl⟩
        case round =>
          obtain ⟨rfl, HE9⟩ := hrel
          obtain rfl : wr = W9 := unhide HE9
          go_wp2
          go_ret
          exact ⟨rfl, unhide HB9⟩
/-- one number more, and where the row lies then -/
theorem append_num2 (w : World) (B : Nat) (v : Value) (l : List Nat) (x : Nat) (h : OwnN w B v l) (hB : B ≤ w.heap.size) (hbig : (l.length + 1) * 4 ≤ 140737488355328) (ty : TypeId) :
    ∃ v' w', (Builtin.append_ #[59, 59] ty #[v, .slice (some ⟨w.heap.size, 0, none⟩) 1 1]).run Tryd.prog (w.alloc (.cells #[.int .u32 (x : Int)] 39)) = .ok v' w' ∧ OwnN w' B v' (l ++ [x]) ∧ (w.alloc (.cells #[.int .u32 (x : Int)] 39)).grownBy w' v.ownBlock ∧ (v'.ownBlock = v.ownBlock ∨ v'.ownBlock = some (w.alloc (.cells #[.int .u32 (x : Int)] 39)).heap.size) := by
  obtain ⟨i0, hi0, hz0, hzs, hzb⟩ := info_parts infoN
  obtain ⟨v', w', r1, r2, r3, _, r5⟩ := run_append_own_at (P := Tryd.prog) (w := w.alloc (.cells #[.int .u32 (x : Int)] 39)) B 59 ty 39 i0 _ 1 4 Tryd.underlying59 hi0 hz0 hzs hzb rfl (by decide) v l.length (nV l) (World.ownsRow.alloc h _) ⟨w.heap.size, 0, none⟩ 1 1 [.int .u32 (x : Int)] (by simp) (cell_one_new w _ _) (nV_one [x]) (by unfold maxLen; omega) hbig (Nat.le_trans hB (by simp))
  refine ⟨v', w', r1, ?_, r3, r5⟩
  unfold OwnN
  rw [show nV (l ++ [x]) = nV l ++ [.int .u32 (x : Int)] by unfold nV; rw [List.map_append]; rfl, List.length_append]
  exact r2
set_option maxRecDepth 20000 in
set_option maxHeartbeats 4000000 in
theorem took_ok (s : ByteArray) (hs : s.size ≤ 1048576) (a n : Nat) (ha : a ≤ s.size) (hn : 4 * n ≤ s.size - a) (w : World) : Calls Tryd.prog 37 #[.string s, .int .i64 (a : Int), .int .i64 (n : Int), .int .i64 4] w fun e w' => e = .returned (.bool true) ∧ Below w.heap.size w w' := by
  have HT := hide (take_ok s (by omega) a n ha hn)
  have HR : Hid (∀ W : World, Calls Tryd.prog 61 #[.string s, .int .i64 (a : Int), .int .i64 (n : Int), .int .i64 4] W fun e w' => ∃ v, e = .returned (.tuple #[v, .int .i64 0]) ∧ ND.OwnN w' W.heap.size v (numsL s a n) ∧ Below W.heap.size W w') := fun W => rtake_ok 4 (by decide) (by decide) s (by unfold maxLen; omega) a n ha hn (by omega) W
  have hLL : (numsL s a n).length = n := by simp [numsL]
  have hsm := numsL_lt s a n
  have HLL := hide hLL
  have HSM := hide hsm
  have hn20 : n ≤ 1048576 := by omega
  clear hLL hsm ha hn
  generalize numsL s a n = L at *
  go_enter Tryd.func37, Tryd.ntmps37
  go_wp2_with fail
  with_reducible refine (unhide HT w).mono ?_
  rintro e w1 ⟨rfl, hO1, hb1⟩
  have HO1 := hide hO1
  have HB1 := hide hb1
  clear hO1 hb1
  go_wp2_with fail
  with_reducible refine (unhide HT w1).mono ?_
  rintro e w2 ⟨rfl, hO2, hb2⟩
  have HO10 := HO1
  have HO1 := hide ((unhide HO1).below hb2)
  have HB2 := hide ((unhide HB1).trans (hb2.mono (unhide HB1).size))
  have HO2 := hide hO2
  have hlt1 := (World.ownsRow.lt (unhide HO1) w.heap.size rfl).2
  have HS12 := hide hb2.size
  clear hO2 hb2
  go_wp2_with fail
  with_reducible refine (unhide HR w2).mono ?_
  rintro e w3 ⟨v3, rfl, hO3, hb3⟩
  obtain ⟨ad, cd, rfl, hcl, hcm⟩ := hO3.form
  have HB3 := hide ((unhide HB2).trans (hb3.mono (unhide HB2).size))
  have HO1' := hide ((unhide HO1).below (hb3.mono (Nat.le_refl _)))
  have HO2' := hide ((unhide HO2).below hb3)
  have HS23 := hide hb3.size
  have hlt2 := (World.ownsRow.lt (unhide HO2) w1.heap.size rfl).2
  have hlt1' : w.heap.size < w1.heap.size := by have := (World.ownsRow.lt (unhide HO10) w.heap.size rfl).2; exact this
  rw [unhide HLL] at hO3 hcl ⊢
  have HO3 := hide hO3
  unfold maxLen at hcm
  clear hO3 hb3 HO1 HO2 HO10
  go_wp2
  go_loopw [15] (fun v15 wr => ∃ (k : Nat) (l' : List Nat), k ≤ n ∧ v15 = .int .i64 (k : Int) ∧ Hid (l'.length = n ∧ l'.drop k = L.drop k) ∧ Hid (OwnN wr w.heap.size (.slice (some ⟨w.heap.size, 0, none⟩) n n) l' ∧ Beside w.heap.size w3 wr (.slice (some ⟨w.heap.size, 0, none⟩) n n))) (fun v15 _ => n - (intOf v15).toNat)
  case atStart => exact ⟨0, L, Nat.zero_le _, rfl, ⟨unhide HLL, rfl⟩, unhide HO1', Beside.start _ _ _⟩
  case round =>
    obtain ⟨k, l', hk, rfl, HL', HW⟩ := hrel
    by_cases hlt : k < n
    · have hkl : k < L.length := by rw [unhide HLL]; exact hlt
      have hkl' : k < l'.length := by rw [(unhide HL').1]; exact hlt
      have hel : l'[k] = L[k] := by
        have h := (unhide HL').2
        rw [List.drop_eq_getElem_cons hkl, List.drop_eq_getElem_cons hkl'] at h
        exact (List.cons.inj h).1
      have hxs := unhide HSM _ (List.getElem_mem hkl)
      have hO3r : ND.OwnN wr w2.heap.size (.slice ad n cd) L := (unhide HW).2.kept (unhide HO3) (by omega)
      have hO3r' := hO3r
      rw [← unhide HLL] at hO3r'
      obtain ⟨g1, o1, rfl, _, hc1, _⟩ := (hO3r'.nums (fun x hx => Nat.lt_of_lt_of_le (unhide HSM x hx) (by decide))).get hkl
      have hown : wr.ownsRow w.heap.size 39 1 (.slice (some ⟨w.heap.size, 0, none⟩) n n) n (nV l') := by have := (unhide HW).1; unfold OwnN at this; rwa [(unhide HL').1] at this
      have hc0 : wr.cell? ⟨w.heap.size, k, none⟩ = some (.int .u32 (L[k] : Int)) := by
        rw [World.ownsRow.cellAt hown k (by omega)]
        unfold nV
        rw [List.getElem?_map, List.getElem?_eq_getElem hkl', hel]
        rfl
      have hfz := World.ownsRow.frozenAt hown k
      have hstep : ∀ q : Nat, Hid (OwnN ((wr.drewN q).setCell ⟨w.heap.size, k, none⟩ (.int .u32 (((L[k] : Int) + 1) % 4294967296))) w.heap.size (.slice (some ⟨w.heap.size, 0, none⟩) n n) (l'.set k ((L[k] + 1) % 4294967296)) ∧ Beside w.heap.size w3 ((wr.drewN q).setCell ⟨w.heap.size, k, none⟩ (.int .u32 (((L[k] : Int) + 1) % 4294967296))) (.slice (some ⟨w.heap.size, 0, none⟩) n n)) := fun q => by
        have hownq : (wr.drewN q).ownsRow w.heap.size 39 1 (.slice (some ⟨w.heap.size, 0, none⟩) n n) n (nV l') := hown
        have h := hownq.stored k (.int .u32 (((L[k] : Int) + 1) % 4294967296))
        refine ⟨?_, ((unhide HW).2.drew q).grown h.2 (.inl rfl)⟩
        unfold OwnN
        rw [List.length_set, (unhide HL').1]
        have e : nV (l'.set k ((L[k] + 1) % 4294967296)) = (nV l').set k (.int .u32 (((L[k] : Int) + 1) % 4294967296)) := by
          rw [nV_set]
          rfl
        rw [e]
        exact h.1
      have HST := hide hstep
      have HLN : Hid ((l'.set k ((L[k] + 1) % 4294967296)).length = n ∧ (l'.set k ((L[k] + 1) % 4294967296)).drop (k + 1) = L.drop (k + 1)) := by
        refine ⟨by rw [List.length_set]; exact (unhide HL').1, ?_⟩
        rw [List.drop_set_of_lt (by omega)]
        have h := (unhide HL').2
        have h2 := congrArg (List.drop 1) h
        rw [List.drop_drop, List.drop_drop] at h2
        exact h2
      generalize L[k] = x at *
      have hx32 : (x : Int) % 4294967296 = (x : Int) := by omega
      clear hown hO3r hO3r' hstep HL' HW hel hkl hkl'
      go_wp2
      go_quiet (fail)
      go_wp2
      exact ⟨⟨k + 1, _, by omega, by go_num, unhide HLN, unhide (unhide HST nq)⟩, by simp [intOf]; omega⟩
    · have HA0 : Hid (∃ l2 : List Nat, l2.length = n ∧ OwnN wr w.heap.size (.slice (some ⟨w.heap.size, 0, none⟩) n n) l2 ∧ Beside w.heap.size w3 wr (.slice (some ⟨w.heap.size, 0, none⟩) n n)) := ⟨l', (unhide HL').1, unhide HW⟩
      clear HL' HW
      generalize wr = W4 at *
      go_wp2
      go_loopw [9, 82] (fun v9 v83 wx => ∃ (k2 : Nat) (l2 : List Nat), k2 ≤ 9 ∧ v83 = .int .i64 (k2 : Int) ∧ Hid (l2.length = n + k2 ∧ OwnN wx w.heap.size v9 l2 ∧ Beside w.heap.size w3 wx v9)) (fun _ v83 _ => 9 - (intOf v83).toNat)
      case atStart =>
        obtain ⟨l2, h1, h2, h3⟩ := unhide HA0
        exact ⟨0, l2, by decide, rfl, h1, h2, h3⟩
      case round =>
        obtain ⟨k2, l2, hk2, rfl, HX⟩ := hrel
        by_cases hlt2 : k2 < 9
        · have hbs : w.heap.size ≤ wr.heap.size := Nat.le_trans (unhide HB3).size (unhide HX).2.2.1.size
          obtain ⟨v', w5, hap0, hO5, hg5, hv5⟩ := append_num2 wr w.heap.size _ l2 5 (unhide HX).2.1 hbs (by rw [(unhide HX).1]; omega) 59
          have hap : (Builtin.append_ #[59, 59] 59 #[u9, .slice (some ⟨wr.heap.size, 0, none⟩) 1 1]).run Tryd.prog (wr.alloc (.cells #[.int .u32 5] 39)) = .ok v' w5 := hap0
          have HN : Hid ((l2 ++ [5]).length = n + (k2 + 1) ∧ OwnN w5 w.heap.size v' (l2 ++ [5]) ∧ Beside w.heap.size w3 w5 v') := ⟨by rw [List.length_append, (unhide HX).1]; rfl, hO5, ((unhide HX).2.2.alloc _).grown hg5 hv5⟩
          clear hap0 hO5 hg5 hv5 hbs HX
          go_wp2_with (at_builtin; refine wpList_append_run _ rfl _ _ _ _ rfl _ _ rfl rfl v' w5 hap ?_)
          exact ⟨⟨k2 + 1, _, by omega, by go_num, unhide HN⟩, by simp [intOf]; omega⟩
        · obtain rfl : k2 = 9 := by omega
          obtain ⟨a9, c9, rfl, hcl9, hcm9⟩ := (unhide HX).2.1.form
          rw [(unhide HX).1] at hcl9 ⊢
          unfold maxLen at hcm9
          have hB9 := hide ((unhide HX).2.2.below (unhide HB3) (Nat.le_refl _) (Nat.le_refl _))
          have hO2r : OwnN wr w1.heap.size (.slice (some ⟨w1.heap.size, 0, none⟩) n n) L := (unhide HX).2.2.kept (unhide HO2') hlt1'
          have hO3r : ND.OwnN wr w2.heap.size (.slice ad n cd) L := (unhide HX).2.2.kept (unhide HO3) hlt1
          have HO2r := hide hO2r
          have HO3r := hide hO3r
          clear hO2r hO3r HX HA0
          generalize wr = W9 at *
          go_wp2
          go_loopw [16] (fun v16 wy => ∃ k3 : Nat, k3 ≤ n ∧ v16 = .int .i64 (k3 : Int) ∧ Hid (∃ q, wy = W9.drewN q)) (fun v16 _ => n - (intOf v16).toNat)
          case atStart => exact ⟨0, Nat.zero_le _, rfl, ⟨0, rfl⟩⟩
          case round =>
            obtain ⟨k3, hk3, rfl, HQ⟩ := hrel
            obtain ⟨q, rfl⟩ := unhide HQ
            clear HQ
            by_cases hlt3 : k3 < n
            · have hkl : k3 < L.length := by rw [unhide HLL]; exact hlt3
              have hxs := unhide HSM _ (List.getElem_mem hkl)
              have hO3q : ND.OwnN (W9.drewN q) w2.heap.size (.slice ad n cd) L := unhide HO3r
              rw [← unhide HLL] at hO3q
              obtain ⟨g1, o1, rfl, _, hc1, _⟩ := (hO3q.nums (fun x hx => Nat.lt_of_lt_of_le (unhide HSM x hx) (by decide))).get hkl
              have hown : (W9.drewN q).ownsRow w1.heap.size 39 1 (.slice (some ⟨w1.heap.size, 0, none⟩) n n) n (nV L) := by have := unhide HO2r; unfold OwnN at this; rwa [unhide HLL] at this
              have hc0 : (W9.drewN q).cell? ⟨w1.heap.size, k3, none⟩ = some (.int .u32 (L[k3] : Int)) := by
                rw [World.ownsRow.cellAt hown k3 (by omega)]
                unfold nV
                rw [List.getElem?_map, List.getElem?_eq_getElem hkl]
                rfl
              generalize L[k3] = x at *
              have hx32 : (x : Int) % 4294967296 = (x : Int) := by omega
              clear hown hO3q hkl
              generalize hW : W9.drewN q = W at *
              have HW := hide hW
              clear hW
              go_wp2
              go_quiet (fail)
              go_wp2
              exact ⟨⟨k3 + 1, by omega, by go_num, ⟨q + nq, by rw [← unhide HW, World.drewN_drewN]⟩⟩, by simp [intOf]; omega⟩
            · have HBq := hide ((unhide hB9).trans (below_drewN w.heap.size W9 q))
              generalize W9.drewN q = W at *
              go_wp2
              go_ret
              exact ⟨rfl, unhide HBq⟩
theorem took_any (s : ByteArray) (hs : s.size ≤ 1048576) (a n : Int) (hn : n ≤ 9223372036854775807) (w : World) : Calls Tryd.prog 37 #[.string s, .int .i64 a, .int .i64 n, .int .i64 4] w fun e w' => e = .returned (.bool true) ∧ Below w.heap.size w w' := by
  by_cases h : a < 0 ∨ n < 0 ∨ (s.size : Int) < a
  · exact took_fail 2 (.inl rfl) s a n w (fun W => (take_arg s a n h W).mono fun e w' h => ⟨h.1, by rw [h.2]; exact Below.refl _ _⟩) (fun W => rtake_arg 4 s a n h W)
  · obtain ⟨a, rfl⟩ : ∃ k : Nat, a = (k : Int) := ⟨a.toNat, by omega⟩
    obtain ⟨n, rfl⟩ : ∃ k : Nat, n = (k : Int) := ⟨n.toNat, by omega⟩
    by_cases h2 : (s.size - a) / 4 < n
    · exact took_fail 120 (.inr rfl) s a n w (fun W => take_short s (by unfold maxLen; omega) a n (by omega) h2 (by omega) W) (fun W => rtake_short 4 (by decide) (by decide) s (by unfold maxLen; omega) a n (by omega) h2 (by omega) W)
    · exact took_ok s hs a n (by omega) (by omega) w
end Go.Proofs.YtdbfpmelhokeoaaDoor.NL

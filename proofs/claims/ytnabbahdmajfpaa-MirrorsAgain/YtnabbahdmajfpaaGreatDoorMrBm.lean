/-
  For MirrorsBack and MirrorsAgain: what Print writes is read as it was, but for the lines' numbers.
-/
import Derived.Test.YtnabbahdmajfpaaGreatDoorMrPr
import Derived.Test.YtnabbahdmajfpaaGreatDoorMrR
import Derived.Test.YtnabbahdmajfpaaGreatDoorLInvL
import Derived.Test.YtnabbahdmajfpaaGreatDoorLInvF
import Derived.Test.YtnabbahdmajfpaaGreatDoorRApM2
namespace Go.Proofs.YtnabbahdmajfpaaGreatDoor
open Go.RowKit Go.PlainAid Go.Lib Go.PHexM
set_option linter.unusedVariables false
set_option linter.unusedSimpArgs false

theorem dig_dgt : ∀ d : Fin 16, dig (dgt d.1) = some d.1 := by decide +kernel
theorem digs_hexUp (i : Nat) : ∀ n a, digs (hexUp i n) a = some (a * 16 ^ i + n % 16 ^ i) := by
  induction i with
  | zero => intro n a; simp [hexUp, digs, Nat.mod_one]
  | succ i ih =>
    intro n a
    have hd := dig_dgt ⟨n / 16 ^ i % 16, Nat.mod_lt _ (by decide)⟩
    show (match dig (dgt (n / 16 ^ i % 16)) with | none => none | some d => digs (hexUp i n) (a * 16 + d)) = _
    rw [hd]
    show digs (hexUp i n) (a * 16 + n / 16 ^ i % 16) = _
    rw [ih, Nat.pow_succ, Nat.mod_mul]
    congr 1
    have e1 : (a * 16 + n / 16 ^ i % 16) * 16 ^ i = a * (16 ^ i * 16) + 16 ^ i * (n / 16 ^ i % 16) := by
      rw [Nat.add_mul, Nat.mul_assoc, Nat.mul_comm 16 (16 ^ i), Nat.mul_comm (n / 16 ^ i % 16)]
    rw [e1]
    omega
theorem dgt_ne : ∀ d : Fin 16, d.1 ≠ 0 → dgt d.1 ≠ 48 := by decide +kernel
theorem show_long (n : Nat) (h : n ≤ 1114111) : longOk (showP n) = true := by
  unfold showP showLen
  by_cases h1 : n < 65536
  · rw [if_pos h1]; unfold longOk; simp [hexUp_len]
  · rw [if_neg h1]
    by_cases h2 : n < 1048576
    · rw [if_pos h2]
      have hd : dgt (n / 16 ^ 4 % 16) ≠ 48 := dgt_ne ⟨n / 16 ^ 4 % 16, Nat.mod_lt _ (by decide)⟩ (by show n / 65536 % 16 ≠ 0; omega)
      unfold longOk
      rw [hexUp_len]
      show (decide (4 ≤ 5) && decide (5 ≤ 6) && !(decide (4 < 5) && (some (dgt (n / 16 ^ 4 % 16)) == some 48))) = true
      simp [hd]
    · rw [if_neg h2]
      have hd : dgt (n / 16 ^ 5 % 16) ≠ 48 := dgt_ne ⟨n / 16 ^ 5 % 16, Nat.mod_lt _ (by decide)⟩ (by show n / 1048576 % 16 ≠ 0; omega)
      unfold longOk
      rw [hexUp_len]
      show (decide (4 ≤ 6) && decide (6 ≤ 6) && !(decide (4 < 6) && (some (dgt (n / 16 ^ 5 % 16)) == some 48))) = true
      simp [hd]
theorem hexP_show (n : Nat) (h : n ≤ 1114111) : hexP (showP n) = some n := by
  unfold hexP
  rw [show_long n h, if_pos rfl]
  unfold showP
  rw [digs_hexUp, Nat.zero_mul, Nat.zero_add]
  have e : n % 16 ^ showLen n = n := by
    apply Nat.mod_eq_of_lt
    unfold showLen
    split
    · show n < 65536; omega
    · split
      · show n < 1048576; omega
      · show n < 16777216; omega
  rw [e]
  show (if 1114111 < n then none else some n) = some n
  rw [if_neg (by omega)]
theorem hexUp_mem (i : Nat) : ∀ n b, b ∈ hexUp i n → ∃ d : Fin 16, b = dgt d.1 := by
  induction i with
  | zero => intro n b h; cases h
  | succ i ih =>
    intro n b h
    rcases List.mem_cons.1 h with h | h
    · exact ⟨⟨n / 16 ^ i % 16, Nat.mod_lt _ (by decide)⟩, h⟩
    · exact ih n b h
theorem chk_plain (t : ByteArray) (h : ∀ j, j < t.size → 32 ≤ bN t j ∧ bN t j ≤ 126) (hs : t.size ≤ 4096) : ∀ (k pos : Nat), t.size - pos ≤ k → chk t pos (chars t pos) = (0, 0) := by
  intro k
  induction k with
  | zero => intro pos hk; rw [chars_end t pos (by omega)]; rfl
  | succ k ih =>
    intro pos hk
    by_cases hp : pos < t.size
    · have hb := h pos hp
      have hd : Utf8.decode t pos = (bN t pos, 1) := by
        rw [decode_decB t pos hp]
        unfold decB
        rw [if_pos (by omega)]
      rw [chars_step t pos hp, hd, chk, if_neg (by omega), if_neg (by omega), if_neg (by simp [ctrlB]; omega)]
      exact ih (pos + 1) (by omega)
    · rw [chars_end t pos hp]; rfl

theorem ln_no (s : ByteArray) (x : Nat × Nat × Nat) (h : (scanX s x).2 = 0) : (scanX s x).1.no = (x.1 : Int) := scan_number _ _ h
theorem read_none {s : ByteArray} (h : (readS s).2 = none) : ∀ x ∈ linesL s, (scanX s x).2 = 0 := by
  rcases rd_cases s (linesL s) with hok | ⟨p, x, r, hp, h1, h2⟩
  · exact hok
  · have : (readS s).2 = some (x.1, (scanX s x).2) := by
      show (rdS s (linesL s)).2 = _
      rw [hp]; exact rd_bad s p r x h1 h2
    rw [this] at h; cases h
theorem read_all {s : ByteArray} (h : ∀ x ∈ linesL s, (scanX s x).2 = 0) : readS s = ((linesL s).map fun x => (scanX s x).1, none) := rd_ok s _ h
/-- two texts, the first of which ends in a line's end, are read one behind the other -/
theorem read_join (a b : ByteArray) (h0 : 0 < a.size) (hl : bN a (a.size - 1) = 10) (hm : markN b = 0) (ha : (readS a).2 = none) (hb : (readS b).2 = none) :
    readS (a ++ b) = ((readS a).1 ++ (readS b).1.map (fun d => withNo d (d.no + ((linesL a).length : Int))), none) := by
  have ka := read_none ha
  have kb := read_none hb
  have e := lines_app a b h0 hl hm
  have hall : ∀ x ∈ linesL (a ++ b), (scanX (a ++ b) x).2 = 0 := by
    intro x hx
    rw [e] at hx
    rcases List.mem_append.1 hx with hx | hx
    · rw [scanX_first a b x hx]; exact ka x hx
    · obtain ⟨y, hy, rfl⟩ := List.mem_map.1 hx
      rw [(scanX_second a b _ y).1]; exact kb y hy
  have e1 : (linesL a).map (fun x => (scanX (a ++ b) x).1) = (linesL a).map fun x => (scanX a x).1 := List.map_congr_left fun x hx => by rw [scanX_first a b x hx]
  have e2 : ((linesL b).map (shiftL (linesL a).length a.size)).map (fun x => (scanX (a ++ b) x).1) = ((linesL b).map fun x => (scanX b x).1).map (fun d => withNo d (d.no + ((linesL a).length : Int))) := by
    rw [List.map_map, List.map_map]
    refine List.map_congr_left fun y hy => ?_
    simp only [Function.comp_apply]
    rw [(scanX_second a b _ y).2 (kb y hy), ln_no b y (kb y hy), Int.natCast_add]
  rw [read_all hall, read_all ka, read_all kb, e, List.map_append, e1, e2]

theorem dgt_plain : ∀ d : Fin 16, dgt d.1 ≠ 32 ∧ dgt d.1 ≠ 59 ∧ dgt d.1 ≠ 64 ∧ dgt d.1 ≠ 35 ∧ dgt d.1 ≠ 9 ∧ dgt d.1 ≠ 10 ∧ dgt d.1 ≠ 13 ∧ 32 ≤ (dgt d.1).toNat ∧ (dgt d.1).toNat ≤ 126 := by decide +kernel
theorem showP_mem {n : Nat} {b : UInt8} (h : b ∈ showP n) : b ≠ 32 ∧ b ≠ 59 ∧ b ≠ 64 ∧ b ≠ 35 ∧ b ≠ 9 ∧ b ≠ 10 ∧ b ≠ 13 ∧ 32 ≤ b.toNat ∧ b.toNat ≤ 126 := by
  obtain ⟨d, rfl⟩ := hexUp_mem _ _ _ h
  exact dgt_plain d
theorem showP_clean (n : Nat) : Clean (showP n) := by
  refine ⟨fun b hb => ⟨(showP_mem hb).2.1, (showP_mem hb).2.2.2.1⟩, fun b hb => ?_, fun b hb => ?_⟩
  · have := showP_mem (List.mem_of_mem_head? hb)
    unfold blk8
    exact fun e => e.elim this.1 this.2.2.2.2.1
  · have := showP_mem (List.mem_of_mem_getLast? hb)
    unfold blk8
    exact fun e => e.elim this.1 this.2.2.2.2.1
theorem showP_len (n : Nat) : 4 ≤ (showP n).length ∧ (showP n).length ≤ 6 := by
  unfold showP
  rw [hexUp_len]
  unfold showLen
  (repeat' split) <;> omega
/-- the line of a mirror, without its end -/
def tailB9 (best : Bool) : List UInt8 := if best then [32, 35, 32, 91, 66, 69, 83, 84, 32, 70, 73, 84, 93] else []
def lineB9 (a b : Nat) (best : Bool) : List UInt8 := showP a ++ 59 :: (32 :: (showP b ++ tailB9 best))
def noteB9 (best : Bool) : List UInt8 := if best then bestB else []
theorem writM_line (no : Int) (a b : Nat) (best : Bool) : writM ⟨no, (a : Nat), (b : Nat), best⟩ = S (lineB9 a b best ++ [10]) := by
  have e1 : hexM ((a : Nat) : Int) = S (showP a) := rfl
  have e2 : hexM ((b : Nat) : Int) = S (showP b) := rfl
  have e3 : (⟨#[59, 32]⟩ : ByteArray) = S [59, 32] := rfl
  have e4 : bestN = S [32, 35, 32, 91, 66, 69, 83, 84, 32, 70, 73, 84, 93] := rfl
  have e5 : (⟨#[10]⟩ : ByteArray) = S [10] := rfl
  unfold writM headM lineB9 tailB9
  cases best
  · simp only [Bool.false_eq_true, if_false]
    rw [e1, e2, e3, e5, ← S_appI, ← S_appI, ← S_appI]
    congr 1
    simp
  · simp only [if_true]
    rw [e1, e2, e3, e4, e5, ← S_appI, ← S_appI, ← S_appI, ← S_appI]
    congr 1
    simp
theorem line_mach (a b : Nat) (best : Bool) : mach 0 [] [] (lineB9 a b best) = ([showP a, showP b], noteB9 best) := by
  unfold lineB9
  rw [mach_clean (showP_clean a) 0]
  have h1 : ∀ r, mach (0 + 1) [] [] (32 :: r) = mach (0 + 1) [] [] r := fun r => by
    show (if _ then _ else _) = _
    rw [if_pos (.inl rfl), if_pos rfl]
  have hne : showP b ≠ [] := by
    intro e
    have := (showP_len b).1
    rw [e] at this; simp at this
  rw [h1, mach_wk (0 + 1) (tailB9 best) (showP b) [] [] (showP_clean b).plain, wk_clean (showP_clean b)]
  cases best
  · show ([showP a] ++ lastF (0 + 1) (showP b), ([] : List UInt8)) = _
    unfold lastF
    rw [if_pos (.inl (by omega))]
    rfl
  · have e : mach (0 + 1) (showP b) [] (tailB9 true) = (lastF (0 + 1) (showP b), trimB (32 :: bestB)) := by
      show (if _ then _ else _) = _
      rw [if_pos (.inl rfl), if_neg hne]
      show (if _ then _ else _) = _
      rw [if_neg (by decide), if_neg (by decide), if_pos rfl]
    have e2 : trimB (32 :: bestB) = bestB := by decide +kernel
    rw [e, e2]
    unfold lastF
    rw [if_pos (.inl (by omega))]
    rfl
theorem lineB9_mem {a b : Nat} {best : Bool} {c : UInt8} (h : c ∈ lineB9 a b best) : c ≠ 10 ∧ 32 ≤ c.toNat ∧ c.toNat ≤ 126 := by
  unfold lineB9 at h
  rcases List.mem_append.1 h with h | h
  · have := showP_mem h; exact ⟨this.2.2.2.2.2.1, this.2.2.2.2.2.2.2⟩
  · rcases List.mem_cons.1 h with rfl | h
    · decide
    · rcases List.mem_cons.1 h with rfl | h
      · decide
      · rcases List.mem_append.1 h with h | h
        · have := showP_mem h; exact ⟨this.2.2.2.2.2.1, this.2.2.2.2.2.2.2⟩
        · cases best
          · cases h
          · have : ∀ c ∈ tailB9 true, c ≠ 10 ∧ 32 ≤ c.toNat ∧ c.toNat ≤ 126 := by decide +kernel
            exact this c h
theorem lineB9_len (a b : Nat) (best : Bool) : (lineB9 a b best).length ≤ 27 := by
  have h1 := (showP_len a).2
  have h2 := (showP_len b).2
  have h3 : (tailB9 best).length ≤ 13 := by cases best <;> decide
  unfold lineB9
  simp only [List.length_append, List.length_cons]
  omega
theorem lineB9_head (a b : Nat) (best : Bool) : ∃ c r, lineB9 a b best = c :: r ∧ c ∈ showP a := by
  unfold lineB9
  cases h : showP a with
  | nil => have := (showP_len a).1; rw [h] at this; simp at this
  | cons c r => exact ⟨c, _, rfl, by simp⟩
theorem lineB9_last (a b : Nat) (best : Bool) : ∃ c, (lineB9 a b best).getLast? = some c ∧ c ≠ 13 := by
  obtain ⟨c, r, hc, _⟩ := lineB9_head a b best
  have hne : lineB9 a b best ≠ [] := by rw [hc]; simp
  refine ⟨(lineB9 a b best).getLast hne, List.getLast?_eq_some_getLast hne, ?_⟩
  have := lineB9_mem (List.getLast_mem hne)
  intro e
  rw [e] at this
  exact absurd this.2.1 (by decide)
theorem line_scan (no : Int) (a b : Nat) (best : Bool) : scanS no (S (lineB9 a b best)) = (⟨no, 1, [], [showP a, showP b], noteB9 best⟩, 0) := by
  have hL : L (S (lineB9 a b best)) = lineB9 a b best := rfl
  have hcut : cutS (S (lineB9 a b best)) = ([showP a, showP b], noteB9 best) := by unfold cutS; rw [hL]; exact line_mach a b best
  have hck : (chkS (S (lineB9 a b best))).2 = 0 := by
    have hp := chk_plain (S (lineB9 a b best)) (fun j hj => by
      have hj' : j < (lineB9 a b best).length := by rw [S_size] at hj; exact hj
      rw [bN_SI _ j _ (List.getElem?_eq_getElem hj')]
      exact (lineB9_mem (List.getElem_mem hj')).2) (by rw [S_size]; have := lineB9_len a b best; omega) (S (lineB9 a b best)).size 0 (by omega)
    unfold chkS
    rw [hp]
  obtain ⟨c, r, hc, hcm⟩ := lineB9_head a b best
  have hcp := showP_mem hcm
  obtain ⟨l', hl'⟩ := trim_headI c r (by unfold blk8; exact fun e => e.elim hcp.1 hcp.2.2.2.2.1)
  unfold scanS
  rw [if_neg (by rw [hck]; simp), hL, hc, hl', if_neg (by simp [hasPrefix, Ne.symm hcp.2.2.1]), ← hc]
  unfold plainS
  rw [hcut, if_pos (by simp)]
/-- the line of a mirror, read -/
def dOf (no : Int) (x : MirD) : LineD := ⟨no, 1, [], [showP x.frm.toNat, showP x.to.toNat], noteB9 x.best⟩
theorem writM_read (x : MirD) (h1 : isPtM x.frm = true) (h2 : isPtM x.to = true) : readS (writM x) = ([dOf 1 x], none) ∧ 0 < (writM x).size ∧ bN (writM x) ((writM x).size - 1) = 10 ∧ markN (writM x) = 0 := by
  obtain ⟨x0, x1, x2, x3⟩ := x
  obtain ⟨a, rfl, ha⟩ := pt_nat h1
  obtain ⟨b, rfl, hb⟩ := pt_nat h2
  rw [writM_line]
  obtain ⟨c, r, hc, hcm⟩ := lineB9_head a b x3
  obtain ⟨e, he, he13⟩ := lineB9_last a b x3
  have hcp := showP_mem hcm
  have hlo := lines_one (l := lineB9 a b x3) (b := c) (c := e) (by rw [hc]; rfl) (by omega) he he13 (fun x hx => (lineB9_mem hx).1)
  have hs : (S (lineB9 a b x3 ++ [10])).size = (lineB9 a b x3).length + 1 := by rw [S_size]; simp
  have h0 : bN (S (lineB9 a b x3 ++ [10])) 0 = c.toNat := bN_SI _ 0 c (by rw [hc]; rfl)
  refine ⟨?_, by omega, ?_, ?_⟩
  · have hall : ∀ y ∈ linesL (S (lineB9 a b x3 ++ [10])), (scanX (S (lineB9 a b x3 ++ [10])) y).2 = 0 := by
      rw [hlo.1]
      intro y hy
      simp only [List.mem_singleton] at hy
      subst hy
      unfold scanX
      rw [hlo.2, line_scan]
    rw [read_all hall, hlo.1]
    simp only [List.map_cons, List.map_nil]
    unfold scanX
    rw [hlo.2, line_scan]
    rfl
  · rw [hs, Nat.add_sub_cancel]
    exact bN_SI _ _ 10 (by simp)
  · rw [markN_eq, if_neg (by rw [h0]; omega)]
theorem dOf_scan (no : Int) (x : MirD) (h1 : isPtM x.frm = true) (h2 : isPtM x.to = true) : scanM (dOf no x) = (⟨no, x.frm, x.to, x.best⟩, 0) := by
  obtain ⟨x0, x1, x2, x3⟩ := x
  obtain ⟨a, rfl, ha⟩ := pt_nat h1
  obtain ⟨b, rfl, hb⟩ := pt_nat h2
  have e1 : hexP (showP a) = some a := hexP_show a ha
  have e2 : hexP (showP b) = some b := hexP_show b hb
  have e3 : hasPrefix (noteB9 x3) bestB = x3 := by cases x3 <;> decide +kernel
  unfold scanM dOf
  simp only [Int.toNat_natCast]
  rw [if_neg (by decide), if_pos (by simp)]
  show (match hexP (showP a), hexP (showP b) with
      | some a, some b => ((⟨no, (a : Nat), (b : Nat), hasPrefix (noteB9 x3) bestB⟩ : MirD), (0 : Int))
      | _, _ => (zeroM, 40)) = _
  rw [e1, e2, e3]
def dsM : List MirD → Nat → List LineD
  | [], _ => []
  | x :: l, k => dOf ((k + 1 : Nat) : Int) x :: dsM l (k + 1)
theorem dsM_snoc (x : MirD) : ∀ (l : List MirD) (k : Nat), dsM (l ++ [x]) k = dsM l k ++ [dOf ((k + l.length + 1 : Nat) : Int) x]
  | [], k => by simp [dsM]
  | y :: l, k => by
    rw [List.cons_append]
    show dOf _ y :: dsM (l ++ [x]) (k + 1) = _
    rw [dsM_snoc x l (k + 1)]
    have e : k + 1 + l.length + 1 = k + (y :: l).length + 1 := by simp; omega
    rw [e]
    rfl
def relM : List MirD → Nat → List MirD
  | [], _ => []
  | x :: l, k => ⟨((k + 1 : Nat) : Int), x.frm, x.to, x.best⟩ :: relM l (k + 1)
theorem tell_ds : ∀ (l : List MirD) (k : Nat), (∀ x ∈ l, isPtM x.frm = true ∧ isPtM x.to = true) → tellM (dsM l k) = (relM l k, none)
  | [], k, _ => rfl
  | x :: l, k, h => by
    have hx := h x (by simp)
    have hs := dOf_scan ((k + 1 : Nat) : Int) x hx.1 hx.2
    show tellM (dOf ((k + 1 : Nat) : Int) x :: dsM l (k + 1)) = _
    rw [tell_yes _ (by show ¬ ((1 : Int) = 0 ∨ (1 : Int) = 3); decide) (by rw [hs]), hs, tell_ds l (k + 1) (fun y hy => h y (by simp [hy]))]
    rfl
theorem relM_at : ∀ (l : List MirD) (k i : Nat), (relM l k)[i]? = (l[i]?).map fun x => ⟨((k + i + 1 : Nat) : Int), x.frm, x.to, x.best⟩
  | [], k, i => by simp [relM]
  | x :: l, k, 0 => by simp [relM]
  | x :: l, k, i + 1 => by
    show (relM l (k + 1))[i]? = (l[i]?).map _
    rw [relM_at l (k + 1) i]
    have e : k + 1 + i + 1 = k + (i + 1) + 1 := by omega
    rw [e]
theorem relM_len (l : List MirD) (k : Nat) : (relM l k).length = l.length := by
  induction l generalizing k with
  | nil => rfl
  | cons x l ih => simp [relM, ih]
theorem relM_map (l : List MirD) (k : Nat) : (relM l k).map (fun x => (x.frm, x.to)) = l.map fun x => (x.frm, x.to) := by
  induction l generalizing k with
  | nil => rfl
  | cons x l ih => simp [relM, ih]
/-- Check asks for From and To alone -/
theorem chk_same {l m : List MirD} (h : m.map (fun x => (x.frm, x.to)) = l.map fun x => (x.frm, x.to)) : chkM m = chkM l := by
  have hl : m.length = l.length := by have := congrArg List.length h; simpa using this
  have hd : ∀ i, (m.getD i zeroM).frm = (l.getD i zeroM).frm ∧ (m.getD i zeroM).to = (l.getD i zeroM).to := by
    intro i
    have e := congrArg (fun q => q[i]?) h
    simp only [List.getElem?_map] at e
    simp only [List.getD]
    cases hm : m[i]? with
    | none =>
      rw [hm] at e
      cases hl2 : l[i]? with
      | none => exact ⟨rfl, rfl⟩
      | some y => rw [hl2] at e; cases e
    | some x =>
      rw [hm] at e
      cases hl2 : l[i]? with
      | none => rw [hl2] at e; cases e
      | some y =>
        rw [hl2] at e
        simp only [Option.map_some, Option.some.injEq, Prod.mk.injEq] at e
        exact e
  have hw : ∀ i, whyM (m.getD i zeroM) = whyM (l.getD i zeroM) := fun i => by unfold whyM; rw [(hd i).1, (hd i).2]
  have any_map : ∀ (q : List MirD) (f : Int × Int → Bool), (q.any fun y => f (y.frm, y.to)) = (q.map fun y => (y.frm, y.to)).any f := fun q f => by rw [List.any_map]; rfl
  have ha : ∀ i, againM m i = againM l i := fun i => by
    unfold againM
    rw [(hd i).1, any_map (m.take i) (fun p => decide (p.1 = (l.getD i zeroM).frm)), any_map (l.take i) (fun p => decide (p.1 = (l.getD i zeroM).frm)), List.map_take, List.map_take, h]
  have hb : ∀ i, backM m i = backM l i := fun i => by
    unfold backM
    rw [(hd i).1, (hd i).2, any_map m (fun p => decide (p.1 = (l.getD i zeroM).to) && decide (p.2 = (l.getD i zeroM).frm)), any_map l (fun p => decide (p.1 = (l.getD i zeroM).to) && decide (p.2 = (l.getD i zeroM).frm)), h]
  have e1 : wrongM m = wrongM l := by funext i; unfold wrongM; rw [hw i, ha i]
  have e2 : twistM m = twistM l := by funext i; unfold twistM; rw [hb i]
  unfold chkM
  rw [e1, e2, hl]
theorem textM_app (l m : List MirD) : ∀ i, i ≤ l.length → textM (l ++ m) i = textM l i
  | 0, _ => rfl
  | i + 1, h => by
    show textM (l ++ m) i ++ writM ((l ++ m).getD i zeroM) = textM l i ++ writM (l.getD i zeroM)
    rw [textM_app l m i (by omega)]
    congr 2
    simp only [List.getD]
    rw [List.getElem?_append_left (by omega)]
theorem bN_last (a b : ByteArray) (hb : 0 < b.size) (h : bN b (b.size - 1) = 10) : bN (a ++ b) ((a ++ b).size - 1) = 10 := by
  rw [ByteArray.size_append, bN_append, if_neg (by omega)]
  rw [show a.size + b.size - 1 - a.size = b.size - 1 by omega]
  exact h
theorem text_read (l : List MirD) : (∀ x ∈ l, isPtM x.frm = true ∧ isPtM x.to = true) → l ≠ [] → readS (textM l l.length) = (dsM l 0, none) ∧ 0 < (textM l l.length).size ∧ bN (textM l l.length) ((textM l l.length).size - 1) = 10 := by
  induction l using snoc_indM with
  | h0 => intro _ h; exact absurd rfl h
  | h1 l x ih =>
    intro h _
    have hx := h x (by simp)
    obtain ⟨w1, w2, w3, w4⟩ := writM_read x hx.1 hx.2
    have e : textM (l ++ [x]) (l ++ [x]).length = textM l l.length ++ writM x := by
      rw [List.length_append]
      show textM (l ++ [x]) l.length ++ writM ((l ++ [x]).getD l.length zeroM) = _
      rw [textM_app l [x] l.length (Nat.le_refl _)]
      congr 2
      simp [List.getD]
    by_cases hl : l = []
    · subst hl
      have e' : textM ([] ++ [x]) ([] ++ [x]).length = writM x := by rw [e]; show ByteArray.empty ++ writM x = _; simp
      rw [e']
      exact ⟨by rw [w1]; rfl, w2, w3⟩
    · obtain ⟨i1, i2, i3⟩ := ih (fun y hy => h y (by simp [hy])) hl
      rw [e]
      have hlen : (linesL (textM l l.length)).length = l.length := by
        have h1 := read_all (read_none (by rw [i1]))
        rw [i1] at h1
        have h2 := congrArg (fun q => q.1.length) h1
        simp only [List.length_map] at h2
        rw [← h2]
        have : ∀ (l : List MirD) k, (dsM l k).length = l.length := by
          intro l
          induction l with
          | nil => intro k; rfl
          | cons y l ih => intro k; simp [dsM, ih]
        exact this l 0
      have hj := read_join (textM l l.length) (writM x) i2 i3 w4 (by rw [i1]) (by rw [w1])
      refine ⟨?_, by rw [ByteArray.size_append]; omega, bN_last _ _ w2 w3⟩
      rw [hj, i1, w1, dsM_snoc, hlen]
      simp only [List.map_cons, List.map_nil]
      congr 3
      show withNo (dOf 1 x) _ = _
      unfold withNo dOf
      simp only [LineD.mk.injEq, and_true]
      omega
/-- P9.7: what is printed is read as it was -/
theorem back_M {l : List MirD} (h : (chkM l).2 = 0) : mirsS (textM l l.length) = (relM l 0, none) := by
  have hp := ok_points h
  have hck : (chkM (relM l 0)).2 = 0 := by rw [chk_same (relM_map l 0)]; exact h
  have hr : readS (textM l l.length) = (dsM l 0, none) := by
    by_cases hl : l = []
    · subst hl
      show rdS ByteArray.empty (linesL ByteArray.empty) = ([], none)
      rw [show linesL ByteArray.empty = [] by decide +kernel]
      rfl
    · exact (text_read l hp hl).1
  unfold mirsS
  rw [hr]
  simp only [tell_ds l 0 hp]
  rw [if_pos hck]
end Go.Proofs.YtnabbahdmajfpaaGreatDoor

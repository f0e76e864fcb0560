/-
  A note more in a text: its lines.
-/
import Derived.Test.YthjnkagepooeiaaGreatDoorRwBlM
namespace Go.Proofs.YthjnkagepooeiaaGreatDoor
open Go.RowKit Go.PlainAid Go.Lib Go.PHexM
set_option linter.unusedVariables false
set_option linter.unusedSimpArgs false

theorem lines_app2 (a b : ByteArray) (h0 : 0 < a.size) (hl : bN a (a.size - 1) = 10) : linesL (a ++ b) = linesL a ++ (linesI b 1 0).map (shiftL (linesL a).length a.size) := by
  rw [← linesL_I, ← linesL_I a, mark_app a b h0 hl, lines_first a b hl _ 1 (markN a) (Nat.le_refl _) (mark_le a)]
  have := lines_second a b _ 1 0 (linesI a 1 (markN a)).length (Nat.le_refl _) (Nat.zero_le _)
  rw [Nat.add_zero] at this
  rw [this]
/-- a line that is a note -/
structure NoteT (N : ByteArray) : Prop where
  long : 2 ≤ N.size
  short : N.size ≤ 4096
  first : bN N 0 = 35
  last : bN N (N.size - 1) = 10
  plain : ∀ j, j < N.size - 1 → 32 ≤ bN N j ∧ bN N j ≤ 126
theorem chk_plain (t : ByteArray) (h : ∀ j, j < t.size → 32 ≤ bN t j ∧ bN t j ≤ 126) (hs : t.size ≤ 4096) : ∀ (k pos : Nat), t.size - pos ≤ k → chk t pos (chars t pos) = (0, 0) := by
  intro k
  induction k with
  | zero => intro pos hk; rw [chars_end t pos (by omega)]; rfl
  | succ k ih =>
    intro pos hk
    by_cases hp : pos < t.size
    · have hb := h pos hp
      have hd : Utf8.decode t pos = (bN t pos, 1) := by
        rw [decode_decB t pos hp]
        unfold decB
        rw [if_pos (by omega)]
      rw [chars_step t pos hp, hd, chk, if_neg (by omega), if_neg (by omega), if_neg (by simp [ctrlB]; omega)]
      exact ih (pos + 1) (by omega)
    · rw [chars_end t pos hp]; rfl
theorem trim_hash (l : List UInt8) : hasPrefix (trimB (35 :: l)) [64] = false := by
  have h : ∃ y, trimRightS (35 :: l) [32, 9] = 35 :: y := by
    unfold trimRightS
    rw [List.reverse_cons, List.dropWhile_append]
    split
    · exact ⟨[], rfl⟩
    · rw [List.reverse_append]
      exact ⟨_, rfl⟩
  obtain ⟨y, hy⟩ := h
  unfold trimB trimS
  rw [hy]
  unfold trimLeftS
  rw [List.dropWhile_cons, if_neg (by decide)]
  rfl
theorem scan_hash (no : Int) (t : ByteArray) (l : List UInt8) (hl : L t = 35 :: l) (h : ∀ j, j < t.size → 32 ≤ bN t j ∧ bN t j ≤ 126) (hs : t.size ≤ 4096) : (scanS no t).2 = 0 ∧ ((scanS no t).1.kind = 0 ∨ (scanS no t).1.kind = 3) := by
  have hc : chkS t = (0, 0) := chk_plain t h hs _ 0 (Nat.le_refl _)
  unfold scanS
  rw [hc, hl, trim_hash]
  simp only [ne_eq, not_true_eq_false, if_false, Bool.false_eq_true]
  have hcut : (cutS t).1 = [] := by
    unfold cutS
    rw [hl, mach]
    simp [lastF]
  refine ⟨trivial, ?_⟩
  unfold plainS
  rw [if_neg (by simp [hcut])]
  split
  · exact .inr rfl
  · exact .inl rfl
theorem note_mark {N : ByteArray} (h : NoteT N) : markN N = 0 := by
  rw [markN_eq, if_neg]
  rintro ⟨_, h0, _⟩
  rw [h.first] at h0
  omega
theorem note_lines {N : ByteArray} (h : NoteT N) : linesI N 1 0 = [(1, 0, N.size - 1)] := by
  have hl := h.long
  obtain ⟨e1, e2, e3⟩ := linesI_found N 1 0 (N.size - 1) (Nat.zero_le _) (by omega) h.last (fun j _ hj => by have := h.plain j hj; omega)
  have h2 := h.plain (N.size - 1 - 1) (by omega)
  rw [e1, e2, if_neg (by omega), show N.size - 1 + 1 = N.size by omega, linesI_end]
theorem note_scan {N : ByteArray} (h : NoteT N) (no : Nat) : (scanX N (no, 0, N.size - 1)).2 = 0 ∧ ((scanX N (no, 0, N.size - 1)).1.kind = 0 ∨ (scanX N (no, 0, N.size - 1)).1.kind = 3) := by
  have hl := h.long
  have hs := h.short
  obtain ⟨t, ht⟩ : ∃ t, N.extract 0 (N.size - 1) = t := ⟨_, rfl⟩
  have hL : L t = (L N).take (N.size - 1) := by rw [← ht, L_extract]; simp
  have hsz : t.size = N.size - 1 := by
    have := congrArg List.length hL
    rw [L_len, List.length_take, L_len] at this
    omega
  have hb : ∀ j, j < N.size - 1 → bN t j = bN N j := by
    intro j hj
    have h1 := L_at t j (by omega)
    have h2 := L_at N j (by omega)
    rw [hL, List.getElem?_take, if_pos hj, h2] at h1
    unfold bN
    rw [Option.some.inj h1]
  unfold scanX
  simp only
  rw [ht]
  have h0 : L t ≠ [] := by
    intro e
    have : t.size = 0 := by rw [← L_len, e]; rfl
    omega
  obtain ⟨x, l, hxl⟩ := List.exists_cons_of_ne_nil h0
  have hx : x = 35 := by
    have h1 := L_at t 0 (by omega)
    rw [hxl] at h1
    simp at h1
    have h2 := hb 0 (by omega)
    rw [h.first] at h2
    unfold bN at h2
    rw [← h1] at h2
    exact UInt8.toNat_inj.1 h2
  subst hx
  exact scan_hash _ t l hxl (fun j hj => by rw [hb j (by omega)]; exact h.plain j (by omega)) (by omega)

theorem ins_map {α : Type} (f g : α → LnP) {m m' : List LnP} (k : Ins m m') : ∀ l : List α, (∀ x ∈ l, OneP (f x) (g x)) → Ins (l.map f ++ m) (l.map g ++ m')
  | [], _ => k
  | x :: l, h => .cons (h x (by simp)) (ins_map f g k l fun y hy => h y (by simp [hy]))
theorem ln_no (s : ByteArray) (x : Nat × Nat × Nat) (h : (scanX s x).2 = 0) : (scanX s x).1.no = (x.1 : Int) := scan_number _ _ h
theorem one_same (s t : ByteArray) (x : Nat × Nat × Nat) (h : scanX t x = scanX s x) : OneP (lnP s x) (lnP t x) := by
  refine ⟨.inl rfl, by show (scanX t x).2 = _; rw [h]; rfl, fun hz => ?_⟩
  have e := ln_no s x hz
  refine ⟨e, ?_⟩
  show (scanX t x).1 = withNo (scanX s x).1 (x.1 : Int)
  rw [h, ← e]
  rfl
theorem app_assoc (a b c : ByteArray) : a ++ b ++ c = a ++ (b ++ c) := by
  rw [← S_L (a ++ b ++ c), ← S_L (a ++ (b ++ c)), L_app, L_app, L_app, L_app, List.append_assoc]
theorem app_nil_left (a b : ByteArray) (h : a.size = 0) : a ++ b = b := by
  have : L a = [] := by
    apply List.eq_nil_of_length_eq_zero
    rw [L_len]; exact h
  rw [← S_L (a ++ b), L_app, this, List.nil_append, S_L]
theorem with_twice {x y z : LineD} {k m : Int} (h : y = withNo x k) (g : z = withNo x m) : z = withNo y m := by rw [h, g]; rfl
theorem skip_of {s t u : ByteArray} {z y : Nat × Nat × Nat} {k : Int} (e : scanX s z = scanX t z) (g : (scanX t z).2 = (scanX u y).2 ∧ ((scanX u y).2 = 0 → (scanX t z).1 = withNo (scanX u y).1 k)) (n : (scanX u y).2 = 0 ∧ ((scanX u y).1.kind = 0 ∨ (scanX u y).1.kind = 3)) : SkipP (lnP s z) := by
  unfold SkipP lnP
  dsimp only
  rw [e, g.1, g.2 n.1]
  exact n
theorem blank_ins (a b N : ByteArray) (h : NoteT N) (ha : (a.size = 0 ∧ markN b = 0) ∨ (0 < a.size ∧ bN a (a.size - 1) = 10)) : Ins ((linesL (a ++ b)).map (lnP (a ++ b))) ((linesL (a ++ N ++ b)).map (lnP (a ++ N ++ b))) := by
  have hl := h.long
  have hNL : linesL N = [(1, 0, N.size - 1)] := by rw [← linesL_I, note_mark h, note_lines h]
  rcases ha with ⟨ha, hm⟩ | ⟨h0, hl10⟩
  · rw [app_nil_left a b ha, app_nil_left a N ha, lines_app2 N b (by omega) h.last, hNL, ← linesL_I b, hm]
    refine .skip ?_ ?_
    · show (scanX (N ++ b) (1, 0, N.size - 1)).2 = 0 ∧ _
      have e : scanX (N ++ b) (1, 0, N.size - 1) = scanX N (1, 0, N.size - 1) := scanX_first N b _ (by rw [hNL]; simp)
      refine ⟨by rw [e]; exact (note_scan h 1).1, ?_⟩
      show (scanX (N ++ b) (1, 0, N.size - 1)).1.kind = 0 ∨ (scanX (N ++ b) (1, 0, N.size - 1)).1.kind = 3
      rw [e]
      exact (note_scan h 1).2
    · show Ins ((linesI b 1 0).map (lnP b)) (((linesI b 1 0).map (shiftL 1 N.size)).map (lnP (N ++ b)))
      rw [List.map_map]
      have := ins_map (lnP b) ((lnP (N ++ b)) ∘ shiftL 1 N.size) Ins.nil (linesI b 1 0) (fun y _ => ?_)
      · simpa using this
      · obtain ⟨g1, g2⟩ := scanX_second N b 1 y
        refine ⟨.inr rfl, g1, fun hz => ⟨ln_no b y hz, g2 hz⟩⟩
  · have hz : 0 < (a ++ N).size := by rw [app_size]; omega
    have hz10 : bN (a ++ N) ((a ++ N).size - 1) = 10 := by
      rw [app_size, show a.size + N.size - 1 = a.size + (N.size - 1) by omega, bN_ge_app a N _ (by omega)]
      exact h.last
    have hLN : linesL (a ++ N) = linesL a ++ [shiftL (linesL a).length a.size (1, 0, N.size - 1)] := by
      rw [lines_app2 a N h0 hl10, note_lines h]; rfl
    rw [lines_app2 (a ++ N) b hz hz10, lines_app2 a b h0 hl10, hLN]
    simp only [List.map_append, List.map_cons, List.map_nil, List.append_assoc]
    refine ins_map (lnP (a ++ b)) (lnP (a ++ N ++ b)) ?_ (linesL a) (fun x hx => ?_)
    · refine .skip ?_ ?_
      · have hm : shiftL (linesL a).length a.size (1, 0, N.size - 1) ∈ linesL (a ++ N) := by rw [hLN]; simp
        exact skip_of (scanX_first (a ++ N) b _ hm) (scanX_second a N (linesL a).length (1, 0, N.size - 1)) (note_scan h 1)
      · rw [List.map_map, List.map_map]
        have := ins_map ((lnP (a ++ b)) ∘ shiftL (linesL a).length a.size) ((lnP (a ++ N ++ b)) ∘ shiftL (linesL a ++ [shiftL (linesL a).length a.size (1, 0, N.size - 1)]).length (a ++ N).size) Ins.nil (linesI b 1 0) (fun y _ => ?_)
        · simpa using this
        · obtain ⟨f1, f2⟩ := scanX_second a b (linesL a).length y
          obtain ⟨g1, g2⟩ := scanX_second (a ++ N) b (linesL a ++ [shiftL (linesL a).length a.size (1, 0, N.size - 1)]).length y
          refine ⟨.inr ?_, g1.trans f1.symm, fun hz => ?_⟩
          · show y.1 + (linesL a ++ [shiftL (linesL a).length a.size (1, 0, N.size - 1)]).length = y.1 + (linesL a).length + 1
            simp; omega
          · have hzb : (scanX b y).2 = 0 := f1.symm.trans hz
            refine ⟨ln_no (a ++ b) _ hz, ?_⟩
            exact with_twice (f2 hzb) (g2 hzb)
    · have hm : x ∈ linesL (a ++ N) := by rw [hLN]; simp [hx]
      exact one_same _ _ x (by rw [scanX_first (a ++ N) b x hm, scanX_first a N x hx, scanX_first a b x hx])
/-- a note more: the rows are the same but for their lines, or the fault is the same but for its line -/
theorem blank_rows (a b N : ByteArray) (h : NoteT N) (ha : (a.size = 0 ∧ markN b = 0) ∨ (0 < a.size ∧ bN a (a.size - 1) = 10)) :
    ((rowsS (a ++ b)).2 = none → (rowsS (a ++ N ++ b)).2 = none ∧ All2 OneR (rowsS (a ++ b)).1 (rowsS (a ++ N ++ b)).1) ∧ (∀ no c, (rowsS (a ++ b)).2 = some (no, c) → ∃ no', (rowsS (a ++ N ++ b)).2 = some (no', c) ∧ (no' = no ∨ no' = no + 1)) := by
  rw [rows_P, rows_P]
  exact ins_rows (blank_ins a b N h ha)
end Go.Proofs.YthjnkagepooeiaaGreatDoor

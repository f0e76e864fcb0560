/-
  A note more in a text: the same rows but for the numbers of lines, or the same fault.
-/
import Derived.Test.YthjnkagepooeiaaGreatDoorRApM2
import Derived.Test.YthjnkagepooeiaaGreatDoorRwA1
namespace Go.Proofs.YthjnkagepooeiaaGreatDoor
open Go.RowKit Go.PlainAid Go.Lib Go.PHexM
set_option linter.unusedVariables false
set_option linter.unusedSimpArgs false

/-- a line's number, what it is, why it is wrong -/
abbrev LnP : Type := Nat × (LineD × Int)
def rdP : List LnP → List LineD × Option (Nat × Int)
  | [] => ([], none)
  | x :: l => if x.2.2 = 0 then (x.2.1 :: (rdP l).1, (rdP l).2) else ([], some (x.1, x.2.2))
def lnP (s : ByteArray) (x : Nat × Nat × Nat) : LnP := (x.1, scanX s x)
theorem rd_P (s : ByteArray) (l : List (Nat × Nat × Nat)) : rdS s l = rdP (l.map (lnP s)) := by
  induction l with
  | nil => rfl
  | cons x l ih => rw [List.map_cons, rdS, rdP, ← ih]; rfl
def rowsP (l : List LnP) : List RowD × Option (Int × Int) := match (rdP l).2 with
  | some (no, code) => ([], some ((no : Int), code))
  | none => tellR (eachR startW (rdP l).1)
theorem rows_P (s : ByteArray) : rowsS s = rowsP ((linesL s).map (lnP s)) := by
  unfold rowsS rowsP readS
  rw [rd_P]
  rfl

/-- a line with the same number or the next -/
def OneP (x y : LnP) : Prop := (y.1 = x.1 ∨ y.1 = x.1 + 1) ∧ y.2.2 = x.2.2 ∧ (x.2.2 = 0 → x.2.1.no = (x.1 : Int) ∧ y.2.1 = withNo x.2.1 (y.1 : Int))
def SkipP (n : LnP) : Prop := n.2.2 = 0 ∧ (n.2.1.kind = 0 ∨ n.2.1.kind = 3)
inductive Ins : List LnP → List LnP → Prop
  | nil : Ins [] []
  | cons {x y : LnP} {l m : List LnP} : OneP x y → Ins l m → Ins (x :: l) (y :: m)
  | skip {n : LnP} {l m : List LnP} : SkipP n → Ins l m → Ins l (n :: m)
def OneD (x y : LineD) : Prop := ∃ k : Int, y = withNo x k ∧ (k = x.no ∨ k = x.no + 1)
inductive InsD : List LineD → List LineD → Prop
  | nil : InsD [] []
  | cons {x y : LineD} {l m : List LineD} : OneD x y → InsD l m → InsD (x :: l) (y :: m)
  | skip {n : LineD} {l m : List LineD} : (n.kind = 0 ∨ n.kind = 3) → InsD l m → InsD l (n :: m)
theorem ins_rd {l m : List LnP} (h : Ins l m) : ((rdP l).2 = none → (rdP m).2 = none ∧ InsD (rdP l).1 (rdP m).1) ∧ (∀ no c, (rdP l).2 = some (no, c) → ∃ no', (rdP m).2 = some (no', c) ∧ (no' = no ∨ no' = no + 1)) := by
  induction h with
  | nil => exact ⟨fun _ => ⟨rfl, .nil⟩, fun no c h => (by cases h)⟩
  | @cons x y l m h1 _ ih =>
    obtain ⟨g1, g2, g3⟩ := h1
    rw [rdP, rdP]
    by_cases hx : x.2.2 = 0
    · rw [if_pos hx, if_pos (g2.trans hx)]
      obtain ⟨e1, e2⟩ := g3 hx
      refine ⟨fun h => ?_, ih.2⟩
      obtain ⟨i1, i2⟩ := ih.1 h
      refine ⟨i1, .cons ⟨_, e2, ?_⟩ i2⟩
      rw [e1]
      omega
    · rw [if_neg hx, if_neg (by rw [g2]; exact hx)]
      refine ⟨fun h => (by cases h), fun no c h => ?_⟩
      obtain ⟨rfl, rfl⟩ : x.1 = no ∧ x.2.2 = c := by
        have := Option.some.inj h
        exact ⟨congrArg Prod.fst this, congrArg Prod.snd this⟩
      exact ⟨y.1, by rw [g2], g1⟩
  | @skip n l m h1 _ ih =>
    rw [show rdP (n :: m) = (n.2.1 :: (rdP m).1, (rdP m).2) by rw [rdP, if_pos h1.1]]
    exact ⟨fun h => ⟨(ih.1 h).1, .skip h1.2 (ih.1 h).2⟩, ih.2⟩

def wl (r : RowD) (k : Int) : RowD := { r with line := k }
theorem cell_wl (a : Nat) (f : List UInt8) (r : RowD) (k : Int) : cellP a f (wl r k) = (wl (cellP a f r).1 k, (cellP a f r).2) := by
  unfold cellP wl
  (repeat' split) <;> simp_all
theorem fold_wl (fs : List (List UInt8)) (k : Int) : ∀ (l : List Nat) (r : RowD), (foldC fs l (wl r k)).2 = (foldC fs l r).2 ∧ ((foldC fs l r).2 = 0 → (foldC fs l (wl r k)).1 = wl (foldC fs l r).1 k) ∧ ((foldC fs l r).2 ≠ 0 → (foldC fs l (wl r k)).1 = (foldC fs l r).1)
  | [], r => ⟨rfl, fun _ => rfl, fun h => absurd rfl h⟩
  | a :: l, r => by
    unfold foldC
    rw [cell_wl]
    simp only
    split
    · exact fold_wl fs k l _
    · rename_i h
      exact ⟨rfl, fun e => absurd e h, fun _ => rfl⟩
theorem scan_wl (d : LineD) (k : Int) : (scanR (withNo d k)).2 = (scanR d).2 ∧ ((scanR d).2 = 0 → (scanR (withNo d k)).1 = wl (scanR d).1 k) ∧ ((scanR d).2 ≠ 0 → (scanR (withNo d k)).1 = (scanR d).1) := by
  unfold scanR
  show (if d.kind = 2 then (zeroR, (33 : Int)) else if d.kind ≠ 1 ∨ d.fields.length ≠ 15 then (zeroR, 60) else foldC d.fields cellsL { zeroR with line := k }).2 = _ ∧ _ ∧ _
  by_cases h2 : d.kind = 2
  · rw [if_pos h2, if_pos h2, if_pos (show (withNo d k).kind = 2 from h2)]
    exact ⟨rfl, fun h => absurd h (by decide), fun _ => rfl⟩
  · rw [if_neg h2, if_neg h2, if_neg (show ¬ (withNo d k).kind = 2 from h2)]
    by_cases h1 : d.kind ≠ 1 ∨ d.fields.length ≠ 15
    · rw [if_pos h1, if_pos h1, if_pos (show (withNo d k).kind ≠ 1 ∨ (withNo d k).fields.length ≠ 15 from h1)]
      exact ⟨rfl, fun h => absurd h (by decide), fun _ => rfl⟩
    · rw [if_neg h1, if_neg h1, if_neg (show ¬ ((withNo d k).kind ≠ 1 ∨ (withNo d k).fields.length ≠ 15) from h1)]
      exact fold_wl d.fields k cellsL { zeroR with line := d.no }
theorem scan_namew (d : LineD) (k : Int) : (scanR (withNo d k)).1.name = (scanR d).1.name := by
  obtain ⟨_, h1, h2⟩ := scan_wl d k
  by_cases h : (scanR d).2 = 0
  · rw [h1 h]; rfl
  · rw [h2 h]
theorem which_wl (d : LineD) (k : Int) : whichR (withNo d k) = whichR d := by
  unfold whichR
  rw [scan_namew]
theorem plain_wl (d : LineD) (k : Int) (h : (scanR d).2 = 0) : plainR (withNo d k) = wl (plainR d) k := by
  unfold plainR
  rw [scan_namew, (scan_wl d k).2.1 h]
  rfl
theorem plain_name (d : LineD) (k : Int) : (plainR (withNo d k)).name = (plainR d).name := by
  show (halfP (scanR (withNo d k)).1.name).1 = (halfP (scanR d).1.name).1
  rw [scan_namew]
theorem plain_first (d : LineD) (k : Int) : (plainR (withNo d k)).first = (plainR d).first := by
  show (scanR (withNo d k)).1.first = (scanR d).1.first
  obtain ⟨_, h1, h2⟩ := scan_wl d k
  by_cases h : (scanR d).2 = 0
  · rw [h1 h]; rfl
  · rw [h2 h]

/-- a row with the same line or the next -/
def OneR (x y : RowD) : Prop := ∃ k : Int, y = wl x k ∧ (k = x.line ∨ k = x.line + 1)
def HeldRel : Option (LineD × RowD) → Option (LineD × RowD) → Prop
  | none, none => True
  | some x, some y => OneD x.1 y.1 ∧ OneR x.2 y.2
  | _, _ => False
structure WalkRel (s t : WalkD) : Prop where
  above : t.above = s.above
  held : HeldRel s.held t.held
theorem WalkRel.k {s t : WalkD} (h : WalkRel s t) : heldK t = heldK s := by
  have := h.held
  unfold heldK
  cases hs : s.held <;> cases ht : t.held <;> rw [hs, ht] at this <;> first | rfl | exact this.elim
theorem WalkRel.row {s t : WalkD} (h : WalkRel s t) : OneR (heldRow s) (heldRow t) := by
  have := h.held
  unfold heldRow
  cases hs : s.held <;> cases ht : t.held <;> rw [hs, ht] at this
  · exact ⟨0, rfl, .inl rfl⟩
  · exact this.elim
  · exact this.elim
  · exact this.2
theorem WalkRel.fields {s t : WalkD} (h : WalkRel s t) : (heldL t).fields = (heldL s).fields := by
  have hh := h.held
  unfold heldL
  revert hh
  cases s.held with
  | none =>
    cases t.held with
    | none => intro _; rfl
    | some y => intro hh; exact hh.elim
  | some x =>
    cases t.held with
    | none => intro hh; exact hh.elim
    | some y =>
      intro hh
      obtain ⟨k, e, _⟩ := hh.1
      show y.1.fields = x.1.fields
      rw [e]
      rfl
theorem OneR.name {x y : RowD} (h : OneR x y) : y.name = x.name := by obtain ⟨k, rfl, _⟩ := h; rfl
theorem step_same {s t : WalkD} (h : WalkRel s t) (d : LineD) (k : Int) : ∀ j, stepE t (withNo d k) j = stepE s d j
  | 0 => (scan_wl d k).1
  | 1 => by
    unfold stepE
    rw [h.k, which_wl, plain_name, h.row.name]
    rfl
  | 2 => by
    unfold stepE
    rw [plain_first, h.above]
    rfl
  | j + 3 => by
    unfold stepE
    rw [which_wl, h.fields]
    rfl
theorem ask_same {s t : WalkD} (h : WalkRel s t) (d : LineD) (k : Int) : askE t (withNo d k) = askE s d := by
  unfold askE
  rw [step_same h d k, step_same h d k, step_same h d k, step_same h d k]

def TellRel (x y : RowD × Int) : Prop := y.2 = x.2 ∧ OneR x.1 y.1
inductive All2 {α : Type} (R : α → α → Prop) : List α → List α → Prop
  | nil : All2 R [] []
  | cons {x y : α} {l m : List α} : R x y → All2 R l m → All2 R (x :: l) (y :: m)
theorem All2.app {α : Type} {R : α → α → Prop} {a b c d : List α} (h : All2 R a b) (k : All2 R c d) : All2 R (a ++ c) (b ++ d) := by
  induction h with
  | nil => exact k
  | cons h1 _ ih => exact .cons h1 ih
theorem step_rel {s t : WalkD} (h : WalkRel s t) {d d' : LineD} (hd : OneD d d') : All2 TellRel (stepR s d).1 (stepR t d').1 ∧ WalkRel (stepR s d).2 (stepR t d').2 := by
  obtain ⟨k, rfl, hk⟩ := hd
  unfold stepR
  rw [ask_same h, which_wl]
  by_cases h0 : d.kind = 0 ∨ d.kind = 3
  · rw [if_pos h0, if_pos (show (withNo d k).kind = 0 ∨ (withNo d k).kind = 3 from h0)]
    exact ⟨.nil, h⟩
  rw [if_neg h0, if_neg (show ¬ ((withNo d k).kind = 0 ∨ (withNo d k).kind = 3) from h0)]
  by_cases ha : askE s d ≠ 0
  · rw [if_pos ha, if_pos ha]
    exact ⟨.cons ⟨rfl, k, rfl, hk⟩ .nil, h⟩
  rw [if_neg ha, if_neg ha]
  have hz : (scanR d).2 = 0 := by
    have ha' : askE s d = 0 := by simpa using ha
    unfold askE at ha'
    split at ha'
    · exact absurd ha' (by assumption)
    · rename_i e; simpa [stepE] using e
  have hline : (plainR d).line = d.no := by
    show (scanR d).1.line = d.no
    have := (scan_wl d d.no).2.1 hz
    have e : withNo d d.no = d := rfl
    rw [e] at this
    rw [this]; rfl
  rw [plain_wl d k hz]
  have hP : OneR (plainR d) (wl (plainR d) k) := ⟨k, rfl, by rw [hline]; exact hk⟩
  by_cases h1 : whichR d = 1
  · rw [if_pos h1, if_pos h1]
    exact ⟨.nil, rfl, ⟨k, rfl, hk⟩, hP⟩
  rw [if_neg h1, if_neg h1]
  by_cases h2 : whichR d = 2
  · rw [if_pos h2, if_pos h2]
    obtain ⟨k2, e2, hk2⟩ := h.row
    refine ⟨.cons ⟨rfl, k2, ?_, hk2⟩ .nil, rfl, trivial⟩
    rw [e2]; rfl
  · rw [if_neg h2, if_neg h2]
    exact ⟨.cons ⟨rfl, hP⟩ .nil, rfl, h.held⟩
theorem each_rel {l m : List LineD} (h : InsD l m) : ∀ {s t : WalkD}, WalkRel s t → All2 TellRel (eachR s l) (eachR t m) := by
  induction h with
  | nil =>
    intro s t hw
    have := hw.held
    unfold eachR lastR
    cases hs : s.held <;> cases ht : t.held <;> rw [hs, ht] at this
    · exact .nil
    · exact this.elim
    · exact this.elim
    · obtain ⟨k, e, hk⟩ := this.1
      refine .cons ⟨rfl, k, ?_, hk⟩ .nil
      simp only [e]
      rfl
  | cons h1 _ ih =>
    intro s t hw
    obtain ⟨a, b⟩ := step_rel hw h1
    exact a.app (ih b)
  | @skip n l m h1 _ ih =>
    intro s t hw
    have e : stepR t n = ([], t) := by unfold stepR; rw [if_pos h1]
    rw [show eachR t (n :: m) = (stepR t n).1 ++ eachR (stepR t n).2 m from rfl, e]
    exact ih hw
theorem tell_rel {l m : List (RowD × Int)} (h : All2 TellRel l m) : ((tellR l).2 = none → (tellR m).2 = none) ∧ All2 OneR (tellR l).1 (tellR m).1 ∧ (∀ no c, (tellR l).2 = some (no, c) → ∃ no', (tellR m).2 = some (no', c) ∧ (no' = no ∨ no' = no + 1)) := by
  induction h with
  | nil => exact ⟨fun _ => rfl, .nil, fun no c h => by cases h⟩
  | @cons x y l m h1 _ ih =>
    obtain ⟨e, k, hy, hk⟩ := h1
    rw [tellR, tellR, e]
    by_cases hx : x.2 = 0
    · rw [if_pos hx, if_pos hx]
      exact ⟨ih.1, .cons ⟨k, hy, hk⟩ ih.2.1, ih.2.2⟩
    · rw [if_neg hx, if_neg hx]
      refine ⟨fun h => (by cases h), .nil, fun no c h => ?_⟩
      obtain ⟨rfl, rfl⟩ : x.1.line = no ∧ x.2 = c := by
        have := Option.some.inj h
        exact ⟨congrArg Prod.fst this, congrArg Prod.snd this⟩
      exact ⟨y.1.line, rfl, by rw [hy]; exact hk⟩
theorem ins_rows {l m : List LnP} (h : Ins l m) : ((rowsP l).2 = none → (rowsP m).2 = none ∧ All2 OneR (rowsP l).1 (rowsP m).1) ∧ (∀ no c, (rowsP l).2 = some (no, c) → ∃ no', (rowsP m).2 = some (no', c) ∧ (no' = no ∨ no' = no + 1)) := by
  obtain ⟨h1, h2⟩ := ins_rd h
  unfold rowsP
  cases hl : (rdP l).2 with
  | none =>
    obtain ⟨g1, g2⟩ := h1 hl
    rw [g1]
    simp only
    have := tell_rel (each_rel g2 (s := startW) (t := startW) ⟨rfl, trivial⟩)
    exact ⟨fun h => ⟨this.1 h, this.2.1⟩, this.2.2⟩
  | some x =>
    obtain ⟨no, c⟩ := x
    obtain ⟨no', e, hn⟩ := h2 no c hl
    rw [e]
    simp only
    refine ⟨fun h => (by cases h), fun n' c' h => ?_⟩
    obtain ⟨rfl, rfl⟩ : (no : Int) = n' ∧ c = c' := by
      have := Option.some.inj h
      exact ⟨congrArg Prod.fst this, congrArg Prod.snd this⟩
    exact ⟨_, rfl, by omega⟩
end Go.Proofs.YthjnkagepooeiaaGreatDoor

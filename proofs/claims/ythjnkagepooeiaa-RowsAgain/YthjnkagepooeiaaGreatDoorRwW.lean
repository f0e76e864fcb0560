/-
  The walk over the lines: what its steps ask of a line.
-/
import Derived.Test.YthjnkagepooeiaaGreatDoorRwH
namespace Go.Proofs.YthjnkagepooeiaaGreatDoor
open Go.RowKit Go.PlainAid Go.Lib Go.PHexM Go.Shelf
set_option linter.unusedVariables false
set_option linter.unusedSimpArgs false

/-- a block with just these cells -/
def Blk (w : World) (b : Nat) (l : List Value) (T : TypeId) : Prop := w.heap[b]? = some (.cells l.toArray T (0, 0))
theorem Blk.lt {w : World} {b : Nat} {l : List Value} {T : TypeId} (h : Blk w b l T) : b < w.heap.size := (Array.getElem?_eq_some_iff.1 h).1
theorem Blk.below {w w' : World} {b : Nat} {l : List Value} {T : TypeId} (h : Blk w b l T) (hb : Below w.heap.size w w') : Blk w' b l T := (hb.block b h.lt).trans h
theorem Blk.but {w w' : World} {b c : Nat} {l : List Value} {T : TypeId} (h : Blk w b l T) (hb : But c w w') (hc : b ≠ c) : Blk w' b l T := (hb.block b h.lt hc).trans h
theorem Blk.cell {w : World} {b : Nat} {l : List Value} {T : TypeId} (h : Blk w b l T) {j : Nat} {v : Value} (hj : l[j]? = some v) : w.cell? ⟨b, j, none⟩ = some v := by
  have h' : w.heap[b]? = _ := h
  simp only [World.cell?, h']
  simpa using hj
theorem Blk.frozen {w : World} {b : Nat} {l : List Value} {T : TypeId} (h : Blk w b l T) (j : Nat) : w.frozen? ⟨b, j, none⟩ = false := by
  have h' : w.heap[b]? = _ := h
  simp [World.frozen?, h']
theorem Blk.set {w : World} {b : Nat} {l : List Value} {T : TypeId} (h : Blk w b l T) (j : Nat) (v : Value) {l' : List Value} (hl : l.set j v = l') : Blk (w.setCell ⟨b, j, none⟩ v) b l' T := by
  show (w.setCell ⟨b, j, none⟩ v).heap[b]? = _
  rw [setCell_eq_setRow w b j _ _ _ v h, setRow_heap w b _ _ _ _ h, ← hl]
  simp
theorem Blk.other {w : World} {b : Nat} {l : List Value} {T : TypeId} (h : Blk w b l T) {c : Nat} (hc : b ≠ c) (j : Nat) (v : Value) : Blk (w.setCell ⟨c, j, none⟩ v) b l T := (Below.heap_setCell _ _ _ _ hc).trans h
theorem Blk.alloc {w : World} {b : Nat} {l : List Value} {T : TypeId} (h : Blk w b l T) (o : Obj) : Blk (w.alloc o) b l T := (Below.heap_alloc _ _ _ h.lt).trans h
theorem Blk.new (w : World) (l : List Value) (T : TypeId) : Blk (w.alloc (.cells l.toArray T)) w.heap.size l T := heap_alloc_new w _
theorem Blk.drewN {w : World} {b : Nat} {l : List Value} {T : TypeId} (h : Blk w b l T) (n : Nat) : Blk (w.drewN n) b l T := h
theorem But.alloc {b : Nat} (w : World) (o : Obj) : But b w (w.alloc o) := But.of_below ((Below.refl _ w).alloc (Nat.le_refl _) _)

abbrev entC (d : LineD) (fv : Value) (r : RowD) (k : Int) : List Value := [.int .i64 d.no, .int .u8 d.kind, .string (S d.name), fv, .string (S d.note), .int .i64 r.line, .int .i32 r.first, .int .i32 r.last, .string (S r.name), .string (S r.cat), .int .u8 r.comb, .int .u8 r.cls, .int .i32 r.twin, .bool r.mir, .int .u8 k]
abbrev walkC (a : Int) (d : LineD) (fv : Value) (r : RowD) (k : Int) : List Value := [.int .i32 a, .int .i64 d.no, .int .u8 d.kind, .string (S d.name), fv, .string (S d.note), .int .i64 r.line, .int .i32 r.first, .int .i32 r.last, .string (S r.name), .string (S r.cat), .int .u8 r.comb, .int .u8 r.cls, .int .i32 r.twin, .bool r.mir, .int .u8 k]

theorem askRising_any (wb eb : Nat) (a : Int) (d d' : LineD) (fv fv' : Value) (r r' : RowD) (k k' : Int) (w : World) (hw : Blk w wb (walkC a d' fv' r' k') 135) (he : Blk w eb (entC d fv r k) 133) :
    Calls Tryz.prog 71 #[.pointer (some ⟨wb, 0, none⟩), .pointer (some ⟨eb, 0, none⟩)] w fun e w' => e = .returned (.int .i64 (if r.first ≤ a then 62 else 0)) ∧ Below w.heap.size w w' := by
  have c0 := hw.cell (j := 0) rfl
  have c6 := he.cell (j := 6) rfl
  clear hw he
  by_cases h : r.first ≤ a
  · rw [if_pos h]
    go_enter Tryz.func71, Tryz.ntmps71
    go_wp2
    go_quiet (fail)
    go_wp2
    go_ret
    exact ⟨rfl, below_drewN (Below.refl _ _) _⟩
  · rw [if_neg h]
    go_enter Tryz.func71, Tryz.ntmps71
    go_wp2
    go_quiet (fail)
    go_wp2
    go_ret
    exact ⟨rfl, below_drewN (Below.refl _ _) _⟩

def nameE (b1 b2 b3 : Bool) : Int := if (b1 != b2 || (b1 && !b3)) = true then 61 else 0
theorem askName_any (wb eb : Nat) (a : Int) (d d' : LineD) (fv fv' : Value) (r r' : RowD) (k k' : Int) (w : World) (hw : Blk w wb (walkC a d' fv' r' k') 135) (he : Blk w eb (entC d fv r k) 133) :
    Calls Tryz.prog 70 #[.pointer (some ⟨wb, 0, none⟩), .pointer (some ⟨eb, 0, none⟩)] w fun e w' => e = .returned (.int .i64 (nameE (k' == 1) (k == 2) (r.name == r'.name))) ∧ Below w.heap.size w w' := by
  have c9 := hw.cell (j := 9) rfl
  have c15 := hw.cell (j := 15) rfl
  have c8 := he.cell (j := 8) rfl
  have c14 := he.cell (j := 14) rfl
  clear hw he
  obtain ⟨b1, hb1⟩ : ∃ b1, (k' == 1) = b1 := ⟨_, rfl⟩
  obtain ⟨b2, hb2⟩ : ∃ b2, (k == 2) = b2 := ⟨_, rfl⟩
  obtain ⟨b3, hb3⟩ : ∃ b3, (r.name == r'.name) = b3 := ⟨_, rfl⟩
  rw [hb1, hb2, hb3]
  cases b1 <;> cases b2 <;> cases b3
  all_goals simp only [nameE, Bool.not_true, Bool.not_false, Bool.and_true, Bool.and_false, Bool.or_true, Bool.or_false, Bool.true_and, Bool.false_and, Bool.true_or, Bool.false_or, bne_self_eq_false, Bool.bne_true, Bool.bne_false, Bool.true_bne, Bool.false_bne, if_true, Bool.false_eq_true, if_false]
  all_goals (
    go_enter Tryz.func70, Tryz.ntmps70
    go_wp2
    go_quiet (fail)
    go_wp2
    go_quiet (fail)
    go_wp2
    go_ret
    exact ⟨rfl, below_drewN (below_drewN (Below.refl _ _) _) _⟩)
end Go.Proofs.YthjnkagepooeiaaGreatDoor

/-
  PointsOneForm: what memory the law's lists and maps have beside one another.
-/
import Derived.Test.YtebppdcnfbflkaaPSameB
import Derived.Test.YtebppdcnfbflkaaPLenB
import Derived.Test.YtebppdcnfbflkaaPPutB
import Derived.Test.YtebppdcnfbflkaaPFormM
import Derived.Test.YtebppdcnfbflkaaPLives
import Derived.Test.YtebppdcnfbflkaaPZb
namespace Go.Proofs.Ytebppdcnfbflkaa
open Go.RowKit Go.PlainAid Go.Lib Go.PRow Go.Shelf Go.Seq4 VB
set_option linter.unusedVariables false

theorem blk_some {v : Value} {W : World} {B : Nat} {ps : List (Pc Bool)} (h : RowP W B v ps) {j : Nat} (hj : blk v = some j) : B ≤ j ∧ ∃ cur, W.heap[j]? = some (.cells cur 98 (0, 0)) := by
  rcases h.2 with ⟨a, rfl, hn⟩ | ⟨g', cap, cur, rfl, hb, hh, hc, hm, hs, ht⟩
  · rw [blk_zero] at hj; cases hj
  · by_cases hc0 : cap = 0
    · subst hc0; rw [blk_zero] at hj; cases hj
    · rw [blk_pos (by omega)] at hj
      obtain rfl := Option.some.inj hj
      exact ⟨hb, cur, hh⟩
/-- a list of numbers, behind a call that changed a map -/
theorem int_moved {W W' : World} {b B base k : Nat} {u u' v : Value} {ps : List (Pc Bool)} {xs : List Value} (h : W.ownsRow base 3 1 v k xs) (hm : IsMap W b u) (hr : RowP W B u ps) (mv : Moved W W' b u u') : W'.ownsRow base 3 1 v k xs := by
  refine ⟨h.1, h.2.imp id ?_⟩
  rintro ⟨g, cap, cur, rfl, hb, hh, hrest⟩
  refine ⟨g, cap, cur, rfl, hb, ?_, hrest⟩
  refine (mv.2.1.block g (Array.getElem?_eq_some_iff.1 hh).1 ?_).trans hh
  have hm' : W.heap[b]? = _ := hm
  rintro (rfl | e)
  · rw [hm'] at hh; cases hh
  · obtain ⟨_, cur', hc'⟩ := blk_some hr e
    rw [hc'] at hh; cases hh
theorem int_below {W W' : World} {base k : Nat} {v : Value} {xs : List Value} (h : W.ownsRow base 3 1 v k xs) (hb : Below W.heap.size W W') : W'.ownsRow base 3 1 v k xs := by
  refine ⟨h.1, h.2.imp id ?_⟩
  rintro ⟨g, cap, cur, rfl, hb', hh, hrest⟩
  exact ⟨g, cap, cur, rfl, hb', (hb.block g (Array.getElem?_eq_some_iff.1 hh).1).trans hh, hrest⟩
/-- a block of another type, behind an append to a list of numbers -/
theorem other_kept {W W' : World} {base k : Nat} {v : Value} {xs : List Value} (h : W.ownsRow base 3 1 v k xs) (hg : W.grownBy W' v.ownBlock) {j : Nat} {c : Array Value} {T : TypeId} {fz : Nat × Nat} (hj : W.heap[j]? = some (.cells c T fz)) (hT : T ≠ 3) : W'.heap[j]? = W.heap[j]? := by
  refine hg.block j (Array.getElem?_eq_some_iff.1 hj).1 ?_
  intro e
  rcases h.2 with ⟨rfl, _⟩ | ⟨g, cap, cur, rfl, hb, hh, hrest⟩
  · cases e
  · have : j = g := Option.some.inj e
    subst this
    rw [hj] at hh
    injection hh with hh
    injection hh with h1 h2 h3
    exact hT h2
theorem map_kept {W W' : World} {base k b : Nat} {v u : Value} {xs : List Value} (h : W.ownsRow base 3 1 v k xs) (hg : W.grownBy W' v.ownBlock) (hm : IsMap W b u) : IsMap W' b u :=
  (other_kept h hg (show W.heap[b]? = _ from hm) (by decide)).trans hm
theorem rowP_kept {W W' : World} {base k B : Nat} {v u : Value} {xs : List Value} {ps : List (Pc Bool)} (h : W.ownsRow base 3 1 v k xs) (hg : W.grownBy W' v.ownBlock) (hr : RowP W B u ps) : RowP W' B u ps :=
  hr.kept fun g hgk => by
    obtain ⟨_, cur, hc⟩ := blk_some hr hgk
    exact other_kept h hg hc (by decide)
theorem Chg.step {S T : Nat → Prop} {a w w' : World} (h : Chg S a w) (k : Chg T w w') (hT : ∀ j, T j → S j ∨ a.heap.size ≤ j) : Chg S a w' :=
  ⟨k.os.trans h.os, k.tape.trans h.tape, k.output.trans h.output, Nat.le_trans h.size k.size, fun j hj hS => (k.block j (Nat.lt_of_lt_of_le hj h.size) (fun t => by rcases hT j t with h' | h'; exact hS h'; omega)).trans (h.block j hj hS)⟩
theorem Chg.refl (S : Nat → Prop) (a : World) : Chg S a a := ⟨rfl, rfl, rfl, Nat.le_refl _, fun _ _ _ => rfl⟩
theorem Chg.grown {S : Nat → Prop} {a w w' : World} {base k : Nat} {v : Value} {xs : List Value} (h : Chg S a w) (ho : w.ownsRow base 3 1 v k xs) (hb : a.heap.size ≤ base) (hg : w.grownBy w' v.ownBlock) : Chg S a w' :=
  ⟨hg.os.trans h.os, hg.tape.trans h.tape, hg.output.trans h.output, Nat.le_trans h.size hg.size, fun j hj hS => (hg.block j (Nat.lt_of_lt_of_le hj h.size) (fun e => by
    rcases ho.2 with ⟨rfl, _⟩ | ⟨g, cap, cur, rfl, hb', hh, hrest⟩
    · cases e
    · have : j = g := Option.some.inj e
      omega)).trans (h.block j hj hS)⟩
theorem eqv_iff (a b : Bool) : eqv a b = true ↔ a = b := by cases a <;> cases b <;> decide
/-- a list of ranges that came in -/
def ReadsG (w : World) (a : Option Addr) (L : List (Int × Int)) : Prop := ∀ (i : Nat) (lo hi : Int), L[i]? = some (lo, hi) → ∃ g off, a = some ⟨g, off, none⟩ ∧ w.cell? ⟨g, off + i * 2, none⟩ = some (.int .i32 lo) ∧ w.cell? ⟨g, off + i * 2 + 1, none⟩ = some (.int .i32 hi)
theorem ReadsG.below {w W : World} {a : Option Addr} {L : List (Int × Int)} (h : ReadsG w a L) (hb : Below w.heap.size w W) : ReadsG W a L := fun i lo hi e => by
  obtain ⟨g, off, rfl, h1, h2⟩ := h i lo hi e
  exact ⟨g, off, rfl, (hb.cell (World.block_lt_of_cell? _ _ h1)).trans h1, (hb.cell (World.block_lt_of_cell? _ _ h2)).trans h2⟩
/-- a list of truths that came in -/
def ReadsT (w : World) (a : Option Addr) (L : List Bool) : Prop := ∀ (i : Nat) (b : Bool), L[i]? = some b → ∃ g off, a = some ⟨g, off, none⟩ ∧ w.cell? ⟨g, off + i, none⟩ = some (.bool b)
theorem ReadsT.below {w W : World} {a : Option Addr} {L : List Bool} (h : ReadsT w a L) (hb : Below w.heap.size w W) : ReadsT W a L := fun i b e => by
  obtain ⟨g, off, rfl, h1⟩ := h i b e
  exact ⟨g, off, rfl, (hb.cell (World.block_lt_of_cell? _ _ h1)).trans h1⟩
/-- in which sets the first fifteen operations of 'Put(l[i], i < len(val) && val[i])' may be done -/
def formDs : List Nat := [0, 1].flatMap fun a => [0, 2, 4, 6, 14, 30].flatMap fun b => [0, 32, 64, 96, 192, 224, 480, 992, 2016, 3040, 4064, 8160, 16352, 32736].map fun c => a + b + c
/-- the piece of a place -/
def pcAt (L : List (Int × Int)) (vl : List Bool) (k : Nat) : Pc Bool := ⟨(L.getD k (0, 0)).1, (L.getD k (0, 0)).2, vl.getD k false⟩
/-- how Put ends, in one form -/
theorem put_any (b : Nat) (v : Value) (B : Nat) (ps : List (Pc Bool)) (o : OkP ps) (lo hi : Int) (x : Bool) (w : World) (h : IsMap w b v) (hB : B ≤ w.heap.size) (hr : RowP w B v ps) :
    Calls Try.prog 15 #[(.pointer (some ⟨b, 0, none⟩)), .agg #[.int .i32 lo, .int .i32 hi], .bool x] w fun e w' => ∃ z : Int, e = .returned (.int .i64 z) ∧
      ((z = 0 ∧ mayB lo hi = true ∧ (¬ frI ps lo < upI ps hi) ∧ ∃ v', RowP w' B v' (repP ps lo hi [⟨lo, hi, x⟩]) ∧ Moved w w' b v v') ∨ (¬ z = 0 ∧ Below w.heap.size w w')) := by
  cases hm : mayB lo hi with
  | false => exact (put_no b v lo hi hm x w h).mono fun e w' ⟨h1, h2⟩ => ⟨41, h1, .inr ⟨by decide, h2⟩⟩
  | true =>
    refine (put_may b v B ps o lo hi hm x w h hB hr).mono fun e w' hp => ?_
    unfold PutEnd at hp
    split at hp
    · exact ⟨42, hp.1, .inr ⟨by decide, hp.2⟩⟩
    · rename_i hmt
      exact ⟨0, hp.1, .inl ⟨rfl, rfl, by simpa [meetsP] using hmt, hp.2⟩⟩
end Go.Proofs.Ytebppdcnfbflkaa

/-
  A table of classes in memory; what changes it, and what such a change leaves.
-/
import Derived.Test.YthgaadjkjnibaaaGreatDoorCm
import Derived.Test.YthgaadjkjnibaaaGreatDoorPo
import Derived.Test.YthgaadjkjnibaaaGreatDoorPe
import Derived.Test.YthgaadjkjnibaaaGreatDoorPf
namespace Go.Proofs.YthgaadjkjnibaaaGreatDoor
open Go.RowKit Go.PlainAid Go.Lib Go.PHexM Go.Shelf Go.PRow
set_option linter.unusedVariables false
set_option linter.unusedSimpArgs false

theorem VC.Moved.after {w W w' : World} {b : Nat} {v v' : Value} (h : VC.Moved W w' b v v') (hb : Below w.heap.size w W) : VC.Moved w w' b v v' :=
  ⟨h.1, ⟨h.2.1.os.trans hb.os, h.2.1.tape.trans hb.tape, h.2.1.output.trans hb.output, Nat.le_trans hb.size h.2.1.size, fun k hk hS => (h.2.1.block k (Nat.lt_of_lt_of_le hk hb.size) hS).trans (hb.block k hk)⟩,
    h.2.2.imp id fun h g hg => Nat.le_trans hb.size (h g hg)⟩

/-- of which type the block of a row is -/
theorem rowV_blk {W : World} {B : Nat} {T : TypeId} {k : Nat} {v : Value} {n : Nat} {xs : List Value} (h : RowV W B T k v n xs) {g : Nat} (hg : blk v = some g) : ∃ cur, W.heap[g]? = some (.cells cur T (0, 0)) := by
  rcases h.2 with ⟨a, rfl, hn⟩ | ⟨g', cap, cur, rfl, hb, hh, hc, hm, hs, ht⟩
  · rw [blk_zero] at hg; cases hg
  · cases cap with
    | zero => rw [blk_zero] at hg; cases hg
    | succ c => cases hg; exact ⟨cur, hh⟩
abbrev tyT : List Nat := [66, 147, 126, 102, 107, 35]
/-- what a change of a table leaves: whatever is of none of its types -/
structure Keep7 (w w' : World) : Prop where
  size : w.heap.size ≤ w'.heap.size
  block : ∀ (k : Nat) (cs : Array Value) (T : TypeId), w.heap[k]? = some (.cells cs T (0, 0)) → T ∉ tyT → w'.heap[k]? = some (.cells cs T (0, 0))
theorem Keep7.refl (w : World) : Keep7 w w := ⟨Nat.le_refl _, fun _ _ _ h _ => h⟩
theorem Keep7.trans {a b c : World} (h : Keep7 a b) (h' : Keep7 b c) : Keep7 a c := ⟨Nat.le_trans h.size h'.size, fun k cs T hk hT => h'.block k cs T (h.block k cs T hk hT) hT⟩
theorem keep_below {a b : World} (h : Below a.heap.size a b) : Keep7 a b := ⟨h.size, fun k cs T hk _ => (h.block k (Array.getElem?_eq_some_iff.1 hk).1).trans hk⟩

structure TabP (W : World) (B bt bN bC : Nat) (vN vC vM : Value) (t : TabD) : Prop where
  tab : W.heap[bt]? = some (.cells #[.pointer (some ⟨bN, 0, none⟩), .pointer (some ⟨bC, 0, none⟩), vM] 66 (0, 0))
  mN : VN.IsMap W bN vN
  rN : VN.RowP W B vN t.ns
  mC : VC.IsMap W bC vC
  rC : VC.RowP W B vC t.us
  rM : VM.RowP W B vM t.ms
  hbt : B ≤ bt
  hbN : B ≤ bN
  hbC : B ≤ bC
  ok : OkT t
def TabAt (W : World) (B bt : Nat) (t : TabD) : Prop := ∃ (bN bC : Nat) (vN vC vM : Value), TabP W B bt bN bC vN vC vM t
theorem TabP.below {W W' : World} {B bt bN bC : Nat} {vN vC vM : Value} {t : TabD} (h : TabP W B bt bN bC vN vC vM t) (hb : Below W.heap.size W W') : TabP W' B bt bN bC vN vC vM t :=
  ⟨(hb.block bt (Array.getElem?_eq_some_iff.1 h.tab).1).trans h.tab, h.mN.below hb, h.rN.below hb, h.mC.below hb, h.rC.below hb, h.rM.below hb, h.hbt, h.hbN, h.hbC, h.ok⟩
theorem TabAt.below {W W' : World} {B bt : Nat} {t : TabD} (h : TabAt W B bt t) (hb : Below W.heap.size W W') : TabAt W' B bt t := by
  obtain ⟨bN, bC, vN, vC, vM, h⟩ := h
  exact ⟨bN, bC, vN, vC, vM, h.below hb⟩
theorem heap_ne {W : World} {a b : Nat} {cs cs' : Array Value} {T T' : TypeId} (h : W.heap[a]? = some (.cells cs T (0, 0))) (h' : W.heap[b]? = some (.cells cs' T' (0, 0))) (hne : T ≠ T') : a ≠ b := by
  intro e
  subst e
  rw [h] at h'
  cases h'
  exact hne rfl

/-- a naming was put -/
theorem TabP.put {W W' : World} {B bt bN bC : Nat} {vN vC vM vN' : Value} {t : TabD} {ns' : List (Pc (Int × Int))} (h : TabP W B bt bN bC vN vC vM t) (hr : VN.RowP W' B vN' ns') (hm : VN.Moved W W' bN vN vN') (ho : OkP ns') (hBW : B ≤ W.heap.size) :
    TabP W' B bt bN bC vN' vC vM { t with ns := ns' } ∧ Below B W W' ∧ Keep7 W W' := by
  have hN : W.heap[bN]? = some (.cells #[.bool true, vN] 147 (0, 0)) := h.mN
  have key : ∀ (k : Nat) (cs : Array Value) (T : TypeId), W.heap[k]? = some (.cells cs T (0, 0)) → T ≠ 147 → T ≠ 102 → W'.heap[k]? = some (.cells cs T (0, 0)) := fun k cs T hk h1 h2 => by
    refine (hm.2.1.block k (Array.getElem?_eq_some_iff.1 hk).1 ?_).trans hk
    rintro (e | e)
    · subst e; rw [hN] at hk; cases hk; exact h1 rfl
    · obtain ⟨cur, hc⟩ := rowV_blk h.rN e
      rw [hc] at hk; cases hk; exact h2 rfl
  have row : ∀ {T : TypeId} {k : Nat} {v : Value} {n : Nat} {xs : List Value}, RowV W B T k v n xs → T ≠ 147 → T ≠ 102 → RowV W' B T k v n xs := fun hv h1 h2 => hv.kept fun g hg => by
    obtain ⟨cur, hc⟩ := rowV_blk hv hg
    rw [key g cur _ hc h1 h2, hc]
  have hC : W.heap[bC]? = some (.cells #[.bool true, vC] 126 (0, 0)) := h.mC
  refine ⟨⟨key _ _ _ h.tab (by decide) (by decide), hm.1, hr, key _ _ _ hC (by decide) (by decide), row h.rC (by decide) (by decide), row h.rM (by decide) (by decide), h.hbt, h.hbN, h.hbC, ⟨ho, h.ok.2⟩⟩, ?_, hm.2.1.size, fun k cs T hk hT => key k cs T hk (fun e => hT (by rw [e]; simp)) (fun e => hT (by rw [e]; simp))⟩
  exact hm.2.1.below (Below.refl B W) hBW (fun k hk => by
    rcases hk with e | e
    · rw [e]; exact h.hbN
    · exact (RowV.lt h.rN k e).1)
/-- what the others have was laid, and a missing line was put behind -/
theorem TabP.lay {W W' : World} {B bt bN bC : Nat} {vN vC vM vC' : Value} {t : TabD} {us' : List (Pc Int)} (h : TabP W B bt bN bC vN vC vM t) (hr : VC.RowP W' B vC' us') (hm : VC.Moved W W' bC vC vC') (ho : OkP us') (hBW : B ≤ W.heap.size) :
    TabP W' B bt bN bC vN vC' vM { t with us := us' } ∧ Below B W W' ∧ Keep7 W W' := by
  have hC : W.heap[bC]? = some (.cells #[.bool true, vC] 126 (0, 0)) := h.mC
  have hN : W.heap[bN]? = some (.cells #[.bool true, vN] 147 (0, 0)) := h.mN
  have key : ∀ (k : Nat) (cs : Array Value) (T : TypeId), W.heap[k]? = some (.cells cs T (0, 0)) → T ≠ 126 → T ≠ 107 → W'.heap[k]? = some (.cells cs T (0, 0)) := fun k cs T hk h1 h2 => by
    refine (hm.2.1.block k (Array.getElem?_eq_some_iff.1 hk).1 ?_).trans hk
    rintro (e | e)
    · subst e; rw [hC] at hk; cases hk; exact h1 rfl
    · obtain ⟨cur, hc⟩ := rowV_blk h.rC e
      rw [hc] at hk; cases hk; exact h2 rfl
  have row : ∀ {T : TypeId} {k : Nat} {v : Value} {n : Nat} {xs : List Value}, RowV W B T k v n xs → T ≠ 126 → T ≠ 107 → RowV W' B T k v n xs := fun hv h1 h2 => hv.kept fun g hg => by
    obtain ⟨cur, hc⟩ := rowV_blk hv hg
    rw [key g cur _ hc h1 h2, hc]
  refine ⟨⟨key _ _ _ h.tab (by decide) (by decide), key _ _ _ hN (by decide) (by decide), row h.rN (by decide) (by decide), hm.1, hr, row h.rM (by decide) (by decide), h.hbt, h.hbN, h.hbC, ⟨h.ok.1, ho⟩⟩, ?_, hm.2.1.size, fun k cs T hk hT => key k cs T hk (fun e => hT (by rw [e]; simp)) (fun e => hT (by rw [e]; simp))⟩
  exact hm.2.1.below (Below.refl B W) hBW (fun k hk => by
    rcases hk with e | e
    · rw [e]; exact h.hbC
    · exact (RowV.lt h.rC k e).1)
theorem TabP.miss {W W' : World} {B bt bN bC : Nat} {vN vC vM vM' : Value} {t : TabD} {ms' : List (Pc Int)} (h : TabP W B bt bN bC vN vC vM t) (ht : VM.Turned W W' B vM vM' ms') (hBW : B ≤ W.heap.size) :
    TabP (W'.setCell ⟨bt, 2, none⟩ vM') B bt bN bC vN vC vM' { t with ms := ms' } ∧ Below B W (W'.setCell ⟨bt, 2, none⟩ vM') ∧ Keep7 W (W'.setCell ⟨bt, 2, none⟩ vM') := by
  have hC : W.heap[bC]? = some (.cells #[.bool true, vC] 126 (0, 0)) := h.mC
  have hN : W.heap[bN]? = some (.cells #[.bool true, vN] 147 (0, 0)) := h.mN
  have key0 : ∀ (k : Nat) (cs : Array Value) (T : TypeId), W.heap[k]? = some (.cells cs T (0, 0)) → T ≠ 35 → W'.heap[k]? = some (.cells cs T (0, 0)) := fun k cs T hk h1 => by
    refine (ht.2.1.block k (Array.getElem?_eq_some_iff.1 hk).1 ?_).trans hk
    intro e
    obtain ⟨cur, hc⟩ := rowV_blk h.rM e.symm
    rw [hc] at hk; cases hk; exact h1 rfl
  have hT' := key0 _ _ _ h.tab (by decide)
  have key : ∀ (k : Nat) (cs : Array Value) (T : TypeId), W.heap[k]? = some (.cells cs T (0, 0)) → T ≠ 35 → T ≠ 66 → (W'.setCell ⟨bt, 2, none⟩ vM').heap[k]? = some (.cells cs T (0, 0)) := fun k cs T hk h1 h2 =>
    (Below.heap_setCell _ _ _ _ (heap_ne hk h.tab h2)).trans (key0 k cs T hk h1)
  have row : ∀ {T : TypeId} {k : Nat} {v : Value} {n : Nat} {xs : List Value}, RowV W B T k v n xs → T ≠ 35 → T ≠ 66 → RowV (W'.setCell ⟨bt, 2, none⟩ vM') B T k v n xs := fun hv h1 h2 => hv.kept fun g hg => by
    obtain ⟨cur, hc⟩ := rowV_blk hv hg
    rw [key g cur _ hc h1 h2, hc]
  have htab : (W'.setCell ⟨bt, 2, none⟩ vM').heap[bt]? = some (.cells #[.pointer (some ⟨bN, 0, none⟩), .pointer (some ⟨bC, 0, none⟩), vM'] 66 (0, 0)) := by
    rw [setCell_eq_setRow W' bt 2 _ _ _ vM' hT']
    exact setRow_heap W' bt _ _ _ _ hT'
  have hrM : VM.RowP (W'.setCell ⟨bt, 2, none⟩ vM') B vM' ms' := ht.1.kept fun g hg => by
    obtain ⟨cur, hc⟩ := rowV_blk ht.1 hg
    exact Below.heap_setCell _ _ _ _ (heap_ne hc hT' (by decide))
  have hsz : W.heap.size ≤ (W'.setCell ⟨bt, 2, none⟩ vM').heap.size := by
    have := ht.2.1.size
    simp [World.setCell]; omega
  refine ⟨⟨htab, key _ _ _ hN (by decide) (by decide), row h.rN (by decide) (by decide), key _ _ _ hC (by decide) (by decide), row h.rC (by decide) (by decide), hrM, h.hbt, h.hbN, h.hbC, h.ok⟩, ?_, hsz, fun k cs T hk hT => key k cs T hk (fun e => hT (by rw [e]; simp)) (fun e => hT (by rw [e]; simp))⟩
  exact (ht.below (Below.refl B W) hBW (fun g hg => (RowV.lt h.rM g hg).1)).setCell (p := ⟨bt, 2, none⟩) h.hbt vM'
end Go.Proofs.YthgaadjkjnibaaaGreatDoor

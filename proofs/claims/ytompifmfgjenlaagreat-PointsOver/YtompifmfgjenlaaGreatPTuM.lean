/-
  Pieces with values that are turned; a piece laid behind all others.
-/
import Derived.Test.YtompifmfgjenlaaGreatPoQa
import Derived.Test.YtompifmfgjenlaaGreatPRow2
import Derived.PlainAid
import Derived.Test.YtompifmfgjenlaaGreatPoQp
namespace Go.Proofs.YtompifmfgjenlaaGreat
open Go.RowKit Go.PlainAid Go.Lib Go.PRow
set_option linter.unusedVariables false
set_option linter.unusedSimpArgs false

variable {α β γ : Type}
/-- pieces with their values turned -/
def turP (f : α → β) (ps : List (Pc α)) : List (Pc β) := ps.map fun p => ⟨p.lo, p.hi, f p.val⟩
theorem turP_ok (f : α → β) {ps : List (Pc α)} (o : OkP ps) : OkP (turP f ps) := by
  refine ⟨List.pairwise_map.2 o.1, fun p hp => ?_⟩
  obtain ⟨x, hx, rfl⟩ := List.mem_map.1 hp
  exact o.2 x hx
theorem turP_at (f : α → β) (ps : List (Pc α)) (x : Int) : atP (turP f ps) x = (atP ps x).map f := by
  induction ps with
  | nil => rfl
  | cons p ps ih =>
    show atP (⟨p.lo, p.hi, f p.val⟩ :: turP f ps) x = _
    rw [atP_cons, atP_cons, ih]
    split <;> rfl
theorem turP_app (f : α → β) (a b : List (Pc α)) : turP f (a ++ b) = turP f a ++ turP f b := by simp [turP]
theorem turP_size (f : α → β) (ps : List (Pc α)) : sizeP (turP f ps) = sizeP ps := by
  induction ps with
  | nil => rfl
  | cons p ps ih =>
    show (p.hi - p.lo + 1) + sizeP (turP f ps) = _
    rw [ih]; rfl
theorem rep_snoc {ps : List (Pc α)} (o : OkP ps) {lo hi : Int} (h1 : lo ≤ hi) (h : ∀ p ∈ ps, p.hi < lo) (wi : List (Pc α)) : repP ps lo hi wi = ps ++ wi := by
  obtain ⟨A, M, C, c⟩ := cut3 o h1
  have hM : M = [] := by
    cases M with
    | nil => rfl
    | cons p M =>
      have a := (c.hm p List.mem_cons_self).1
      have b := h p (by rw [c.eq]; simp)
      omega
  have hC : C = [] := by
    cases C with
    | nil => rfl
    | cons p C =>
      have a := c.hc p List.mem_cons_self
      have b := h p (by rw [c.eq]; simp)
      have := o.2 p (by rw [c.eq]; simp)
      omega
  subst hM hC
  have e := c.eq
  simp at e
  rw [c.rep, ← e]
  simp [aheadP, behindP]
theorem cellTu {W : World} {b k : Nat} {cs : Array Value} {T : TypeId} {v : Value} (h : W.heap[b]? = some (.cells cs T (0, 0))) (hk : cs[k]? = some v) : W.cell? ⟨b, k, none⟩ = some v := by simp [World.cell?, h, hk]
theorem rowV_blkT {W : World} {B : Nat} {T : TypeId} {k : Nat} {v : Value} {n : Nat} {xs : List Value} (h : RowV W B T k v n xs) {g : Nat} (hg : blk v = some g) : ∃ cur, W.heap[g]? = some (.cells cur T (0, 0)) := by
  rcases h.2 with ⟨a, rfl, hn⟩ | ⟨g', cap, cur, rfl, hb, hh, hc, hm, hs, ht⟩
  · rw [blk_zero] at hg; cases hg
  · cases cap with
    | zero => rw [blk_zero] at hg; cases hg
    | succ c => cases hg; exact ⟨cur, hh⟩
/-- is a number even? -/
def evB (x : Int) : Bool := decide (Int.tmod x 2 = 0)
def evS (v : Bool) : ByteArray := if v then ⟨#[101, 118, 101, 110]⟩ else ⟨#[111, 100, 100]⟩
def evI (x : Int) : ByteArray := evS (evB x)
def zeS (_ : Int) : ByteArray := ⟨#[]⟩
end Go.Proofs.YtompifmfgjenlaaGreat

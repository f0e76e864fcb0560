/-
  A range over an iterator whose loop variable is boxed: each round lays a new block for it.
-/
import Derived.Test.YtjkchpjopgpeeaaCheck
import Derived.RangeFuncNested
namespace Go.Proofs.Ytjkchpjopgpeeaa
open Go.RowKit Go.PlainAid Go.Lib

theorem rangeB {α : Type} {n : Nat} {P : Program} {g : Operand} {ps : Array Tmp} {assign body : Code} {Q : Exit → Act → World → Prop} {a : Act} {w : World}
    (h1 : 1 ≤ n) {gf : Nat} {lb : Array Value} (hg : a.eval g = .func (.func gf) #[] lb) (eg : ∀ args w, (callFunc gf args).run P w = .ok (.enter gf args) w)
    {encs : α → Array Value} {Kp : World → World → Prop} {S Sp : List α → Prop} {N : Nat} {w0 : World} (hseq : SeqStopsK Fence.wide (n - 1) P gf lb encs Kp S Sp N w0)
    (hKt : ∀ {A B C : World}, Kp A B → Kp B C → Kp A C) (hKb : ∀ (W : World) (l : Nat) (o o' : Obj), w.heap.size ≤ l → W.heap[l]? = some o → o.isCells = false → o.isWalk = false → Kp W (W.putObj l o')) (hb0 : Below w0.heap.size w0 w) (hps : ∀ x, (encs x).size = ps.size)
    (I : List α → World → Prop) (Ix : Code → List α → World → Prop) (hI : OwnFrom w.heap.size I) (hIx : ∀ c, OwnFrom w.heap.size (Ix c)) (h0 : I [] w) (blk : α → Obj) (hblk : ∀ x, (blk x).isCells = true) (a₁ : Nat → α → Act)
    (hassign : ∀ (l : Nat) (pre : List α) (x : α) (W : World) (K : Act → World → Prop), I pre W → (∀ (Bx : Nat) (W' : World), KeepsFrom w.heap.size W W' → Kp W W' → I pre W' → W'.heap[Bx]? = some (blk x) → w.heap.size ≤ Bx → K (a₁ Bx x) W') →
      assign.wpIn (Fence.wide.inRound l) (n - 1 - 1) P (Exit.then K (fun _ _ _ => False)) { tmps := (ps.zip (encs x)).foldl (fun t (p, v) => t.setIfInBounds p v) a.tmps, defers := [] } W)
    (hbody : ∀ (l : Nat) (pre : List α) (x : α) (Bx : Nat) (W : World), w.heap.size ≤ l → (∃ r, W.heap[l]? = some (.loop r)) → I pre W → W.heap[Bx]? = some (blk x) → w.heap.size ≤ Bx → pre.length < N → body.wpIn (Fence.wide.inRound l) (n - 1 - 1) P (ownPostG w.heap.size Kp I Ix (pre ++ [x]) W) (a₁ Bx x) W)
    (hdone : ∀ (D : Nat) (xs : List α) (W : World), w.heap.size ≤ D → S xs → I xs W → W.heap[D]? = some (.deferred (some [])) → Q .normal { a with defers := { target := .collected D, args := #[] } :: a.defers } W)
    (hstop : ∀ (D : Nat) (c : Code) (pre : List α) (W : World), w.heap.size ≤ D → Sp pre → Ix c pre W → W.heap[D]? = some (.deferred (some [])) → c.wpIn Fence.wide n P Q { a with defers := { target := .collected D, args := #[] } :: a.defers } W) :
    (Code.rangeFunc g ps assign body).wpIn Fence.wide n P Q a w :=
  wpIn_rangeFunc_ownH rfl h1 hg trivial eg hseq hKt hKb hb0 hps I Ix hI hIx h0 (fun x a' V => ∃ Bx, V.heap[Bx]? = some (blk x) ∧ w.heap.size ≤ Bx ∧ a' = a₁ Bx x)
    (fun x a' st A B row hx hg hr => by
        obtain ⟨Bx, h1, h2, h3⟩ := hx
        exact ⟨Bx, own_block (β := Unit) _ _ _ (hblk x) () A B row h1 hg hr, h2, h3⟩)
    (fun l pre x W K hi hK => hassign l pre x W K hi (fun Bx W' k1 k2 k3 k4 k5 => hK _ _ k1 k2 k3 ⟨Bx, k4, k5, rfl⟩))
    (fun l pre x a' W hl hr hi hA hlen => by
        obtain ⟨Bx, h1, h2, rfl⟩ := hA
        exact hbody l pre x Bx W hl hr hi h1 h2 hlen) hdone hstop

end Go.Proofs.Ytjkchpjopgpeeaa

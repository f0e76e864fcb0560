/-
  firstWrong, Check of package utf, for every text.
-/
import Derived.Test.YtkckkchnmgidgaaSpots
namespace Go.Proofs.Ytkckkchnmgidgaa
open Go.RowKit Go.PlainAid Go.Lib Go.Shelf
attribute [local go_sem] Oper.semAt_some

/-- why the byte at i is wrong; 0: it isn't, or nothing begins there -/
abbrev why (s : ByteArray) (i : Nat) : Int := whyN (s.extract i s.size)

theorem own_block {β : Type} (B b : Nat) (o : Obj) (ho : o.isCells = true) : OwnFrom B (fun (_ : β) W => W.heap[b]? = some o) :=
  fun _ _ _ _ hs hg hr => (grownBy_keeps_cells hg (fun r e => (hr r e).2) hs ho).trans hs
theorem own_pure {β : Type} (B : Nat) (p : β → Prop) : OwnFrom B (fun b (_ : World) => p b) := fun _ _ _ _ hs _ _ => hs

theorem blk_set {W : World} {b i : Nat} {cs : Array Value} {t : TypeId} {fz : Nat × Nat} (v : Value) (h : W.heap[b]? = some (.cells cs t fz)) : (W.setCell ⟨b, i, none⟩ v).heap[b]? = some (.cells (cs.setIfInBounds i v) t fz) := by
  obtain ⟨hlt, hk⟩ := Array.getElem?_eq_some_iff.1 h
  show (W.heap.modify b _)[b]? = _
  rw [Array.getElem?_eq_getElem (by rw [Array.size_modify]; exact hlt), Array.getElem_modify_self, hk]
  rfl

theorem pl_mem {s : ByteArray} {pre : List (Pl s)} {L : List Nat} (h : pre.map (·.1) = L) {p : Nat → Prop} (hp : ∀ x ∈ pre, p x.1) : ∀ i ∈ L, p i := by
  intro i hi
  rw [← h] at hi
  obtain ⟨x, hx, rfl⟩ := List.mem_map.1 hi
  exact hp x hx

/-- where the first wrong byte is, or how many bytes there are; and why -/
def checkV (s : ByteArray) (a : Nat) (c : Int) : Prop :=
  ((∀ i ∈ places s, why s i = 0) ∧ a = s.size ∧ c = 0) ∨ (∃ pre rest, places s = pre ++ a :: rest ∧ (∀ j ∈ pre, why s j = 0) ∧ why s a ≠ 0 ∧ c = why s a)

end Go.Proofs.Ytkckkchnmgidgaa

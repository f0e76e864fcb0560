/-
  Lists of classes and of bytes in memory.
-/
import Derived.Test.YtkpmcojoiijonaaWoG
namespace Go.Proofs.Ytkpmcojoiijonaa
open Go.RowKit Go.PlainAid Go.Lib

theorem wf_u8 {n : Int} (h : (Lit.int .u8 n).wf = true) : 0 ≤ n ∧ n ≤ 255 := by
  unfold Lit.wf at h
  rw [Bool.and_eq_true] at h
  have h1 := of_decide_eq_true h.1
  have h2 := of_decide_eq_true h.2
  have e1 : IntKind.u8.min = 0 := by decide
  have e2 : IntKind.u8.max = 255 := by decide
  omega
/-- a list of bytes or classes in memory, whatever its spare room -/
def ReadsB (w : World) (a : Option Addr) (zs : List Int) : Prop := ∀ k, k < zs.length → ∃ b off, a = some ⟨b, off, none⟩ ∧ w.cell? ⟨b, off + k, none⟩ = some (.int .u8 (zs.getD k 0))
def FitsB (zs : List Int) : Prop := ∀ x ∈ zs, 0 ≤ x ∧ x ≤ 255
theorem FitsB.at {zs : List Int} (h : FitsB zs) (k : Nat) : 0 ≤ zs.getD k 0 ∧ zs.getD k 0 ≤ 255 := by
  rw [List.getD_eq_getElem?_getD]
  rcases hk : zs[k]? with _ | x
  · simp
  · exact h x (List.mem_of_getElem? hk)
theorem ReadsB.below {w W : World} {a : Option Addr} {zs : List Int} (h : ReadsB w a zs) (hb : Below w.heap.size w W) : ReadsB W a zs := by
  intro k hk
  obtain ⟨b, off, h1, h2⟩ := h k hk
  exact ⟨b, off, h1, (hb.cell (p := ⟨b, off + k, none⟩) (World.block_lt_of_cell? w _ h2)).trans h2⟩
theorem ReadsB.belowN {w W : World} {a : Option Addr} {zs : List Int} (h : ReadsB w a zs) {n : Nat} (hn : n = w.heap.size) (hb : Below n w W) : ReadsB W a zs := by subst hn; exact h.below hb
theorem readsB_own {w : World} {base : Nat} {e : TypeId} {a : Option Addr} {n c : Nat} {zs : List Int} (h : w.ownsRow base e 1 (.slice a n c) n (zs.map (Value.int .u8))) : ReadsB w a zs := by
  intro k hk
  have hn : zs.length = n := by have := h.1; simpa using this
  rcases h.2 with ⟨_, h0⟩ | ⟨g, cap, cur, hv, _, hg, _⟩
  · omega
  · obtain ⟨rfl, rfl⟩ : a = some ⟨g, 0, none⟩ ∧ c = cap := by simpa using hv
    refine ⟨g, 0, rfl, ?_⟩
    rw [Nat.zero_add, h.cellAt k (by omega)]
    simp [List.getD, List.getElem?_eq_getElem hk]
end Go.Proofs.Ytkpmcojoiijonaa

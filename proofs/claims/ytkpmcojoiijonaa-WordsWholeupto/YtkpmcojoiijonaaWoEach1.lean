/-
  WordsEach: what holds within its loop.
-/
import Derived.Test.YtkpmcojoiijonaaWoR4
import Derived.Test.YtkpmcojoiijonaaWoB
namespace Go.Proofs.Ytkpmcojoiijonaa
open Go.RowKit Go.PlainAid Go.Lib Go.Shelf Go.Seq2 Go.Seq3
set_option linter.unusedVariables false

theorem weach_some (f : Nat) (x : Value) (w : World) (h : f = 40) : (binOp .eql 27 (.func (.func f) #[] #[x]) .nilFunc).run Try.prog w = .ok (.bool false) w := by subst h; kernel_rfl
/-- the boxes of the law's loop, the document's words, and the marks of the loops ahead -/
structure EB (w : World) (s : ByteArray) (most : Int) (r n : Int) (v : Value) (B3 B4 B5 Bs B7 B8 T : Nat) (Ds : List Nat) (V : World) : Prop where
  b3 : Boxed V B3 3 (.int .i64 most)
  b4 : Boxed V B4 4 (.bool false)
  b5 : Boxed V B5 24 v
  bs : Boxed V Bs 9 (.string s)
  b7 : Boxed V B7 3 (.int .i64 r)
  b8 : Boxed V B8 3 (.int .i64 n)
  row : V.ownsRow w.heap.size 30 2 v (wordsL s).length (wordCs s (wordsL s))
  ds : ∀ D ∈ Ds, D < T ∧ V.heap[D]? = some (.deferred (some []))
  below : Below w.heap.size w V
/-- what holds between two words -/
def EI (w : World) (s : ByteArray) (most : Int) (r : Int) (v : Value) (B3 B4 B5 Bs B7 B8 T : Nat) (Ds : List Nat) (pre : List (Nat × Nat)) (V : World) : Prop :=
  (r = 1 → ¬ (1 ≤ most ∧ most ≤ (pre.length : Int))) ∧ EB w s most r (pre.length : Nat) v B3 B4 B5 Bs B7 B8 T Ds V
/-- what holds where the loop is left early -/
def EX (w : World) (s : ByteArray) (most : Int) (r : Int) (v : Value) (B3 B4 B5 Bs B7 B8 T : Nat) (Ds : List Nat) (id : Nat) (c : Code) (pre : List (Nat × Nat)) (V : World) : Prop :=
  c = .exit id ∧ r = 1 ∧ most = (pre.length : Int) ∧ EB w s most r (pre.length : Nat) v B3 B4 B5 Bs B7 B8 T Ds V
theorem EB.own {w : World} {s : ByteArray} {most r n : Int} {v : Value} {B3 B4 B5 Bs B7 B8 T : Nat} {Ds : List Nat} (hT : w.heap.size ≤ T) {A B : World} {row : Option Nat} (h : EB w s most r n v B3 B4 B5 Bs B7 B8 T Ds A) (hg : A.grownBy B row) (hr : ∀ r, row = some r → T ≤ r ∧ ∃ o : Obj, A.heap[r]? = some o ∧ o.isCells = false) : EB w s most r n v B3 B4 B5 Bs B7 B8 T Ds B := by
  refine ⟨own_block (β := Unit) _ _ _ rfl () A B row h.b3 hg hr, own_block (β := Unit) _ _ _ rfl () A B row h.b4 hg hr, own_block (β := Unit) _ _ _ rfl () A B row h.b5 hg hr, own_block (β := Unit) _ _ _ rfl () A B row h.bs hg hr, own_block (β := Unit) _ _ _ rfl () A B row h.b7 hg hr, own_block (β := Unit) _ _ _ rfl () A B row h.b8 hg hr, row_grownC h.row hg (fun r e => (hr r e).2), fun D hD => ⟨(h.ds D hD).1, ?_⟩, ownFrom_below (β := Unit) (Nat.le_refl _) hT () A B row h.below hg hr⟩
  have h1 := (h.ds D hD).2
  exact (hg.block D (Array.getElem?_eq_some_iff.1 h1).1 (fun e => by have := (hr D e.symm).1; have := (h.ds D hD).1; omega)).trans h1
theorem EI_own (w : World) (s : ByteArray) (most : Int) (r : Int) (v : Value) (B3 B4 B5 Bs B7 B8 T : Nat) (Ds : List Nat) (hT : w.heap.size ≤ T) : OwnFrom T (EI w s most r v B3 B4 B5 Bs B7 B8 T Ds) :=
  fun st A B row hx hg hr => ⟨hx.1, hx.2.own hT hg hr⟩
theorem EX_own (w : World) (s : ByteArray) (most : Int) (r : Int) (v : Value) (B3 B4 B5 Bs B7 B8 T : Nat) (Ds : List Nat) (id : Nat) (hT : w.heap.size ≤ T) (c : Code) : OwnFrom T (EX w s most r v B3 B4 B5 Bs B7 B8 T Ds id c) :=
  fun st A B row hx hg hr => ⟨hx.1, hx.2.1, hx.2.2.1, hx.2.2.2.own hT hg hr⟩
theorem row_baseC {w : World} {b b' : Nat} {e : TypeId} {k : Nat} {v : Value} {n : Nat} {xs : List Value} (h : w.ownsRow b e k v n xs) (hb : b' ≤ b) : w.ownsRow b' e k v n xs := by
  refine ⟨h.1, ?_⟩
  rcases h.2 with h | ⟨g, cap, cur, h1, h2, h3⟩
  · exact .inl h
  · exact .inr ⟨g, cap, cur, h1, Nat.le_trans hb h2, h3⟩
theorem wordCs_at (s : ByteArray) : ∀ (l : List (Nat × Nat)) (i : Nat) (x : Nat × Nat), l[i]? = some x → (wordCs s l)[i * 2]? = some (.int .i64 (x.1 : Nat)) ∧ (wordCs s l)[i * 2 + 1]? = some (.string (s.extract x.1 x.2)) := by
  intro l
  induction l with
  | nil => intro i x h; simp at h
  | cons y l ih =>
    intro i x h
    cases i with
    | zero =>
      obtain rfl : y = x := by simpa using h
      exact ⟨rfl, rfl⟩
    | succ i =>
      have := ih i x (by simpa using h)
      have e1 : (i + 1) * 2 = i * 2 + 1 + 1 := by omega
      rw [e1]
      exact this
/-- the count is raised -/
theorem EB.raise {w : World} {s : ByteArray} {most r n : Int} {v : Value} {B3 B4 B5 Bs B7 B8 T : Nat} {Ds : List Nat} {V : World} (h : EB w s most r n v B3 B4 B5 Bs B7 B8 T Ds V) (m : Int) (h3 : B3 ≠ B8) (h4 : B4 ≠ B8) (h5 : B5 ≠ B8) (hs : Bs ≠ B8) (h7 : B7 ≠ B8) (hw : w.heap.size ≤ B8) : EB w s most r m v B3 B4 B5 Bs B7 B8 T Ds (V.setCell ⟨B8, 0, none⟩ (.int .i64 m)) :=
  ⟨h.b3.other h3 _, h.b4.other h4 _, h.b5.other h5 _, h.bs.other hs _, h.b7.other h7 _, h.b8.set _, h.row.kept (grownBy_setCell' _ _ _) (.inr (h.b8.not_row (by decide) h.row).symm), fun D hD => ⟨(h.ds D hD).1, (KeepsOthers.setCell V ⟨B8, 0, none⟩ (.int .i64 m)).same D _ (h.ds D hD).2 rfl⟩, h.below.setCell (p := ⟨B8, 0, none⟩) hw _⟩
/-- the next round's boxes -/
theorem EB.next {w : World} {s : ByteArray} {most r n : Int} {v : Value} {B3 B4 B5 Bs B7 B8 T : Nat} {Ds : List Nat} {V : World} (h : EB w s most r n v B3 B4 B5 Bs B7 B8 T Ds V) {D : Nat} (hD : V.heap[D]? = some (.deferred (some []))) (r' : Int) :
    EB w s most r' 0 v B3 B4 B5 Bs V.heap.size (V.heap.size + 1) (V.heap.size + 2) (D :: Ds) ((V.alloc (.cells #[.int .i64 r'] 3)).alloc (.cells #[.int .i64 0] 3)) := by
  have hl : D < V.heap.size := (Array.getElem?_eq_some_iff.1 hD).1
  have hk : ∀ k o, V.heap[k]? = some o → ((V.alloc (.cells #[.int .i64 r'] 3)).alloc (.cells #[.int .i64 0] 3)).heap[k]? = some o := fun k o h => by
    have hlt := (Array.getElem?_eq_some_iff.1 h).1
    exact (Below.heap_alloc _ _ k (by simp; omega)).trans ((Below.heap_alloc V _ k hlt).trans h)
  refine ⟨(h.b3.alloc _).alloc _, (h.b4.alloc _).alloc _, (h.b5.alloc _).alloc _, (h.bs.alloc _).alloc _, (Boxed.new V _ _).alloc _, by simpa using Boxed.new (V.alloc (.cells #[.int .i64 r'] 3)) 3 (.int .i64 0), (h.row.alloc _).alloc _, fun D' hD' => ?_, (h.below.alloc h.below.size _).alloc (by have := h.below.size; simp; omega) _⟩
  rcases List.mem_cons.1 hD' with rfl | hD'
  · exact ⟨by omega, hk _ _ hD⟩
  · have := (h.ds D' hD').2
    exact ⟨by have := (Array.getElem?_eq_some_iff.1 this).1; omega, hk _ _ this⟩
end Go.Proofs.Ytkpmcojoiijonaa

/-
  WordsWhole: what holds within its loops.
-/
import Derived.Test.YtkpmcojoiijonaaWoH1
import Derived.Test.YtkpmcojoiijonaaWoEach1
import Derived.Maps.OwnIn
namespace Go.Proofs.Ytkpmcojoiijonaa
open Go.RowKit Go.PlainAid Go.Lib Go.Shelf Go.Seq2 Go.Seq3
set_option linter.unusedVariables false

/-- the first loop: the boxes of the text, the answer, the end and the count -/
structure HB1 (w : World) (a : ByteArray) (e n : Int) (B2 B4 B5 B6 : Nat) (V : World) : Prop where
  b2 : Boxed V B2 9 (.string a)
  b4 : Boxed V B4 4 (.bool false)
  b5 : Boxed V B5 3 (.int .i64 e)
  b6 : Boxed V B6 3 (.int .i64 n)
  below : Below w.heap.size w V
def HI1 (w : World) (a : ByteArray) (B2 B4 B5 B6 : Nat) (pre : List (Nat × Nat)) (V : World) : Prop :=
  ∃ (e : Nat) (ws : List (Nat × Nat)), pre ++ ws = wordsL a ∧ GoodW a e pre.isEmpty ws ∧ HB1 w a e (pre.length : Nat) B2 B4 B5 B6 V
theorem HB1.own {w : World} {a : ByteArray} {e n : Int} {B2 B4 B5 B6 T : Nat} (hT : w.heap.size ≤ T) {A B : World} {row : Option Nat} (h : HB1 w a e n B2 B4 B5 B6 A) (hg : A.grownBy B row) (hr : ∀ r, row = some r → T ≤ r ∧ ∃ o : Obj, A.heap[r]? = some o ∧ o.isCells = false) : HB1 w a e n B2 B4 B5 B6 B :=
  ⟨own_block (β := Unit) _ _ _ rfl () A B row h.b2 hg hr, own_block (β := Unit) _ _ _ rfl () A B row h.b4 hg hr, own_block (β := Unit) _ _ _ rfl () A B row h.b5 hg hr, own_block (β := Unit) _ _ _ rfl () A B row h.b6 hg hr, ownFrom_below (β := Unit) (Nat.le_refl _) hT () A B row h.below hg hr⟩
theorem HI1_own (w : World) (a : ByteArray) (B2 B4 B5 B6 T : Nat) (hT : w.heap.size ≤ T) : OwnFrom T (HI1 w a B2 B4 B5 B6) :=
  fun st A B row hx hg hr => by
    obtain ⟨e, ws, h1, h2, h3⟩ := hx
    exact ⟨e, ws, h1, h2, h3.own hT hg hr⟩
theorem HB1.belowC {w : World} {a : ByteArray} {e n : Int} {B2 B4 B5 B6 : Nat} {A B : World} (h : HB1 w a e n B2 B4 B5 B6 A) (hb : Below A.heap.size A B) : HB1 w a e n B2 B4 B5 B6 B :=
  ⟨boxed_belowC h.b2 hb, boxed_belowC h.b4 hb, boxed_belowC h.b5 hb, boxed_belowC h.b6 hb, below2 h.below hb⟩
theorem HB1.set {w : World} {a : ByteArray} {e n : Int} {B2 B4 B5 B6 : Nat} {A : World} (h : HB1 w a e n B2 B4 B5 B6 A) (e' n' : Int) (i1 : w.heap.size ≤ B2) (i2 : B2 < B4) (i3 : B4 < B5) (i4 : B5 < B6) : HB1 w a e' n' B2 B4 B5 B6 ((A.setCell ⟨B5, 0, none⟩ (.int .i64 e')).setCell ⟨B6, 0, none⟩ (.int .i64 n')) :=
  ⟨(h.b2.other (by omega) _).other (by omega) _, (h.b4.other (by omega) _).other (by omega) _, (h.b5.set _).other (by omega) _, (h.b6.other (by omega) _).set _, (h.below.setCell (p := ⟨B5, 0, none⟩) (by show _ ≤ B5; omega) _).setCell (p := ⟨B6, 0, none⟩) (by show _ ≤ B6; omega) _⟩
abbrev txtV (l : List ByteArray) : List Value := l.map Value.string
/-- the later loops: one list grows, another one lies still -/
structure HB2 (w : World) (a : ByteArray) (n0 : Nat) (v : Value) (l : List ByteArray) (pv : Value) (pl : List ByteArray) (B2 B4 BA BP BS T : Nat) (Ds : List Nat) (V : World) : Prop where
  b2 : Boxed V B2 9 (.string a)
  b4 : Boxed V B4 4 (.bool false)
  bA : Boxed V BA 58 v
  bP : Boxed V BP 58 pv
  row : V.ownsRow n0 9 1 v l.length (txtV l)
  rP : V.ownsRow w.heap.size 9 1 pv pl.length (txtV pl)
  ap : ∀ g, pv.ownBlock = some g → g < n0
  na : ∀ g, v.ownBlock = some g → g ≠ BS
  ds : ∀ D ∈ Ds, D < T ∧ V.heap[D]? = some (.deferred (some []))
  below : Below w.heap.size w V
def HI2 (w : World) (a : ByteArray) (n0 : Nat) (l0 : List ByteArray) (s : ByteArray) (pv : Value) (pl : List ByteArray) (B2 B4 BA BP BS T : Nat) (Ds : List Nat) (pre : List (Nat × Nat)) (V : World) : Prop :=
  ∃ v, HB2 w a n0 v (l0 ++ pre.map fun x => s.extract x.1 x.2) pv pl B2 B4 BA BP BS T Ds V
theorem HB2.own {w : World} {a : ByteArray} {n0 : Nat} {v : Value} {l : List ByteArray} {pv : Value} {pl : List ByteArray} {B2 B4 BA BP BS T : Nat} {Ds : List Nat} (hT : w.heap.size ≤ T) {A B : World} {row : Option Nat} (h : HB2 w a n0 v l pv pl B2 B4 BA BP BS T Ds A) (hg : A.grownBy B row) (hr : ∀ r, row = some r → T ≤ r ∧ ∃ o : Obj, A.heap[r]? = some o ∧ o.isCells = false) : HB2 w a n0 v l pv pl B2 B4 BA BP BS T Ds B := by
  refine ⟨own_block (β := Unit) _ _ _ rfl () A B row h.b2 hg hr, own_block (β := Unit) _ _ _ rfl () A B row h.b4 hg hr, own_block (β := Unit) _ _ _ rfl () A B row h.bA hg hr, own_block (β := Unit) _ _ _ rfl () A B row h.bP hg hr, row_grownC h.row hg (fun r e => (hr r e).2), row_grownC h.rP hg (fun r e => (hr r e).2), h.ap, h.na, fun D hD => ⟨(h.ds D hD).1, ?_⟩, ownFrom_below (β := Unit) (Nat.le_refl _) hT () A B row h.below hg hr⟩
  have h1 := (h.ds D hD).2
  exact (hg.block D (Array.getElem?_eq_some_iff.1 h1).1 (fun e => by have := (hr D e.symm).1; have := (h.ds D hD).1; omega)).trans h1
theorem HI2_own (w : World) (a : ByteArray) (n0 : Nat) (l0 : List ByteArray) (s : ByteArray) (pv : Value) (pl : List ByteArray) (B2 B4 BA BP BS T : Nat) (Ds : List Nat) (hT : w.heap.size ≤ T) : OwnFrom T (HI2 w a n0 l0 s pv pl B2 B4 BA BP BS T Ds) :=
  fun st A B row hx hg hr => by
    obtain ⟨v, h⟩ := hx
    exact ⟨v, h.own hT hg hr⟩
theorem HB2.app {w : World} {a : ByteArray} {n0 : Nat} {v v' : Value} {l : List ByteArray} {pv : Value} {pl : List ByteArray} {B2 B4 BA BP BS T : Nat} {Ds : List Nat} {V w6 : World} {tx : ByteArray} {tmp : Obj} (h : HB2 w a n0 v l pv pl B2 B4 BA BP BS T Ds V) (hn : w.heap.size ≤ n0)
    (hown' : w6.ownsRow n0 9 1 v' (l.length + 1) (txtV l ++ [.string tx])) (hgrow : (V.alloc tmp).grownBy w6 v.ownBlock) (hat : v'.ownBlock = v.ownBlock ∨ v'.ownBlock = some (V.alloc tmp).heap.size) (hBS : BS < V.heap.size) (j20 : B2 < n0) (j2 : B2 ≠ BA) (j4 : B4 ≠ BA) (jP : BP ≠ BA) (jS : BS ≠ BA) (jA : w.heap.size ≤ BA) :
    HB2 w a n0 v' (l ++ [tx]) pv pl B2 B4 BA BP BS T Ds (w6.setCell ⟨BA, 0, none⟩ v') ∧ KeepsOthers V (w6.setCell ⟨BA, 0, none⟩ v') ∧ Boxed w6 BA 58 v ∧ (∀ y, Boxed V BS 9 y → Boxed (w6.setCell ⟨BA, 0, none⟩ v') BS 9 y) := by
  have hrowW := row_baseC h.row hn
  obtain ⟨u1, u2, u3, u4, u5⟩ := h.bA.appended (by decide) hrowW h.below.size jA (row_baseC hown' hn) hgrow
  have hne : pv.ownBlock = none ∨ pv.ownBlock ≠ v.ownBlock := by
    cases hp : pv.ownBlock with
    | none => exact .inl rfl
    | some g =>
      right
      intro e
      have h1 := h.ap g hp
      have h2 := (h.row.lt g e.symm).1
      omega
  have rp6 := (h.rP.alloc tmp).kept hgrow hne
  have bp6 := (h.bP.alloc tmp).kept hgrow (h.bP.not_row (by decide) hrowW)
  have str : ∀ {k : Nat} {y : Value}, Boxed V k 9 y → (∀ g, v.ownBlock = some g → g ≠ k) → Boxed w6 k 9 y := fun hb hg => (hb.alloc tmp).kept hgrow (fun e => hg _ e.symm rfl)
  refine ⟨⟨?_, ?_, u2, bp6.other jP _, ?_, rp6.kept (grownBy_setCell' _ _ _) (.inr (u1.not_row (by decide) rp6).symm), h.ap, ?_, fun D hD => ⟨(h.ds D hD).1, u4.same D _ (h.ds D hD).2 rfl⟩, h.below.trans u5⟩, u4, u1, ?_⟩
  · exact (str h.b2 (fun g e => by have := (h.row.lt g e).1; omega)).other j2 _
  · exact ((h.b4.alloc tmp).kept hgrow (h.b4.not_row (by decide) hrowW)).other j4 _
  · rw [List.length_append, show txtV (l ++ [tx]) = txtV l ++ [.string tx] by simp [txtV]]
    exact hown'.kept (grownBy_setCell' _ _ _) (.inr (u1.not_row (by decide) hown').symm)
  · intro g e
    rcases hat with hat | hat
    · rw [hat] at e; exact h.na g e
    · rw [hat] at e
      have e' : (V.alloc tmp).heap.size = g := by simpa using e
      simp at e'; omega
  · intro y hb
    exact (str hb h.na).other jS _
theorem two_alloc {V : World} (o o' : Obj) {k : Nat} {x : Obj} (h : V.heap[k]? = some x) : ((V.alloc o).alloc o').heap[k]? = some x := by
  have hlt := (Array.getElem?_eq_some_iff.1 h).1
  exact (Below.heap_alloc _ _ k (by simp; omega)).trans ((Below.heap_alloc V _ k hlt).trans h)
/-- the next loop over the same list -/
theorem HB2.move {w : World} {a : ByteArray} {n0 : Nat} {v : Value} {l : List ByteArray} {pv : Value} {pl : List ByteArray} {B2 B4 BA BP BS T : Nat} {Ds : List Nat} {V : World} (h : HB2 w a n0 v l pv pl B2 B4 BA BP BS T Ds V) (o o' : Obj) {D : Nat} (hD : V.heap[D]? = some (.deferred (some []))) :
    HB2 w a n0 v l pv pl B2 B4 BA BP (V.heap.size + 1) ((V.alloc o).alloc o').heap.size (D :: Ds) ((V.alloc o).alloc o') := by
  refine ⟨(h.b2.alloc _).alloc _, (h.b4.alloc _).alloc _, (h.bA.alloc _).alloc _, (h.bP.alloc _).alloc _, (h.row.alloc _).alloc _, (h.rP.alloc _).alloc _, h.ap, fun g e => by have := (h.row.lt g e).2; omega, ?_, (h.below.alloc h.below.size _).alloc (by have := h.below.size; simp; omega) _⟩
  intro D' hD'
  have hk : V.heap[D']? = some (.deferred (some [])) := by
    rcases List.mem_cons.1 hD' with rfl | hD'
    · exact hD
    · exact (h.ds D' hD').2
  have := (Array.getElem?_eq_some_iff.1 hk).1
  exact ⟨by simp; omega, two_alloc _ _ hk⟩
/-- the next loop over the other list -/
theorem HB2.swap {w : World} {a : ByteArray} {n0 : Nat} {v : Value} {l : List ByteArray} {B2 B4 BA BP BS T : Nat} {Ds : List Nat} {V : World} (h : HB2 w a n0 v l (.slice none 0 0) [] B2 B4 BA BP BS T Ds V) (hn : w.heap.size ≤ n0) (o o' : Obj) {D : Nat} (hD : V.heap[D]? = some (.deferred (some []))) :
    HB2 w a ((V.alloc o).alloc o').heap.size (.slice none 0 0) [] v l B2 B4 BP BA (V.heap.size + 1) ((V.alloc o).alloc o').heap.size (D :: Ds) ((V.alloc o).alloc o') := by
  have m := h.move o o' hD
  exact ⟨m.b2, m.b4, m.bP, m.bA, by simpa [txtV] using World.ownsRow_nil ((V.alloc o).alloc o') _ _ _, row_baseC m.row hn, fun g e => by have := (h.row.lt g e).2; simp; omega, fun g e => (by cases e), m.ds, m.below⟩
theorem row_someH {W : World} {base : Nat} {e : TypeId} {a : Option Addr} {n c : Nat} {xs : List Value} (h : W.ownsRow base e 1 (.slice a n c) n xs) (h0 : 0 < n) : ∃ g, a = some ⟨g, 0, none⟩ ∧ n ≤ c ∧ c ≤ 9223372036854775807 ∧ base ≤ g := by
  rcases h.2 with ⟨_, h⟩ | ⟨g', cap', cur, h, h0, _, h1, h2, _⟩
  · omega
  · simp only [Value.slice.injEq] at h
    unfold maxLen at h2
    exact ⟨g', h.1, by rw [h.2.2]; exact h1, by rw [h.2.2]; exact h2, h0⟩
end Go.Proofs.Ytkpmcojoiijonaa

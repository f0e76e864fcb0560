/-
  Read of package rows, for every text.
-/
import Derived.Test.YthjnkagepooeiaaGreatDoorRwE
import Derived.Test.YthjnkagepooeiaaGreatDoorRwG0
import Derived.Shelf.RegionOpen
namespace Go.Proofs.YthjnkagepooeiaaGreatDoor
open Go.RowKit Go.PlainAid Go.Lib Go.PHexM Go.Shelf Go.Seq4
attribute [local go_sem] Oper.semAt_some
set_option linter.unusedVariables false
set_option linter.unusedSimpArgs false

theorem each6f_any (va : Value) (w : World) (hv : ∃ a n c, va = .slice a n c) : Calls Tryz.prog 40 #[va] w fun e w' => e = .returned (.func (.func 68) #[] #[.pointer (some ⟨w.heap.size, 0, none⟩)]) ∧ w' = w.alloc (.cells #[va] 85) := by
  obtain ⟨a, n, c, rfl⟩ := hv
  go_enter Tryz.func40, Tryz.ntmps40
  go_wp2
  go_ret
  exact ⟨rfl, rfl⟩
theorem each6_gives (ps : List (LineD × Value)) (w0 : World) (base : Nat) (va : Value) (Bs : Nat) (hg : Glob w0) (hr : RowL w0 base va ps) (hs : ∀ p ∈ ps, ∀ x ∈ p.1.fields, x.length ≤ 1073741824) (n : Nat) (hn : 4 ≤ n) (w : World) (hk : KeptC w0.heap.size w0 w) (hsz : w0.heap.size ≤ w.heap.size) (hBs : Boxed w Bs 85 va) :
    Gives4 n Tryz.prog 68 #[.pointer (some ⟨Bs, 0, none⟩)] rowE 2 (keepK w0.heap.size Bs) 0 1 (fun xs => xs = eachR startW (ps.map (·.1))) (fun pre => pre <+: eachR startW (ps.map (·.1))) w :=
  fun l J Jx W hW hJ hJx hcalm hY h0 => each6_in ps w0 base va Bs hg hr hs n l hn J Jx W hY hJ hJx hcalm (hk.below hW) (Nat.le_trans hsz hW.size) ((hW.block Bs hBs.lt).trans hBs) h0

/-- what lies where behind an append to a list in a box and the store of what came of it -/
theorem box_put {V w5 : World} {b Bq n m k : Nat} {TL TE : TypeId} {vs v5 : Value} {ob : Obj} {xs ys : List Value} (h1 : V.heap[b]? = some (.cells #[vs] TL (0, 0))) (h2 : V.ownsRow Bq TE k vs n xs) (hbq : b < Bq) (hown : w5.ownsRow Bq TE k v5 m ys) (hg : (V.alloc ob).grownBy w5 vs.ownBlock) :
    w5.heap[b]? = some (.cells #[vs] TL (0, 0)) ∧ (w5.setCell ⟨b, 0, none⟩ v5).heap[b]? = some (.cells #[v5] TL (0, 0)) ∧ (w5.setCell ⟨b, 0, none⟩ v5).ownsRow Bq TE k v5 m ys ∧ KeepsOthers V (w5.setCell ⟨b, 0, none⟩ v5) ∧ V.heap.size + 1 ≤ (w5.setCell ⟨b, 0, none⟩ v5).heap.size ∧
      (∀ j, j < V.heap.size → j ≠ b → j < Bq → (w5.setCell ⟨b, 0, none⟩ v5).heap[j]? = V.heap[j]?) ∧ (w5.os = V.os ∧ w5.tape = V.tape ∧ w5.output = V.output) := by
  have hfar : ∀ j, vs.ownBlock = some j → Bq ≤ j ∧ ∃ cur, V.heap[j]? = some (.cells cur TE (0, 0)) := by
    intro j hj
    rcases h2.2 with ⟨rfl, _⟩ | ⟨g, cap, cur, rfl, hb', hh, hrest⟩
    · cases hj
    · obtain rfl : g = j := Option.some.inj hj
      exact ⟨hb', cur, hh⟩
  have hblt := (Array.getElem?_eq_some_iff.1 h1).1
  have q5 : w5.heap[b]? = some (.cells #[vs] TL (0, 0)) := (hg.block b (by simp; omega) (fun e => by have := (hfar b e.symm).1; omega)).trans ((Below.heap_alloc V _ _ hblt).trans h1)
  refine ⟨q5, ?_, ?_, ((KeepsOthers.alloc _ _).trans (KeepsOthers.of_grownBy hg fun j o hj ho => ?_)).trans (KeepsOthers.setCell _ _ _), by have := hg.size; simpa [World.setCell] using this, fun j hj hjb hjq => ?_, hg.os, hg.tape, hg.output⟩
  · rw [setCell_eq_setRow w5 b 0 _ _ _ _ q5]
    exact setRow_heap w5 b _ _ _ _ q5
  · refine ⟨hown.1, hown.2.imp id ?_⟩
    rintro ⟨g, cap, cur, rfl, hb', hh, hrest⟩
    exact ⟨g, cap, cur, rfl, hb', (Below.heap_setCell _ _ _ _ (by show g ≠ b; omega)).trans hh, hrest⟩
  · obtain ⟨_, cur, hc⟩ := hfar j hj
    rw [(Below.heap_alloc V ob j (Array.getElem?_eq_some_iff.1 hc).1).trans hc] at ho
    cases ho; rfl
  · refine (Below.heap_setCell _ _ _ _ hjb).trans ?_
    exact (hg.block j (by simp; omega) (fun e => by have := (hfar j e.symm).1; omega)).trans (Below.heap_alloc V _ _ hj)
theorem infoRow : (Tryz.prog.info? 29).map (fun i => (i.zero, i.size, i.bytes)) = some (some (.agg #[.int .i64 0, .int .i32 0, .int .i32 0, .string ⟨#[]⟩, .string ⟨#[]⟩, .int .u8 0, .int .u8 0, .int .i32 0, .bool false]), 9, 64) := by kernel_rfl
theorem cells_new (w : World) (l : List Value) (t : TypeId) : ∀ j u, l[j]? = some u → (w.alloc (.cells l.toArray t)).cell? ((⟨w.heap.size, 0, none⟩ : Addr).add j) = some u := by
  intro j u hj
  have h := Blk.new w l t
  rw [Lib.add_plain, Nat.zero_add]
  exact h.cell hj

/-- what holds between two rows of the loop; B: the blocks ahead, q: where the list may lie -/
def RdI (file : ByteArray) (w : World) (fb q : Nat) (pre : List (RowD × Int)) (V : World) : Prop :=
  (∀ x ∈ pre, x.2 = 0) ∧ (∃ v, V.heap[fb]? = some (.cells #[v] 37 (0, 0)) ∧ V.ownsRow q 29 9 v pre.length (rowsC (pre.map (·.1)))) ∧ V.heap[w.heap.size]? = some (.cells #[.string file] 9 (0, 0)) ∧ V.heap[w.heap.size + 1]? = some (.cells #[.slice none 0 0] 37 (0, 0)) ∧ V.heap[w.heap.size + 1 + 1]? = some (.cells #[.nilIface] 39 (0, 0)) ∧ Below w.heap.size w V
/-- what holds where the loop is left -/
def RdX (file : ByteArray) (w : World) (c : Code) (pre : List (RowD × Int)) (V : World) : Prop :=
  c = .ret ∧ ∃ x qs fb, pre = qs ++ [x] ∧ (∀ y ∈ qs, y.2 = 0) ∧ x.2 ≠ 0 ∧ V.heap[w.heap.size + 1]? = some (.cells #[.slice none 0 0] 37 (0, 0)) ∧ V.heap[w.heap.size + 1 + 1]? = some (.cells #[.iface 44 (.pointer (some ⟨fb, 0, none⟩))] 39 (0, 0)) ∧ w.heap.size ≤ fb ∧ V.heap[fb]? = some (.cells #[.string file, .int .i64 x.1.line, .int .i64 x.2] 48 (0, 0)) ∧ Below w.heap.size w V
theorem row_kept6 {W W' : World} {base k n : Nat} {T : TypeId} {v : Value} {xs : List Value} (h : W.ownsRow base T k v n xs) (hk : ∀ g cur, W.heap[g]? = some (.cells cur T (0, 0)) → base ≤ g → v.ownBlock = some g → W'.heap[g]? = W.heap[g]?) : W'.ownsRow base T k v n xs := by
  refine ⟨h.1, h.2.imp id ?_⟩
  rintro ⟨g, cap, cur, rfl, hb', hh, hrest⟩
  exact ⟨g, cap, cur, rfl, hb', (hk g cur hh hb' rfl).trans hh, hrest⟩
theorem own_RdI {B : Nat} (file : ByteArray) (w : World) (fb q : Nat) (hB : w.heap.size ≤ B) : OwnFrom B (RdI file w fb q) := by
  rintro s A C row ⟨e1, ⟨v, e2, e3⟩, e4, e5, e6, e7⟩ hg hr
  have kc : ∀ {g : Nat} {o : Obj}, A.heap[g]? = some o → o.isCells = true → C.heap[g]? = some o := fun h ho => (grownBy_keeps_cells hg (fun r e => (hr r e).2) h ho).trans h
  exact ⟨e1, ⟨v, kc e2 rfl, row_kept6 e3 fun g cur hh _ _ => (kc hh rfl).trans hh.symm⟩, kc e4 rfl, kc e5 rfl, kc e6 rfl, e7.grown hg (by have := e7.size; omega) (fun k e => by have := (hr k e).1; omega)⟩
theorem own_RdX {B : Nat} (file : ByteArray) (w : World) (c : Code) (hB : w.heap.size ≤ B) : OwnFrom B (RdX file w c) := by
  rintro s A C row ⟨hc, x, qs, fb, e1, e2, e3, e4, e5, e6, e7, e8⟩ hg hr
  have kc : ∀ {g : Nat} {o : Obj}, A.heap[g]? = some o → o.isCells = true → C.heap[g]? = some o := fun h ho => (grownBy_keeps_cells hg (fun r e => (hr r e).2) h ho).trans h
  exact ⟨hc, x, qs, fb, e1, e2, e3, kc e4 rfl, kc e5 rfl, e6, kc e7 rfl, e8.grown hg (by have := e8.size; omega) (fun k e => by have := (hr k e).1; omega)⟩
theorem calm_RdI {B : Nat} (file : ByteArray) (w : World) (fb q : Nat) (h1 : fb < B) (h2 : w.heap.size + 3 ≤ B) (h3 : B + 1 ≤ q) : CalmR B 0 1 (RdI file w fb q) := by
  rintro s W k o v hk1 hk2 ⟨e1, ⟨u, e2, e3⟩, e4, e5, e6, e7⟩
  have oth : ∀ {g : Nat}, g ≠ k → (W.setCell ⟨k, o, none⟩ v).heap[g]? = W.heap[g]? := fun h => Below.heap_setCell _ _ _ _ h
  exact ⟨e1, ⟨u, (oth (by omega)).trans e2, row_kept6 e3 fun g cur hh hge _ => oth (by omega)⟩, (oth (by omega)).trans e4, (oth (by omega)).trans e5, (oth (by omega)).trans e6, e7.setCell (by show w.heap.size ≤ k; omega) _⟩
end Go.Proofs.YthjnkagepooeiaaGreatDoor

/-
  Aids for walks over package brackets: blocks, lists of structs in memory.
-/
import Derived.Test.YtijiiapnbeljnaaGreatDoorBrC
import Derived.Test.YtijiiapnbeljnaaGreatDoorSeq4
import Derived.Test.YtijiiapnbeljnaaGreatDoorLEach
namespace Go.Proofs.YtijiiapnbeljnaaGreatDoor
open Go.RowKit Go.PlainAid Go.Lib Go.Shelf Go.Seq4
set_option linter.unusedVariables false
set_option linter.unusedSimpArgs false

/-- a block with just these cells -/
def Blk (w : World) (b : Nat) (l : List Value) (T : TypeId) : Prop := w.heap[b]? = some (.cells l.toArray T (0, 0))
theorem Blk.lt {w : World} {b : Nat} {l : List Value} {T : TypeId} (h : Blk w b l T) : b < w.heap.size := (Array.getElem?_eq_some_iff.1 h).1
theorem Blk.below {w w' : World} {b : Nat} {l : List Value} {T : TypeId} (h : Blk w b l T) (hb : Below w.heap.size w w') : Blk w' b l T := (hb.block b h.lt).trans h
theorem Blk.cell {w : World} {b : Nat} {l : List Value} {T : TypeId} (h : Blk w b l T) {j : Nat} {v : Value} (hj : l[j]? = some v) : w.cell? ⟨b, j, none⟩ = some v := by
  have h' : w.heap[b]? = _ := h
  simp only [World.cell?, h']
  simpa using hj
theorem Blk.frozen {w : World} {b : Nat} {l : List Value} {T : TypeId} (h : Blk w b l T) (j : Nat) : w.frozen? ⟨b, j, none⟩ = false := by
  have h' : w.heap[b]? = _ := h
  simp [World.frozen?, h']
theorem Blk.set {w : World} {b : Nat} {l : List Value} {T : TypeId} (h : Blk w b l T) (j : Nat) (v : Value) {l' : List Value} (hl : l.set j v = l') : Blk (w.setCell ⟨b, j, none⟩ v) b l' T := by
  show (w.setCell ⟨b, j, none⟩ v).heap[b]? = _
  rw [setCell_eq_setRow w b j _ _ _ v h, setRow_heap w b _ _ _ _ h, ← hl]
  simp
theorem Blk.other {w : World} {b : Nat} {l : List Value} {T : TypeId} (h : Blk w b l T) {c : Nat} (hc : b ≠ c) (j : Nat) (v : Value) : Blk (w.setCell ⟨c, j, none⟩ v) b l T := (Below.heap_setCell _ _ _ _ hc).trans h
theorem Blk.alloc {w : World} {b : Nat} {l : List Value} {T : TypeId} (h : Blk w b l T) (o : Obj) : Blk (w.alloc o) b l T := (Below.heap_alloc _ _ _ h.lt).trans h
theorem Blk.new (w : World) (l : List Value) (T : TypeId) : Blk (w.alloc (.cells l.toArray T)) w.heap.size l T := heap_alloc_new w _
theorem Blk.drewN {w : World} {b : Nat} {l : List Value} {T : TypeId} (h : Blk w b l T) (n : Nat) : Blk (w.drewN n) b l T := h
theorem Blk.butB {w w' : World} {b c : Nat} {l : List Value} {T : TypeId} (h : Blk w b l T) (hb : ButB c w w') (hc : b ≠ c) : Blk w' b l T := (hb.block b h.lt hc).trans h
theorem cells_new (w : World) (l : List Value) (t : TypeId) : ∀ j u, l[j]? = some u → (w.alloc (.cells l.toArray t)).cell? ((⟨w.heap.size, 0, none⟩ : Addr).add j) = some u := by
  intro j u hj
  have h := Blk.new w l t
  rw [show (⟨w.heap.size, 0, none⟩ : Addr).add j = ⟨w.heap.size, j, none⟩ from by unfold Addr.add; split <;> simp_all]
  exact h.cell hj
theorem below_alloc (w : World) (o : Obj) : Below w.heap.size w (w.alloc o) := (Below.refl _ w).alloc (Nat.le_refl _) _

/-- what lies where behind an append to a list in a box and the store of what came of it -/
theorem box_put {V w5 : World} {b Bq n m k : Nat} {TL TE : TypeId} {vs v5 : Value} {ob : Obj} {xs ys : List Value} (h1 : V.heap[b]? = some (.cells #[vs] TL (0, 0))) (h2 : V.ownsRow Bq TE k vs n xs) (hbq : b < Bq) (hown : w5.ownsRow Bq TE k v5 m ys) (hg : (V.alloc ob).grownBy w5 vs.ownBlock) :
    w5.heap[b]? = some (.cells #[vs] TL (0, 0)) ∧ (w5.setCell ⟨b, 0, none⟩ v5).heap[b]? = some (.cells #[v5] TL (0, 0)) ∧ (w5.setCell ⟨b, 0, none⟩ v5).ownsRow Bq TE k v5 m ys ∧ KeepsOthers V (w5.setCell ⟨b, 0, none⟩ v5) ∧ V.heap.size + 1 ≤ (w5.setCell ⟨b, 0, none⟩ v5).heap.size ∧
      (∀ j, j < V.heap.size → j ≠ b → j < Bq → (w5.setCell ⟨b, 0, none⟩ v5).heap[j]? = V.heap[j]?) ∧ (w5.os = V.os ∧ w5.tape = V.tape ∧ w5.output = V.output) := by
  have hfar : ∀ j, vs.ownBlock = some j → Bq ≤ j ∧ ∃ cur, V.heap[j]? = some (.cells cur TE (0, 0)) := by
    intro j hj
    rcases h2.2 with ⟨rfl, _⟩ | ⟨g, cap, cur, rfl, hb', hh, hrest⟩
    · cases hj
    · obtain rfl : g = j := Option.some.inj hj
      exact ⟨hb', cur, hh⟩
  have hblt := (Array.getElem?_eq_some_iff.1 h1).1
  have q5 : w5.heap[b]? = some (.cells #[vs] TL (0, 0)) := (hg.block b (by simp; omega) (fun e => by have := (hfar b e.symm).1; omega)).trans ((Below.heap_alloc V _ _ hblt).trans h1)
  refine ⟨q5, ?_, ?_, ((KeepsOthers.alloc _ _).trans (KeepsOthers.of_grownBy hg fun j o hj ho => ?_)).trans (KeepsOthers.setCell _ _ _), by have := hg.size; simpa [World.setCell] using this, fun j hj hjb hjq => ?_, hg.os, hg.tape, hg.output⟩
  · rw [setCell_eq_setRow w5 b 0 _ _ _ _ q5]
    exact setRow_heap w5 b _ _ _ _ q5
  · refine ⟨hown.1, hown.2.imp id ?_⟩
    rintro ⟨g, cap, cur, rfl, hb', hh, hrest⟩
    exact ⟨g, cap, cur, rfl, hb', (Below.heap_setCell _ _ _ _ (by show g ≠ b; omega)).trans hh, hrest⟩
  · obtain ⟨_, cur, hc⟩ := hfar j hj
    rw [(Below.heap_alloc V ob j (Array.getElem?_eq_some_iff.1 hc).1).trans hc] at ho
    cases ho; rfl
  · refine (Below.heap_setCell _ _ _ _ hjb).trans ?_
    exact (hg.block j (by simp; omega) (fun e => by have := (hfar j e.symm).1; omega)).trans (Below.heap_alloc V _ _ hj)
theorem row_keptB {W W' : World} {base k n : Nat} {T : TypeId} {v : Value} {xs : List Value} (h : W.ownsRow base T k v n xs) (hk : ∀ g cur, W.heap[g]? = some (.cells cur T (0, 0)) → base ≤ g → v.ownBlock = some g → W'.heap[g]? = W.heap[g]?) : W'.ownsRow base T k v n xs := by
  refine ⟨h.1, h.2.imp id ?_⟩
  rintro ⟨g, cap, cur, rfl, hb', hh, hrest⟩
  exact ⟨g, cap, cur, rfl, hb', (hk g cur hh hb' rfl).trans hh, hrest⟩
theorem set_sameB {W : World} {b : Nat} {t : TypeId} {v : Value} (h : Boxed W b t v) : W.setCell ⟨b, 0, none⟩ v = W := by
  have hb : W.heap[b]? = some (.cells #[v] t) := h
  have key : ∀ f : Obj → Obj, f (.cells #[v] t) = .cells #[v] t → W.heap.modify b f = W.heap := by
    intro f hf
    apply Array.ext_getElem?
    intro i
    rw [Array.getElem?_modify]
    split
    · rename_i e; subst e; rw [hb]; simp [hf]
    · rfl
  unfold World.setCell
  rw [key _ (by simp)]

abbrev itE (t : ItD) : Array Value := #[.agg #[.int .i64 t.no, .int .i32 t.row.at_, .int .i32 t.row.oth, .int .u8 t.row.side], .int .i64 t.why]
abbrev itC (t : ItD) : List Value := [.int .i64 t.no, .int .i32 t.row.at_, .int .i32 t.row.oth, .int .u8 t.row.side]
def itsC (l : List ItD) : List Value := l.flatMap itC
theorem itsC_snoc (l : List ItD) (t : ItD) : itsC (l ++ [t]) = itsC l ++ itC t := by simp [itsC]
theorem itsC_at {l : List ItD} {i : Nat} {x : ItD} (h : l[i]? = some x) (j : Nat) (hj : j < 4) : (itsC l)[i * 4 + j]? = (itC x)[j]? := by
  induction l generalizing i with
  | nil => simp at h
  | cons a l ih =>
    have e : itsC (a :: l) = itC a ++ itsC l := rfl
    rw [e]
    cases i with
    | zero =>
      simp at h; subst h
      rw [List.getElem?_append_left (by simp; omega)]
      simp
    | succ i =>
      rw [List.getElem?_append_right (by simp; omega), ← ih (by simpa using h)]
      congr 1
      simp
      omega
/-- items in memory -/
def ItMem (w : World) (a : Option Addr) (l : List ItD) : Prop := ∀ (i : Nat) (x : ItD), l[i]? = some x → ∃ g off, a = some ⟨g, off, none⟩ ∧ ∀ j v, (itC x)[j]? = some v → w.cell? ⟨g, off + i * 4 + j, none⟩ = some v
theorem ItMem.below {w w' : World} {a : Option Addr} {l : List ItD} (h : ItMem w a l) (hb : Below w.heap.size w w') : ItMem w' a l := fun i x hx => by
  obtain ⟨g, off, rfl, hc⟩ := h i x hx
  exact ⟨g, off, rfl, fun j v hv => (hb.cell (World.block_lt_of_cell? _ _ (hc j v hv))).trans (hc j v hv)⟩
theorem its_mem {w : World} {base : Nat} {v : Value} {l : List ItD} (h : w.ownsRow base 124 4 v l.length (itsC l)) : ∃ a c, v = .slice a l.length c ∧ l.length ≤ c ∧ ItMem w a l := by
  rcases h.2 with ⟨rfl, h0⟩ | ⟨g, cap, cur, rfl, hb, hh, h3, h4, h5, h6⟩
  · exact ⟨none, 0, by rw [h0], by omega, fun i x hx => by rw [List.length_eq_zero_iff.1 h0] at hx; simp at hx⟩
  · refine ⟨_, cap, rfl, h3, fun i x hx => ⟨g, 0, rfl, fun j u hu => ?_⟩⟩
    have hl := (List.getElem?_eq_some_iff.1 hx).1
    have hj : j < 4 := by have := (List.getElem?_eq_some_iff.1 hu).1; simpa using this
    have e := itsC_at hx j hj
    rw [hu, ← h6, List.getElem?_take, if_pos (by omega)] at e
    rw [Nat.zero_add]
    simpa [World.cell?, hh] using e
theorem infoIt : (Tryz.prog.info? 124).map (fun i => (i.zero, i.size, i.bytes)) = some (some (.agg #[.int .i64 0, .int .i32 0, .int .i32 0, .int .u8 0]), 4, 24) := by kernel_rfl

/-- what holds between two rows of gather's loop -/
def GI (w : World) (q : Nat) (pre : List ItD) (V : World) : Prop :=
  bad1 [] pre = none ∧ (∃ v, V.heap[w.heap.size + 1 + 1 + 1 + 1 + 1]? = some (.cells #[v] 122 (0, 0)) ∧ V.ownsRow q 124 4 v pre.length (itsC pre)) ∧
    V.heap[w.heap.size]? = some (.cells #[.pointer none] 27 (0, 0)) ∧ V.heap[w.heap.size + 1]? = some (.cells #[.nilIface] 45 (0, 0)) ∧
    V.heap[w.heap.size + 1 + 1 + 1]? = some (.cells #[.map (some (w.heap.size + 1 + 1)), .map none] 85 (0, 0)) ∧ V.heap[w.heap.size + 1 + 1 + 1 + 1]? = some (.cells #[.pointer (some ⟨w.heap.size + 1 + 1 + 1, 0, none⟩)] 27 (0, 0)) ∧
    BrMap V (w.heap.size + 1 + 1) (pre.map (·.row)) ∧ Below w.heap.size w V
/-- what holds where it is left -/
def GX (w : World) (c : Code) (pre : List ItD) (V : World) : Prop :=
  c = .ret ∧ ∃ no why rb, bad1 [] pre = some (no, why) ∧ V.heap[w.heap.size]? = some (.cells #[.pointer none] 27 (0, 0)) ∧ V.heap[w.heap.size + 1]? = some (.cells #[.iface 70 (.pointer (some ⟨rb, 0, none⟩))] 45 (0, 0)) ∧ w.heap.size ≤ rb ∧ V.heap[rb]? = some (.cells #[.int .i64 no, .int .i64 why] 74 (0, 0)) ∧ Below w.heap.size w V
theorem own_GI {B : Nat} (w : World) (q : Nat) (hB : w.heap.size + 6 ≤ B) : OwnFrom B (GI w q) := by
  rintro s A C row ⟨e1, ⟨v, e2, e3⟩, e4, e5, e6, e7, e8, e9⟩ hg hr
  have kc : ∀ {g : Nat} {o : Obj}, A.heap[g]? = some o → o.isCells = true → C.heap[g]? = some o := fun h ho => (grownBy_keeps_cells hg (fun r e => (hr r e).2) h ho).trans h
  exact ⟨e1, ⟨v, kc e2 rfl, row_keptB e3 fun g cur hh _ _ => (kc hh rfl).trans hh.symm⟩, kc e4 rfl, kc e5 rfl, kc e6 rfl, kc e7 rfl, e8.kept hg (fun e => by have := (hr _ e.symm).1; omega), e9.grown hg (by have := e9.size; omega) (fun k e => by have := (hr k e).1; omega)⟩
theorem own_GX {B : Nat} (w : World) (c : Code) (hB : w.heap.size ≤ B) : OwnFrom B (GX w c) := by
  rintro s A C row ⟨hc, no, why, rb, e1, e4, e5, e6, e7, e8⟩ hg hr
  have kc : ∀ {g : Nat} {o : Obj}, A.heap[g]? = some o → o.isCells = true → C.heap[g]? = some o := fun h ho => (grownBy_keeps_cells hg (fun r e => (hr r e).2) h ho).trans h
  exact ⟨hc, no, why, rb, e1, kc e4 rfl, kc e5 rfl, e6, kc e7 rfl, e8.grown hg (by have := e8.size; omega) (fun k e => by have := (hr k e).1; omega)⟩
theorem bad_front {a l : List ItD} {e : Int × Int} (h : a <+: l) (hb : bad1 [] a = some e) : gathP l = some e := by
  obtain ⟨r, rfl⟩ := h
  unfold gathP
  rw [bad1_append, hb]
end Go.Proofs.YtijiiapnbeljnaaGreatDoor

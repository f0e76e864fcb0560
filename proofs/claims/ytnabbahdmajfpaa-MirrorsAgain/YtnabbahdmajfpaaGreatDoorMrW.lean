/-
  Lists of mirrors in memory; a map of places, by runes, in memory.
-/
import Derived.Test.YtnabbahdmajfpaaGreatDoorMrM
import Derived.Test.YtnabbahdmajfpaaGreatDoorChecked
import Derived.WalkSpells
import Derived.WalkLawsBesides
import Derived.Handy
import Derived.PlainAid
namespace Go.Proofs.YtnabbahdmajfpaaGreatDoor
open Go.RowKit Go.Maps
set_option linter.unusedVariables false

theorem hideM {p : Prop} (h : p) : Hid p := h
theorem unhideM {p : Prop} (h : Hid p) : p := h

/-- mirrors in memory, wherever they lie -/
def MrMem (w : World) (a : Option Addr) (l : List MirD) : Prop := ∀ (i : Nat) (x : MirD), l[i]? = some x → ∃ g off, a = some ⟨g, off, none⟩ ∧ ∀ j v, (mirC x)[j]? = some v → w.cell? ⟨g, off + i * 4 + j, none⟩ = some v
theorem MrMem.below {w w' : World} {a : Option Addr} {l : List MirD} (h : MrMem w a l) (hb : Below w.heap.size w w') : MrMem w' a l := fun i x hx => by
  obtain ⟨g, off, rfl, hc⟩ := h i x hx
  exact ⟨g, off, rfl, fun j v hv => (hb.cell (World.block_lt_of_cell? _ _ (hc j v hv))).trans (hc j v hv)⟩
/-- but for block b all is as it was -/
theorem MrMem.keep {w w' : World} {a : Option Addr} {l : List MirD} (h : MrMem w a l) (hk : ∀ g off, a = some ⟨g, off, none⟩ → w'.heap[g]? = w.heap[g]?) : MrMem w' a l := fun i x hx => by
  obtain ⟨g, off, rfl, hc⟩ := h i x hx
  refine ⟨g, off, rfl, fun j v hv => ?_⟩
  have := hc j v hv
  simp only [World.cell?, hk g off rfl] at this ⊢
  exact this
theorem MrMem.left {w : World} {a : Option Addr} {l m : List MirD} (h : MrMem w a (l ++ m)) : MrMem w a l := fun i x hx =>
  h i x (by rw [List.getElem?_append_left (List.getElem?_eq_some_iff.1 hx).1]; exact hx)
def mirsC (l : List MirD) : List Value := l.flatMap mirC
theorem mirsC_snoc (l : List MirD) (x : MirD) : mirsC (l ++ [x]) = mirsC l ++ mirC x := by simp [mirsC]
theorem mirsC_len (l : List MirD) : (mirsC l).length = l.length * 4 := by
  induction l with
  | nil => rfl
  | cons x l ih => rw [show mirsC (x :: l) = mirC x ++ mirsC l from rfl, List.length_append, ih, List.length_cons]; simp; omega
theorem mirsC_at {l : List MirD} {i : Nat} {x : MirD} (h : l[i]? = some x) (j : Nat) (hj : j < 4) : (mirsC l)[i * 4 + j]? = (mirC x)[j]? := by
  induction l generalizing i with
  | nil => simp at h
  | cons a l ih =>
    have e : mirsC (a :: l) = mirC a ++ mirsC l := rfl
    rw [e]
    cases i with
    | zero =>
      simp at h; subst h
      rw [List.getElem?_append_left (by simp; omega)]
      simp
    | succ i =>
      rw [List.getElem?_append_right (by simp; omega), ← ih (by simpa using h)]
      congr 1
      simp
      omega
theorem mirsC_one (l : List MirD) : ∀ u ∈ mirsC l, u.oneCell' = true := by
  intro u hu
  obtain ⟨x, _, hx⟩ := List.mem_flatMap.1 hu
  simp only [List.mem_cons, List.not_mem_nil, or_false] at hx
  rcases hx with rfl | rfl | rfl | rfl <;> rfl
/-- mirrors in memory of the call's own -/
def MirsAt (V : World) (base : Nat) (v : Value) (l : List MirD) : Prop := V.ownsRow base 27 4 v l.length (mirsC l)
theorem mirsAt_mem {w : World} {base : Nat} {v : Value} {l : List MirD} (h : MirsAt w base v l) : ∃ a c, v = .slice a l.length c ∧ l.length ≤ c ∧ MrMem w a l := by
  rcases h.2 with ⟨rfl, h0⟩ | ⟨g, cap, cur, rfl, hb, hh, h3, h4, h5, h6⟩
  · exact ⟨none, 0, by rw [h0], by omega, fun i x hx => by rw [List.length_eq_zero_iff.1 h0] at hx; simp at hx⟩
  · refine ⟨_, cap, rfl, h3, fun i x hx => ⟨g, 0, rfl, fun j u hu => ?_⟩⟩
    have hl := (List.getElem?_eq_some_iff.1 hx).1
    have hj : j < 4 := by have := (List.getElem?_eq_some_iff.1 hu).1; simpa using this
    have e := mirsC_at hx j hj
    rw [hu, ← h6, List.getElem?_take, if_pos (by omega)] at e
    rw [Nat.zero_add]
    simpa [World.cell?, hh] using e

/-- the places that a map holds -/
def findP (P : List (Int × Int)) (r : Int) : Option Int := (P.reverse.find? fun x => decide (x.1 = r)).map (·.2)
theorem findP_snoc (P : List (Int × Int)) (x : Int × Int) (r : Int) : findP (P ++ [x]) r = if x.1 = r then some x.2 else findP P r := by
  unfold findP
  rw [List.reverse_append, List.reverse_singleton, List.singleton_append, List.find?_cons]
  by_cases h : x.1 = r <;> simp [h]
theorem i32OkM.wf {r : Int} (h : i32OkM r) : (Lit.int .i32 r).wf = true := by
  have h1 : IntKind.i32.min = -2147483648 := by decide
  have h2 : IntKind.i32.max = 2147483647 := by decide
  simp [Lit.wf, h1, h2]
  exact h
theorem zeroPl (w : World) : (zeroValue 3).run Tryz.prog w = .ok (.int .i64 0) w := by kernel_rfl
theorem keyedM : Keyed Tryz.prog 21 := int_keyed Tryz.underlying21
theorem keyM {r : Int} (h : i32OkM r) : keyOf Tryz.prog 21 (.int .i32 r) = some (.int .i32 r) := keyOf_int_mk Tryz.underlying21 h.wf
theorem isKeyM {r : Int} : WideAt.IsKeyLit (.int .i32 r) := by trivial
theorem litneM {a b : Int} (h : a ≠ b) : (Lit.int .i32 b) ≠ (.int .i32 a) := by intro e; cases e; exact h rfl
theorem snoc_indM {α : Type} {p : List α → Prop} (h0 : p []) (h1 : ∀ l x, p l → p (l ++ [x])) (l : List α) : p l := by
  have : ∀ m : List α, p m.reverse := by
    intro m
    induction m with
    | nil => exact h0
    | cons a m ih => rw [List.reverse_cons]; exact h1 _ _ ih
  simpa using this l.reverse
def plD (P : List (Int × Int)) : DataW Unit := P.foldl (fun D x => D.put (.int .i32 x.1) (.lit (.int .i64 x.2))) (.map [])
theorem plD_snoc (P : List (Int × Int)) (x : Int × Int) : plD (P ++ [x]) = (plD P).put (.int .i32 x.1) (.lit (.int .i64 x.2)) := by simp [plD, List.foldl_append]
theorem plD_all (P : List (Int × Int)) : IsMap (plD P) ∧ (∀ r, Maps.has (plD P) (.int .i32 r) = (findP P r).isSome) ∧ ∀ r z, (plD P).atKey (.int .i32 r) z = (match findP P r with | some x => .lit (.int .i64 x) | none => z) := by
  induction P using snoc_indM with
  | h0 => exact ⟨isMap_empty, fun r => rfl, fun r z => rfl⟩
  | h1 P x ih =>
    obtain ⟨i1, i2, i3⟩ := ih
    rw [plD_snoc]
    refine ⟨i1.put _ _, fun r => ?_, fun r z => ?_⟩
    · rw [findP_snoc]
      by_cases h : x.1 = r
      · subst h; rw [has_put_same i1 isKeyM]; simp
      · rw [has_put_other (litneM h), i2, if_neg h]
    · rw [findP_snoc]
      by_cases h : x.1 = r
      · subst h; rw [atKey_put_same i1 isKeyM]; simp
      · rw [atKey_put_other (litneM h), i3, if_neg h]
def PlMap (w : World) (m : Nat) (P : List (Int × Int)) : Prop := w.ownsMap (H := Unit) Tryz.prog 21 (plainElem Tryz.prog 3) m P.length (plD P)
theorem PlMap.look {w : World} {m : Nat} {P : List (Int × Int)} (h : PlMap w m P) {r : Int} (hr : i32OkM r) :
    (Instr.lookup 113 (.map (some m)) (.int .i32 r) true).run Tryz.prog w = .ok (.tuple #[.int .i64 ((findP P r).getD 0), .bool (findP P r).isSome]) w := by
  obtain ⟨v, ps, hrun, hv⟩ := World.ownsMap.look_ok h keyedM Tryz.underlying113 (zeroPl w) (plainElem_int Tryz.underlying3 (by decide)) (keyM hr)
  rw [(plD_all P).2.1] at hrun
  rw [(plD_all P).2.2] at hv
  obtain ⟨c, rfl, hc, _⟩ := plainElem_int_inv Tryz.underlying3 hv
  have : c = (findP P r).getD 0 := by
    simp only [Prod.mk.injEq] at hc
    cases hf : findP P r with
    | none => rw [hf] at hc; have := hc.1; simp at this; simpa using this.symm
    | some x => rw [hf] at hc; have := hc.1; simp at this; simpa using this.symm
  rw [this] at hrun
  exact hrun
theorem PlMap.put {w : World} {m : Nat} {P : List (Int × Int)} (h : PlMap w m P) (x : Int × Int) (hx : i32OkM x.1) (hy : (Lit.int .i64 x.2).wf = true) (hl : P.length < maxLen) :
    ∃ w', (Instr.mapUpdate 113 (.map (some m)) (.int .i32 x.1) (.int .i64 x.2)).run Tryz.prog w = .ok () w' ∧ PlMap w' m (P ++ [x]) ∧ w.grownBy w' (some m) := by
  obtain ⟨w', h1, h2, h3⟩ := World.ownsMap.update h keyedM Tryz.underlying113 hl (keyM hx) (plainElem_int Tryz.underlying3 hy)
  refine ⟨w', h1, ?_, h3⟩
  unfold PlMap
  rw [plD_snoc, List.length_append]
  exact h2
theorem PlMap.lt {w : World} {m : Nat} {P : List (Int × Int)} (h : PlMap w m P) : m < w.heap.size := World.ownsMap.lt h
theorem PlMap.same {w w' : World} {m : Nat} {P : List (Int × Int)} (h : PlMap w m P) (he : w'.heap[m]? = w.heap[m]?) : PlMap w' m P := by
  obtain ⟨es, c, hb, r⟩ := h
  exact ⟨es, c, he.trans hb, r⟩
theorem PlMap.below {w w' : World} {m : Nat} {P : List (Int × Int)} (h : PlMap w m P) (hb : Below w.heap.size w w') : PlMap w' m P := h.same (hb.block m h.lt)
theorem PlMap.new (w : World) : PlMap (w.alloc (.map #[] 0)) w.heap.size [] := World.ownsMap_made w _ _ _
/-- the places of a list's first ones, in a map, in a block of their own -/
structure FindAt (w : World) (pb : Nat) (l : List MirD) : Prop where
  ex : ∃ m P, w.heap[pb]? = some (.cells #[.map (some m)] 113 (0, 0)) ∧ PlMap w m P ∧ ∀ r, findP P r = (idxM l r).map fun (k : Nat) => (k : Int)
theorem FindAt.below {w w' : World} {pb : Nat} {l : List MirD} (h : FindAt w pb l) (hb : Below w.heap.size w w') : FindAt w' pb l := by
  obtain ⟨m, P, h1, h2, h3⟩ := h.ex
  exact ⟨m, P, (hb.block pb (Array.getElem?_eq_some_iff.1 h1).1).trans h1, h2.below hb, h3⟩
abbrev findV (pb : Nat) : Value := .func (.func 58) #[] #[.pointer (some ⟨pb, 0, none⟩)]
end Go.Proofs.YtnabbahdmajfpaaGreatDoor

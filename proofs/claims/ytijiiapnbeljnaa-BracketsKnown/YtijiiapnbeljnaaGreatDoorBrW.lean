/-
  A map of brackets, and a map of twins, in memory.
-/
import Derived.Test.YtijiiapnbeljnaaGreatDoorBrM
import Derived.Test.YtijiiapnbeljnaaGreatDoorProg
import Derived.WalkSpells
namespace Go.Proofs.YtijiiapnbeljnaaGreatDoor
open Go.RowKit Go.Maps
set_option linter.unusedVariables false

theorem zeroBr (w : World) : (zeroValue 26).run Tryz.prog w = .ok (brV zeroB) w := by kernel_rfl
theorem zeroRn (w : World) : (zeroValue 21).run Tryz.prog w = .ok (.int .i32 0) w := by kernel_rfl
theorem keyedR : Keyed Tryz.prog 21 := int_keyed Tryz.underlying21
theorem keyR {r : Int} (h : i32Ok r) : keyOf Tryz.prog 21 (.int .i32 r) = some (.int .i32 r) := keyOf_int_mk Tryz.underlying21 h.wf

/-- how a bracket reads -/
def brR (v : Value) : Option (DataW Unit × List MemPlace) := match v with
  | .agg a => (match a.toList with
    | [.int .i32 x, .int .i32 y, .int .u8 z] => some (.agg [.lit (.int .i32 x), .lit (.int .i32 y), .lit (.int .u8 z)], [])
    | _ => none)
  | _ => none
def brDat (x : BrD) : DataW Unit := .agg [.lit (.int .i32 x.at_), .lit (.int .i32 x.oth), .lit (.int .u8 x.side)]
theorem brR_mk (x : BrD) : brR (brV x) = some (brDat x, []) := rfl
theorem brR_inv {v : Value} {x : BrD} {ps : List MemPlace} (h : brR v = some (brDat x, ps)) : v = brV x := by
  unfold brR at h
  split at h
  · rename_i a
    split at h
    · rename_i x' y' z' he
      simp only [Option.some.injEq, Prod.mk.injEq, brDat, DataW.agg.injEq, List.cons.injEq, DataW.lit.injEq, Lit.int.injEq, and_true, true_and] at h
      obtain ⟨⟨h1, h2, h3⟩, _⟩ := h
      subst h1; subst h2; subst h3
      have : a = #[.int .i32 x.at_, .int .i32 x.oth, .int .u8 x.side] := by
        have e := congrArg List.toArray he
        simpa using e
      rw [this]
    · cases h
  · cases h
def rowsD (l : List BrD) : DataW Unit := l.foldl (fun D x => D.put (.int .i32 x.at_) (brDat x)) (.map [])
theorem rowsD_snoc (l : List BrD) (x : BrD) : rowsD (l ++ [x]) = (rowsD l).put (.int .i32 x.at_) (brDat x) := by simp [rowsD, List.foldl_append]
theorem isKeyR {r : Int} : WideAt.IsKeyLit (.int .i32 r) := by trivial
theorem litne {a b : Int} (h : a ≠ b) : (Lit.int .i32 b) ≠ (.int .i32 a) := by intro e; cases e; exact h rfl
theorem snoc_ind {α : Type} {p : List α → Prop} (h0 : p []) (h1 : ∀ l x, p l → p (l ++ [x])) (l : List α) : p l := by
  have : ∀ m : List α, p m.reverse := by
    intro m
    induction m with
    | nil => exact h0
    | cons a m ih => rw [List.reverse_cons]; exact h1 _ _ ih
  simpa using this l.reverse
theorem rowsD_all (l : List BrD) : IsMap (rowsD l) ∧ (∀ r, Maps.has (rowsD l) (.int .i32 r) = (findB l r).isSome) ∧ ∀ r z, (rowsD l).atKey (.int .i32 r) z = (match findB l r with | some x => brDat x | none => z) := by
  induction l using snoc_ind with
  | h0 => exact ⟨isMap_empty, fun r => rfl, fun r z => rfl⟩
  | h1 l x ih =>
    obtain ⟨i1, i2, i3⟩ := ih
    rw [rowsD_snoc]
    refine ⟨i1.put _ _, fun r => ?_, fun r z => ?_⟩
    · rw [findB_snoc]
      by_cases h : x.at_ = r
      · subst h; rw [has_put_same i1 isKeyR]; simp
      · rw [has_put_other (litne h), i2, if_neg h]
    · rw [findB_snoc]
      by_cases h : x.at_ = r
      · subst h; rw [atKey_put_same i1 isKeyR]; simp
      · rw [atKey_put_other (litne h), i3, if_neg h]
/-- block m is a map of these rows -/
def BrMap (w : World) (m : Nat) (l : List BrD) : Prop := w.ownsMap Tryz.prog 21 brR m l.length (rowsD l)
theorem BrMap.look {w : World} {m : Nat} {l : List BrD} (h : BrMap w m l) {r : Int} (hr : i32Ok r) :
    (Instr.lookup 81 (.map (some m)) (.int .i32 r) true).run Tryz.prog w = .ok (.tuple #[brV ((findB l r).getD zeroB), .bool (findB l r).isSome]) w := by
  obtain ⟨v, ps, hrun, hv⟩ := World.ownsMap.look_ok h keyedR Tryz.underlying81 (zeroBr w) (brR_mk zeroB) (keyR hr)
  rw [(rowsD_all l).2.1, (rowsD_all l).2.2] at *
  have : v = brV ((findB l r).getD zeroB) := by
    cases hf : findB l r with
    | none => rw [hf] at hv; exact brR_inv hv
    | some x => rw [hf] at hv; exact brR_inv hv
  rw [this] at hrun
  exact hrun
theorem BrMap.put {w : World} {m : Nat} {l : List BrD} (h : BrMap w m l) (x : BrD) (hx : i32Ok x.at_) (hl : l.length < maxLen) :
    ∃ w', (Instr.mapUpdate 81 (.map (some m)) (.int .i32 x.at_) (brV x)).run Tryz.prog w = .ok () w' ∧ BrMap w' m (l ++ [x]) ∧ w.grownBy w' (some m) := by
  obtain ⟨w', h1, h2, h3⟩ := World.ownsMap.update h keyedR Tryz.underlying81 hl (keyR hx) (brR_mk x)
  refine ⟨w', h1, ?_, h3⟩
  unfold BrMap
  rw [rowsD_snoc, List.length_append]
  exact h2
theorem BrMap.kept {w w' : World} {row : Option Nat} {m : Nat} {l : List BrD} (h : BrMap w m l) (hg : w.grownBy w' row) (hne : some m ≠ row) : BrMap w' m l := World.ownsMap.kept h hg hne
theorem BrMap.lt {w : World} {m : Nat} {l : List BrD} (h : BrMap w m l) : m < w.heap.size := World.ownsMap.lt h
theorem BrMap.same {w w' : World} {m : Nat} {l : List BrD} (h : BrMap w m l) (he : w'.heap[m]? = w.heap[m]?) : BrMap w' m l := by
  obtain ⟨es, c, hb, r⟩ := h
  exact ⟨es, c, he.trans hb, r⟩
theorem BrMap.below {w w' : World} {m : Nat} {l : List BrD} (h : BrMap w m l) (hb : Below w.heap.size w w') : BrMap w' m l := h.same (hb.block m h.lt)
theorem BrMap.new (w : World) : BrMap (w.alloc (.map #[] 0)) w.heap.size [] := World.ownsMap_made w _ _ _

/-- the same of twins -/
def twD (l : List (Int × Int)) : DataW Unit := l.foldl (fun D x => D.put (.int .i32 x.1) (.lit (.int .i32 x.2))) (.map [])
theorem twD_snoc (l : List (Int × Int)) (x : Int × Int) : twD (l ++ [x]) = (twD l).put (.int .i32 x.1) (.lit (.int .i32 x.2)) := by simp [twD, List.foldl_append]
theorem twD_all (l : List (Int × Int)) : IsMap (twD l) ∧ (∀ r, Maps.has (twD l) (.int .i32 r) = (findT l r).isSome) ∧ ∀ r z, (twD l).atKey (.int .i32 r) z = (match findT l r with | some x => .lit (.int .i32 x) | none => z) := by
  induction l using snoc_ind with
  | h0 => exact ⟨isMap_empty, fun r => rfl, fun r z => rfl⟩
  | h1 l x ih =>
    obtain ⟨i1, i2, i3⟩ := ih
    rw [twD_snoc]
    refine ⟨i1.put _ _, fun r => ?_, fun r z => ?_⟩
    · rw [findT_snoc]
      by_cases h : x.1 = r
      · subst h; rw [has_put_same i1 isKeyR]; simp
      · rw [has_put_other (litne h), i2, if_neg h]
    · rw [findT_snoc]
      by_cases h : x.1 = r
      · subst h; rw [atKey_put_same i1 isKeyR]; simp
      · rw [atKey_put_other (litne h), i3, if_neg h]
def TwMap (w : World) (m : Nat) (l : List (Int × Int)) : Prop := w.ownsMap (H := Unit) Tryz.prog 21 (plainElem Tryz.prog 21) m l.length (twD l)
theorem TwMap.look {w : World} {m : Nat} {l : List (Int × Int)} (h : TwMap w m l) {r : Int} (hr : i32Ok r) :
    (Instr.lookup 83 (.map (some m)) (.int .i32 r) true).run Tryz.prog w = .ok (.tuple #[.int .i32 ((findT l r).getD 0), .bool (findT l r).isSome]) w := by
  obtain ⟨v, ps, hrun, hv⟩ := World.ownsMap.look_ok h keyedR Tryz.underlying83 (zeroRn w) (plainElem_int Tryz.underlying21 (by decide)) (keyR hr)
  rw [(twD_all l).2.1] at hrun
  rw [(twD_all l).2.2] at hv
  obtain ⟨c, rfl, hc, _⟩ := plainElem_int_inv Tryz.underlying21 hv
  have : c = (findT l r).getD 0 := by
    simp only [Prod.mk.injEq] at hc
    cases hf : findT l r with
    | none => rw [hf] at hc; have := hc.1; simp at this; simpa using this.symm
    | some x => rw [hf] at hc; have := hc.1; simp at this; simpa using this.symm
  rw [this] at hrun
  exact hrun
theorem TwMap.put {w : World} {m : Nat} {l : List (Int × Int)} (h : TwMap w m l) (x : Int × Int) (hx : i32Ok x.1) (hy : i32Ok x.2) (hl : l.length < maxLen) :
    ∃ w', (Instr.mapUpdate 83 (.map (some m)) (.int .i32 x.1) (.int .i32 x.2)).run Tryz.prog w = .ok () w' ∧ TwMap w' m (l ++ [x]) ∧ w.grownBy w' (some m) := by
  obtain ⟨w', h1, h2, h3⟩ := World.ownsMap.update h keyedR Tryz.underlying83 hl (keyR hx) (plainElem_int Tryz.underlying21 hy.wf)
  refine ⟨w', h1, ?_, h3⟩
  unfold TwMap
  rw [twD_snoc, List.length_append]
  exact h2
theorem TwMap.kept {w w' : World} {row : Option Nat} {m : Nat} {l : List (Int × Int)} (h : TwMap w m l) (hg : w.grownBy w' row) (hne : some m ≠ row) : TwMap w' m l := World.ownsMap.kept h hg hne
theorem TwMap.lt {w : World} {m : Nat} {l : List (Int × Int)} (h : TwMap w m l) : m < w.heap.size := World.ownsMap.lt h
theorem TwMap.same {w w' : World} {m : Nat} {l : List (Int × Int)} (h : TwMap w m l) (he : w'.heap[m]? = w.heap[m]?) : TwMap w' m l := by
  obtain ⟨es, c, hb, r⟩ := h
  exact ⟨es, c, he.trans hb, r⟩
theorem TwMap.below {w w' : World} {m : Nat} {l : List (Int × Int)} (h : TwMap w m l) (hb : Below w.heap.size w w') : TwMap w' m l := h.same (hb.block m h.lt)
theorem TwMap.new (w : World) : TwMap (w.alloc (.map #[] 0)) w.heap.size [] := World.ownsMap_made w _ _ _
theorem twNil {w : World} {r : Int} (hr : i32Ok r) : (Instr.lookup 83 (.map none) (.int .i32 r) true).run Tryz.prog w = .ok (.tuple #[.int .i32 0, .bool false]) w :=
  Maps.look_nil true keyedR Tryz.underlying83 (zeroRn w) (keyR hr)

/-- what a book's twins are: no map, or a map -/
def TwAt (w : World) (v : Value) (l : List (Int × Int)) : Prop := (v = .map none ∧ l = []) ∨ ∃ m, v = .map (some m) ∧ TwMap w m l
theorem TwAt.look {w : World} {v : Value} {l : List (Int × Int)} (h : TwAt w v l) {r : Int} (hr : i32Ok r) :
    (Instr.lookup 83 v (.int .i32 r) true).run Tryz.prog w = .ok (.tuple #[.int .i32 ((findT l r).getD 0), .bool (findT l r).isSome]) w := by
  rcases h with ⟨rfl, rfl⟩ | ⟨m, rfl, h⟩
  · exact twNil hr
  · exact h.look hr
theorem TwAt.below {w w' : World} {v : Value} {l : List (Int × Int)} (h : TwAt w v l) (hb : Below w.heap.size w w') : TwAt w' v l := h.imp id fun ⟨m, e, h⟩ => ⟨m, e, h.below hb⟩
/-- a book at the block B -/
structure Book (w : World) (B : Nat) (rows : List BrD) (tw : List (Int × Int)) : Prop where
  ex : ∃ m tv, w.heap[B]? = some (.cells #[.map (some m), tv] 85 (0, 0)) ∧ BrMap w m rows ∧ TwAt w tv tw
theorem Book.below {w w' : World} {B : Nat} {rows : List BrD} {tw : List (Int × Int)} (h : Book w B rows tw) (hb : Below w.heap.size w w') : Book w' B rows tw := by
  obtain ⟨m, tv, h1, h2, h3⟩ := h.ex
  exact ⟨m, tv, (hb.block B (Array.getElem?_eq_some_iff.1 h1).1).trans h1, h2.below hb, h3.below hb⟩
end Go.Proofs.YtijiiapnbeljnaaGreatDoor

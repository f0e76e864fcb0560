/-
  Rows of bytes that a call owns.
-/
import Derived.Test.YteakbnogfnbpkaaGreatDoorSuC
import Derived.Maps.AppendAt
import Derived.Laws.OwnMore
import Derived.Laws.IdiomStrings
import Derived.Deep.Onto
import Derived.Deep.Upon
import Derived.Lib.AppendZeros
namespace Go.Proofs.YteakbnogfnbpkaaGreatDoor
open Go.RowKit Go.PlainAid Go.Lib Go.SuM
set_option linter.unusedVariables false
set_option linter.unusedSimpArgs false
def byV (b : UInt8) : Value := .int .u8 (b.toNat : Int)
def bytesV (l : List UInt8) : List Value := l.map byV
theorem bytesV_one (l : List UInt8) : ∀ u ∈ bytesV l, u.oneCell' = true := by
  intro u hu
  obtain ⟨_, _, rfl⟩ := List.mem_map.1 hu
  rfl
theorem bytesV_app (a b : List UInt8) : bytesV (a ++ b) = bytesV a ++ bytesV b := by unfold bytesV; rw [List.map_append]
theorem bytesV_len (a : List UInt8) : (bytesV a).length = a.length := by unfold bytesV; rw [List.length_map]
theorem bytesV_get {l : List UInt8} {j : Nat} {u : Value} (h : (bytesV l)[j]? = some u) : ∃ hj : j < l.length, u = byV l[j] := by
  have hj : j < l.length := by have := (List.getElem?_eq_some_iff.1 h).1; rwa [bytesV_len] at this
  refine ⟨hj, ?_⟩
  unfold bytesV at h
  rw [List.getElem?_map, List.getElem?_eq_getElem hj] at h
  exact (Option.some.inj h).symm
/-- a row of bytes of one's own, from the block B on -/
def OwnB (w : World) (B : Nat) (v : Value) (l : List UInt8) : Prop := w.ownsRow B 5 1 v l.length (bytesV l)
theorem info8 : (Tryz.prog.info? 5).map (fun i => (i.zero, i.size, i.bytes)) = some (some (.int .u8 0), 1, 1) := by kernel_rfl
theorem info_parts {P : Program} {t : TypeId} {z : Value} {k m : Nat} (h : (P.info? t).map (fun i => (i.zero, i.size, i.bytes)) = some (some z, k, m)) : ∃ i, P.info? t = some i ∧ i.zero = some z ∧ i.size = k ∧ i.bytes = m := by
  cases hq : P.info? t with
  | none => simp [hq] at h
  | some i =>
    simp [hq] at h
    exact ⟨i, rfl, h.1, h.2.1, h.2.2⟩
theorem OwnB.form {w : World} {B : Nat} {v : Value} {l : List UInt8} (h : OwnB w B v l) : ∃ a c, v = .slice a l.length c := by
  rcases h.2 with ⟨rfl, h0⟩ | ⟨g, cap, cur, rfl, _⟩
  · exact ⟨none, 0, by rw [h0]⟩
  · exact ⟨_, _, rfl⟩
theorem OwnB.below {w w' : World} {B : Nat} {v : Value} {l : List UInt8} (h : OwnB w B v l) (hb : Below w.heap.size w w') : OwnB w' B v l := by
  refine ⟨h.1, ?_⟩
  rcases h.2 with h2 | ⟨g, cap, cur, rfl, h1, h2, r⟩
  · exact .inl h2
  · exact .inr ⟨g, cap, cur, rfl, h1, (hb.block g ((Array.getElem?_eq_some_iff.1 h2).1)).trans h2, r⟩
/-- one byte more -/
theorem append_byte (w : World) (B : Nat) (v : Value) (l : List UInt8) (b : UInt8) (h : OwnB w B v l) (hB : B ≤ w.heap.size) (hbig : l.length + 1 ≤ 140737488355328) {ops : Array Oper} {rest : List Oper} {o : Oper} {a : Act} {Q : Exit → Act → World → Prop} (hgd : o.guard = none) (s x : Operand)
    (ho : o.op = .call { callee := .builtin .append, args := #[s, x], argTypes := #[223, 223] }) (hs : a.eval s = v) (c : Nat) (hx : a.eval x = .slice (some ⟨w.heap.size, 0, none⟩) 1 c)
    (hQ : ∀ v' w', OwnB w' B v' (l ++ [b]) → Below B w w' → wpList Tryz.prog ops Q rest (a.put o.dst v') w') : wpList Tryz.prog ops Q (o :: rest) a (w.alloc (.cells #[byV b] 5)) := by
  obtain ⟨i0, hi0, hz0, hzs, hzb⟩ := info_parts info8
  have hb1 : Below B w (w.alloc (.cells #[byV b] 5)) := (Below.refl _ _).alloc hB _
  refine wpList_append_own_at (P := Tryz.prog) _ hgd s x 223 ho B 5 i0 _ 1 1 Tryz.underlying223 hi0 hz0 hzs hzb rfl (by decide) v l.length (bytesV l) hs (World.ownsRow.alloc h _) ⟨w.heap.size, 0, none⟩ 1 c [byV b] hx (by simp) (cell_one_new w _ _) (bytesV_one [b]) (by unfold maxLen; omega) (by omega) (Nat.le_trans hB (by simp)) ?_
  intro v' w' h1 h2 _ _
  refine hQ v' w' ?_ (hb1.grown h2 (Nat.le_trans hB (by simp)) (fun k hk => (h.lt k hk).1))
  have e : bytesV (l ++ [b]) = bytesV l ++ [byV b] := bytesV_app l [b]
  unfold OwnB
  rw [e, List.length_append]
  exact h1
/-- a whole row behind it -/
theorem append_row (w : World) (B : Nat) (v : Value) (l : List UInt8) (m c : Nat) (ad : Addr) (r : List UInt8) (hm : r.length = m) (hr : ∀ j u, (bytesV r)[j]? = some u → w.cell? (ad.add j) = some u) (h : OwnB w B v l) (hB : B ≤ w.heap.size) (hbig : l.length + r.length ≤ 140737488355328) {ops : Array Oper} {rest : List Oper} {o : Oper} {a : Act} {Q : Exit → Act → World → Prop} (hgd : o.guard = none) (s x : Operand)
    (ho : o.op = .call { callee := .builtin .append, args := #[s, x], argTypes := #[223, 223] }) (hs : a.eval s = v) (hx : a.eval x = .slice (some ad) m c)
    (hQ : ∀ v' w', OwnB w' B v' (l ++ r) → Below B w w' → wpList Tryz.prog ops Q rest (a.put o.dst v') w') : wpList Tryz.prog ops Q (o :: rest) a w := by
  obtain ⟨i0, hi0, hz0, hzs, hzb⟩ := info_parts info8
  refine wpList_append_own_at (P := Tryz.prog) _ hgd s x 223 ho B 5 i0 _ 1 1 Tryz.underlying223 hi0 hz0 hzs hzb rfl (by decide) v l.length (bytesV l) hs h ad m c (bytesV r) hx (by rw [bytesV_len]; omega) hr (bytesV_one r) (by unfold maxLen; omega) (by omega) hB ?_
  intro v' w' h1 h2 _ _
  refine hQ v' w' ?_ ((Below.refl _ _).grown h2 hB (fun k hk => (h.lt k hk).1))
  unfold OwnB
  rw [bytesV_app, List.length_append, hm]
  exact h1
/-- bytes in memory, not nil where there are any -/
def BytesAt (w : World) (ad : Option Addr) (r : List UInt8) : Prop := r ≠ [] → ∃ a, ad = some a ∧ ∀ j u, (bytesV r)[j]? = some u → w.cell? (a.add j) = some u
theorem append_any8 (w : World) (B : Nat) (v : Value) (l : List UInt8) (c : Nat) (ad : Option Addr) (r : List UInt8) (hr : BytesAt w ad r) (h : OwnB w B v l) (hB : B ≤ w.heap.size) (hbig : l.length + r.length ≤ 140737488355328) (ty : TypeId) :
    ∃ v' w', (Builtin.append_ #[223, 223] ty #[v, .slice ad r.length c]).run Tryz.prog w = .ok v' w' ∧ OwnB w' B v' (l ++ r) ∧ Below B w w' := by
  obtain ⟨i0, hi0, hz0, hzs, hzb⟩ := info_parts info8
  by_cases h0 : r = []
  · subst h0
    obtain ⟨b, c', rfl⟩ := h.form
    have hle : l.length ≤ c' := by
      rcases h.2 with ⟨he, h0⟩ | ⟨g, cap, cur, he, _, _, h1, _⟩
      · simp at he; omega
      · simp at he; obtain ⟨_, rfl⟩ := he; exact h1
    refine ⟨_, _, run_append_nothing w _ _ ty _ i0 Tryz.underlying223 hi0 b l.length c' hle _ ?_, by rw [List.append_nil]; exact h, Below.refl _ _⟩
    cases ad with
    | none => exact Src.ofNil w Tryz.underlying223 c
    | some a => exact Src.ofSlice w Tryz.underlying223 a 0 c [] (by simp) (fun j u hu => by simp at hu) (by simp)
  · obtain ⟨a, rfl, hc⟩ := hr h0
    obtain ⟨v', w', r1, r2, r3, _⟩ := run_append_own_at (P := Tryz.prog) (w := w) B 223 ty 5 i0 _ 1 1 Tryz.underlying223 hi0 hz0 hzs hzb rfl (by decide) v l.length (bytesV l) h a r.length c (bytesV r) (by rw [bytesV_len]; omega) hc (bytesV_one r) (by unfold maxLen; omega) (by omega) hB
    refine ⟨v', w', r1, ?_, (Below.refl _ _).grown r3 hB (fun k hk => (h.lt k hk).1)⟩
    unfold OwnB
    rw [bytesV_app, List.length_append]
    exact r2
theorem u8of (y : Nat) : byV (UInt8.ofNat y) = .int .u8 ((y : Int) % 256) := by
  unfold byV
  congr 1
end Go.Proofs.YteakbnogfnbpkaaGreatDoor

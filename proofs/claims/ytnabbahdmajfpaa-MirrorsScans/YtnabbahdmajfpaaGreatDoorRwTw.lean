/-
  The law's twin (furrowlaw06): a line with fields of its own, and a mark behind them.
-/
import Derived.Test.YtnabbahdmajfpaaGreatDoorRChars
import Derived.Test.YtnabbahdmajfpaaGreatDoorLRead
import Derived.Deep.Upon
import Derived.Maps.AppendAt
namespace Go.Proofs.YtnabbahdmajfpaaGreatDoor
open Go.RowKit Go.PlainAid Go.Lib Go.Shelf
set_option linter.unusedVariables false

/-- texts in memory, from whatever place of a block on -/
def TxP (w : World) (a : Option Addr) (l : List (List UInt8)) : Prop := ∀ (i : Nat) (x : List UInt8), l[i]? = some x → ∃ g o, a = some ⟨g, o, none⟩ ∧ g < w.heap.size ∧ w.cell? ⟨g, o + i, none⟩ = some (.string (S x))
theorem TxP.below {w w' : World} {a : Option Addr} {l : List (List UInt8)} (h : TxP w a l) (hb : Below w.heap.size w w') : TxP w' a l := by
  intro i x hx
  obtain ⟨g, o, h1, h2, h3⟩ := h i x hx
  exact ⟨g, o, h1, Nat.lt_of_lt_of_le h2 hb.size, (hb.cell (p := ⟨g, o + i, none⟩) h2).trans h3⟩
theorem TxP.addr {w : World} {a : Option Addr} {l : List (List UInt8)} (h : TxP w a l) (h0 : 0 < l.length) : ∃ g o, a = some ⟨g, o, none⟩ ∧ g < w.heap.size ∧ ∀ (i : Nat) (x : List UInt8), l[i]? = some x → w.cell? ⟨g, o + i, none⟩ = some (.string (S x)) := by
  obtain ⟨g, o, h1, h2, -⟩ := h 0 _ (List.getElem?_eq_getElem h0)
  refine ⟨g, o, h1, h2, fun i x hx => ?_⟩
  obtain ⟨g', o', h3, _, h5⟩ := h i x hx
  rw [h1] at h3
  obtain ⟨rfl, rfl⟩ : g = g' ∧ o = o' := by simpa using h3
  exact h5

theorem results_line1 {fn : Func} {p : Tmp} (h : fn.results = #[.cell p 25]) (tmps : Array Value) (w : World) (g : Nat) (x0 x1 x2 x3 x4 : Value)
    (hp : tmps.getD p undef = .pointer (some ⟨g, 0, none⟩)) (hg : w.heap[g]? = some (.cells #[x0, x1, x2, x3, x4] 25)) : (results fn tmps).run Tryz.prog w = .ok (.agg #[x0, x1, x2, x3, x4]) w := by
  simp only [results, h]
  have hp' : tmps[p]?.getD undef = .pointer (some ⟨g, 0, none⟩) := by rw [← hp]; simp
  simp [hp', asAddr]
  rw [run_loadVar_row w g _ 25 _ (0, 0) _ hg Tryz.underlying25 rfl sizeLine]

theorem append_tp {P : Program} (w : World) (base : Nat) (t ty e : TypeId) (i : TypeInfo) (z : Value) (bytes : Nat) (ht : P.underlying t = some (.slice e)) (hi : P.info? e = some i) (hz : i.zero = some z)
    (hsize : i.size = 1) (hby : i.bytes = bytes) (hzs : z.cells.size = 1)
    (v : Value) (n : Nat) (xs : List Value) (hown : w.ownsRow base e 1 v n xs) (a : Option Addr) (m c : Nat) (l : List (List UInt8)) (hm : l.length = m) (hc : m ≤ c) (h : TxP w a l)
    (h63 : n + m ≤ maxLen) (hbytes : (n + m) * bytes ≤ 140737488355328) (hbase : base ≤ w.heap.size) :
    ∃ v' w', (Builtin.append_ #[t, t] ty #[v, .slice a m c]).run P w = .ok v' w' ∧ w'.ownsRow base e 1 v' (n + m) (xs ++ strVs (l.map S)) ∧ w.grownBy w' v.ownBlock := by
  by_cases h0 : m = 0
  · subst h0
    have : l = [] := List.eq_nil_of_length_eq_zero hm
    subst this
    obtain ⟨b, c', rfl⟩ := row_slice2 hown
    have hle : n ≤ c' := by
      rcases hown.2 with ⟨he, h0⟩ | ⟨g, cap, cur, he, _, _, h1, _⟩
      · simp at he; omega
      · simp at he; obtain ⟨_, rfl⟩ := he; exact h1
    refine ⟨_, _, run_append_nothing w t t ty e i ht hi b n c' hle _ ?_, ?_, World.grownBy.refl _ _⟩
    · cases a with
      | none => exact Src.ofNil w ht c
      | some a => exact Src.ofSlice w ht a 0 c [] (by simp) (fun j u hu => by simp at hu) (by simp)
    · simpa using hown
  · obtain ⟨g, o, rfl, hg, hcl⟩ := h.addr (by omega)
    have hl : (strVs (l.map S)).length = m * 1 := by simp [hm]
    obtain ⟨v', w', r1, r2, r3, _⟩ := run_append_own_at (P := P) (w := w) base t ty e i z 1 bytes ht hi hz hsize hby hzs (by decide) v n xs hown ⟨g, o, none⟩ m c (strVs (l.map S)) hl (fun j u hu => by
      rw [List.getElem?_map, List.getElem?_map] at hu
      obtain ⟨x, hx, rfl⟩ := Option.map_eq_some_iff.1 hu
      obtain ⟨y, hy, rfl⟩ := Option.map_eq_some_iff.1 hx
      rw [Go.WideShapes.add_plain]; exact hcl j y hy) (fun u hu => by
      obtain ⟨x, _, rfl⟩ := List.mem_map.1 hu; rfl) h63 hbytes hbase
    exact ⟨v', w', r1, r2, r3⟩

theorem wpList_append_tp {P : Program} {w : World} {ops : Array Oper} {rest : List Oper} {o : Oper} {a : Act} {Q : Exit → Act → World → Prop} (hgd : Region.wanted o (yielded ops a.tmps) = true) (s x : Operand) (t : TypeId)
    (ho : o.op = .call { callee := .builtin .append, args := #[s, x], argTypes := #[t, t] })
    (base : Nat) (e : TypeId) (i : TypeInfo) (z : Value) (bytes : Nat) (ht : P.underlying t = some (.slice e)) (hi : P.info? e = some i) (hz : i.zero = some z)
    (hsize : i.size = 1) (hby : i.bytes = bytes) (hzs : z.cells.size = 1)
    (v : Value) (n : Nat) (xs : List Value) (hs : a.eval s = v) (hown : w.ownsRow base e 1 v n xs) (ad : Option Addr) (m c : Nat) (l : List (List UInt8)) (hx : a.eval x = .slice ad m c) (hm : l.length = m) (hc : m ≤ c) (htx : TxP w ad l)
    (h63 : n + m ≤ maxLen) (hbytes : (n + m) * bytes ≤ 140737488355328) (hbase : base ≤ w.heap.size)
    (h : ∀ v' w', w'.ownsRow base e 1 v' (n + m) (xs ++ strVs (l.map S)) → w.grownBy w' v.ownBlock → wpList P ops Q rest (a.put o.dst v') w') :
    wpList P ops Q (o :: rest) a w := by
  obtain ⟨v', w', hr, h2, h3⟩ := append_tp (P := P) w base t o.type e i z bytes ht hi hz hsize hby hzs v n xs hown ad m c l hm hc htx h63 hbytes hbase
  show (if Region.wanted o (yielded ops a.tmps) then _ else _)
  rw [if_pos hgd]
  refine .inl ?_
  unfold Oper.wp execOp
  simp only [ho, resolve, invoke, builtin, Sem.run_bind, Sem.run_pure, Result.andThen_ok, List.map_toArray, List.map_cons, List.map_nil, hs, hx, hr]
  exact h v' w' h2 h3

abbrev markL : List UInt8 := [109, 97, 114, 107]

end Go.Proofs.YtnabbahdmajfpaaGreatDoor

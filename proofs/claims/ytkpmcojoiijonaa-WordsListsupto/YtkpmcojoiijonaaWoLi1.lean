/-
  append of a whole list, nil or not, to a row of the call's own; lists that lie apart from a row.
-/
import Derived.Test.YtkpmcojoiijonaaWoV
import Derived.Maps.AppendAt
namespace Go.Proofs.Ytkpmcojoiijonaa
open Go.RowKit Go.PlainAid Go.Lib
set_option linter.unusedVariables false

theorem run_append_list {P : Program} (w : World) (base : Nat) (t ty e : TypeId) (i : TypeInfo) (z : Value) (bytes : Nat) (ht : P.underlying t = some (.slice e)) (hi : P.info? e = some i) (hz : i.zero = some z)
    (hsize : i.size = 1) (hby : i.bytes = bytes) (hzs : z.cells.size = 1)
    (v : Value) (n : Nat) (xs : List Value) (hown : w.ownsRow base e 1 v n xs)
    (a : Option Addr) (m c : Nat) (news : List Value) (hl : news.length = m) (hnews : ∀ j u, news[j]? = some u → ∃ ad, a = some ad ∧ w.cell? (ad.add j) = some u) (h1 : ∀ u ∈ news, u.oneCell' = true)
    (h63 : n + m ≤ maxLen) (hbytes : (n + m) * bytes ≤ 140737488355328) (hbase : base ≤ w.heap.size) :
    ∃ v' w', (Builtin.append_ #[t, t] ty #[v, .slice a m c]).run P w = .ok v' w' ∧ w'.ownsRow base e 1 v' (n + m) (xs ++ news) ∧ w.grownBy w' v.ownBlock ∧ (v'.ownBlock = v.ownBlock ∨ v'.ownBlock = some w.heap.size) := by
  cases a with
  | some ad =>
    obtain ⟨v', w', h1', h2', h3', _, h5'⟩ := run_append_own_at (P := P) w base t ty e i z 1 bytes ht hi hz hsize hby hzs (by decide) v n xs hown ad m c news (by omega) (fun j u hu => by
      obtain ⟨ad', e1, e2⟩ := hnews j u hu
      cases e1
      exact e2) h1 h63 hbytes hbase
    exact ⟨v', w', h1', h2', h3', h5'⟩
  | none =>
    have hn : news = [] := by
      cases news with
      | nil => rfl
      | cons x l =>
        obtain ⟨ad', e1, _⟩ := hnews 0 x rfl
        cases e1
    subst hn
    have hm : m = 0 := by simpa using hl.symm
    subst hm
    refine ⟨v, w, ?_, by simpa using hown, ⟨rfl, rfl, rfl, Nat.le_refl _, fun _ _ _ => rfl⟩, .inl rfl⟩
    rcases hown.2 with ⟨rfl, rfl⟩ | ⟨g, cap, cur, rfl, hbg, hg, hnc, hcm, hcs, htake⟩
    · simp [Builtin.append_, run_underlying ht, sizeOf, typeInfo, hi, Builtin.lenOf, Builtin.firstCells]
    · simp [Builtin.append_, run_underlying ht, sizeOf, typeInfo, hi, Builtin.lenOf, Builtin.firstCells, storeCells, hnc]

/-- an append whose run is known -/
theorem wpList_append_run {P : Program} (w : World) {ops : Array Oper} {rest : List Oper} {o : Oper} {a : Act} {Q : Exit → Act → World → Prop} (hgd : o.guard = none) (s x : Operand) (t : TypeId)
    (ho : o.op = .call { callee := .builtin .append, args := #[s, x], argTypes := #[t, t] }) (v xv : Value) (hs : a.eval s = v) (hx : a.eval x = xv)
    (v' : Value) (w' : World) (hr : ∀ ty, (Builtin.append_ #[t, t] ty #[v, xv]).run P w = .ok v' w') (h : wpList P ops Q rest (a.put o.dst v') w') : wpList P ops Q (o :: rest) a w := by
  refine wpList_plain hgd fun K hK => ?_
  unfold Oper.wp execOp
  simp only [ho, resolve, invoke, builtin, Sem.run_bind, Sem.run_pure, Result.andThen_ok, List.map_toArray, List.map_cons, List.map_nil, hs, hx, hr]
  exact hK _ _ h

theorem newsB {w : World} {a : Option Addr} {us : List Int} (h : ReadsB w a us) : ∀ j u, (us.map (Value.int .u8))[j]? = some u → ∃ ad, a = some ad ∧ w.cell? (ad.add j) = some u := by
  intro j u hu
  have hj : j < us.length := by have := (List.getElem?_eq_some_iff.1 hu).1; simpa using this
  obtain ⟨b, off, e, hc⟩ := h j hj
  refine ⟨_, e, ?_⟩
  have ea : (⟨b, off, none⟩ : Addr).add j = ⟨b, off + j, none⟩ := by
    by_cases hj0 : j = 0
    · subst hj0; rfl
    · simp [Addr.add, hj0]
  rw [ea, hc]
  simp [List.getElem?_eq_getElem hj] at hu
  simp [List.getD, List.getElem?_eq_getElem hj, hu]
theorem oneB (us : List Int) : ∀ u ∈ us.map (Value.int .u8), u.oneCell' = true := by
  intro u hu
  obtain ⟨z, _, rfl⟩ := List.mem_map.1 hu
  rfl
/-- append of classes to nothing -/
theorem appC (w : World) (base : Nat) (zs : List Int) (a : Option Addr) (cap : Nat) (hrd : ReadsB w a zs) (hn : zs.length ≤ 1099511627776) (hbase : base ≤ w.heap.size) :
    ∃ v' w', (∀ ty, (Builtin.append_ #[48, 48] ty #[.slice none 0 0, .slice a zs.length cap]).run Try.prog w = .ok v' w') ∧ w'.ownsRow base 34 1 v' zs.length (zs.map (Value.int .u8)) ∧ w.grownBy w' none := by
  obtain ⟨i0, hi, hz0, hz1, hz2⟩ := info_parts infoClass
  have key := fun ty => run_append_list (P := Try.prog) w base 48 ty 34 i0 (.int .u8 0) 1 Try.underlying48 hi hz0 hz1 hz2 rfl (.slice none 0 0) 0 [] (World.ownsRow_nil _ _ _ _) a zs.length cap (zs.map (Value.int .u8)) (by simp) (newsB hrd) (oneB zs) (by unfold maxLen; omega) (by omega) hbase
  obtain ⟨v', w', h1, h2, h3, _⟩ := key 0
  refine ⟨v', w', fun ty => ?_, by simpa using h2, h3⟩
  obtain ⟨v2, w2, g1, _⟩ := key ty
  have : (Builtin.append_ #[48, 48] ty #[.slice none 0 0, .slice a zs.length cap]).run Try.prog w = (Builtin.append_ #[48, 48] 0 #[.slice none 0 0, .slice a zs.length cap]).run Try.prog w := rfl
  rw [this]; exact h1
theorem ReadsB.grown {w W : World} {a : Option Addr} {zs : List Int} {row : Option Nat} (h : ReadsB w a zs) (hg : w.grownBy W row) (hne : zs ≠ [] → ∀ x, a = some x → some x.block ≠ row) : ReadsB W a zs := by
  intro k hk
  obtain ⟨b, off, h1, h2⟩ := h k hk
  exact ⟨b, off, h1, hg.cell h2 (show some b ≠ row from hne (by intro e; rw [e] at hk; simp at hk) _ h1)⟩
theorem ReadsB.lt {w : World} {b : Option Addr} {zs : List Int} (h : ReadsB w b zs) (hz : zs ≠ []) {x : Addr} (hx : b = some x) : x.block < w.heap.size := by
  obtain ⟨b', off, e, hc⟩ := h 0 (List.length_pos_iff.2 hz)
  rw [hx] at e
  obtain rfl : x = ⟨b', off, none⟩ := by simpa using e
  exact World.block_lt_of_cell? w _ hc
/-- a list that lies in another block than a value's row -/
def AwayB (v : Value) (b : Option Addr) (zs : List Int) : Prop := zs ≠ [] → ∀ x, b = some x → some x.block ≠ v.ownBlock
theorem AwayB.next {w : World} {b : Option Addr} {zs : List Int} {v v' : Value} {H : Nat} (h : ReadsB w b zs) (ha : AwayB v b zs) (hv : v'.ownBlock = v.ownBlock ∨ v'.ownBlock = some H) (hH : w.heap.size ≤ H) : AwayB v' b zs := by
  intro hz x hx
  rcases hv with hv | hv
  · rw [hv]; exact ha hz x hx
  · rw [hv]; intro e
    have := h.lt hz hx
    have e2 : x.block = H := by simpa using e
    omega
theorem awayB_rows {W : World} {base : Nat} {e : TypeId} {a : Option Addr} {n c : Nat} {xs : List Value} {v : Value} {us : List Int} (q : W.ownsRow base e 1 (.slice a n c) n xs) (hl : ∀ g, v.ownBlock = some g → g < base) : AwayB v a us := by
  intro _ x hx e
  have h1 := hl _ e.symm
  have h2 := (q.lt x.block (by rw [hx]; rfl)).1
  omega
end Go.Proofs.Ytkpmcojoiijonaa

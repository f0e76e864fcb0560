/-
  append of a whole list, nil or not, to a row of the call's own.
-/
import Derived.Test.YtghcheoholkpbaaWRefC
namespace Go.Proofs.Ytghcheoholkpbaa
open Go.RowKit Go.PlainAid Go.Lib
set_option linter.unusedVariables false

theorem run_append_list {P : Program} (w : World) (base : Nat) (t ty e : TypeId) (i : TypeInfo) (z : Value) (bytes : Nat) (ht : P.underlying t = some (.slice e)) (hi : P.info? e = some i) (hz : i.zero = some z)
    (hsize : i.size = 1) (hby : i.bytes = bytes) (hzs : z.cells.size = 1)
    (v : Value) (n : Nat) (xs : List Value) (hown : w.ownsRow base e 1 v n xs)
    (a : Option Addr) (m c : Nat) (news : List Value) (hl : news.length = m) (hnews : ∀ j u, news[j]? = some u → ∃ ad, a = some ad ∧ w.cell? (ad.add j) = some u) (h1 : ∀ u ∈ news, u.oneCell' = true)
    (h63 : n + m ≤ maxLen) (hbytes : (n + m) * bytes ≤ 140737488355328) (hbase : base ≤ w.heap.size) :
    ∃ v' w', (Builtin.append_ #[t, t] ty #[v, .slice a m c]).run P w = .ok v' w' ∧ w'.ownsRow base e 1 v' (n + m) (xs ++ news) ∧ w.grownBy w' v.ownBlock ∧ (v'.ownBlock = v.ownBlock ∨ v'.ownBlock = some w.heap.size) := by
  cases a with
  | some ad =>
    obtain ⟨v', w', h1', h2', h3', _, h5'⟩ := run_append_own_at (P := P) w base t ty e i z 1 bytes ht hi hz hsize hby hzs (by decide) v n xs hown ad m c news (by omega) (fun j u hu => by
      obtain ⟨ad', e1, e2⟩ := hnews j u hu
      cases e1
      exact e2) h1 h63 hbytes hbase
    exact ⟨v', w', h1', h2', h3', h5'⟩
  | none =>
    have hn : news = [] := by
      cases news with
      | nil => rfl
      | cons x l =>
        obtain ⟨ad', e1, _⟩ := hnews 0 x rfl
        cases e1
    subst hn
    have hm : m = 0 := by simpa using hl.symm
    subst hm
    refine ⟨v, w, ?_, by simpa using hown, ⟨rfl, rfl, rfl, Nat.le_refl _, fun _ _ _ => rfl⟩, .inl rfl⟩
    rcases hown.2 with ⟨rfl, rfl⟩ | ⟨g, cap, cur, rfl, hbg, hg, hnc, hcm, hcs, htake⟩
    · simp [Builtin.append_, run_underlying ht, sizeOf, typeInfo, hi, Builtin.lenOf, Builtin.firstCells]
    · simp [Builtin.append_, run_underlying ht, sizeOf, typeInfo, hi, Builtin.lenOf, Builtin.firstCells, storeCells, hnc]

/-- an append whose run is known -/
theorem wpList_append_run {P : Program} (w : World) {ops : Array Oper} {rest : List Oper} {o : Oper} {a : Act} {Q : Exit → Act → World → Prop} (hgd : o.guard = none) (s x : Operand) (t : TypeId)
    (ho : o.op = .call { callee := .builtin .append, args := #[s, x], argTypes := #[t, t] }) (v xv : Value) (hs : a.eval s = v) (hx : a.eval x = xv)
    (v' : Value) (w' : World) (hr : ∀ ty, (Builtin.append_ #[t, t] ty #[v, xv]).run P w = .ok v' w') (h : wpList P ops Q rest (a.put o.dst v') w') : wpList P ops Q (o :: rest) a w := by
  refine wpList_plain hgd fun K hK => ?_
  unfold Oper.wp execOp
  simp only [ho, resolve, invoke, builtin, Sem.run_bind, Sem.run_pure, Result.andThen_ok, List.map_toArray, List.map_cons, List.map_nil, hs, hx, hr]
  exact hK _ _ h

/-- the elements of a list of units -/
theorem newsU {w : World} {a : Option Addr} {us : List Int} (h : ReadsU w a us) : ∀ j u, (u16s us)[j]? = some u → ∃ ad, a = some ad ∧ w.cell? (ad.add j) = some u := by
  intro j u hu
  have hj : j < us.length := by have := (List.getElem?_eq_some_iff.1 hu).1; simpa using this
  obtain ⟨b, off, e, hc⟩ := h j hj
  refine ⟨_, e, ?_⟩
  have ea : (⟨b, off, none⟩ : Addr).add j = ⟨b, off + j, none⟩ := by
    by_cases hj0 : j = 0
    · subst hj0; rfl
    · simp [Addr.add, hj0]
  rw [ea, hc]
  simp [List.getElem?_eq_getElem hj] at hu
  simp [uA, List.getD, List.getElem?_eq_getElem hj, hu]
theorem newsI {w : World} {a : Option Addr} {us : List Int} (h : Reads w a us) : ∀ j u, (us.map (Value.int .i32))[j]? = some u → ∃ ad, a = some ad ∧ w.cell? (ad.add j) = some u := by
  intro j u hu
  have hj : j < us.length := by have := (List.getElem?_eq_some_iff.1 hu).1; simpa using this
  obtain ⟨b, off, e, hc⟩ := h j hj
  refine ⟨_, e, ?_⟩
  have ea : (⟨b, off, none⟩ : Addr).add j = ⟨b, off + j, none⟩ := by
    by_cases hj0 : j = 0
    · subst hj0; rfl
    · simp [Addr.add, hj0]
  rw [ea, hc]
  simp [List.getElem?_eq_getElem hj] at hu
  simp [List.getD, List.getElem?_eq_getElem hj, hu]
theorem oneU (k : IntKind) (us : List Int) : ∀ u ∈ us.map (Value.int k), u.oneCell' = true := by
  intro u hu
  obtain ⟨z, _, rfl⟩ := List.mem_map.1 hu
  rfl
/-- append of units -/
theorem appU (w : World) (base : Nat) (v : Value) (n : Nat) (xs us : List Int) (a : Option Addr) (c : Nat) (hown : w.ownsRow base 22 1 v n (u16s xs)) (h : ReadsU w a us) (hn : n + us.length ≤ 35184372088832) (hb : base ≤ w.heap.size) :
    ∃ v' w', (∀ ty, (Builtin.append_ #[31, 31] ty #[v, .slice a us.length c]).run Try.prog w = .ok v' w') ∧ w'.ownsRow base 22 1 v' (n + us.length) (u16s (xs ++ us)) ∧ w.grownBy w' v.ownBlock ∧ (v'.ownBlock = v.ownBlock ∨ v'.ownBlock = some w.heap.size) := by
  obtain ⟨i0, hi, hz0, hz1, hz2⟩ := info_parts infoUnit
  obtain ⟨v', w', h1, h2, h3, h4⟩ := run_append_list (P := Try.prog) w base 31 31 22 i0 (.int .u16 0) 2 Try.underlying31 hi hz0 hz1 hz2 rfl v n (u16s xs) hown a us.length c (u16s us) (by simp) (newsU h) (oneU .u16 us) (by unfold maxLen; omega) (by omega) hb
  exact ⟨v', w', fun ty => h1, by rw [u16s_append]; exact h2, h3, h4⟩
/-- append of runes -/
theorem appI (w : World) (base : Nat) (v : Value) (n : Nat) (xs us : List Int) (a : Option Addr) (c : Nat) (hown : w.ownsRow base 21 1 v n (i32l xs)) (h : Reads w a us) (hn : n + us.length ≤ 17592186044416) (hb : base ≤ w.heap.size) :
    ∃ v' w', (∀ ty, (Builtin.append_ #[30, 30] ty #[v, .slice a us.length c]).run Try.prog w = .ok v' w') ∧ w'.ownsRow base 21 1 v' (n + us.length) (i32l (xs ++ us)) ∧ w.grownBy w' v.ownBlock ∧ (v'.ownBlock = v.ownBlock ∨ v'.ownBlock = some w.heap.size) := by
  obtain ⟨i0, hi, hz0, hz1, hz2⟩ := info_parts infoRune
  obtain ⟨v', w', h1, h2, h3, h4⟩ := run_append_list (P := Try.prog) w base 30 30 21 i0 (.int .i32 0) 4 Try.underlying30 hi hz0 hz1 hz2 rfl v n (i32l xs) hown a us.length c (i32l us) (by simp) (newsI h) (oneU .i32 us) (by unfold maxLen; omega) (by omega) hb
  exact ⟨v', w', fun ty => h1, by simpa using h2, h3, h4⟩

end Go.Proofs.Ytghcheoholkpbaa

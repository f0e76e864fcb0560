/-
  Lists of classes, of runes and of numbers in memory: what is read, what is appended.
-/
import Derived.Test.YtkckkchnmgidgaaPaM2
import Derived.Test.YtkckkchnmgidgaaCopy
import Derived.Maps.AppendAt
import Derived.Laws.MakeOwn
import Derived.Deep.QuietTactic
import Derived.BigQuiet
namespace Go.Proofs.Ytkckkchnmgidgaa
open Go.RowKit Go.PlainAid Go.Lib
set_option linter.unusedVariables false

abbrev u8l (l : List Int) : List Value := l.map (Value.int .u8)
abbrev i32l (l : List Int) : List Value := l.map (Value.int .i32)
abbrev i64l (l : List Int) : List Value := l.map (Value.int .i64)
theorem infoClass : (Try.prog.info? 22).map (fun i => (i.zero, i.size, i.bytes)) = some (some (.int .u8 0), 1, 1) := by kernel_rfl
theorem wf_u8 {n : Int} (h : (Lit.int .u8 n).wf = true) : 0 ≤ n ∧ n ≤ 255 := by
  unfold Lit.wf at h
  rw [Bool.and_eq_true] at h
  have h1 := of_decide_eq_true h.1
  have h2 := of_decide_eq_true h.2
  have e1 : IntKind.u8.min = 0 := by decide
  have e2 : IntKind.u8.max = 255 := by decide
  omega
/-- a list of classes in memory, whatever its spare room -/
def ReadsB (w : World) (a : Option Addr) (zs : List Int) : Prop := ∀ k, k < zs.length → ∃ b off, a = some ⟨b, off, none⟩ ∧ w.cell? ⟨b, off + k, none⟩ = some (.int .u8 (cA zs k))
def FitsB (zs : List Int) : Prop := ∀ x ∈ zs, 0 ≤ x ∧ x ≤ 255
theorem FitsB.at {zs : List Int} (h : FitsB zs) (k : Nat) : 0 ≤ cA zs k ∧ cA zs k ≤ 255 := by
  unfold cA
  rw [List.getD_eq_getElem?_getD]
  rcases hk : zs[k]? with _ | x
  · simp
  · exact h x (List.mem_of_getElem? hk)
theorem FitsB.drop {zs : List Int} (h : FitsB zs) (k : Nat) : FitsB (zs.drop k) := fun x hx => h x (List.mem_of_mem_drop hx)
theorem FitsB.take {zs : List Int} (h : FitsB zs) (k : Nat) : FitsB (zs.take k) := fun x hx => h x (List.mem_of_mem_take hx)
theorem FitsB.app {a b : List Int} (h : FitsB a) (k : FitsB b) : FitsB (a ++ b) := fun x hx => (List.mem_append.1 hx).elim (h x) (k x)
theorem ReadsB.below {w W : World} {a : Option Addr} {zs : List Int} (h : ReadsB w a zs) (hb : Below w.heap.size w W) : ReadsB W a zs := by
  intro k hk
  obtain ⟨b, off, h1, h2⟩ := h k hk
  exact ⟨b, off, h1, (hb.cell (p := ⟨b, off + k, none⟩) (World.block_lt_of_cell? w _ h2)).trans h2⟩
theorem ReadsB.belowN {w W : World} {a : Option Addr} {zs : List Int} (h : ReadsB w a zs) {n : Nat} (hn : n = w.heap.size) (hb : Below n w W) : ReadsB W a zs := by subst hn; exact h.below hb
theorem Reads.belowN {w W : World} {a : Option Addr} {zs : List Int} (h : Reads w a zs) {n : Nat} (hn : n = w.heap.size) (hb : Below n w W) : Reads W a zs := by subst hn; exact h.below hb
theorem ReadsB.grown {w W : World} {a : Option Addr} {zs : List Int} {row : Option Nat} (h : ReadsB w a zs) (hg : w.grownBy W row) (hne : zs ≠ [] → ∀ x, a = some x → some x.block ≠ row) : ReadsB W a zs := by
  intro k hk
  obtain ⟨b, off, h1, h2⟩ := h k hk
  exact ⟨b, off, h1, hg.cell h2 (show some b ≠ row from hne (by intro e; subst e; simp at hk) _ h1)⟩
theorem Reads.grown {w W : World} {a : Option Addr} {zs : List Int} {row : Option Nat} (h : Reads w a zs) (hg : w.grownBy W row) (hne : zs ≠ [] → ∀ x, a = some x → some x.block ≠ row) : Reads W a zs := by
  intro k hk
  obtain ⟨b, off, h1, h2⟩ := h k hk
  exact ⟨b, off, h1, hg.cell h2 (show some b ≠ row from hne (by intro e; subst e; simp at hk) _ h1)⟩
theorem ReadsB.lt {w : World} {b : Option Addr} {zs : List Int} (h : ReadsB w b zs) (hz : zs ≠ []) {x : Addr} (hx : b = some x) : x.block < w.heap.size := by
  obtain ⟨g, off, e, hc⟩ := h 0 (List.length_pos_iff.2 hz)
  rw [hx] at e; cases e
  exact World.block_lt_of_cell? w _ hc
theorem Reads.lt {w : World} {b : Option Addr} {zs : List Int} (h : Reads w b zs) (hz : zs ≠ []) {x : Addr} (hx : b = some x) : x.block < w.heap.size := by
  obtain ⟨g, off, e, hc⟩ := h 0 (List.length_pos_iff.2 hz)
  rw [hx] at e; cases e
  exact World.block_lt_of_cell? w _ hc
theorem readsB_own {w : World} {base : Nat} {e : TypeId} {a : Option Addr} {n c : Nat} {zs : List Int} (h : w.ownsRow base e 1 (.slice a n c) n (u8l zs)) : ReadsB w a zs := by
  intro k hk
  have hn : zs.length = n := by have := h.1; simpa using this
  rcases h.2 with ⟨_, h0⟩ | ⟨g, cap, cur, hv, _, hg, _⟩
  · omega
  · obtain ⟨rfl, rfl⟩ : a = some ⟨g, 0, none⟩ ∧ c = cap := by simpa using hv
    refine ⟨g, 0, rfl, ?_⟩
    rw [Nat.zero_add, h.cellAt k (by omega)]
    simp [cA, List.getD, List.getElem?_eq_getElem hk]
theorem ReadsB.front {w : World} {a : Option Addr} {zs ys : List Int} (h : ReadsB w a (zs ++ ys)) : ReadsB w a zs := by
  intro k hk
  obtain ⟨b, off, h1, h2⟩ := h k (by rw [List.length_append]; omega)
  refine ⟨b, off, h1, h2.trans ?_⟩
  simp [cA, List.getD, List.getElem?_append, hk]
/-- a part of a list -/
theorem ReadsB.part {w : World} {b off : Nat} {zs : List Int} (h : ReadsB w (some ⟨b, off, none⟩) zs) (i t : Nat) : ReadsB w (some ⟨b, off + i, none⟩) ((zs.take t).drop i) := by
  intro k hk
  rw [List.length_drop, List.length_take] at hk
  obtain ⟨b', off', e, h2⟩ := h (i + k) (by omega)
  cases e
  refine ⟨b, off + i, rfl, ?_⟩
  rw [Nat.add_assoc, h2, cA_drop, cA_take _ _ _ (by omega)]

theorem row_is {w : World} {base : Nat} {e : TypeId} {size : Nat} {v : Value} {n : Nat} {xs : List Value} (h : w.ownsRow base e size v n xs) : ∃ a c, v = .slice a n c := by
  rcases h.2 with ⟨rfl, h0⟩ | ⟨g, cap, cur, rfl, _⟩
  · exact ⟨_, _, by rw [h0]⟩
  · exact ⟨_, _, rfl⟩
theorem row_at {w : World} {base : Nat} {e : TypeId} {size : Nat} {a : Option Addr} {n c : Nat} {xs : List Value} (h : w.ownsRow base e size (.slice a n c) n xs) (hn : 0 < n) : ∃ g, a = some ⟨g, 0, none⟩ := by
  rcases h.2 with ⟨h0, _⟩ | ⟨g, cap, cur, h0, _⟩
  · obtain ⟨_, h1, _⟩ : a = none ∧ n = 0 ∧ c = 0 := by simpa using h0
    omega
  · obtain ⟨h1, _⟩ : a = some ⟨g, 0, none⟩ ∧ c = cap := by simpa using h0
    exact ⟨g, h1⟩
theorem rowBelow {w w' : World} {base : Nat} {e : TypeId} {size : Nat} {v : Value} {n : Nat} {xs : List Value} (h : w.ownsRow base e size v n xs) (hb : Below w.heap.size w w') : w'.ownsRow base e size v n xs := by
  refine ⟨h.1, ?_⟩
  rcases h.2 with h | ⟨g, cap, cur, h1, h2, h3, h4⟩
  · exact .inl h
  · exact .inr ⟨g, cap, cur, h1, h2, (hb.block g (Array.getElem?_eq_some_iff.1 h3).1).trans h3, h4⟩
theorem row_mono {w : World} {base base' : Nat} {e : TypeId} {size : Nat} {v : Value} {n : Nat} {xs : List Value} (h : w.ownsRow base e size v n xs) (hb : base' ≤ base) : w.ownsRow base' e size v n xs := by
  refine ⟨h.1, ?_⟩
  rcases h.2 with h | ⟨g, cap, cur, h1, h2, h3⟩
  · exact .inl h
  · exact .inr ⟨g, cap, cur, h1, Nat.le_trans hb h2, h3⟩
theorem belowGrown {a W w4 : World} {B : Nat} {e : TypeId} {size : Nat} {v : Value} {n : Nat} {xs : List Value} (hB : Below B a W) (hB' : B ≤ W.heap.size) (h : W.ownsRow B e size v n xs) (hg : W.grownBy w4 v.ownBlock) : Below B a w4 :=
  hB.grown hg hB' (fun k e1 => (h.lt k e1).1)
theorem row_caps {w : World} {base : Nat} {e : TypeId} {size : Nat} {a : Option Addr} {n c : Nat} {xs : List Value} (h : w.ownsRow base e size (.slice a n c) n xs) : n ≤ c ∧ c ≤ maxLen := by
  rcases h.2 with ⟨h0, h1⟩ | ⟨g', cap', cur, hv, _, _, hc, hm, _⟩
  · obtain ⟨_, _, rfl⟩ : a = none ∧ n = 0 ∧ c = 0 := by simpa using h0
    exact ⟨by omega, Nat.zero_le _⟩
  · obtain ⟨_, rfl⟩ : a = some ⟨g', 0, none⟩ ∧ c = cap' := by simpa using hv
    exact ⟨hc, hm⟩

/-- a block with just these cells -/
def Blk (w : World) (b : Nat) (l : List Value) (T : TypeId) : Prop := w.heap[b]? = some (.cells l.toArray T (0, 0))
theorem Blk.lt {w : World} {b : Nat} {l : List Value} {T : TypeId} (h : Blk w b l T) : b < w.heap.size := (Array.getElem?_eq_some_iff.1 h).1
theorem Blk.below {w w' : World} {b : Nat} {l : List Value} {T : TypeId} (h : Blk w b l T) (hb : Below w.heap.size w w') : Blk w' b l T := (hb.block b h.lt).trans h
theorem Blk.cell {w : World} {b : Nat} {l : List Value} {T : TypeId} (h : Blk w b l T) {j : Nat} {v : Value} (hj : l[j]? = some v) : w.cell? ⟨b, j, none⟩ = some v := by
  have h' : w.heap[b]? = _ := h
  simp only [World.cell?, h']
  simpa using hj
theorem Blk.frozen {w : World} {b : Nat} {l : List Value} {T : TypeId} (h : Blk w b l T) (j : Nat) : w.frozen? ⟨b, j, none⟩ = false := by
  have h' : w.heap[b]? = _ := h
  simp [World.frozen?, h']
theorem Blk.set {w : World} {b : Nat} {l : List Value} {T : TypeId} (h : Blk w b l T) (j : Nat) (v : Value) {l' : List Value} (hl : l.set j v = l') : Blk (w.setCell ⟨b, j, none⟩ v) b l' T := by
  show (w.setCell ⟨b, j, none⟩ v).heap[b]? = _
  rw [setCell_eq_setRow w b j _ _ _ v h, setRow_heap w b _ _ _ _ h, ← hl]
  simp
theorem Blk.other {w : World} {b : Nat} {l : List Value} {T : TypeId} (h : Blk w b l T) {c : Nat} (hc : b ≠ c) (j : Nat) (v : Value) : Blk (w.setCell ⟨c, j, none⟩ v) b l T := (Below.heap_setCell _ _ _ _ hc).trans h
theorem Blk.alloc {w : World} {b : Nat} {l : List Value} {T : TypeId} (h : Blk w b l T) (o : Obj) : Blk (w.alloc o) b l T := (Below.heap_alloc _ _ _ h.lt).trans h
theorem Blk.new (w : World) (l : List Value) (T : TypeId) : Blk (w.alloc (.cells l.toArray T)) w.heap.size l T := heap_alloc_new w _
theorem Blk.drewN {w : World} {b : Nat} {l : List Value} {T : TypeId} (h : Blk w b l T) (n : Nat) : Blk (w.drewN n) b l T := h
theorem Blk.grown {w w' : World} {b : Nat} {l : List Value} {T : TypeId} {row : Option Nat} (h : Blk w b l T) (hg : w.grownBy w' row) (hne : some b ≠ row) : Blk w' b l T := (hg.block b h.lt hne).trans h
theorem Blk.readsB {w : World} {g : Nat} {l : List Int} {T : TypeId} (h : Blk w g (u8l l) T) : ReadsB w (some ⟨g, 0, none⟩) l := by
  intro k hk
  refine ⟨g, 0, rfl, ?_⟩
  rw [Nat.zero_add]
  exact h.cell (by simp [cA, List.getD, List.getElem?_eq_getElem hk])
/-- a row cut short -/
theorem row_cut {w : World} {base : Nat} {e : TypeId} {a : Option Addr} {n c : Nat} {xs : List Value} (h : w.ownsRow base e 1 (.slice a n c) n xs) (m : Nat) (hm : m ≤ n) : w.ownsRow base e 1 (.slice a m c) m (xs.take m) := by
  have hn : xs.length = n := by have := h.1; simpa using this
  refine ⟨by rw [List.length_take]; omega, ?_⟩
  rcases h.2 with ⟨h0, h1⟩ | ⟨g, cap, cur, hv, hb, hg, hnc, hcm, hcs, htake⟩
  · obtain ⟨rfl, rfl, rfl⟩ : a = none ∧ n = 0 ∧ c = 0 := by simpa using h0
    obtain rfl : m = 0 := by omega
    exact .inl ⟨rfl, rfl⟩
  · obtain ⟨rfl, rfl⟩ : a = some ⟨g, 0, none⟩ ∧ c = cap := by simpa using hv
    refine .inr ⟨g, c, cur, rfl, hb, hg, by omega, hcm, hcs, ?_⟩
    rw [← htake, List.take_take]
    congr 1
    omega
/-- the same row behind a store into another block -/
theorem row_other {w : World} {base : Nat} {e : TypeId} {size : Nat} {v : Value} {n : Nat} {xs : List Value} (h : w.ownsRow base e size v n xs) {c : Nat} (hc : c < base) (j : Nat) (u : Value) : (w.setCell ⟨c, j, none⟩ u).ownsRow base e size v n xs := by
  refine ⟨h.1, ?_⟩
  rcases h.2 with h | ⟨g, cap, cur, h1, h2, h3, h4⟩
  · exact .inl h
  · exact .inr ⟨g, cap, cur, h1, h2, (Below.heap_setCell _ _ _ _ (by show g ≠ c; omega)).trans h3, h4⟩

theorem run_append_list {P : Program} (w : World) (base : Nat) (t ty e : TypeId) (i : TypeInfo) (z : Value) (bytes : Nat) (ht : P.underlying t = some (.slice e)) (hi : P.info? e = some i) (hz : i.zero = some z)
    (hsize : i.size = 1) (hby : i.bytes = bytes) (hzs : z.cells.size = 1)
    (v : Value) (n : Nat) (xs : List Value) (hown : w.ownsRow base e 1 v n xs)
    (a : Option Addr) (m c : Nat) (news : List Value) (hl : news.length = m) (hnews : ∀ j u, news[j]? = some u → ∃ ad, a = some ad ∧ w.cell? (ad.add j) = some u) (h1 : ∀ u ∈ news, u.oneCell' = true)
    (h63 : n + m ≤ maxLen) (hbytes : (n + m) * bytes ≤ 140737488355328) (hbase : base ≤ w.heap.size) :
    ∃ v' w', (Builtin.append_ #[t, t] ty #[v, .slice a m c]).run P w = .ok v' w' ∧ w'.ownsRow base e 1 v' (n + m) (xs ++ news) ∧ w.grownBy w' v.ownBlock ∧ (v'.ownBlock = v.ownBlock ∨ v'.ownBlock = some w.heap.size) := by
  cases a with
  | some ad =>
    obtain ⟨v', w', h1', h2', h3', _, h5'⟩ := run_append_own_at (P := P) w base t ty e i z 1 bytes ht hi hz hsize hby hzs (by decide) v n xs hown ad m c news (by omega) (fun j u hu => by
      obtain ⟨ad', e1, e2⟩ := hnews j u hu
      cases e1
      exact e2) h1 h63 hbytes hbase
    exact ⟨v', w', h1', h2', h3', h5'⟩
  | none =>
    have hn : news = [] := by
      cases news with
      | nil => rfl
      | cons x l =>
        obtain ⟨ad', e1, _⟩ := hnews 0 x rfl
        cases e1
    subst hn
    have hm : m = 0 := by simpa using hl.symm
    subst hm
    refine ⟨v, w, ?_, by simpa using hown, ⟨rfl, rfl, rfl, Nat.le_refl _, fun _ _ _ => rfl⟩, .inl rfl⟩
    rcases hown.2 with ⟨rfl, rfl⟩ | ⟨g, cap, cur, rfl, hbg, hg, hnc, hcm, hcs, htake⟩
    · simp [Builtin.append_, run_underlying ht, sizeOf, typeInfo, hi, Builtin.lenOf, Builtin.firstCells]
    · simp [Builtin.append_, run_underlying ht, sizeOf, typeInfo, hi, Builtin.lenOf, Builtin.firstCells, storeCells, hnc]

/-- an append whose run is known -/
theorem wpList_append_run {P : Program} (w : World) {ops : Array Oper} {rest : List Oper} {o : Oper} {a : Act} {Q : Exit → Act → World → Prop} (hgd : o.guard = none) (s x : Operand) (t : TypeId)
    (ho : o.op = .call { callee := .builtin .append, args := #[s, x], argTypes := #[t, t] }) (v xv : Value) (hs : a.eval s = v) (hx : a.eval x = xv)
    (v' : Value) (w' : World) (hr : ∀ ty, (Builtin.append_ #[t, t] ty #[v, xv]).run P w = .ok v' w') (h : wpList P ops Q rest (a.put o.dst v') w') : wpList P ops Q (o :: rest) a w := by
  refine wpList_plain hgd fun K hK => ?_
  unfold Oper.wp execOp
  simp only [ho, resolve, invoke, builtin, Sem.run_bind, Sem.run_pure, Result.andThen_ok, List.map_toArray, List.map_cons, List.map_nil, hs, hx, hr]
  exact hK _ _ h
theorem addr_add (b off j : Nat) : (⟨b, off, none⟩ : Addr).add j = ⟨b, off + j, none⟩ := by
  by_cases hj0 : j = 0
  · subst hj0; rfl
  · simp [Addr.add, hj0]
theorem newsB {w : World} {a : Option Addr} {us : List Int} (h : ReadsB w a us) : ∀ j u, (u8l us)[j]? = some u → ∃ ad, a = some ad ∧ w.cell? (ad.add j) = some u := by
  intro j u hu
  have hj : j < us.length := by have := (List.getElem?_eq_some_iff.1 hu).1; simpa using this
  obtain ⟨b, off, e, hc⟩ := h j hj
  refine ⟨_, e, ?_⟩
  rw [addr_add, hc]
  simp [List.getElem?_eq_getElem hj] at hu
  simp [cA, List.getD, List.getElem?_eq_getElem hj, hu]
theorem newsI {w : World} {a : Option Addr} {us : List Int} (h : Reads w a us) : ∀ j u, (i32l us)[j]? = some u → ∃ ad, a = some ad ∧ w.cell? (ad.add j) = some u := by
  intro j u hu
  have hj : j < us.length := by have := (List.getElem?_eq_some_iff.1 hu).1; simpa using this
  obtain ⟨b, off, e, hc⟩ := h j hj
  refine ⟨_, e, ?_⟩
  rw [addr_add, hc]
  simp [List.getElem?_eq_getElem hj] at hu
  simp [List.getD, List.getElem?_eq_getElem hj, hu]
theorem oneU (k : IntKind) (us : List Int) : ∀ u ∈ us.map (Value.int k), u.oneCell' = true := by
  intro u hu
  obtain ⟨z, _, rfl⟩ := List.mem_map.1 hu
  rfl
/-- append of classes, of runes -/
theorem appB (w : World) (base : Nat) (v : Value) (n : Nat) (xs us : List Int) (a : Option Addr) (c : Nat) (hown : w.ownsRow base 22 1 v n (u8l xs)) (h : ReadsB w a us) (hn : n + us.length ≤ 35184372088832) (hb : base ≤ w.heap.size) :
    ∃ v' w', (∀ ty, (Builtin.append_ #[29, 29] ty #[v, .slice a us.length c]).run Try.prog w = .ok v' w') ∧ w'.ownsRow base 22 1 v' (n + us.length) (u8l (xs ++ us)) ∧ w.grownBy w' v.ownBlock ∧ (v'.ownBlock = v.ownBlock ∨ v'.ownBlock = some w.heap.size) := by
  obtain ⟨i0, hi, hz0, hz1, hz2⟩ := info_parts infoClass
  obtain ⟨v', w', h1, h2, h3, h4⟩ := run_append_list (P := Try.prog) w base 29 29 22 i0 (.int .u8 0) 1 Try.underlying29 hi hz0 hz1 hz2 rfl v n (u8l xs) hown a us.length c (u8l us) (by simp) (newsB h) (oneU .u8 us) (by unfold maxLen; omega) (by omega) hb
  exact ⟨v', w', fun ty => h1, by simpa using h2, h3, h4⟩
theorem appI (w : World) (base : Nat) (v : Value) (n : Nat) (xs us : List Int) (a : Option Addr) (c : Nat) (hown : w.ownsRow base 21 1 v n (i32l xs)) (h : Reads w a us) (hn : n + us.length ≤ 17592186044416) (hb : base ≤ w.heap.size) :
    ∃ v' w', (∀ ty, (Builtin.append_ #[26, 26] ty #[v, .slice a us.length c]).run Try.prog w = .ok v' w') ∧ w'.ownsRow base 21 1 v' (n + us.length) (i32l (xs ++ us)) ∧ w.grownBy w' v.ownBlock ∧ (v'.ownBlock = v.ownBlock ∨ v'.ownBlock = some w.heap.size) := by
  obtain ⟨i0, hi, hz0, hz1, hz2⟩ := info_parts infoRune
  obtain ⟨v', w', h1, h2, h3, h4⟩ := run_append_list (P := Try.prog) w base 26 26 21 i0 (.int .i32 0) 4 Try.underlying26 hi hz0 hz1 hz2 rfl v n (i32l xs) hown a us.length c (i32l us) (by simp) (newsI h) (oneU .i32 us) (by unfold maxLen; omega) (by omega) hb
  exact ⟨v', w', fun ty => h1, by simpa using h2, h3, h4⟩

/-! the small functions -/
set_option maxRecDepth 100000
set_option maxHeartbeats 1000000
theorem begins_any (c : Int) (w : World) : Calls Try.prog 51 #[.int .u8 c] w fun e w' => e = .returned (.bool (begC c)) ∧ w' = w := by
  have hb : begC c = (c == 20 || c == 21 || c == 22) := rfl
  by_cases h1 : c = 20
  · subst h1
    go_enter Try.func51, Try.ntmps51
    go_wp2
    go_ret
    exact ⟨rfl, rfl⟩
  · by_cases h2 : c = 21
    · subst h2
      go_enter Try.func51, Try.ntmps51
      go_wp2
      go_ret
      exact ⟨rfl, rfl⟩
    · have q1 : (c == 20) = false := by simpa using h1
      have q2 : (c == 21) = false := by simpa using h2
      rw [q1, q2] at hb
      rw [hb]
      clear h1 h2 hb
      generalize hq3 : (c == 22) = q3
      go_enter Try.func51, Try.ntmps51
      go_wp2
      go_ret
      exact ⟨by simp, rfl⟩
end Go.Proofs.Ytkckkchnmgidgaa

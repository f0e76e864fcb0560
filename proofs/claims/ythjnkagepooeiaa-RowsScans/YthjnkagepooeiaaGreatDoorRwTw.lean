/-
  The law's twin (furrowlaw06): a line with fields of its own, and a mark behind them.
-/
import Derived.Test.YthjnkagepooeiaaGreatDoorRd
import Derived.Test.YthjnkagepooeiaaGreatDoorLRead
import Derived.Deep.Upon
import Derived.Maps.AppendAt
namespace Go.Proofs.YthjnkagepooeiaaGreatDoor
open Go.RowKit Go.PlainAid Go.Lib Go.Shelf
set_option linter.unusedVariables false

/-- texts in memory, from whatever place of a block on -/
def TxP (w : World) (a : Option Addr) (l : List (List UInt8)) : Prop := ∀ (i : Nat) (x : List UInt8), l[i]? = some x → ∃ g o, a = some ⟨g, o, none⟩ ∧ g < w.heap.size ∧ w.cell? ⟨g, o + i, none⟩ = some (.string (S x))
theorem TxP.below {w w' : World} {a : Option Addr} {l : List (List UInt8)} (h : TxP w a l) (hb : Below w.heap.size w w') : TxP w' a l := by
  intro i x hx
  obtain ⟨g, o, h1, h2, h3⟩ := h i x hx
  exact ⟨g, o, h1, Nat.lt_of_lt_of_le h2 hb.size, (hb.cell (p := ⟨g, o + i, none⟩) h2).trans h3⟩
theorem TxP.addr {w : World} {a : Option Addr} {l : List (List UInt8)} (h : TxP w a l) (h0 : 0 < l.length) : ∃ g o, a = some ⟨g, o, none⟩ ∧ g < w.heap.size ∧ ∀ (i : Nat) (x : List UInt8), l[i]? = some x → w.cell? ⟨g, o + i, none⟩ = some (.string (S x)) := by
  obtain ⟨g, o, h1, h2, -⟩ := h 0 _ (List.getElem?_eq_getElem h0)
  refine ⟨g, o, h1, h2, fun i x hx => ?_⟩
  obtain ⟨g', o', h3, _, h5⟩ := h i x hx
  rw [h1] at h3
  obtain ⟨rfl, rfl⟩ : g = g' ∧ o = o' := by simpa using h3
  exact h5

theorem results_line1 {fn : Func} {p : Tmp} (h : fn.results = #[.cell p 25]) (tmps : Array Value) (w : World) (g : Nat) (x0 x1 x2 x3 x4 : Value)
    (hp : tmps.getD p undef = .pointer (some ⟨g, 0, none⟩)) (hg : w.heap[g]? = some (.cells #[x0, x1, x2, x3, x4] 25)) : (results fn tmps).run Tryz.prog w = .ok (.agg #[x0, x1, x2, x3, x4]) w := by
  simp only [results, h]
  have hp' : tmps[p]?.getD undef = .pointer (some ⟨g, 0, none⟩) := by rw [← hp]; simp
  simp [hp', asAddr]
  rw [run_loadVar_row w g _ 25 _ (0, 0) _ hg Tryz.underlying25 rfl sizeLine]

theorem append_tp {P : Program} (w : World) (base : Nat) (t ty e : TypeId) (i : TypeInfo) (z : Value) (bytes : Nat) (ht : P.underlying t = some (.slice e)) (hi : P.info? e = some i) (hz : i.zero = some z)
    (hsize : i.size = 1) (hby : i.bytes = bytes) (hzs : z.cells.size = 1)
    (v : Value) (n : Nat) (xs : List Value) (hown : w.ownsRow base e 1 v n xs) (a : Option Addr) (m c : Nat) (l : List (List UInt8)) (hm : l.length = m) (hc : m ≤ c) (h : TxP w a l)
    (h63 : n + m ≤ maxLen) (hbytes : (n + m) * bytes ≤ 140737488355328) (hbase : base ≤ w.heap.size) :
    ∃ v' w', (Builtin.append_ #[t, t] ty #[v, .slice a m c]).run P w = .ok v' w' ∧ w'.ownsRow base e 1 v' (n + m) (xs ++ strVs (l.map S)) ∧ w.grownBy w' v.ownBlock := by
  by_cases h0 : m = 0
  · subst h0
    have : l = [] := List.eq_nil_of_length_eq_zero hm
    subst this
    obtain ⟨b, c', rfl⟩ := row_slice2 hown
    have hle : n ≤ c' := by
      rcases hown.2 with ⟨he, h0⟩ | ⟨g, cap, cur, he, _, _, h1, _⟩
      · simp at he; omega
      · simp at he; obtain ⟨_, rfl⟩ := he; exact h1
    refine ⟨_, _, run_append_nothing w t t ty e i ht hi b n c' hle _ ?_, ?_, World.grownBy.refl _ _⟩
    · cases a with
      | none => exact Src.ofNil w ht c
      | some a => exact Src.ofSlice w ht a 0 c [] (by simp) (fun j u hu => by simp at hu) (by simp)
    · simpa using hown
  · obtain ⟨g, o, rfl, hg, hcl⟩ := h.addr (by omega)
    have hl : (strVs (l.map S)).length = m * 1 := by simp [hm]
    obtain ⟨v', w', r1, r2, r3, _⟩ := run_append_own_at (P := P) (w := w) base t ty e i z 1 bytes ht hi hz hsize hby hzs (by decide) v n xs hown ⟨g, o, none⟩ m c (strVs (l.map S)) hl (fun j u hu => by
      rw [List.getElem?_map, List.getElem?_map] at hu
      obtain ⟨x, hx, rfl⟩ := Option.map_eq_some_iff.1 hu
      obtain ⟨y, hy, rfl⟩ := Option.map_eq_some_iff.1 hx
      rw [Go.WideShapes.add_plain]; exact hcl j y hy) (fun u hu => by
      obtain ⟨x, _, rfl⟩ := List.mem_map.1 hu; rfl) h63 hbytes hbase
    exact ⟨v', w', r1, r2, r3⟩

theorem wpList_append_tp {P : Program} {w : World} {ops : Array Oper} {rest : List Oper} {o : Oper} {a : Act} {Q : Exit → Act → World → Prop} (hgd : Region.wanted o (yielded ops a.tmps) = true) (s x : Operand) (t : TypeId)
    (ho : o.op = .call { callee := .builtin .append, args := #[s, x], argTypes := #[t, t] })
    (base : Nat) (e : TypeId) (i : TypeInfo) (z : Value) (bytes : Nat) (ht : P.underlying t = some (.slice e)) (hi : P.info? e = some i) (hz : i.zero = some z)
    (hsize : i.size = 1) (hby : i.bytes = bytes) (hzs : z.cells.size = 1)
    (v : Value) (n : Nat) (xs : List Value) (hs : a.eval s = v) (hown : w.ownsRow base e 1 v n xs) (ad : Option Addr) (m c : Nat) (l : List (List UInt8)) (hx : a.eval x = .slice ad m c) (hm : l.length = m) (hc : m ≤ c) (htx : TxP w ad l)
    (h63 : n + m ≤ maxLen) (hbytes : (n + m) * bytes ≤ 140737488355328) (hbase : base ≤ w.heap.size)
    (h : ∀ v' w', w'.ownsRow base e 1 v' (n + m) (xs ++ strVs (l.map S)) → w.grownBy w' v.ownBlock → wpList P ops Q rest (a.put o.dst v') w') :
    wpList P ops Q (o :: rest) a w := by
  obtain ⟨v', w', hr, h2, h3⟩ := append_tp (P := P) w base t o.type e i z bytes ht hi hz hsize hby hzs v n xs hown ad m c l hm hc htx h63 hbytes hbase
  show (if Region.wanted o (yielded ops a.tmps) then _ else _)
  rw [if_pos hgd]
  refine .inl ?_
  unfold Oper.wp execOp
  simp only [ho, resolve, invoke, builtin, Sem.run_bind, Sem.run_pure, Result.andThen_ok, List.map_toArray, List.map_cons, List.map_nil, hs, hx, hr]
  exact h v' w' h2 h3

abbrev markL : List UInt8 := [109, 97, 114, 107]

set_option maxRecDepth 100000 in
set_option maxHeartbeats 2000000 in
theorem twin6_any (d : LineD) (a : Option Addr) (n c : Nat) (w : World) (hn : d.fields.length = n) (hc : n ≤ c) (hb : n ≤ 1099511627776) (h : TxP w a d.fields) :
    Calls Tryz.prog 13 #[lineV d (.slice a n c)] w fun e w' => ∃ g cap, e = .returned (lineV d (.slice (some ⟨g, 0, none⟩) n cap)) ∧ w'.ownsRow w.heap.size 9 1 (.slice (some ⟨g, 0, none⟩) (n + 1) cap) (n + 1) (strVs ((d.fields ++ [markL]).map S)) ∧ Below w.heap.size w w' := by
  obtain ⟨i0, hi0, hz0, hz1, hz2⟩ := info_parts infoStr
  obtain ⟨no, kind, name, fields, note⟩ := d
  simp only [lineV] at *
  obtain ⟨W, hW⟩ : ∃ W, (w.alloc (.cells #[.int .i64 no, .int .u8 kind, .string (S name), .slice a n c, .string (S note)] 25)).alloc zeroBlk = W := ⟨_, rfl⟩
  have hB : Below w.heap.size w W := by rw [← hW]; exact ((Below.refl _ w).alloc (Nat.le_refl _) _).alloc (by simp) _
  have g1 : W.heap[w.heap.size]? = some (.cells #[.int .i64 no, .int .u8 kind, .string (S name), .slice a n c, .string (S note)] 25) := by
    rw [← hW, Below.heap_alloc _ _ _ (by simp)]; exact heap_alloc_new _ _
  have g2 : W.heap[w.heap.size + 1]? = some zeroBlk := by
    have := heap_alloc_new (w.alloc (.cells #[.int .i64 no, .int .u8 kind, .string (S name), .slice a n c, .string (S note)] 25)) zeroBlk
    rw [hW] at this; simpa using this
  have hWs : W.heap.size = w.heap.size + 2 := by rw [← hW]; simp
  obtain ⟨c0, c1, c2, c3, c4, -, -, -, -, -⟩ := box5 g1
  have HTX := hide (h.below hB)
  have HG1 := hide g1
  have HG2 := hide g2
  clear h g1 g2
  go_enter Tryz.func13, Tryz.ntmps13
  go_wp2_with (at_builtin; first | (refine wpList_append_tp rfl _ _ 23 rfl W.heap.size 9 i0 (.string ⟨#[]⟩) 16 Tryz.underlying23 hi0 hz0 hz1 hz2 rfl _ 0 [] rfl (World.ownsRow_nil W _ _ _) _ _ _ fields rfl hn hc (unhide HTX) (by unfold maxLen; omega) (by omega) (Nat.le_refl _) ?_; intro v' w4 hown hgrow; rw [Nat.zero_add, List.nil_append] at hown; obtain ⟨fa, fc, rfl⟩ := row_slice2 hown; replace hgrow : W.grownBy w4 none := hgrow; have hs4 : W.heap.size ≤ w4.heap.size := hgrow.size) | (refine wpList_append_own_at _ rfl _ _ 23 rfl W.heap.size 9 i0 (.string ⟨#[]⟩) 1 16 Tryz.underlying23 hi0 hz0 hz1 hz2 rfl (by decide) _ _ _ rfl (hown.alloc _) ⟨w4.heap.size, 0, none⟩ 1 1 [.string ⟨#[109, 97, 114, 107]⟩] rfl rfl (cell_one_new _ _ _) (by simp [Value.oneCell']) (by unfold maxLen; omega) (by omega) (by simp; omega) ?_; intro v'' w5 hown5 hgrow5 _ _; replace hgrow5 : World.grownBy _ w5 (Value.slice fa n fc).ownBlock := hgrow5; obtain ⟨g', cap', rfl⟩ := ownsRow_succ hown5; have hk5 : ∀ k, k < W.heap.size → w5.heap[k]? = W.heap[k]? := (fun k hk => (hgrow5.block k (by simp; omega) (fun e => by have := (hown.lt k e.symm).1; omega)).trans ((Below.heap_alloc _ _ _ (by omega)).trans (hgrow.block k hk (by simp)))); have q1 := (hk5 _ (by omega)).trans (unhide HG1); have q2 := (hk5 _ (by omega)).trans (unhide HG2); obtain ⟨e0, e1, e2, e3, e4, f0, f1, f2, f3, f4⟩ := box5 q1; obtain ⟨W6, hW6⟩ : ∃ W6, w5.setCell ⟨w.heap.size, 3, none⟩ (.slice (some ⟨g', 0, none⟩) n cap') = W6 := ⟨_, rfl⟩; have s1 : W6.heap[w.heap.size]? = some (.cells #[.int .i64 no, .int .u8 kind, .string (S name), .slice (some ⟨g', 0, none⟩) n cap', .string (S note)] 25) := (by rw [← hW6, heap_setCell_same _ _ _ _ _ _ q1]; rfl); have s2 : W6.heap[w.heap.size + 1]? = some zeroBlk := (by rw [← hW6, heap_setCell_other _ _ _ _ (by simp)]; exact q2); obtain ⟨p0, p1, p2, p3, p4, -, -, -, -, -⟩ := box5 s1; obtain ⟨z0, z1, z2, z3, z4, y0, y1, y2, y3, y4⟩ := box5 s2; obtain ⟨_, _, he, hcc1, hcc2, _, _⟩ := row_form hown5 (by omega); obtain ⟨rfl, rfl⟩ : g' = _ ∧ cap' = _ := (by simpa using he); have hm1 : maxLen = 9223372036854775807 := rfl; rw [hm1] at hcc2))
  have hB4 : Below w.heap.size w w4 := belowG (e := 9) (size := 1) (v := .slice none 0 0) hB hB.size (World.ownsRow_nil W w.heap.size _ _) hgrow
  have hB5 : Below w.heap.size w w5 := belowG (hB4.alloc hB4.size _) (by have := hB4.size; simp; omega) (row_base (hown.alloc _) (by omega)) hgrow5
  have hB6 : Below w.heap.size w W6 := by rw [← hW6]; exact hB5.setCell (Nat.le_refl _) _
  have r6 : W6.ownsRow W.heap.size 9 1 (.slice (some ⟨g', 0, none⟩) (n + 1) cap') (n + 1) (strVs (List.map S fields) ++ [.string ⟨#[109, 97, 114, 107]⟩]) := by rw [← hW6]; exact row_set hown5 (by omega) _
  obtain ⟨W7, hW7, hb7, hB7, hr7, -, -⟩ := set5 s2 (.int .i64 no) (.int .u8 kind) (.string (S name)) (.slice (some ⟨g', 0, none⟩) n cap') (.string (S note))
  rw [hW7]
  refine bodyPost_ret (results_line1 rfl _ _ _ _ _ _ _ _ rfl hb7) rfl ?_
  refine ⟨g', cap', rfl, ?_, hB7 _ _ hB6 (Nat.le_succ _)⟩
  have := row_base (hr7 _ _ _ _ _ _ r6 (by omega)) (show w.heap.size ≤ W.heap.size by omega)
  simpa using this
end Go.Proofs.YthjnkagepooeiaaGreatDoor

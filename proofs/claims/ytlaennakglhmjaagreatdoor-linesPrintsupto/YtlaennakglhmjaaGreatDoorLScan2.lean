/-
  Scan of package lines, for every text: orders, and the rest.
-/
import Derived.Test.YtlaennakglhmjaaGreatDoorLScan
namespace Go.Proofs.YtlaennakglhmjaaGreatDoor
open Go.RowKit Go.PlainAid Go.Lib Go.Shelf
set_option linter.unusedVariables false

/-- a line -/
structure LineD where
  no : Int
  kind : Int
  name : List UInt8
  fields : List (List UInt8)
  note : List UInt8
def zeroD : LineD := ⟨0, 0, [], [], []⟩
abbrev lineV (d : LineD) (v : Value) : Value := .agg #[.int .i64 d.no, .int .u8 d.kind, .string (S d.name), v, .string (S d.note)]
/-- a list of texts in memory of the call's own -/
abbrev TextsAt (w : World) (base : Nat) (v : Value) (l : List (List UInt8)) : Prop := w.ownsRow base 9 1 v l.length (strVs (l.map S))

theorem row_base {w : World} {b b' : Nat} {e : TypeId} {size : Nat} {v : Value} {n : Nat} {xs : List Value} (h : w.ownsRow b e size v n xs) (hb : b' ≤ b) : w.ownsRow b' e size v n xs := by
  refine ⟨h.1, ?_⟩
  rcases h.2 with h | ⟨g, cap, cur, h1, h2, h3, h4⟩
  · exact .inl h
  · exact .inr ⟨g, cap, cur, h1, by omega, h3, h4⟩
theorem row_set {w : World} {b : Nat} {e : TypeId} {size : Nat} {v : Value} {n : Nat} {xs : List Value} (h : w.ownsRow b e size v n xs) {k o : Nat} (hk : k < b) (x : Value) : (w.setCell ⟨k, o, none⟩ x).ownsRow b e size v n xs := by
  refine ⟨h.1, ?_⟩
  rcases h.2 with h | ⟨g, cap, cur, h1, h2, h3, h4⟩
  · exact .inl h
  · exact .inr ⟨g, cap, cur, h1, h2, (Below.heap_setCell _ _ _ _ (by show g ≠ k; omega)).trans h3, h4⟩
theorem box5 {W : World} {b : Nat} {x y z u v : Value} {t : TypeId} (h : W.heap[b]? = some (.cells #[x, y, z, u, v] t)) :
    W.cell? ⟨b, 0, none⟩ = some x ∧ W.cell? ⟨b, 1, none⟩ = some y ∧ W.cell? ⟨b, 2, none⟩ = some z ∧ W.cell? ⟨b, 3, none⟩ = some u ∧ W.cell? ⟨b, 4, none⟩ = some v ∧ W.frozen? ⟨b, 0, none⟩ = false ∧ W.frozen? ⟨b, 1, none⟩ = false ∧ W.frozen? ⟨b, 2, none⟩ = false ∧ W.frozen? ⟨b, 3, none⟩ = false ∧ W.frozen? ⟨b, 4, none⟩ = false := by
  refine ⟨?_, ?_, ?_, ?_, ?_, ?_, ?_, ?_, ?_, ?_⟩ <;> simp [World.cell?, World.frozen?, h]
/-- five cells of one block, written one behind the other -/
theorem set5 {W : World} {b : Nat} {x0 x1 x2 x3 x4 : Value} {t : TypeId} (h : W.heap[b]? = some (.cells #[x0, x1, x2, x3, x4] t)) (y0 y1 y2 y3 y4 : Value) :
    ∃ W5, ((((W.setCell ⟨b, 0, none⟩ y0).setCell ⟨b, 1, none⟩ y1).setCell ⟨b, 2, none⟩ y2).setCell ⟨b, 3, none⟩ y3).setCell ⟨b, 4, none⟩ y4 = W5 ∧ W5.heap[b]? = some (.cells #[y0, y1, y2, y3, y4] t) ∧ (∀ B w, Below B w W → B ≤ b → Below B w W5) ∧
      (∀ B e size v n xs, W.ownsRow B e size v n xs → b < B → W5.ownsRow B e size v n xs) ∧ (∀ k, k ≠ b → W5.heap[k]? = W.heap[k]?) ∧ W5.heap.size = W.heap.size := by
  refine ⟨_, rfl, ?_, ?_, ?_, ?_, by simp⟩
  · have h1 := heap_setCell_same W b 0 _ t y0 h
    have h2 := heap_setCell_same _ b 1 _ t y1 h1
    have h3 := heap_setCell_same _ b 2 _ t y2 h2
    have h4 := heap_setCell_same _ b 3 _ t y3 h3
    have h5 := heap_setCell_same _ b 4 _ t y4 h4
    rw [h5]; rfl
  · intro B w hB hb
    exact ((((hB.setCell hb _).setCell hb _).setCell hb _).setCell hb _).setCell hb _
  · intro B e size v n xs hr hb
    exact row_set (row_set (row_set (row_set (row_set hr hb _) hb _) hb _) hb _) hb _
  · intro k hk
    rw [heap_setCell_other _ _ _ _ hk, heap_setCell_other _ _ _ _ hk, heap_setCell_other _ _ _ _ hk, heap_setCell_other _ _ _ _ hk, heap_setCell_other _ _ _ _ hk]
theorem sizeLine : (Tryz.prog.info? 41).map (·.size) = some 5 := by kernel_rfl
theorem results_line {fn : Func} {p u : Tmp} (h : fn.results = #[.cell p 41, .tmp u]) (tmps : Array Value) (w : World) (g : Nat) (x0 x1 x2 x3 x4 : Value)
    (hp : tmps.getD p undef = .pointer (some ⟨g, 0, none⟩)) (hg : w.heap[g]? = some (.cells #[x0, x1, x2, x3, x4] 41)) : (results fn tmps).run Tryz.prog w = .ok (.tuple #[.agg #[x0, x1, x2, x3, x4], tmps.getD u undef]) w := by
  rw [results_cell_tmp h, hp]
  simp only [asAddr, Sem.run_pure, Result.andThen_ok]
  rw [run_loadVar_row w g _ 41 _ (0, 0) _ hg Tryz.underlying41 rfl sizeLine]
  rfl
abbrev zeroBlk : Obj := .cells #[.int .i64 0, .int .u8 0, .string ⟨#[]⟩, .slice none 0 0, .string ⟨#[]⟩] 41

/-- an order, of which what stands behind the @ is known -/
def orderS (no : Int) (l : List UInt8) : LineD × Int :=
  if ((untilB 58 l).2.2 && nameB (S (untilB 58 l).1)) = true then (⟨no, 2, (untilB 58 l).1, (cutS (S (untilB 58 l).2.1)).1, (cutS (S (untilB 58 l).2.1)).2⟩, 0) else (zeroD, 33)
theorem until_le (c : UInt8) (l : List UInt8) : (untilB c l).1.length ≤ l.length ∧ (untilB c l).2.1.length ≤ l.length := by
  rcases until_index l c with ⟨_, h⟩ | ⟨n, _, _, h⟩ <;> rw [h] <;> simp
  omega

set_option maxRecDepth 100000 in
set_option maxHeartbeats 2000000 in
theorem scanOrder_any (no : Int) (s : ByteArray) (w : World) (hs : s.size ≤ 1099511627776) :
    Calls Tryz.prog 30 #[.int .i64 no, .string s] w fun e w' => ∃ v, e = .returned (.tuple #[lineV (orderS no (L s)).1 v, .int .i64 (orderS no (L s)).2]) ∧ TextsAt w' w.heap.size v (orderS no (L s)).1.fields ∧ Below w.heap.size w w' := by
  have hmx : s.size ≤ maxLen := by unfold maxLen; omega
  have hC := fun w => strCut_any s w hmx
  have hul := until_le 58 (L s)
  rw [L_len] at hul
  have hN := fun w => isName_any (S (untilB 58 (L s)).1) w (by rw [S_size]; unfold maxLen; omega)
  have hK := fun w => cut_any (S (untilB 58 (L s)).2.1) w (by rw [S_size]; omega)
  obtain ⟨U1, U2, U3, hU⟩ : ∃ U1 U2 U3, untilB 58 (L s) = (U1, U2, U3) := ⟨_, _, _, rfl⟩
  unfold orderS
  simp only [hU] at hC hN hK ⊢
  obtain ⟨C1, C2, hCC⟩ : ∃ C1 C2, cutS (S U2) = (C1, C2) := ⟨_, _, rfl⟩
  simp only [hCC] at hK ⊢
  clear hCC hU
  have HC := hide hC
  have HN := hide hN
  have HK := hide hK
  clear hC hN hK hul
  cases hb1 : U3 with
  | false =>
    subst hb1
    simp only [Bool.false_and, Bool.false_eq_true]
    go_enter Tryz.func30, Tryz.ntmps30
    go_wp2_with fail
    refine (unhide HC _).mono ?_
    rintro e w1 ⟨rfl, hb1⟩
    have hblk : w1.heap[w.heap.size]? = some zeroBlk := (hb1.block w.heap.size (by simp)).trans (heap_alloc_new w _)
    have hB1 : Below w.heap.size w w1 := ((Below.refl _ w).alloc (Nat.le_refl _) _).trans (hb1.mono (by simp))
    obtain ⟨c0, c1, c2, c3, c4, f0, f1, f2, f3, f4⟩ := box5 hblk
    have HBK := hide hblk
    clear hblk hb1
    go_wp2
    obtain ⟨W5, hW5, hb5, hB5, hr5, -, -⟩ := set5 (unhide HBK) (.int .i64 0) (.int .u8 0) (.string ⟨#[]⟩) (.slice none 0 0) (.string ⟨#[]⟩)
    rw [hW5]
    refine bodyPost_ret (results_line rfl _ _ _ _ _ _ _ _ rfl hb5) rfl ?_
    exact ⟨.slice none 0 0, rfl, World.ownsRow_nil _ _ _ _, hB5 _ _ hB1 (Nat.le_refl _)⟩
  | true =>
    subst hb1
    cases hb2 : nameB (S U1) with
    | false =>
      rw [hb2] at HN
      simp only [Bool.and_false, Bool.false_eq_true]
      go_enter Tryz.func30, Tryz.ntmps30
      go_wp2_with fail
      refine (unhide HC _).mono ?_
      rintro e w1 ⟨rfl, hb1⟩
      have hblk : w1.heap[w.heap.size]? = some zeroBlk := (hb1.block w.heap.size (by simp)).trans (heap_alloc_new w _)
      have hB1 : Below w.heap.size w w1 := ((Below.refl _ w).alloc (Nat.le_refl _) _).trans (hb1.mono (by simp))
      have HBK := hide hblk
      clear hblk hb1
      go_wp2_with fail
      refine (unhide HN _).mono ?_
      rintro e w2 ⟨rfl, hb2⟩
      have hblk2 : w2.heap[w.heap.size]? = some zeroBlk := (hb2.block w.heap.size (Array.getElem?_eq_some_iff.1 (unhide HBK)).1).trans (unhide HBK)
      have hB2 : Below w.heap.size w w2 := hB1.trans (hb2.mono hB1.size)
      obtain ⟨c0, c1, c2, c3, c4, f0, f1, f2, f3, f4⟩ := box5 hblk2
      have HBK2 := hide hblk2
      clear hblk2 hb2 hB1
      go_wp2
      obtain ⟨W5, hW5, hb5, hB5, hr5, -, -⟩ := set5 (unhide HBK2) (.int .i64 0) (.int .u8 0) (.string ⟨#[]⟩) (.slice none 0 0) (.string ⟨#[]⟩)
      rw [hW5]
      refine bodyPost_ret (results_line rfl _ _ _ _ _ _ _ _ rfl hb5) rfl ?_
      exact ⟨.slice none 0 0, rfl, World.ownsRow_nil _ _ _ _, hB5 _ _ hB2 (Nat.le_refl _)⟩
    | true =>
      rw [hb2] at HN
      simp only [Bool.and_self, if_true]
      go_enter Tryz.func30, Tryz.ntmps30
      go_wp2_with fail
      refine (unhide HC _).mono ?_
      rintro e w1 ⟨rfl, hb1⟩
      have hblk : w1.heap[w.heap.size]? = some zeroBlk := (hb1.block w.heap.size (by simp)).trans (heap_alloc_new w _)
      have hB1 : Below w.heap.size w w1 := ((Below.refl _ w).alloc (Nat.le_refl _) _).trans (hb1.mono (by simp))
      have HBK := hide hblk
      clear hblk hb1
      go_wp2_with fail
      refine (unhide HN _).mono ?_
      rintro e w2 ⟨rfl, hb2⟩
      have hblk2 : w2.heap[w.heap.size]? = some zeroBlk := (hb2.block w.heap.size (Array.getElem?_eq_some_iff.1 (unhide HBK)).1).trans (unhide HBK)
      have hB2 : Below w.heap.size w w2 := hB1.trans (hb2.mono hB1.size)
      have HBK2 := hide hblk2
      clear hblk2 hb2 hB1
      go_wp2_with fail
      refine (unhide HK _).mono ?_
      rintro e w3 ⟨v, rfl, hrow, hb3⟩
      have hlt2 : w.heap.size < w2.heap.size := (Array.getElem?_eq_some_iff.1 (unhide HBK2)).1
      have hblk3 : w3.heap[w.heap.size]? = some zeroBlk := (hb3.block w.heap.size hlt2).trans (unhide HBK2)
      have hB3 : Below w.heap.size w w3 := hB2.trans (hb3.mono hB2.size)
      obtain ⟨c0, c1, c2, c3, c4, f0, f1, f2, f3, f4⟩ := box5 hblk3
      obtain ⟨a, c, rfl⟩ := row_slice2 hrow
      have HR := hide hrow
      have HBK3 := hide hblk3
      clear hblk3 hb3 hB2 hrow HBK HBK2
      go_wp2
      obtain ⟨W5, hW5, hb5, hB5, hr5, -, -⟩ := set5 (unhide HBK3) (.int .i64 no) (.int .u8 2) (.string (S U1)) (.slice a C1.length c) (.string (S C2))
      rw [hW5]
      refine bodyPost_ret (results_line rfl _ _ _ _ _ _ _ _ rfl hb5) rfl ?_
      exact ⟨_, rfl, row_base (hr5 _ _ _ _ _ _ (unhide HR) hlt2) (Nat.le_of_lt hlt2), hB5 _ _ hB3 (Nat.le_refl _)⟩
end Go.Proofs.YtlaennakglhmjaaGreatDoor

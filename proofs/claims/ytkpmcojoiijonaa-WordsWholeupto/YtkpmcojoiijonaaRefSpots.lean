/-
  The document's list of Spots (Spots of furrowref01), for every text.
-/
import Derived.Test.YtkpmcojoiijonaaRefAt
namespace Go.Proofs.Ytkpmcojoiijonaa
open Go.RowKit Go.PlainAid Go.Lib
set_option linter.unusedVariables false

theorem infoSpot : (Try.prog.info? 62).map (fun i => (i.zero, i.size, i.bytes)) = some (some (.agg #[.int .i64 0, .int .i64 0, .int .i32 0, .int .i64 0]), 4, 32) := by kernel_rfl

/-- the cells of the Spots of the characters at the places l -/
def spotCs (s : ByteArray) (l : List Nat) : List Value := l.flatMap fun i => [.int .i64 (i : Nat), .int .i64 ((Utf8.decode s i).2 : Nat), .int .i32 ((Utf8.decode s i).1 : Nat), .int .i64 (why s i)]
theorem spotCs_snoc (s : ByteArray) (l : List Nat) (i : Nat) : spotCs s (l ++ [i]) = spotCs s l ++ [.int .i64 (i : Nat), .int .i64 ((Utf8.decode s i).2 : Nat), .int .i32 ((Utf8.decode s i).1 : Nat), .int .i64 (why s i)] := by simp [spotCs]
theorem row_below2 {w w' : World} {base : Nat} {e : TypeId} {size : Nat} {v : Value} {n : Nat} {xs : List Value} (h : w.ownsRow base e size v n xs) (hb : Below w.heap.size w w') : w'.ownsRow base e size v n xs := by
  refine ⟨h.1, ?_⟩
  rcases h.2 with h | ⟨g, cap, cur, h1, h2, h3, h4⟩
  · exact .inl h
  · exact .inr ⟨g, cap, cur, h1, h2, (hb.block g (Array.getElem?_eq_some_iff.1 h3).1).trans h3, h4⟩
theorem cell_four_new (w : World) (a b c d : Value) (t : TypeId) : ∀ j u, [a, b, c, d][j]? = some u → (w.alloc (.cells #[a, b, c, d] t)).cell? ((⟨w.heap.size, 0, none⟩ : Addr).add j) = some u := by
  intro j u hj
  match j, hj with
  | 0, hj => simp at hj; subst hj; simp [Addr.add]
  | 1, hj => simp at hj; subst hj; simp [Addr.add]
  | 2, hj => simp at hj; subst hj; simp [Addr.add]
  | 3, hj => simp at hj; subst hj; simp [Addr.add]
  | j + 4, hj => simp at hj
theorem below_grown2 {a W w4 : World} {B : Nat} {e : TypeId} {size : Nat} {v : Value} {n : Nat} {xs : List Value} (hB : Below B a W) (hB' : B ≤ W.heap.size) (h : W.ownsRow B e size v n xs) (hg : W.grownBy w4 v.ownBlock) : Below B a w4 :=
  hB.grown hg hB' (fun k e1 => (h.lt k e1).1)
theorem cell_four (w : World) (b : Nat) (x y z u : Value) (t : TypeId) (h : w.heap[b]? = some (.cells #[x, y, z, u] t)) : w.cell? ⟨b, 0, none⟩ = some x ∧ w.cell? ⟨b, 1, none⟩ = some y ∧ w.cell? ⟨b, 2, none⟩ = some z ∧ w.cell? ⟨b, 3, none⟩ = some u := by
  refine ⟨?_, ?_, ?_, ?_⟩ <;> simp [World.cell?, h]

set_option maxRecDepth 100000 in
set_option maxHeartbeats 2000000 in
theorem refSpots_any (s : ByteArray) (w : World) (hs : s.size ≤ 1099511627776) :
    Calls Try.prog 39 #[.string s] w fun e w' => ∃ v, e = .returned v ∧ w'.ownsRow w.heap.size 62 4 v (places s).length (spotCs s (places s)) ∧ Below w.heap.size w w' := by
  obtain ⟨i0, hi, hz0, hz1, hz2⟩ := info_parts infoSpot
  have hcl := chars_length s 0
  go_enter Try.func39, Try.ntmps39
  go_wp2
  go_loopw [3, 4] (fun v3 v4 wr => ∃ (pos : Nat) (pre : List Nat), Hid (pre ++ (chars s pos).map (·.1) = places s) ∧ pos ≤ s.size ∧ v4 = .int .i64 pos ∧ wr.ownsRow w.heap.size 62 4 v3 pre.length (spotCs s pre) ∧ Below w.heap.size w wr) (fun _ v4 _ => s.size - (intOf v4).toNat)
  case atStart => exact ⟨0, [], rfl, Nat.zero_le _, rfl, by simpa [spotCs] using World.ownsRow_nil w _ _ _, Below.refl _ _⟩
  case round =>
    obtain ⟨pos, pre, HP, hps, rfl, hrow, hB⟩ := hrel
    by_cases hlt : pos < s.size
    · have hb := dec_bounds s pos hlt
      have HP2 : Hid (pre ++ [pos] ++ (chars s (pos + (Utf8.decode s pos).2)).map (·.1) = places s) := by
        show _ = _
        rw [← HP.out, chars_step s pos hlt]; simp
      have hpl : pre.length + 1 ≤ s.size := by
        have := congrArg List.length HP2.out
        rw [places_length] at this; simp at this; omega
      go_wp2_with fail
      refine (refAt_any s pos wr (by omega) hlt).mono ?_
      rintro e w1 ⟨rfl, hb1⟩
      have hrow1 := row_below2 hrow hb1
      have hB1 := hB.trans (hb1.mono hB.size)
      have hBs := hB1.size
      clear hb1 hrow hB HP
      unfold spotOf
      have hsn := spotCs_snoc s pre pos
      unfold why at hsn
      have HSN := hide hsn
      clear hsn
      generalize hD : (Utf8.decode s pos).2 = D at *
      generalize (Utf8.decode s pos).1 = R at *
      generalize hC : whyN (s.extract pos s.size) = C at *
      clear hD hC
      obtain ⟨a, n', c, rfl⟩ : ∃ a n' c, u3 = .slice a n' c := by
        rcases hrow1.2 with ⟨rfl, _⟩ | ⟨g, cap, cur, rfl, _⟩
        · exact ⟨_, _, _, rfl⟩
        · exact ⟨_, _, _, rfl⟩
      go_wp2_with (at_builtin; refine wpList_append_own _ rfl _ _ 59 rfl w.heap.size 62 i0 (.agg #[.int .i64 0, .int .i64 0, .int .i32 0, .int .i64 0]) 4 32 Try.underlying59 hi hz0 hz1 hz2 rfl (by decide) _ _ _ rfl ((hrow1.alloc _).alloc _) ⟨w1.heap.size + 1, 0, none⟩ 1 1 [.int .i64 (pos : Nat), .int .i64 (D : Nat), .int .i32 (R : Nat), .int .i64 C] rfl rfl (by simpa using cell_four_new (w1.alloc (spotCells pos D R C)) (.int .i64 (pos : Nat)) (.int .i64 (D : Nat)) (.int .i32 (R : Nat)) (.int .i64 C) 62) (by simp [Value.oneCell']) (by unfold maxLen; omega) (by omega) (by simp; omega) ?_; intro v' w4 hown' hgrow _; have hx4 : w4.heap[w1.heap.size]? = some (spotCells pos D R C) := (hgrow.block w1.heap.size (by simp; omega) (fun e => by have := (hrow1.lt _ e.symm).2; omega)).trans ((Below.heap_alloc _ _ _ (by simp)).trans (heap_alloc_new w1 _)); have hx5 := cell_four _ _ _ _ _ _ _ hx4; obtain ⟨y0, y1, y2, y3⟩ := hx5)
      go_roundw
      case rel => exact ⟨pos + D, pre ++ [pos], HP2, by omega, by go_num, by rw [unhide HSN, List.length_append]; exact hown', below_grown2 ((hB1.alloc hBs _).alloc (by simp; omega) _) (by simp; omega) ((hrow1.alloc _).alloc _) hgrow⟩
      case measure => simp [intOf]; omega
    · have hpe : pre = places s := by have := HP.out; rw [chars_end s pos hlt] at this; simpa using this
      rw [hpe] at hrow
      have HPE := hide hpe
      clear hpe HP
      go_wp2
      go_ret
      exact ⟨_, rfl, hrow, hB⟩

/-- the Spot at place i of a list of places, in memory -/
def SpotsAt (w : World) (s : ByteArray) (a : Option Addr) (l : List Nat) : Prop :=
  ∀ (i x : Nat), l[i]? = some x → ∃ g, a = some ⟨g, 0, none⟩ ∧ w.cell? ⟨g, i * 4, none⟩ = some (.int .i64 (x : Nat)) ∧ w.cell? ⟨g, i * 4 + 1, none⟩ = some (.int .i64 ((Utf8.decode s x).2 : Nat)) ∧ w.cell? ⟨g, i * 4 + 2, none⟩ = some (.int .i32 ((Utf8.decode s x).1 : Nat)) ∧ w.cell? ⟨g, i * 4 + 3, none⟩ = some (.int .i64 (why s x))
theorem SpotsAt.below {w w' : World} {s : ByteArray} {a : Option Addr} {l : List Nat} (h : SpotsAt w s a l) (hb : Below w.heap.size w w') : SpotsAt w' s a l := by
  intro i x hx
  obtain ⟨g, h1, h2, h3, h4, h5⟩ := h i x hx
  have hlt : g < w.heap.size := by
    refine Decidable.byContradiction fun hn => ?_
    have : w.heap[g]? = none := Array.getElem?_eq_none (by omega)
    simp [World.cell?, this] at h2
  exact ⟨g, h1, (hb.cell (p := ⟨g, i * 4, none⟩) hlt).trans h2, (hb.cell (p := ⟨g, i * 4 + 1, none⟩) hlt).trans h3, (hb.cell (p := ⟨g, i * 4 + 2, none⟩) hlt).trans h4, (hb.cell (p := ⟨g, i * 4 + 3, none⟩) hlt).trans h5⟩
theorem sc_length (s : ByteArray) (l : List Nat) : (spotCs s l).length = l.length * 4 := by
  induction l with
  | nil => rfl
  | cons x l ih => simp only [spotCs, List.flatMap_cons, List.length_append, List.length_cons, List.length_nil] at ih ⊢; omega
theorem sc_at (s : ByteArray) : ∀ (l : List Nat) (i x : Nat), l[i]? = some x → (spotCs s l)[i * 4]? = some (.int .i64 (x : Nat)) ∧ (spotCs s l)[i * 4 + 1]? = some (.int .i64 ((Utf8.decode s x).2 : Nat)) ∧ (spotCs s l)[i * 4 + 2]? = some (.int .i32 ((Utf8.decode s x).1 : Nat)) ∧ (spotCs s l)[i * 4 + 3]? = some (.int .i64 (why s x)) := by
  intro l
  induction l with
  | nil => intro i x h; simp at h
  | cons y l ih =>
    intro i x h
    cases i with
    | zero =>
      obtain rfl : y = x := by simpa using h
      exact ⟨rfl, rfl, rfl, rfl⟩
    | succ i =>
      have := ih i x (by simpa using h)
      have e1 : (i + 1) * 4 = i * 4 + 1 + 1 + 1 + 1 := by omega
      rw [e1]
      exact this
theorem sc_row {w1 : World} {base : Nat} {s : ByteArray} {v : Value} {n : Nat} {l : List Nat} (h : w1.ownsRow base 62 4 v n (spotCs s l)) :
    ∃ a c, v = .slice a n c ∧ n = l.length ∧ SpotsAt w1 s a l := by
  have hn : l.length = n := by have := h.1; rw [sc_length] at this; omega
  rcases h.2 with ⟨rfl, h0⟩ | ⟨g, cap, cur, rfl, _, hg, _⟩
  · refine ⟨none, 0, by rw [h0], hn.symm, fun i x hx => ?_⟩
    have := (List.getElem?_eq_some_iff.1 hx).1
    omega
  · refine ⟨_, _, rfl, hn.symm, fun i x hx => ⟨g, rfl, ?_, ?_, ?_, ?_⟩⟩ <;> have hi := (List.getElem?_eq_some_iff.1 hx).1
    · exact (h.cellAt _ (by omega)).trans (sc_at s l i x hx).1
    · exact (h.cellAt _ (by omega)).trans (sc_at s l i x hx).2.1
    · exact (h.cellAt _ (by omega)).trans (sc_at s l i x hx).2.2.1
    · exact (h.cellAt _ (by omega)).trans (sc_at s l i x hx).2.2.2

end Go.Proofs.Ytkpmcojoiijonaa

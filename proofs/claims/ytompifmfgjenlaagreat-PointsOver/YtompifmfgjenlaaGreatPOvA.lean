/-
  PointsOver: arguments that are lists of ranges and of numbers; a map that is filled from them.
-/
import Derived.Test.YtompifmfgjenlaaGreatPPutI
import Derived.Test.YtompifmfgjenlaaGreatPStr2I
import Derived.Test.YtompifmfgjenlaaGreatPoQo
import Derived.Deep.SlicePairs
import Derived.Deep.Grids
import Derived.OpenShut
import Derived.ChangeSlices
namespace Go.Proofs.YtompifmfgjenlaaGreat
open Go.RowKit Go.PlainAid Go.Lib Go.PRow Go.Shelf
set_option linter.unusedVariables false
set_option linter.unusedSimpArgs false

/-- a list of ranges that came in -/
def ReadsG4 (w : World) (a : Option Addr) (L : List (Int × Int)) : Prop := ∀ (i : Nat) (lo hi : Int), L[i]? = some (lo, hi) → ∃ g off, a = some ⟨g, off, none⟩ ∧ w.cell? ⟨g, off + i * 2, none⟩ = some (.int .i32 lo) ∧ w.cell? ⟨g, off + i * 2 + 1, none⟩ = some (.int .i32 hi)
theorem ReadsG4.below {w W : World} {a : Option Addr} {L : List (Int × Int)} (h : ReadsG4 w a L) (hb : Below w.heap.size w W) : ReadsG4 W a L := fun i lo hi e => by
  obtain ⟨g, off, rfl, h1, h2⟩ := h i lo hi e
  exact ⟨g, off, rfl, (hb.cell (World.block_lt_of_cell? _ _ h1)).trans h1, (hb.cell (World.block_lt_of_cell? _ _ h2)).trans h2⟩
/-- a list of numbers that came in -/
def ReadsI4 (w : World) (a : Option Addr) (L : List Int) : Prop := ∀ (i : Nat) (b : Int), L[i]? = some b → ∃ g off, a = some ⟨g, off, none⟩ ∧ w.cell? ⟨g, off + i, none⟩ = some (.int .i64 b)
theorem ReadsI4.below {w W : World} {a : Option Addr} {L : List Int} (h : ReadsI4 w a L) (hb : Below w.heap.size w W) : ReadsI4 W a L := fun i b e => by
  obtain ⟨g, off, rfl, h1⟩ := h i b e
  exact ⟨g, off, rfl, (hb.cell (World.block_lt_of_cell? _ _ h1)).trans h1⟩
theorem open_ranges4 {H : Type} {enc : TypeId × Value → H} {W : World} {base : Nat} {held : Bool} {fuel : Nat} {a : Option Addr} {len cap : Nat} {x : DataW H × List MemPlace}
    (h : DataW.trod enc Tryz.prog W base (fun _ => true) held fuel 22 (Value.slice a len cap).cells.toList = some x) : ∃ L : List (Int × Int), L.length = len ∧ ReadsG4 W a L := by
  rcases Go.Deep.open_slice_pairs Tryz.underlying22 Tryz.underlying41 (by kernel_rfl) rfl rfl (by kernel_rfl) (by kernel_rfl) h with ⟨hcs, _⟩ | ⟨b, l, c, m, n, V0, V1, D0, D1, P0, P1, hcs, hb, hl, hm, hmm, hx, hcell⟩
  · simp [Value.cells] at hcs
    obtain ⟨rfl, rfl, rfl⟩ := hcs
    exact ⟨[], rfl, fun i lo hi e => by simp at e⟩
  · simp [Value.cells] at hcs
    obtain ⟨rfl, rfl, rfl⟩ := hcs
    have hmm' : m = cap := by simpa using hmm
    subst hmm'
    have hint : ∀ i, i < m → V0 i = .int .i32 (RowKit.intOf (V0 i)) ∧ V1 i = .int .i32 (RowKit.intOf (V1 i)) := by
      intro i hi
      obtain ⟨_, _, h0, h1⟩ := hcell i hi
      obtain ⟨n0, e0, _, _⟩ := DataW.trod_int Tryz.underlying21 h0
      obtain ⟨n1, e1, _, _⟩ := DataW.trod_int Tryz.underlying21 h1
      have e0 : V0 i = .int .i32 n0 := by simpa using e0
      have e1 : V1 i = .int .i32 n1 := by simpa using e1
      rw [e0, e1]
      exact ⟨rfl, rfl⟩
    refine ⟨(List.range len).map fun i => (RowKit.intOf (V0 i), RowKit.intOf (V1 i)), by simp, fun i lo hi e => ?_⟩
    rw [List.getElem?_map] at e
    obtain ⟨i', hi', e⟩ := Option.map_eq_some_iff.1 e
    obtain ⟨hil, rfl⟩ := List.getElem?_eq_some_iff.1 hi'
    simp only [List.length_range, List.getElem_range, Prod.mk.injEq] at hil e
    obtain ⟨rfl, rfl⟩ := e
    obtain ⟨g, off, spot⟩ := b
    have hspot : spot = none := by simpa [Addr.add] using World.cell?_spot (hcell 0 (by omega)).1
    subst hspot
    refine ⟨g, off, rfl, ?_, ?_⟩
    · rw [← (hint i (by omega)).1, ← Go.WideShapes.add_plain]; exact (hcell i (by omega)).1
    · rw [← (hint i (by omega)).2, Nat.add_assoc, ← Go.WideShapes.add_plain]; exact (hcell i (by omega)).2.1


theorem open_ints4 {H : Type} {enc : TypeId × Value → H} {W : World} {base : Nat} {held : Bool} {fuel : Nat} {a : Option Addr} {len cap : Nat} {x : DataW H × List MemPlace}
    (h : DataW.trod enc Tryz.prog W base (fun _ => true) held fuel 23 (Value.slice a len cap).cells.toList = some x) : ∃ L : List Int, L.length = len ∧ ReadsI4 W a L := by
  rcases Go.ChangeShapes.open_ints Tryz.underlying23 Tryz.underlying3 (by kernel_rfl) h with ⟨hcs, _⟩ | ⟨b, l, c, zs, hcs, _, hl, hm, hz, hx, hcell, hwz⟩
  · simp [Value.cells] at hcs
    obtain ⟨rfl, rfl, rfl⟩ := hcs
    exact ⟨[], rfl, fun i b e => by simp at e⟩
  · simp [Value.cells] at hcs
    obtain ⟨rfl, rfl, rfl⟩ := hcs
    have hz' : zs.length = cap := by simpa using hz
    refine ⟨zs.take len, by rw [List.length_take]; omega, fun i b' e => ?_⟩
    have hil : i < len := by
      have := (List.getElem?_eq_some_iff.1 e).1
      rw [List.length_take] at this
      omega
    rw [List.getElem?_take, if_pos hil] at e
    have hc := hcell i (by omega)
    rw [List.getD_eq_getElem?_getD, e, Option.getD_some] at hc
    obtain ⟨g, off, spot⟩ := b
    have hspot : spot = none := by simpa [Addr.add] using World.cell?_spot (hcell 0 (by omega))
    subst hspot
    refine ⟨g, off, rfl, ?_⟩
    rw [← Go.WideShapes.add_plain]; exact hc


/-- Lay, however it ends -/
theorem lay_anyI (b : Nat) (v : Value) (B : Nat) (ps : List (Pc Int)) (o : OkP ps) (lo hi x : Int) (w : World) (h : VI.IsMap w b v) (hB : B ≤ w.heap.size) (hr : VI.RowP w B v ps) :
    Calls Tryz.prog 19 #[(.pointer (some ⟨b, 0, none⟩)), .agg #[.int .i32 lo, .int .i32 hi], .int .i64 x] w fun e w' => ∃ (z : Int) (v' : Value) (ps' : List (Pc Int)), e = .returned (.int .i64 z) ∧ OkP ps' ∧ VI.IsMap w' b v' ∧ VI.RowP w' B v' ps' ∧ VI.Chg (fun k => k = b ∨ B ≤ k) w w' := by
  cases hm : mayB lo hi with
  | false =>
    exact (VI.lay_no b v lo hi hm x w h).mono fun e w' ⟨h1, h2⟩ => ⟨41, v, ps, h1, o, h.below h2, hr.below h2, VI.Below.chg h2 _⟩
  | true =>
    have hm' := mayB_iff.1 hm
    refine (VI.lay_ok b v B ps o lo hi hm x w h hB hr).mono fun e w' ⟨h1, v', h2, h3⟩ => ⟨0, v', _, h1, rep_ok o hm'.1 hm'.2.1 hm'.2.2 (.inr ⟨x, rfl⟩), h3.1, h2, ?_⟩
    have hc := h3.2.1
    refine ⟨hc.os, hc.tape, hc.output, hc.size, fun k hk hS => hc.block k hk fun e => hS ?_⟩
    rcases e with e | e
    · exact .inl e
    · exact .inr (RowV.lt hr k e).1
/-- a map that is filled from lists -/
def MapOf (w w' : World) (e : Ending) : Prop := ∃ (bm : Nat) (u : Value) (ps : List (Pc Int)), e = .returned (.pointer (some ⟨bm, 0, none⟩)) ∧ OkP ps ∧ VI.IsMap w' bm u ∧ VI.RowP w' w.heap.size u ps ∧ w.heap.size ≤ bm ∧ Below w.heap.size w w'

set_option maxRecDepth 100000 in
set_option maxHeartbeats 4000000 in
theorem of_any (a b : Option Addr) (c d : Nat) (L : List (Int × Int)) (vl : List Int) (w : World) (hL : ReadsG4 w a L) (hT : ReadsI4 w b vl) :
    Calls Tryz.prog 4 #[.slice a L.length c, .slice b vl.length d] w fun e w' => MapOf w w' e := by
  obtain ⟨n, hn⟩ : ∃ n, n = L.length := ⟨_, rfl⟩
  obtain ⟨m, hm⟩ : ∃ m, m = vl.length := ⟨_, rfl⟩
  rw [← hn, ← hm]
  have HN := hide hn
  have HM := hide hm
  have HL := hide (fun V (hV : Below w.heap.size w V) => hL.below hV)
  have HT := hide (fun V (hV : Below w.heap.size w V) => hT.below hV)
  clear hn hm hL hT
  obtain ⟨W1, hW1⟩ : ∃ W1, W1 = w.alloc (.cells #[.bool true, .slice none 0 0] 64) := ⟨_, rfl⟩
  have hB1 : Below w.heap.size w W1 := by rw [hW1]; exact (Below.refl _ w).alloc (Nat.le_refl _) _
  have m1 : VI.IsMap W1 w.heap.size (.slice none 0 0) := by rw [hW1]; exact heap_alloc_new w _
  go_enter Tryz.func4, Tryz.ntmps4
  go_wp2_with (go_at_call 18; refine (VI.new_any _).mono ?_; rintro e w' ⟨rfl, rfl⟩)
  rw [← hW1]
  clear hW1
  go_loopw [6] (fun v6 wr => ∃ (i : Nat) (u : Value) (ps : List (Pc Int)), v6 = .int .i64 i ∧ i ≤ 40 ∧ OkP ps ∧ VI.IsMap wr w.heap.size u ∧ VI.RowP wr w.heap.size u ps ∧ Below w.heap.size w wr) (fun v6 _ => 40 - (RowKit.intOf v6).toNat)
  case atStart => exact ⟨0, _, [], rfl, by omega, OkP.nil, m1, RowV.nil _ _ _ _ _, hB1⟩
  case round =>
    obtain ⟨i, u, ps, rfl, hi, hok, hma, hra, hb⟩ := hrel
    have hq1 : IntKind.i64.wrap ((i : Int) + 1) = (i : Int) + 1 := by rw [IntKind.wrap_i64]; omega
    by_cases hn : i < n
    · have hn' : (i : Int) < (n : Int) := by omega
      by_cases hm : i < m
      · have hm' : (i : Int) < (m : Int) := by omega
        by_cases h4 : i < 40
        · have h4' : (i : Int) < 40 := by omega
          obtain ⟨⟨lo, hi'⟩, hp⟩ : ∃ p, L[i]? = some p := ⟨_, List.getElem?_eq_getElem (by have := unhide HN; omega)⟩
          obtain ⟨x, hx⟩ : ∃ x, vl[i]? = some x := ⟨_, List.getElem?_eq_getElem (by have := unhide HM; omega)⟩
          obtain ⟨g, off, rfl, d0, d1⟩ := unhide HL wr hb i lo hi' hp
          obtain ⟨g2, off2, rfl, d2⟩ := unhide HT wr hb i x hx
          have HLAY := hide (fun q => lay_anyI w.heap.size u w.heap.size ps hok lo hi' x (wr.drewN q) (hma.below (below_drewN (Below.refl _ wr) q)) (by have := hb.size; show w.heap.size ≤ wr.heap.size; omega) (hra.below (below_drewN (Below.refl _ wr) q)))
          have HB := hide hb
          clear hp hx hma hra hb
          go_wp2
          refine MixW.start (by kernel_rfl) ?_
          refine MixW.seg (C := fun w' => ∃ n, w' = wr.drewN n) 0 9 1 (by kernel_rfl) ⟨1, rfl⟩ ?_
          simp only [Nat.reduceAdd, List.take_succ_cons, List.take_zero, List.drop_zero]
          repeat (go_big_quiet_step (fail))
          refine wpQuiet_nil ?_
          rintro _ ⟨q, rfl⟩
          refine MixW.loud 1 9 0 _ _ (by decide) (by kernel_rfl) ?_
          simp only [Nat.reduceAdd, List.drop_succ_cons, List.drop_zero, List.take_succ_cons, List.take_zero]
          go_wp2_with fail
          refine (unhide HLAY q).mono ?_
          rintro e w5 ⟨z, v', ps', rfl, hok', hm5, hr5, hch⟩
          have hb5 : Below w.heap.size w w5 := hch.below ((unhide HB).trans ((below_drewN (Below.refl _ wr) q).mono (unhide HB).size)) (by have := (unhide HB).size; show w.heap.size ≤ wr.heap.size; omega) (fun k hk => by omega)
          go_wp2_with fail
          refine ⟨by kernel_rfl, ?_⟩
          go_wp2
          go_roundw
          case rel => exact ⟨i + 1, v', ps', by go_num, by omega, hok', hm5, hr5, hb5⟩
          case measure => simp [RowKit.intOf]; omega
        · have h4' : ¬ (i : Int) < 40 := by omega
          go_wp2
          go_ret
          exact ⟨_, u, ps, rfl, hok, hma, hra, Nat.le_refl _, hb⟩
      · have hm' : ¬ (i : Int) < (m : Int) := by omega
        go_wp2
        go_ret
        exact ⟨_, u, ps, rfl, hok, hma, hra, Nat.le_refl _, hb⟩
    · have hn' : ¬ (i : Int) < (n : Int) := by omega
      go_wp2
      go_ret
      exact ⟨_, u, ps, rfl, hok, hma, hra, Nat.le_refl _, hb⟩
end Go.Proofs.YtompifmfgjenlaaGreat

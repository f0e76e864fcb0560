/-
  What every program tells of a small text: the law's function awake answers true.
-/
import Derived.Test.YtlaennakglhmjaaGreatDoorLRead
import Derived.Test.YtlaennakglhmjaaGreatDoorAsErr
namespace Go.Proofs.YtlaennakglhmjaaGreatDoor
open Go.RowKit Go.PlainAid Go.Lib Go.Shelf
set_option linter.unusedVariables false

instance : DecidableEq LineD := fun a b => decidable_of_iff (a.no = b.no ∧ a.kind = b.kind ∧ a.name = b.name ∧ a.fields = b.fields ∧ a.note = b.note) (by cases a; cases b; simp)
abbrev text1 : ByteArray := ⟨#[239, 187, 191, 48, 48, 52, 49, 32, 59, 32, 76, 32, 35, 32, 97, 13, 10, 64, 98, 58, 32, 99, 10]⟩
abbrev text2 : ByteArray := ⟨#[97, 10, 255]⟩
abbrev lineA : LineD := ⟨1, 1, [], [[48, 48, 52, 49], [76]], [97]⟩
abbrev lineB : LineD := ⟨2, 2, [98], [[99]], []⟩
theorem read1 : readS text1 = ([lineA, lineB], none) := by decide +kernel
theorem read2 : (readS text2).2 = some (2, 30) := by decide +kernel
abbrev errTypeAt (w : World) : Prop := w.cell? ⟨0, 0, none⟩ = some (.iface 98 (.agg #[.pointer (some ⟨4, 24, none⟩)]))

theorem as_any (e : Addr) (tb : Nat) (w : World) (hg : errTypeAt w) (hb : Boxed w tb 29 (.pointer none)) :
    Calls Tryz.prog 8 #[.iface 29 (.pointer (some e)), .iface 31 (.pointer (some ⟨tb, 0, none⟩))] w fun ev w' => ev = .returned (.bool true) ∧ Boxed w' tb 29 (.pointer (some e)) ∧ (∀ k, k < w.heap.size → k ≠ tb → w'.heap[k]? = w.heap[k]?) ∧ (∀ B v, B ≤ tb → Below B v w → Below B v w') := by
  refine (as_hit e ⟨tb, 0, none⟩ (.pointer none) w hg hb.cell hb.frozen).mono ?_
  rintro ev w' ⟨rfl, rfl⟩
  refine ⟨rfl, ((((hb.alloc _).alloc _).alloc _).alloc _).set _, fun k hk hne => ?_, fun B v hB hw => ?_⟩
  · rw [Below.heap_setCell _ _ _ _ hne, Below.heap_alloc _ _ _ (by simp; omega), Below.heap_alloc _ _ _ (by simp; omega), Below.heap_alloc _ _ _ (by simp; omega), Below.heap_alloc _ _ _ hk]
  · have h0 := hw.size
    have hlt := hb.lt
    exact ((((hw.alloc (by omega) _).alloc (by simp; omega) _).alloc (by simp; omega) _).alloc (by simp; omega) _).setCell hB _
theorem row_cell {w : World} {base : Nat} {e : TypeId} {size : Nat} {v : Value} {n : Nat} {xs : List Value} (h : w.ownsRow base e size v n xs) (h0 : 0 < n) : ∃ g c, v = .slice (some ⟨g, 0, none⟩) n c ∧ n ≤ c ∧ c ≤ maxLen ∧ g < w.heap.size ∧ ∀ j u, xs[j]? = some u → w.cell? ⟨g, j, none⟩ = some u := by
  rcases h.2 with ⟨_, h1⟩ | ⟨g, cap, cur, rfl, _, hg, h3, h4, h5, h6⟩
  · omega
  · refine ⟨g, cap, rfl, h3, h4, (Array.getElem?_eq_some_iff.1 hg).1, fun j u hu => ?_⟩
    have hj : j < n * size := by have := (List.getElem?_eq_some_iff.1 hu).1; rw [h.1] at this; exact this
    rw [← h6, List.getElem?_take, if_pos hj] at hu
    simp [World.cell?, hg]
    simpa using hu

set_option maxRecDepth 100000 in
set_option maxHeartbeats 4000000 in
theorem awake_any (w : World) (hg : errTypeAt w) : Calls Tryz.prog 9 #[] w fun e w' => e = .returned (.bool true) ∧ Below w.heap.size w w' := by
  have hR1 := fun w => read_any ⟨#[102]⟩ text1 w (by decide)
  have hR2 := fun w => read_any ⟨#[102]⟩ text2 w (by decide)
  rw [read1] at hR1
  simp only [read2] at hR2
  have HR1 := hide hR1
  have HR2 := hide hR2
  clear hR1 hR2
  go_enter Tryz.func9, Tryz.ntmps9
  go_wp2_with fail
  refine (unhide HR1 _).mono ?_
  rintro e w1 ⟨hb1, (⟨_, v, rfl, ps, hps, hrow, htx⟩ | ⟨no, code, fb, h, _⟩)⟩
  case inr => cases h
  rcases ps with _ | ⟨⟨d1, f1⟩, _ | ⟨⟨d2, f2⟩, _ | ⟨r, ps⟩⟩⟩
  · simp at hps
  · simp at hps
  case cons.cons.cons => simp at hps
  simp only [List.map_cons, List.map_nil, List.cons.injEq, and_true] at hps
  obtain ⟨rfl, rfl⟩ := hps
  have hrow' : w1.ownsRow w.heap.size 41 5 v 2 [.int .i64 1, .int .u8 1, .string (S []), f1, .string (S [97]), .int .i64 2, .int .u8 2, .string (S [98]), f2, .string (S [])] := hrow
  have htx' : w1.ownsRow w.heap.size 9 1 f1 2 [.string (S [48, 48, 52, 49]), .string (S [76])] := htx (lineA, f1) (by simp)
  obtain ⟨g, c, rfl, hc1, hc2, hglt, hcell⟩ := row_cell hrow' (by decide)
  obtain ⟨g1, c1, rfl, hd1, hd2, _, hcell1⟩ := row_cell htx' (by decide)
  have k3 := hcell 3 _ rfl
  have k4 := hcell 4 _ rfl
  have k5 := hcell 5 _ rfl
  have k7 := hcell 7 _ rfl
  have m0 := hcell1 0 _ rfl
  have m1 := hcell1 1 _ rfl
  have hg1 : errTypeAt w1 := by
    have hlt : 0 < w.heap.size := by
      rcases Nat.lt_or_ge 0 w.heap.size with h | h
      · exact h
      · simp [errTypeAt, World.cell?, Array.getElem?_eq_none h] at hg
    exact (hb1.cell (p := ⟨0, 0, none⟩) hlt).trans hg
  have hm1 : maxLen = 9223372036854775807 := rfl
  rw [hm1] at hc2 hd2
  clear hrow htx hcell hcell1 hrow' htx' hm1
  go_wp2_with fail
  refine (unhide HR2 _).mono ?_
  rintro e w2 ⟨hb2, (⟨h, _⟩ | ⟨no, code, fb, hno, rfl, hfb, hfc⟩)⟩
  · cases h
  obtain ⟨rfl, rfl⟩ : no = 2 ∧ code = 30 := by
    have := Option.some.inj hno
    exact ⟨(congrArg Prod.fst this).symm, (congrArg Prod.snd this).symm⟩
  have hg2 : errTypeAt w2 := by
    have hlt : 0 < w1.heap.size := by
      rcases Nat.lt_or_ge 0 w1.heap.size with h | h
      · exact h
      · simp [errTypeAt, World.cell?, Array.getElem?_eq_none h] at hg1
    exact (hb2.cell (p := ⟨0, 0, none⟩) hlt).trans hg1
  have hB2 : Below w.heap.size w w2 := hb1.trans (hb2.mono hb1.size)
  have hflt : fb < w2.heap.size := (Array.getElem?_eq_some_iff.1 hfc).1
  have hglt2 : 0 < w2.heap.size := by
    rcases Nat.lt_or_ge 0 w2.heap.size with h | h
    · exact h
    · simp [errTypeAt, World.cell?, Array.getElem?_eq_none h] at hg2
  have hg3 : errTypeAt (w2.alloc (.cells #[.pointer none] 29)) := by
    show World.cell? _ _ = _
    rw [World.cell?_alloc_lt _ _ ⟨0, 0, none⟩ hglt2]; exact hg2
  have HAS := hide (as_any ⟨fb, 0, none⟩ w2.heap.size (w2.alloc (.cells #[.pointer none] 29)) hg3 (Boxed.new w2 _ _))
  have HFC := hide hfc
  clear hno hfc hg1 hg2 hg3 hg k3 k4 k5 k7 m0 m1 hb2
  go_wp2_with fail
  refine (unhide HAS).mono ?_
  rintro e w3 ⟨rfl, hbx, hold, hbel⟩
  have n0 := hbx.cell
  have hf3 : w3.heap[fb]? = some (.cells #[.string ⟨#[102]⟩, .int .i64 (2 : Nat), .int .i64 30] 34) := (hold fb (by simp; omega) (by omega)).trans ((Below.heap_alloc _ _ _ hflt).trans (unhide HFC))
  have r0 : w3.cell? ⟨fb, 0, none⟩ = some (.string ⟨#[102]⟩) := by simp [World.cell?, hf3]
  have r1 : w3.cell? ⟨fb, 1, none⟩ = some (.int .i64 2) := by simp [World.cell?, hf3]
  have r2 : w3.cell? ⟨fb, 2, none⟩ = some (.int .i64 30) := by simp [World.cell?, hf3]
  have hB3 := hbel w.heap.size w hB2.size (hB2.alloc hB2.size _)
  clear hold hbel hf3
  go_wp2
  go_ret
  exact ⟨rfl, hB3⟩
end Go.Proofs.YtlaennakglhmjaaGreatDoor

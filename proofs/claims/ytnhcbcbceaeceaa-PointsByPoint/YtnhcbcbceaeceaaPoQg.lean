/-
  These texts, one behind the other: PHexC, PLives.
-/
import Derived.Test.YtnhcbcbceaeceaaPMay
import Derived.Test.YtnhcbcbceaeceaaPShelf
import Derived.Deep.LoopGhost
import Derived.Test.YtnhcbcbceaeceaaPLenS
import Derived.Test.YtnhcbcbceaeceaaPPutS
/-
  The range that the law's small map asks for, by its digits.
-/
namespace Go.Proofs.Ytnhcbcbceaeceaa
open Go.RowKit Go.PlainAid Go.Lib Go.Shelf
set_option linter.unusedVariables false

theorem digit_c (b : Int) (hb : 48 ≤ b ∧ b ≤ 57) (w : World) :
    Calls Try.prog 52 #[.int .u8 b] w fun e w' => e = .returned (.tuple #[.int .i32 (b - 48), .bool true]) ∧ w' = w := by
  have h1 := hb.1
  have h2 := hb.2
  have q1 : IntKind.u8.wrap (b - 48) = b - 48 := by rw [IntKind.wrap_u8]; omega
  have q2 : IntKind.i32.wrap (b - 48) = b - 48 := by rw [IntKind.wrap_i32]; omega
  clear hb
  go_enter Try.func52, Try.ntmps52
  go_wp2
  go_ret2
  exact ⟨rfl, rfl⟩

/-- the numbers that are met on the way through four digits -/
def acc4 (a b c d : Nat) (i : Nat) : Int := match i with
  | 0 => 0
  | 1 => a
  | 2 => a * 16 + b
  | 3 => (a * 16 + b) * 16 + c
  | _ => ((a * 16 + b) * 16 + c) * 16 + d

theorem hex_0010 (w : World) :
    Calls Try.prog 35 #[.string ⟨#[48, 48, 49, 48]⟩] w fun e w' => e = .returned (.tuple #[.int .i32 16, .int .i64 0]) ∧ w' = w := by
  have HD := hide (fun b hb W => digit_c b hb W)
  go_enter Try.func35, Try.ntmps35
  go_wp2
  go_loopg [4, 28] 4 (fun kx s4 s28 wr => ∃ i : Nat, i ≤ 4 ∧ s28 = .int .i64 i ∧ s4 = .int .i32 (acc4 0 0 1 0 i) ∧ kx = 4 - i ∧ wr = w)
  case atStart => exact ⟨0, by omega, rfl, rfl, rfl, rfl⟩
  case round =>
    obtain ⟨i, hi, rfl, rfl, rfl, rfl⟩ := hrel
    have h5 : i = 0 ∨ i = 1 ∨ i = 2 ∨ i = 3 ∨ i = 4 := by omega
    rcases h5 with rfl | rfl | rfl | rfl | rfl
    · go_wp2_with (go_at_call 52; refine (unhide HD _ (by decide) _).mono ?_; rintro e w' ⟨rfl, rfl⟩)
      go_roundg 3
      case measure => omega
      case rel => exact ⟨1, by omega, rfl, by first | kernel_rfl | exact congrArg (Value.int .i32) (by decide), rfl, rfl⟩
    · go_wp2_with (go_at_call 52; refine (unhide HD _ (by decide) _).mono ?_; rintro e w' ⟨rfl, rfl⟩)
      go_roundg 2
      case measure => omega
      case rel => exact ⟨2, by omega, rfl, by first | kernel_rfl | exact congrArg (Value.int .i32) (by decide), rfl, rfl⟩
    · go_wp2_with (go_at_call 52; refine (unhide HD _ (by decide) _).mono ?_; rintro e w' ⟨rfl, rfl⟩)
      go_roundg 1
      case measure => omega
      case rel => exact ⟨3, by omega, rfl, by first | kernel_rfl | exact congrArg (Value.int .i32) (by decide), rfl, rfl⟩
    · go_wp2_with (go_at_call 52; refine (unhide HD _ (by decide) _).mono ?_; rintro e w' ⟨rfl, rfl⟩)
      go_roundg 0
      case measure => omega
      case rel => exact ⟨4, by omega, rfl, by first | kernel_rfl | exact congrArg (Value.int .i32) (by decide), rfl, rfl⟩
    · go_wp2
      go_ret2
      exact ⟨rfl, rfl⟩
theorem hex_0029 (w : World) :
    Calls Try.prog 35 #[.string ⟨#[48, 48, 50, 57]⟩] w fun e w' => e = .returned (.tuple #[.int .i32 41, .int .i64 0]) ∧ w' = w := by
  have HD := hide (fun b hb W => digit_c b hb W)
  go_enter Try.func35, Try.ntmps35
  go_wp2
  go_loopg [4, 28] 4 (fun kx s4 s28 wr => ∃ i : Nat, i ≤ 4 ∧ s28 = .int .i64 i ∧ s4 = .int .i32 (acc4 0 0 2 9 i) ∧ kx = 4 - i ∧ wr = w)
  case atStart => exact ⟨0, by omega, rfl, rfl, rfl, rfl⟩
  case round =>
    obtain ⟨i, hi, rfl, rfl, rfl, rfl⟩ := hrel
    have h5 : i = 0 ∨ i = 1 ∨ i = 2 ∨ i = 3 ∨ i = 4 := by omega
    rcases h5 with rfl | rfl | rfl | rfl | rfl
    · go_wp2_with (go_at_call 52; refine (unhide HD _ (by decide) _).mono ?_; rintro e w' ⟨rfl, rfl⟩)
      go_roundg 3
      case measure => omega
      case rel => exact ⟨1, by omega, rfl, by first | kernel_rfl | exact congrArg (Value.int .i32) (by decide), rfl, rfl⟩
    · go_wp2_with (go_at_call 52; refine (unhide HD _ (by decide) _).mono ?_; rintro e w' ⟨rfl, rfl⟩)
      go_roundg 2
      case measure => omega
      case rel => exact ⟨2, by omega, rfl, by first | kernel_rfl | exact congrArg (Value.int .i32) (by decide), rfl, rfl⟩
    · go_wp2_with (go_at_call 52; refine (unhide HD _ (by decide) _).mono ?_; rintro e w' ⟨rfl, rfl⟩)
      go_roundg 1
      case measure => omega
      case rel => exact ⟨3, by omega, rfl, by first | kernel_rfl | exact congrArg (Value.int .i32) (by decide), rfl, rfl⟩
    · go_wp2_with (go_at_call 52; refine (unhide HD _ (by decide) _).mono ?_; rintro e w' ⟨rfl, rfl⟩)
      go_roundg 0
      case measure => omega
      case rel => exact ⟨4, by omega, rfl, by first | kernel_rfl | exact congrArg (Value.int .i32) (by decide), rfl, rfl⟩
    · go_wp2
      go_ret2
      exact ⟨rfl, rfl⟩

set_option maxRecDepth 100000 in
theorem span_c (m : Int) (w : World) (hm : w.cell? ⟨0, 0, none⟩ = some (.int .i64 m)) :
    Calls Try.prog 15 #[.string ⟨#[48, 48, 49, 48, 46, 46, 48, 48, 50, 57]⟩] w fun e w' => e = .returned (.tuple #[.agg #[.int .i32 16, .int .i32 41], .int .i64 0]) ∧ Below w.heap.size w w' := by
  have hm1 : (w.alloc (.cells #[.int .i32 0, .int .i32 0] 28)).cell? ⟨0, 0, none⟩ = some (.int .i64 m) := cell_alloc_sl _ hm
  have hC := Try.strings_Cut ⟨#[48, 48, 49, 48, 46, 46, 48, 48, 50, 57]⟩ ⟨#[46, 46]⟩ m (w.alloc (.cells #[.int .i32 0, .int .i32 0] 28)) (by decide) hm1
  have e1 : Lib.cut (⟨#[48, 48, 49, 48, 46, 46, 48, 48, 50, 57]⟩ : ByteArray).data.toList (⟨#[46, 46]⟩ : ByteArray).data.toList = ([48, 48, 49, 48], [48, 48, 50, 57], true) := by decide
  rw [e1] at hC
  have HC := hide hC
  have H1 := hide hex_0010
  have H2 := hide hex_0029
  clear hC e1 hm hm1
  go_enter Try.func15, Try.ntmps15
  go_wp2_with fail
  refine (unhide HC).mono ?_
  rintro e w1 ⟨rfl, q, rfl⟩
  have hb1 : Below w.heap.size w ((w.alloc (.cells #[.int .i32 0, .int .i32 0] 28)).drewN q) := by
    have h := (Below.refl w.heap.size w).alloc (Nat.le_refl _) (.cells #[.int .i32 0, .int .i32 0] 28)
    exact ⟨h.os, h.tape, h.output, h.size, h.block⟩
  have hx : ((w.alloc (.cells #[.int .i32 0, .int .i32 0] 28)).drewN q).heap[w.heap.size]? = some (.cells #[.int .i32 0, .int .i32 0] 28 (0, 0)) := heap_alloc_new w _
  generalize (w.alloc (.cells #[.int .i32 0, .int .i32 0] 28)).drewN q = W at hb1 hx ⊢
  have d0 : W.cell? ⟨w.heap.size, 0, none⟩ = some (.int .i32 0) := by simp [World.cell?, hx]
  have d1 : W.cell? ⟨w.heap.size, 1, none⟩ = some (.int .i32 0) := by simp [World.cell?, hx]
  have f0 : W.frozen? ⟨w.heap.size, 0, none⟩ = false := by simp [World.frozen?, hx]
  have f1 : W.frozen? ⟨w.heap.size, 1, none⟩ = false := by simp [World.frozen?, hx]
  go_wp2_with fail
  refine (unhide H1 _).mono ?_
  rintro e w' ⟨rfl, h⟩
  obtain rfl : W = w' := h.symm
  go_wp2_with fail
  refine (unhide H2 _).mono ?_
  rintro e w' ⟨rfl, h⟩
  obtain rfl : W = w' := h.symm
  go_wp2
  have k1 : (W.setCell ⟨w.heap.size, 0, none⟩ (.int .i32 16)).heap[w.heap.size]? = some (.cells #[.int .i32 16, .int .i32 0] 28 (0, 0)) := by
    rw [setCell_eq_setRow W w.heap.size 0 _ _ _ _ hx]
    exact setRow_heap W w.heap.size _ _ _ _ hx
  have k2 : ((W.setCell ⟨w.heap.size, 0, none⟩ (.int .i32 16)).setCell ⟨w.heap.size, 1, none⟩ (.int .i32 41)).heap[w.heap.size]? = some (.cells #[.int .i32 16, .int .i32 41] 28 (0, 0)) := by
    rw [setCell_eq_setRow _ w.heap.size 1 _ _ _ _ k1]
    exact setRow_heap _ w.heap.size _ _ _ _ k1
  have k3 : (W.setCell ⟨w.heap.size, 0, none⟩ (.int .i32 16)).cell? ⟨w.heap.size, 0, none⟩ = some (.int .i32 16) := by simp [World.cell?, k1]
  have k4 : ((W.setCell ⟨w.heap.size, 0, none⟩ (.int .i32 16)).setCell ⟨w.heap.size, 1, none⟩ (.int .i32 41)).cell? ⟨w.heap.size, 1, none⟩ = some (.int .i32 41) := by simp [World.cell?, k2]
  have hbE := hide ((hb1.setCell (p := ⟨w.heap.size, 0, none⟩) (Nat.le_refl _) (.int .i32 16)).setCell (p := ⟨w.heap.size, 1, none⟩) (Nat.le_refl _) (.int .i32 41))
  have k5 : ((W.setCell ⟨w.heap.size, 0, none⟩ (.int .i32 16)).setCell ⟨w.heap.size, 1, none⟩ (.int .i32 41)).cell? ⟨w.heap.size, 0, none⟩ = some (.int .i32 16) := by simp [World.cell?, k2]
  clear k1 k2 hx d0 d1 f0 f1
  refine bodyPost_ret (v := .tuple #[.agg #[.int .i32 16, .int .i32 41], .int .i64 0]) ?_ rfl ⟨rfl, unhide hbE⟩
  simp [results, Try.results15, go_sem, k4, k5]
end Go.Proofs.Ytnhcbcbceaeceaa
/-
  What every program tells of a small map: the law's function lives answers true.
-/
namespace Go.Proofs.Ytnhcbcbceaeceaa
open Go.RowKit Go.PlainAid Go.Lib Go.PRow Go.Shelf Go.Seq4
attribute [local go_sem] Oper.semAt_some
set_option linter.unusedVariables false
set_option linter.unusedSimpArgs false

abbrev aL : ByteArray := ⟨#[97]⟩
abbrev bL : ByteArray := ⟨#[98]⟩
def ps1 : List (Pc ByteArray) := [⟨16, 25, aL⟩]
def ps2 : List (Pc ByteArray) := [⟨16, 25, aL⟩, ⟨32, 41, aL⟩]
def ps3 : List (Pc ByteArray) := [⟨16, 25, aL⟩, ⟨26, 31, aL⟩, ⟨32, 41, aL⟩]
theorem rep1 : repP ([] : List (Pc ByteArray)) 16 25 [⟨16, 25, aL⟩] = ps1 := by kernel_rfl
theorem rep2 : repP ps1 32 41 [⟨32, 41, aL⟩] = ps2 := by kernel_rfl
theorem rep3 : repP ps2 26 31 [⟨26, 31, aL⟩] = ps3 := by kernel_rfl
theorem meet1 : VS.meetsP [] 16 25 = false := by kernel_rfl
theorem meet2 : VS.meetsP ps1 32 41 = false := by kernel_rfl
theorem meet4 : VS.meetsP ps3 21 21 = true := by kernel_rfl
theorem at3 : atP ps3 31 = some aL := by kernel_rfl
theorem strs3 : strsP VS.eqv ps3 = [⟨16, 41, aL⟩] := by kernel_rfl
theorem size3 : sizeP ps3 = 26 := by kernel_rfl
theorem ok1 : OkP ps1 := by rw [← rep1]; exact rep_ok OkP.nil (by omega) (by omega) (by omega) (.inr ⟨_, rfl⟩)
theorem ok2 : OkP ps2 := by rw [← rep2]; exact rep_ok ok1 (by omega) (by omega) (by omega) (.inr ⟨_, rfl⟩)
theorem ok3 : OkP ps3 := by rw [← rep3]; exact rep_ok ok2 (by omega) (by omega) (by omega) (.inr ⟨_, rfl⟩)

/-- behind W1 the map that was made there has the pieces ps, and of what lay ahead nothing has turned -/
def Li (W1 W : World) (ps : List (Pc ByteArray)) : Prop := Below W1.heap.size W1 W ∧ ∃ v, VS.IsMap W W1.heap.size v ∧ VS.RowP W W1.heap.size v ps
theorem Li.moved {W1 W W' : World} {ps ps' : List (Pc ByteArray)} {v v' : Value} (hb : Below W1.heap.size W1 W) (hr : VS.RowP W W1.heap.size v ps) (h : VS.RowP W' W1.heap.size v' ps') (m : VS.Moved W W' W1.heap.size v v') : Li W1 W' ps' :=
  ⟨m.2.1.below hb hb.size (fun k hk => by
    rcases hk with rfl | hk
    · exact Nat.le_refl _
    · exact (RowV.lt hr k hk).1), v', m.1, h⟩
theorem Li.below {W1 W W' : World} {ps : List (Pc ByteArray)} (h : Li W1 W ps) (hb : Below W.heap.size W W') : Li W1 W' ps := by
  obtain ⟨h1, v, h2, h3⟩ := h
  exact ⟨h1.trans (hb.mono h1.size), v, h2.below hb, h3.below hb⟩

theorem li_put (W1 W : World) (ps : List (Pc ByteArray)) (o : OkP ps) (lo hi : Int) (x : ByteArray) (hm : mayB lo hi = true) (hq : VS.meetsP ps lo hi = false) (h : Li W1 W ps) :
    Calls Try.prog 12 #[.pointer (some ⟨W1.heap.size, 0, none⟩), .agg #[.int .i32 lo, .int .i32 hi], .string x] W fun e w' => e = .returned (.int .i64 0) ∧ Li W1 w' (repP ps lo hi [⟨lo, hi, x⟩]) := by
  obtain ⟨h1, v, h2, h3⟩ := h
  refine (VS.put_may _ v W1.heap.size ps o lo hi hm x W h2 h1.size h3).mono ?_
  intro e w' h
  unfold VS.PutEnd at h
  rw [if_neg (by rw [hq]; simp)] at h
  obtain ⟨rfl, v', h4, h5⟩ := h
  exact ⟨rfl, Li.moved h1 h3 h4 h5⟩
theorem li_meet (W1 W : World) (ps : List (Pc ByteArray)) (o : OkP ps) (lo hi : Int) (x : ByteArray) (hm : mayB lo hi = true) (hq : VS.meetsP ps lo hi = true) (h : Li W1 W ps) :
    Calls Try.prog 12 #[.pointer (some ⟨W1.heap.size, 0, none⟩), .agg #[.int .i32 lo, .int .i32 hi], .string x] W fun e w' => e = .returned (.int .i64 42) ∧ Li W1 w' ps := by
  obtain ⟨h1, v, h2, h3⟩ := h
  refine (VS.put_may _ v W1.heap.size ps o lo hi hm x W h2 h1.size h3).mono ?_
  intro e w' h
  unfold VS.PutEnd at h
  rw [if_pos hq] at h
  obtain ⟨rfl, hb⟩ := h
  exact ⟨rfl, Li.below ⟨h1, v, h2, h3⟩ hb⟩
theorem li_lay (W1 W : World) (ps : List (Pc ByteArray)) (o : OkP ps) (lo hi : Int) (x : ByteArray) (hm : mayB lo hi = true) (h : Li W1 W ps) :
    Calls Try.prog 13 #[.pointer (some ⟨W1.heap.size, 0, none⟩), .agg #[.int .i32 lo, .int .i32 hi], .string x] W fun e w' => e = .returned (.int .i64 0) ∧ Li W1 w' (repP ps lo hi [⟨lo, hi, x⟩]) := by
  obtain ⟨h1, v, h2, h3⟩ := h
  refine (VS.lay_ok _ v W1.heap.size ps o lo hi hm x W h2 h1.size h3).mono ?_
  rintro e w' ⟨rfl, v', h4, h5⟩
  exact ⟨rfl, Li.moved h1 h3 h4 h5⟩
theorem li_at (W1 W : World) (h : Li W1 W ps3) :
    Calls Try.prog 14 #[.pointer (some ⟨W1.heap.size, 0, none⟩), .int .i32 31] W fun e w' => e = .returned (.tuple #[.string aL, .bool true]) ∧ Li W1 w' ps3 := by
  have hh := h
  obtain ⟨h1, v, h2, h3⟩ := h
  refine (VS.at_any _ v W1.heap.size ps3 ok3 31 W h2 h3).mono ?_
  rintro e w' ⟨rfl, hb⟩
  rw [at3]
  exact ⟨rfl, hh.below hb⟩
theorem li_len (W1 W : World) (h : Li W1 W ps3) :
    Calls Try.prog 17 #[.pointer (some ⟨W1.heap.size, 0, none⟩)] W fun e w' => e = .returned (.int .i64 1) ∧ Below W.heap.size W w' := by
  obtain ⟨h1, v, h2, h3⟩ := h
  refine (VS.len_map _ v W1.heap.size ps3 ok3 W h2 h3).mono ?_
  rintro e w' ⟨rfl, hb⟩
  rw [strs3]
  exact ⟨rfl, hb⟩
theorem li_size (W1 W : World) (h : Li W1 W ps3) :
    Calls Try.prog 18 #[.pointer (some ⟨W1.heap.size, 0, none⟩)] W fun e w' => e = .returned (.int .i64 26) ∧ Below W.heap.size W w' := by
  obtain ⟨h1, v, h2, h3⟩ := h
  refine (VS.size_map _ v W1.heap.size ps3 ok3 W h2 h3).mono ?_
  rintro e w' ⟨rfl, hb⟩
  rw [size3]
  exact ⟨rfl, hb⟩

set_option maxRecDepth 100000 in
set_option maxHeartbeats 4000000 in
theorem lives_any (m : Int) (w : World) (hm : w.cell? ⟨0, 0, none⟩ = some (.int .i64 m)) :
    Calls Try.prog 4 #[] w fun e w' => e = .returned (.bool true) ∧ Below w.heap.size w w' := by
  have h0w : 0 < w.heap.size := World.block_lt_of_cell? _ _ hm
  obtain ⟨W1, hW1⟩ : ∃ W1, W1 = w.alloc (.cells #[.bool false] 4) := ⟨_, rfl⟩
  have hs1 : W1.heap.size = w.heap.size + 1 := by rw [hW1]; simp
  have hb1 : Below w.heap.size w W1 := by rw [hW1]; exact (Below.refl _ w).alloc (Nat.le_refl _) _
  have hx1 : W1.heap[w.heap.size]? = some (.cells #[.bool false] 4 (0, 0)) := by rw [hW1]; exact heap_alloc_new w _
  have hL0 : Li W1 (W1.alloc (.cells #[.bool true, .slice none 0 0] 74)) [] := ⟨(Below.refl _ W1).alloc (Nat.le_refl _) _, _, heap_alloc_new W1 _, RowV.nil _ _ _ _ _⟩
  have HM := hide (fun V (hV : Below W1.heap.size W1 V) => (show V.cell? ⟨0, 0, none⟩ = some (.int .i64 m) from ((hV.cell (by show 0 < W1.heap.size; omega)).trans (hb1.cell (by show 0 < w.heap.size; omega))).trans hm))
  have HS1 := hide hs1
  clear hs1
  refine (callsIn_wide (n := 8)).1 ?_
  refine callsIn_of_wp_marks Try.func4 rfl trivial ?_ rfl
  simp only [Try.ntmps4, List.size_toArray, List.length_cons, List.length_nil, Nat.reduceAdd, Nat.reduceSub, Array.replicate_succ, Array.replicate_zero, List.push_toArray, List.append_toArray, List.nil_append, List.cons_append]
  have hF : ∀ f, Fence.wide.fn f := fun _ => trivial
  gi_wp2_with fail
  refine (callsIn_wide.2 (VS.new_any _)).mono ?_
  rintro e w' ⟨rfl, rfl⟩
  rw [← hW1]
  clear hW1 hm
  generalize W1.alloc (.cells #[.bool true, .slice none 0 0] 74) = V0 at hL0 ⊢
  gi_wp2_with (first
    | (gi_at_call 12; with_reducible refine CallsIn.mono (callsIn_wide.2 (li_put W1 V0 [] OkP.nil 16 25 aL (by decide) meet1 hL0)) ?_; rintro e V1 ⟨rfl, hL1⟩; rw [rep1] at hL1)
    | (gi_at_call 12; with_reducible refine CallsIn.mono (callsIn_wide.2 (li_put W1 V1 ps1 ok1 32 41 aL (by decide) meet2 hL1)) ?_; rintro e V2 ⟨rfl, hL2⟩; rw [rep2] at hL2)
    | (gi_at_call 13; with_reducible refine CallsIn.mono (callsIn_wide.2 (li_lay W1 V2 ps2 ok2 26 31 aL (by decide) hL2)) ?_; rintro e V3 ⟨rfl, hL3⟩; rw [rep3] at hL3)
    | (gi_at_call 12; with_reducible refine CallsIn.mono (callsIn_wide.2 (li_meet W1 V3 ps3 ok3 21 21 bL (by decide) meet4 hL3)) ?_; rintro e V4 ⟨rfl, hL4⟩)
    | (gi_at_call 14; with_reducible refine CallsIn.mono (callsIn_wide.2 (li_at W1 V4 hL4)) ?_; rintro e V5 ⟨rfl, hL5⟩))
  refine CallsIn.mono (callsIn_wide.2 (span_c m V5 (unhide HM _ hL5.1))) ?_
  rintro e V6 ⟨rfl, hb6⟩
  have hL6 := hL5.below hb6
  clear hL0 hL1 hL2 hL3 hL4 hL5 hb6
  gi_wp2_with (gi_at_call 16; with_reducible refine CallsIn.mono (callsIn_wide.2 (VS.all_in W1.heap.size _)) ?_; rintro e V7 ⟨rfl, rfl⟩)
  obtain ⟨W0, hW0⟩ : ∃ W0, ((V6.alloc (.cells #[.int .i32 16, .int .i32 41] 28)).alloc (.cells #[.int .i64 0] 3)).alloc (.cells #[.pointer (some ⟨W1.heap.size, 0, none⟩)] 41) = W0 := ⟨_, rfl⟩
  have hb60 : Below V6.heap.size V6 W0 := by rw [← hW0]; exact (((Below.refl _ V6).alloc (Nat.le_refl _) _).alloc (by simp) _).alloc (by simp; omega) _
  have hsz : W0.heap.size = V6.heap.size + 3 := by rw [← hW0]; simp
  have z0 : W0.heap[V6.heap.size]? = some (.cells #[.int .i32 16, .int .i32 41] 28 (0, 0)) := by rw [← hW0]; exact ((Below.heap_alloc _ _ _ (by simp; omega)).trans (Below.heap_alloc _ _ _ (by simp))).trans (heap_alloc_new V6 _)
  have z1 : W0.heap[V6.heap.size + 1]? = some (.cells #[.int .i64 0] 3 (0, 0)) := by rw [← hW0]; exact (Below.heap_alloc _ _ _ (by simp)).trans (by simpa using heap_alloc_new (V6.alloc (.cells #[.int .i32 16, .int .i32 41] 28)) (.cells #[.int .i64 0] 3))
  have z2 : W0.heap[V6.heap.size + 1 + 1]? = some (.cells #[.pointer (some ⟨W1.heap.size, 0, none⟩)] 41 (0, 0)) := by rw [← hW0]; simpa using heap_alloc_new ((V6.alloc (.cells #[.int .i32 16, .int .i32 41] 28)).alloc (.cells #[.int .i64 0] 3)) (.cells #[.pointer (some ⟨W1.heap.size, 0, none⟩)] 41)
  have hl6 := hL6.1.size
  have hwl := unhide HS1
  rw [hW0]
  clear hW0
  obtain ⟨hb16, v0, hm6, hr6⟩ := hL6
  have hL0b := hb16.trans (hb60.mono hb16.size)
  have hm0 := hm6.below hb60
  have hr0 := hr6.below hb60
  refine range4B (by omega) (gf := 36) (lb := #[.pointer (some ⟨V6.heap.size + 1 + 1, 0, none⟩)]) rfl (enters_of Try.func36 (by kernel_rfl) rfl)
    (VS.all_gives ps3 ok3 _ (V6.heap.size + 1 + 1) W1.heap.size v0 (by omega) W0 z2 hm0 (hr0.mono (Nat.zero_le _))) (Below.refl _ _) (fun _ => rfl)
    (fun pre V => V.heap[V6.heap.size + 1]? = some (.cells #[.int .i64 (pre.length : Nat)] 3 (0, 0)) ∧ Below (V6.heap.size + 1) W0 V ∧ W0.heap.size ≤ V.heap.size)
    (fun c pre V => False)
    ((own_blockF _ _ _ (fun _ => rfl)).and ((ownFrom_below (by omega) (by omega)).and (own_size _ _)))
    (fun c => own_pure _ _) (CalmR.none _ _ _) ⟨z1, Below.refl _ _, Nat.le_refl _⟩
    (fun x => .cells #[.int .i32 x.lo, .int .i32 x.hi] 28 (0, 0)) (fun _ => rfl) ?fr ?assign ?body ?done ?stop
  case assign =>
    intro l2 x V K hK
    gi_wp2
    generalize hBx : V.heap.size = Bx
    exact hK Bx hBx.symm
  case body =>
    rintro l2 pre x Bx V hl hsz2 ⟨r, hr⟩ ⟨h1, h2, h3⟩ hx1 hx2 hSp
    rw [strs3] at hSp
    obtain ⟨rfl, rfl⟩ : pre = [] ∧ x = ⟨16, 41, aL⟩ := by
      have hl := hSp.length_le
      cases pre with
      | nil =>
        obtain ⟨t, ht⟩ := hSp
        simp at ht
        exact ⟨rfl, ht.1⟩
      | cons y pre => simp at hl
    have y0 : V.cell? ⟨Bx, 0, none⟩ = some (.int .i32 16) := by simp [World.cell?, hx1]
    have y1 : V.cell? ⟨Bx, 1, none⟩ = some (.int .i32 41) := by simp [World.cell?, hx1]
    have rb : V.heap[V6.heap.size]? = some (.cells #[.int .i32 16, .int .i32 41] 28 (0, 0)) := (h2.block _ (by omega)).trans z0
    have y2 : V.cell? ⟨V6.heap.size, 0, none⟩ = some (.int .i32 16) := by simp [World.cell?, rb]
    have y3 : V.cell? ⟨V6.heap.size, 1, none⟩ = some (.int .i32 41) := by simp [World.cell?, rb]
    have y4 : V.cell? ⟨V6.heap.size + 1, 0, none⟩ = some (.int .i64 0) := by simp [World.cell?, h1]
    have y5 : V.frozen? ⟨V6.heap.size + 1, 0, none⟩ = false := by simp [World.frozen?, h1]
    gi_wp2
    refine ⟨(KeepsOthers.setCell _ _ _).from _, ⟨(KeepsOthers.setCell _ _ _).walks, fun k ob hk _ hx => ?_⟩, ?_, h2.setCell (by simp) _, by simp [World.setCell]; omega⟩
    · refine (Below.heap_setCell _ _ _ _ ?_).trans hx
      show k ≠ V6.heap.size + 1
      rcases hk with hk | hk
      · omega
      · exact hk.elim
    · rw [setCell_eq_setRow V (V6.heap.size + 1) 0 _ _ _ _ h1]
      have := setRow_heap V (V6.heap.size + 1) _ (#[.int .i64 1] : Array Value) _ _ h1
      simpa using this
  case done =>
    rintro D xs V hD hS ⟨h1, h2, h3⟩ hK
    rw [strs3] at hS
    subst hS
    have hLV : Li W1 V ps3 := by
      refine ⟨hL0b.trans (h2.mono (by omega)), v0, (h2.block _ (by omega)).trans hm0, hr0.kept fun g hg => h2.block g ?_⟩
      have e1 := (RowV.lt hr6 g hg).2
      omega
    have y4 : V.cell? ⟨V6.heap.size + 1, 0, none⟩ = some (.int .i64 1) := by simp [World.cell?, h1]
    have hDV := (Array.getElem?_eq_some_iff.1 hK).1
    have hbx : V.heap[w.heap.size]? = some (.cells #[.bool false] 4 (0, 0)) := (hLV.1.block _ (by omega)).trans hx1
    have HSZ := hide (⟨hsz, hl6, h3, hD, hDV, hwl⟩ : W0.heap.size = V6.heap.size + 3 ∧ W1.heap.size ≤ V6.heap.size ∧ W0.heap.size ≤ V.heap.size ∧ W0.heap.size ≤ D ∧ D < V.heap.size ∧ W1.heap.size = w.heap.size + 1)
    have hwV : w.heap.size < V.heap.size := by omega
    have HRS := hide (fun X (hX : Below V.heap.size V X) => (show X.heap[w.heap.size]? = some (.cells #[.bool false] 4 (0, 0)) ∧ X.heap[D]? = some (.deferred (some [])) from ⟨(hX.block _ hwV).trans hbx, (hX.block _ hDV).trans hK⟩))
    have HBW := hide (hb1.trans (hLV.1.mono (by omega)))
    clear hsz hwl hl6 h3 hD hwV hDV hbx hK
    gi_wp2_with (first
      | (gi_at_call 17; with_reducible refine CallsIn.mono (callsIn_wide.2 (li_len W1 V hLV)) ?_; rintro e V8 ⟨rfl, hb8⟩)
      | (gi_at_call 18; with_reducible refine CallsIn.mono (callsIn_wide.2 (li_size W1 V8 (hLV.below hb8))) ?_; rintro e V9 ⟨rfl, hb9⟩; have r9 := (unhide HRS V9 (hb8.trans (hb9.mono hb8.size))).1; have q9 : V9.cell? ⟨w.heap.size, 0, none⟩ = some (.bool false) := (by simp [World.cell?, r9]); have f9 : V9.frozen? ⟨w.heap.size, 0, none⟩ = false := (by simp [World.frozen?, r9])))
    have hb89 := hb8.trans (hb9.mono hb8.size)
    have kD : (V9.setCell ⟨w.heap.size, 0, none⟩ (.bool true)).heap[D]? = some (.deferred (some [])) := by
      refine (Below.heap_setCell _ _ _ _ ?_).trans (unhide HRS V9 hb89).2
      obtain ⟨a1, a2, a3, a4, a5, a6⟩ := unhide HSZ
      show D ≠ w.heap.size
      omega
    have k9 : (V9.setCell ⟨w.heap.size, 0, none⟩ (.bool true)).heap[w.heap.size]? = some (.cells #[.bool true] 4 (0, 0)) := by
      rw [setCell_eq_setRow V9 w.heap.size 0 _ _ _ _ r9]
      exact setRow_heap V9 w.heap.size _ _ _ _ r9
    refine ⟨by simp, .inl ⟨_, _, rfl, run_takeDeferred kD, ?_⟩⟩
    obtain ⟨a1, a2, a3, a4, a5, a6⟩ := unhide HSZ
    have k10 : ((V9.setCell ⟨w.heap.size, 0, none⟩ (.bool true)).putObj D (.deferred none)).heap[w.heap.size]? = some (.cells #[.bool true] 4 (0, 0)) := (World.putObj_heap_other (by omega)).trans k9
    refine ⟨.bool true, ?_, rfl, below_put (((unhide HBW).trans (hb89.mono (by omega))).setCell (by simp) _) (by omega) _⟩
    simp [results, Try.results4, go_sem, World.cell?, k10]
  case stop =>
    rintro D c pre V hD hSp hx hK
    exact hx.elim
end Go.Proofs.Ytnhcbcbceaeceaa

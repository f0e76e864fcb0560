/-
  These texts, one behind the other: PHeadN, PSmallN, PInsN, PInsAllN, PRepAllN, PAppN, PReachN, PRepl0N.
-/
import Derived.Test.YthgaadjkjnibaaaGreatDoorPr
import Derived.Test.YthgaadjkjnibaaaGreatDoorPm
import Derived.Test.YthgaadjkjnibaaaGreatDoorChecked
import Derived.WalkKit
import Derived.WalkSpells
import Derived.WalkLawsBesides
import Derived.Handy
import Derived.PlainAid
import Derived.Deep.QuietTactic
import Derived.Test.YthgaadjkjnibaaaGreatDoorHx
import Derived.Test.YthgaadjkjnibaaaGreatDoorPs
import Derived.Shelf.Spec.SlicesInsert
/-
  Pieces with values of the type classes.naming: how they lie in memory.
-/
namespace Go.Proofs.YthgaadjkjnibaaaGreatDoor.VN
open Go.RowKit Go.PlainAid Go.Lib Go.PRow
/-- how a naming is handed on -/
abbrev encN (x : Int × Int) : Value := .agg #[.int .u8 x.1, .int .i64 x.2]

theorem infoP : (Tryz.prog.info? 102).map (fun i => (i.zero, i.size, i.bytes)) = some (some (.agg #[.int .i32 0, .int .i32 0, .int .u8 0, .int .i64 0]), 4, 24) := by kernel_rfl
theorem sizeP4 : (Tryz.prog.info? 102).map (·.size) = some 4 := by kernel_rfl

/-- the cells of pieces -/
def cellsP (ps : List (Pc (Int × Int))) : List Value := ps.flatMap fun p => [.int .i32 p.lo, .int .i32 p.hi, .int .u8 p.val.1, .int .i64 p.val.2]
theorem cellsP_len (ps : List (Pc (Int × Int))) : (cellsP ps).length = ps.length * 4 := by
  induction ps with
  | nil => rfl
  | cons p ps ih => simp only [cellsP, List.flatMap_cons, List.length_append, List.length_cons, List.length_nil] at ih ⊢; omega
theorem cellsP_append (a b : List (Pc (Int × Int))) : cellsP (a ++ b) = cellsP a ++ cellsP b := by simp [cellsP]
theorem cellsP_one (ps : List (Pc (Int × Int))) : ∀ v ∈ cellsP ps, v.oneCell' = true := by
  intro v hv
  simp only [cellsP, List.mem_flatMap] at hv
  obtain ⟨p, _, hv⟩ := hv
  simp at hv
  rcases hv with rfl | rfl | rfl | rfl <;> rfl
theorem cellsP_take (ps : List (Pc (Int × Int))) : ∀ k, (cellsP ps).take (k * 4) = cellsP (ps.take k) := by
  induction ps with
  | nil => intro k; simp [cellsP]
  | cons p ps ih =>
    intro k
    cases k with
    | zero => simp [cellsP]
    | succ k =>
      have := ih k
      simp only [cellsP, List.flatMap_cons, List.take_succ_cons] at this ⊢
      rw [show (k + 1) * 4 = k * 4 + 1 + 1 + 1 + 1 by omega]
      simp only [List.cons_append, List.nil_append, List.take_succ_cons, this]
theorem cellsP_drop (ps : List (Pc (Int × Int))) : ∀ k, (cellsP ps).drop (k * 4) = cellsP (ps.drop k) := by
  induction ps with
  | nil => intro k; simp [cellsP]
  | cons p ps ih =>
    intro k
    cases k with
    | zero => simp [cellsP]
    | succ k =>
      have := ih k
      simp only [cellsP, List.flatMap_cons, List.drop_succ_cons] at this ⊢
      rw [show (k + 1) * 4 = k * 4 + 1 + 1 + 1 + 1 by omega]
      simp only [List.cons_append, List.nil_append, List.drop_succ_cons, this]
theorem cellsP_at (ps : List (Pc (Int × Int))) : ∀ (i : Nat) (p : Pc (Int × Int)), ps[i]? = some p → (cellsP ps)[i * 4]? = some (.int .i32 p.lo) ∧ (cellsP ps)[i * 4 + 1]? = some (.int .i32 p.hi) ∧ (cellsP ps)[i * 4 + 2]? = some (.int .u8 p.val.1) ∧ (cellsP ps)[i * 4 + 3]? = some (.int .i64 p.val.2) := by
  induction ps with
  | nil => intro i p h; simp at h
  | cons q ps ih =>
    intro i p h
    cases i with
    | zero =>
      simp at h; subst h
      simp [cellsP]
    | succ i =>
      have := ih i p (by simpa using h)
      simp only [cellsP, List.flatMap_cons] at this ⊢
      rw [show (i + 1) * 4 = i * 4 + 1 + 1 + 1 + 1 by omega]
      simpa using this

/-- a slice of pieces -/
def RowP (W : World) (B : Nat) (v : Value) (ps : List (Pc (Int × Int))) : Prop := RowV W B 102 4 v ps.length (cellsP ps)

/-- what one reads of it -/
theorem RowP.form {W : World} {B : Nat} {v : Value} {ps : List (Pc (Int × Int))} (h : RowP W B v ps) : ∃ a cap, v = .slice a ps.length cap ∧ ps.length ≤ cap ∧ cap ≤ maxLen ∧ (a = none → ps = []) ∧
    (ps ≠ [] → ∃ g, a = some ⟨g, 0, none⟩ ∧ blk v = some g ∧ B ≤ g ∧ g < W.heap.size ∧ ∀ i p, ps[i]? = some p → W.cell? ⟨g, i * 4, none⟩ = some (.int .i32 p.lo) ∧ W.cell? ⟨g, i * 4 + 1, none⟩ = some (.int .i32 p.hi) ∧ (W.cell? ⟨g, i * 4 + 2, none⟩ = some (.int .u8 p.val.1) ∧ W.cell? ⟨g, i * 4 + 3, none⟩ = some (.int .i64 p.val.2))) := by
  rcases h.2 with ⟨a, rfl, hn⟩ | ⟨g, cap, cur, rfl, hb, hh, hc, hm, hs, ht⟩
  · have e : ps = [] := List.length_eq_zero_iff.1 hn
    subst e
    exact ⟨a, 0, rfl, Nat.le_refl _, Nat.zero_le _, fun _ => rfl, fun h => absurd rfl h⟩
  · refine ⟨_, cap, rfl, hc, hm, fun h => (by cases h), fun hne => ⟨g, rfl, ?_, hb, (Array.getElem?_eq_some_iff.1 hh).1, fun i p hp => ?_⟩⟩
    · cases cap with
      | zero => exact absurd (List.length_eq_zero_iff.1 (by omega)) hne
      | succ c => rfl
    · obtain ⟨c1, c2, c3, c4⟩ := cellsP_at ps i p hp
      have hm2 : ps.length * 4 ≤ cur.size := by rw [hs]; exact Nat.mul_le_mul_right _ hc
      exact ⟨row_cell hh ht hm2 _ _ c1, row_cell hh ht hm2 _ _ c2, row_cell hh ht hm2 _ _ c3, row_cell hh ht hm2 _ _ c4⟩

theorem RowP.below {W W' : World} {B : Nat} {v : Value} {ps : List (Pc (Int × Int))} (h : RowP W B v ps) (hb : Below W.heap.size W W') : RowP W' B v ps := RowV.below h hb
theorem RowP.kept {W W' : World} {B : Nat} {v : Value} {ps : List (Pc (Int × Int))} (h : RowP W B v ps) (hb : ∀ g, blk v = some g → W'.heap[g]? = W.heap[g]?) : RowP W' B v ps := RowV.kept h hb

/-- a map that lies at the block b, with its slice -/
def IsMap (W : World) (b : Nat) (v : Value) : Prop := W.heap[b]? = some (.cells #[.bool true, v] 147 (0, 0))
theorem IsMap.c0 {W : World} {b : Nat} {v : Value} (h : IsMap W b v) : W.cell? ⟨b, 0, none⟩ = some (.bool true) := by
  have h' : W.heap[b]? = _ := h
  simp [World.cell?, h']
theorem IsMap.c1 {W : World} {b : Nat} {v : Value} (h : IsMap W b v) : W.cell? ⟨b, 1, none⟩ = some v := by
  have h' : W.heap[b]? = _ := h
  simp [World.cell?, h']
theorem IsMap.f1 {W : World} {b : Nat} {v : Value} (h : IsMap W b v) : W.frozen? ⟨b, 1, none⟩ = false := by
  have h' : W.heap[b]? = _ := h
  simp [World.frozen?, h']
theorem IsMap.lt {W : World} {b : Nat} {v : Value} (h : IsMap W b v) : b < W.heap.size := (Array.getElem?_eq_some_iff.1 h).1
theorem IsMap.below {W W' : World} {b : Nat} {v : Value} (h : IsMap W b v) (hb : Below W.heap.size W W') : IsMap W' b v := (hb.block b h.lt).trans h
theorem IsMap.apart {W : World} {B b : Nat} {v u : Value} {ps : List (Pc (Int × Int))} (h : IsMap W b v) (hr : RowP W B u ps) : blk u ≠ some b := by
  intro e
  have h' : W.heap[b]? = _ := h
  rcases hr.2 with ⟨a, rfl, hn⟩ | ⟨g, cap, cur, rfl, hb, hh, hc, hm, hs, ht⟩
  · rw [blk_zero] at e; cases e
  · cases cap with
    | zero => rw [blk_zero] at e; cases e
    | succ c =>
      cases e
      rw [h'] at hh
      cases hh
end Go.Proofs.YthgaadjkjnibaaaGreatDoor.VN
/-
  The small functions of a map with values of the type classes.naming.
-/
namespace Go.Proofs.YthgaadjkjnibaaaGreatDoor.VN
open Go.RowKit Go.PlainAid Go.Lib Go.PRow

theorem absent_map (b : Nat) (v : Value) (w : World) (h : IsMap w b v) :
    Calls Tryz.prog 129 #[.pointer (some ⟨b, 0, none⟩)] w fun e w' => e = .returned (.bool false) ∧ w' = w := by
  have c0 := h.c0
  go_enter Tryz.func129, Tryz.ntmps129
  go_wp2
  go_ret
  exact ⟨rfl, rfl⟩

theorem held_map (b : Nat) (v : Value) (w : World) (h : IsMap w b v) :
    Calls Tryz.prog 47 #[.pointer (some ⟨b, 0, none⟩)] w fun e w' => e = .returned v ∧ w' = w := by
  have c1 := h.c1
  go_enter Tryz.func47, Tryz.ntmps47
  go_wp2
  go_ret
  exact ⟨rfl, rfl⟩

theorem refuses_map (b : Nat) (v : Value) (lo hi : Int) (w : World) (h : IsMap w b v) :
    Calls Tryz.prog 92 #[.pointer (some ⟨b, 0, none⟩), .agg #[.int .i32 lo, .int .i32 hi]] w fun e w' => e = .returned (.int .i64 (if mayB lo hi then 0 else 41)) ∧ Below w.heap.size w w' := by
  have hA := hide (fun W (h : IsMap W b v) => absent_map b v W h)
  have hM := hide (fun W => may_any lo hi W)
  have hw : IsMap (w.alloc (.cells #[.int .i32 lo, .int .i32 hi] 32)) b v := h.below (by go_grown)
  cases hm : mayB lo hi
  all_goals
    rw [hm] at hM
    go_enter Tryz.func92, Tryz.ntmps92
    go_wp2_with (first | (go_at_call 129; refine (unhide hA _ hw).mono ?_; rintro e w' ⟨rfl, rfl⟩) | (go_at_call 64; refine (unhide hM _).mono ?_; rintro e w' ⟨rfl, rfl⟩))
    go_ret
    exact ⟨by simp, by go_grown⟩

theorem holding_any (a : Option Addr) (n c : Nat) (w : World) :
    Calls Tryz.prog 57 #[.slice a n c] w fun e w' => e = .returned (.pointer (some ⟨w.heap.size, 0, none⟩)) ∧ w' = w.alloc (.cells #[.bool true, .slice a n c] 147) := by
  go_enter Tryz.func57, Tryz.ntmps57
  go_wp2
  all_goals go_ret
  all_goals exact ⟨rfl, rfl⟩

theorem new_any (w : World) :
    Calls Tryz.prog 30 #[] w fun e w' => e = .returned (.pointer (some ⟨w.heap.size, 0, none⟩)) ∧ w' = w.alloc (.cells #[.bool true, .slice none 0 0] 147) := by
  go_enter Tryz.func30, Tryz.ntmps30
  go_wp2_with (go_at_call 57; refine (holding_any _ _ _ _).mono ?_; rintro e w' ⟨rfl, rfl⟩)
  go_ret
  exact ⟨rfl, rfl⟩
end Go.Proofs.YthgaadjkjnibaaaGreatDoor.VN
/-
  slices.Insert and slices.Replace of pieces.
-/
namespace Go.Proofs.YthgaadjkjnibaaaGreatDoor.VN
open Go.RowKit Go.PlainAid Go.Lib Go.PRow Go.Shelf
set_option linter.unusedVariables false

/-- a row of pieces' cells -/
structure Rw (W : World) (g cap n : Nat) (cur : Array Value) (xs : List Value) : Prop where
  hh : W.heap[g]? = some (.cells cur 102 (0, 0))
  hn : n ≤ cap
  hm : cap ≤ maxLen
  hs : cur.size = cap * 4
  ht : cur.toList.take (n * 4) = xs
  h1 : ∀ v ∈ xs, v.oneCell' = true
theorem Rw.len {W : World} {g cap n : Nat} {cur : Array Value} {xs : List Value} (h : Rw W g cap n cur xs) : xs.length = n * 4 := by
  have a := h.hs; have b := h.hn
  rw [← h.ht, List.length_take, Array.length_toList, a]
  omega
theorem Rw.cell {W V : World} {g cap n : Nat} {cur : Array Value} {xs : List Value} (h : Rw W g cap n cur xs) (hV : V.heap[g]? = W.heap[g]?) (o j : Nat) (v : Value) (hj : (xs.drop o)[j]? = some v) : V.cell? ((⟨g, o, none⟩ : Addr).add j) = some v := by
  rw [Addr.add_lit]
  refine row_cell (hV.trans h.hh) h.ht (by rw [h.hs]; exact Nat.mul_le_mul_right _ h.hn) _ _ ?_
  rwa [List.getElem?_drop] at hj

set_option maxHeartbeats 4000000 in
set_option maxRecDepth 100000 in
theorem ins_shift (g cap n i gv vc m : Nat) (cur curv : Array Value) (xs ys : List Value) (w : World) (R : Rw w g cap n cur xs) (Rv : Rw w gv vc m curv ys) (hne : gv ≠ g) (hi : i < n) (hm : 0 < m) (hroom : n + m ≤ cap) :
    Calls Tryz.prog 198 #[.slice (some ⟨g, 0, none⟩) n cap, .int .i64 i, .slice (some ⟨gv, 0, none⟩) m vc] w fun e w' =>
      e = .returned (.slice (some ⟨g, 0, none⟩) (n + m) cap) ∧ w' = (w.drew.setRow g (spl cur ((i + m) * 4) (xs.drop (i * 4)))).setRow g (spl (spl cur ((i + m) * 4) (xs.drop (i * 4))) (i * 4) ys) := by
  have hml := R.hm
  have hcap : cap ≤ 9223372036854775807 := by unfold maxLen at hml; omega
  have hz1 : ¬ ((m : Int) = 0) := by omega
  have hz2 : ¬ ((i : Int) = (n : Int)) := by omega
  have hov : ∀ lb cb, (callFunc 199 #[.slice (some ⟨gv, 0, none⟩) m vc, .slice (some ⟨g, (i + m) * 4, none⟩) lb cb]).run Tryz.prog w = .ok (.value (.bool false)) w := fun lb cb => by
    rw [run_callFunc_extern Tryz.func199 (by kernel_rfl) (by kernel_rfl) (by kernel_rfl) (e := Extern.SlicesOverlaps.overlaps #[98, 98] #[4]) (by kernel_rfl),
      Lib.run_overlaps_apart w 98 4 102 Tryz.underlying98 4 Tryz.sizeOf102 ⟨gv, 0, none⟩ ⟨g, (i + m) * 4, none⟩ m vc lb cb hne _ _ _ _ (by simp [World.shape?, Rv.hh]; exact ⟨rfl, rfl⟩) (by simp [World.shape?, R.hh]; exact ⟨rfl, rfl⟩) (by rw [R.hs]; omega) (by simp [World.frozen?, Rv.hh]) (by simp [World.frozen?, Rv.hh])]
    rfl
  have hdl : (xs.drop (i * 4)).length = (n - i) * 4 := by rw [List.length_drop, R.len]; omega
  have hcp1 : ∀ ty dc sc, (Builtin.copy_ #[98, 98] ty #[.slice (some ⟨g, (i + m) * 4, none⟩) (n + m - (i + m)) dc, .slice (some ⟨g, i * 4, none⟩) (n + m - i) sc]).run Tryz.prog w.drew = .ok (goInt (Nat.min (n + m - i) (n + m - (i + m)))) (w.drew.setRow g (spl cur ((i + m) * 4) (xs.drop (i * 4)))) := fun ty dc sc =>
    run_copyK w.drew _ _ ty 102 4 g ((i + m) * 4) (n + m - (i + m)) dc ⟨g, i * 4, none⟩ (n + m - i) sc cur _ (xs.drop (i * 4)) Tryz.underlying98 sizeP4 R.hh
      (by rw [hdl]; congr 1; simp only [Nat.min_def]; split <;> omega) (fun j v hj => R.cell rfl (i * 4) j v hj) (by rw [hdl, R.hs]; omega) (fun v hv => R.h1 v (List.mem_of_mem_drop hv))
  obtain ⟨C1, hC1⟩ : ∃ C1, C1 = spl cur ((i + m) * 4) (xs.drop (i * 4)) := ⟨_, rfl⟩
  have hC1s : C1.size = cap * 4 := by rw [hC1, spl_size _ _ _ (by rw [hdl, R.hs]; omega), R.hs]
  have hr1 : (w.drew.setRow g C1).heap[g]? = some (.cells C1 102 (0, 0)) := setRow_heap w.drew g cur C1 _ _ R.hh
  rw [← hC1] at hcp1 ⊢
  have hcp2 : ∀ ty dc, (Builtin.copy_ #[98, 98] ty #[.slice (some ⟨g, i * 4, none⟩) (n + m - i) dc, .slice (some ⟨gv, 0, none⟩) m vc]).run Tryz.prog (w.drew.setRow g C1) = .ok (goInt (Nat.min m (n + m - i))) ((w.drew.setRow g C1).setRow g (spl C1 (i * 4) ys)) := fun ty dc =>
    run_copyK (w.drew.setRow g C1) _ _ ty 102 4 g (i * 4) (n + m - i) dc ⟨gv, 0, none⟩ m vc C1 _ ys Tryz.underlying98 sizeP4 hr1
      (by rw [Rv.len]; congr 1; simp only [Nat.min_def]; split <;> omega) (fun j v hj => Rv.cell (setRow_other w.drew g gv C1 hne) 0 j v hj) (by rw [Rv.len, hC1s]; omega) Rv.h1
  have hw1 : IntKind.i64.wrap ((i : Int) + (m : Int)) = (i : Int) + (m : Int) := by rw [IntKind.wrap_i64]; omega
  have hw2 : IntKind.i64.wrap ((n : Int) + (m : Int)) = (n : Int) + (m : Int) := by rw [IntKind.wrap_i64]; omega
  have hb1 : (0 : Int) ≤ (i : Int) + (m : Int) := by omega
  have hin : i ≤ n := by omega
  have htn : ((i : Int) + (m : Int)).toNat = i + m := by omega
  have htn2 : ((n : Int) + (m : Int)).toNat = n + m := by omega
  have hb2 : ¬ (cap = i + m) := by omega
  have hb3 : (i : Int) ≤ (n : Int) + (m : Int) := by omega
  have hb4 : ¬ (cap = i) := by omega
  have hb5 : ¬ ((cap : Int) < (n : Int) + (m : Int)) := by omega
  clear hdl hC1 hC1s hr1 R Rv hml
  go_enter Tryz.func198, Tryz.ntmps198
  go_wp2_with (simp only [hov])
  go_region_law (refine step_copy_runI rfl _ _ 98 98 rfl _ _ (by simp [Act.eval, Act.put]) (by simp [Act.eval, Act.put]) (hcp1 _ _ _) ?_)
  go_wp2_with (at_builtin; refine wpList_copy_runI _ rfl _ _ 98 98 rfl _ _ rfl rfl (hcp2 _ _) ?_)
  go_ret
  exact ⟨rfl, rfl⟩

def zP : Value := .agg #[.int .i32 0, .int .i32 0, .int .u8 0, .int .i64 0]
theorem zs_one (n : Nat) : ∀ v ∈ zs zP n, v.oneCell' = true := by
  intro v hv
  simp only [zs, Builtin.zeroCells, zP, Value.cells, Array.toList_map, List.mem_map] at hv
  obtain ⟨i, _, rfl⟩ := hv
  have h3 : i % 4 = 0 ∨ i % 4 = 1 ∨ i % 4 = 2 ∨ i % 4 = 3 := by omega
  rcases h3 with h | h | h | h <;> simp [h, Value.oneCell']
theorem zs_len (n : Nat) : (zs zP n).length = n * 4 := by rw [zs_length]; rfl

/-- nothing is put in -/
theorem ins_nothing (a : Option Addr) (n cap i : Nat) (u : Option Addr) (c : Nat) (w : World) (hi : i ≤ n) (hn : n ≤ cap) (hc : cap ≤ maxLen) :
    Calls Tryz.prog 198 #[.slice a n cap, .int .i64 i, .slice u 0 c] w fun e w' => e = .returned (.slice a n cap) ∧ w' = w := by
  have h1 : (i : Int) ≤ (n : Int) := by omega
  have h2 : (i : Int) ≤ (cap : Int) := by omega
  go_enter Tryz.func198, Tryz.ntmps198
  go_wp2
  all_goals go_ret
  all_goals exact ⟨rfl, rfl⟩

set_option maxHeartbeats 4000000 in
set_option maxRecDepth 100000 in
/-- at the end, and there is room -/
theorem ins_end_in (g cap n : Nat) (u : Option Addr) (vc m : Nat) (cur : Array Value) (xs ys : List Value) (w : World) (R : Rw w g cap n cur xs) (hv : Src Tryz.prog 4 98 (.slice u m vc) m ys w) (hm : 0 < m) (hroom : n + m ≤ cap) :
    Calls Tryz.prog 198 #[.slice (some ⟨g, 0, none⟩) n cap, .int .i64 n, .slice u m vc] w fun e w' =>
      e = .returned (.slice (some ⟨g, 0, none⟩) (n + m) cap) ∧ w' = w.setRow g (spl cur (n * 4) ys) := by
  obtain ⟨i0, hi0, hz0, hzs, hzb⟩ := info_parts infoP
  have hz1 : ¬ ((m : Int) = 0) := by omega
  have hml := R.hm
  have hcap : cap ≤ 9223372036854775807 := by unfold maxLen at hml; omega
  have hap : ∀ ty, (Builtin.append_ #[98, 98] ty #[.slice (some ⟨g, 0, none⟩) n cap, .slice u m vc]).run Tryz.prog w = .ok (.slice (some ⟨g, 0, none⟩) (n + m) cap) (w.setRow g (spl cur (n * 4) ys)) := fun ty => by
    have := run_append_inK w 98 98 ty 102 i0 Tryz.underlying98 hi0 g 0 n cap cur _ (.slice u m vc) m ys (by rw [hzs]; exact hv) hroom R.hh (by rw [hzs, hv.newsLen, R.hs]; omega)
    rwa [hzs, Nat.zero_add] at this
  clear hv R hml
  go_enter Tryz.func198, Tryz.ntmps198
  go_wp2_with (at_builtin; refine Lib.wpList_append_run _ rfl _ _ _ _ rfl _ _ rfl rfl _ _ (hap _) ?_)
  all_goals go_ret
  all_goals exact ⟨rfl, rfl⟩

set_option maxHeartbeats 4000000 in
set_option maxRecDepth 100000 in
/-- at the end, and there is none -/
theorem ins_end_out (a : Option Addr) (n cap : Nat) (u : Option Addr) (vc m : Nat) (xs ys : List Value) (w : World) (hs : Src Tryz.prog 4 98 (.slice a n cap) n xs w) (hv : Src Tryz.prog 4 98 (.slice u m vc) m ys w) (hm : 0 < m) (hnc : n ≤ cap) (hroom : cap < n + m) (hbig : (n + m) * 24 ≤ 140737488355328) :
    Calls Tryz.prog 198 #[.slice a n cap, .int .i64 n, .slice u m vc] w fun e w' => ∃ G z, n + m ≤ G ∧ G ≤ maxLen ∧ z.length = (G - (n + m)) * 4 ∧
      e = .returned (.slice (some ⟨w.heap.size, 0, none⟩) (n + m) G) ∧ w' = w.drew.alloc (.cells ((xs ++ ys) ++ z).toArray 102) := by
  obtain ⟨i0, hi0, hz0, hzs, hzb⟩ := info_parts infoP
  have hz1 : ¬ ((m : Int) = 0) := by omega
  have hG1 : n + m ≤ grownCap w (n + m) cap 102 := grownCap_ge w (n + m) cap 102
  have hG2 := grownCap_le_maxLen w (n + m) cap 102 (by unfold maxLen; omega)
  have hap : ∀ ty, (Builtin.append_ #[98, 98] ty #[.slice a n cap, .slice u m vc]).run Tryz.prog w = .ok (.slice (some ⟨w.heap.size, 0, none⟩) (n + m) (grownCap w (n + m) cap 102)) (w.drew.alloc (.cells ((xs ++ ys) ++ zs zP (grownCap w (n + m) cap 102 - (n + m))).toArray 102)) := fun ty => by
    have := run_append_grow_src w 98 98 ty 102 i0 zP Tryz.underlying98 hi0 hz0 a n cap xs (by rw [hzs]; exact hs.cellsD) (.slice u m vc) m ys (by rw [hzs]; exact hv) hroom (by omega) (by rw [hzb]; exact growslice_fits hroom hbig)
    rw [this]
    congr 3
    apply Array.ext'
    simp [zs]
  generalize grownCap w (n + m) cap 102 = G at hap hG1 hG2
  clear hv hs
  refine Calls.mono (R := fun e w' => e = .returned (.slice (some ⟨w.heap.size, 0, none⟩) (n + m) G) ∧ w' = w.drew.alloc (.cells ((xs ++ ys) ++ zs zP (G - (n + m))).toArray 102)) ?_ ?_
  · go_enter Tryz.func198, Tryz.ntmps198
    go_wp2_with (at_builtin; refine Lib.wpList_append_run _ rfl _ _ _ _ rfl _ _ rfl rfl _ _ (hap _) ?_)
    all_goals go_ret
    all_goals exact ⟨rfl, rfl⟩
  · rintro e w' ⟨rfl, rfl⟩
    exact ⟨G, _, hG1, hG2, zs_len _, rfl, rfl⟩

set_option maxHeartbeats 4000000 in
set_option maxRecDepth 100000 in
/-- within, and there is no room -/
theorem ins_grow (g cap n i gv vc m : Nat) (cur curv : Array Value) (xs ys : List Value) (w : World) (R : Rw w g cap n cur xs) (Rv : Rw w gv vc m curv ys) (hi : i < n) (hm : 0 < m) (hroom : cap < n + m) (hbig : (n + m) * 24 ≤ 140737488355328) :
    Calls Tryz.prog 198 #[.slice (some ⟨g, 0, none⟩) n cap, .int .i64 i, .slice (some ⟨gv, 0, none⟩) m vc] w fun e w' => ∃ G z, n + m ≤ G ∧ G ≤ maxLen ∧ z.length = (G - i) * 4 ∧
      e = .returned (.slice (some ⟨w.heap.size, 0, none⟩) (n + m) G) ∧ ∃ w1, w1 = (w.alloc (.cells (xs.take (i * 4) ++ z).toArray 102)).drew ∧
        w' = ((w1.setRow w.heap.size (spl (xs.take (i * 4) ++ z).toArray (i * 4) ys)).drew).setRow w.heap.size (spl (spl (xs.take (i * 4) ++ z).toArray (i * 4) ys) ((i + m) * 4) (xs.drop (i * 4))) := by
  obtain ⟨i0, hi0, hz0, hzs, hzb⟩ := info_parts infoP
  have hml := R.hm
  have hcap : cap ≤ 9223372036854775807 := by unfold maxLen at hml; omega
  have hz1 : ¬ ((m : Int) = 0) := by omega
  have hz2 : ¬ ((i : Int) = (n : Int)) := by omega
  have hz3 : (cap : Int) < (n : Int) + (m : Int) := by omega
  have hgw : g < w.heap.size := (Array.getElem?_eq_some_iff.1 R.hh).1
  have hvw : gv < w.heap.size := (Array.getElem?_eq_some_iff.1 Rv.hh).1
  have hkk : (n : Int) + (m : Int) - (i : Int) = ((n + m - i : Nat) : Int) := by omega
  have hik : i + (n + m - i) = n + m := by omega
  have htk : (xs.take (i * 4)).length = i * 4 := by rw [List.length_take, R.len]; omega
  have hdl : (xs.drop (i * 4)).length = (n - i) * 4 := by rw [List.length_drop, R.len]; omega
  have hold : (Builtin.firstCells i0.size i (.slice (some ⟨g, 0, none⟩) i cap)).run Tryz.prog w.drew = .ok (xs.take (i * 4)).toArray w.drew := by
    rw [hzs]
    refine run_firstCells_some w.drew 4 i ⟨g, 0, none⟩ i cap (xs.take (i * 4)) htk (fun j v hj => ?_)
    rw [List.getElem?_take] at hj
    split at hj
    · exact R.cell (V := w.drew) rfl 0 j v (by simpa using hj)
    · cases hj
  have hG1 : n + m ≤ grownCap w (n + m) cap 102 := grownCap_ge w (n + m) cap 102
  have hG2 := grownCap_le_maxLen w (n + m) cap 102 (by unfold maxLen; omega)
  have hrz : ∀ ty, (Builtin.append_ #[98, 3] ty #[.slice (some ⟨g, 0, none⟩) i cap, .int .i64 ((n : Int) + (m : Int) - (i : Int))]).run Tryz.prog w =
      .ok (.slice (some ⟨w.heap.size, 0, none⟩) (n + m) (grownCap w (n + m) cap 102)) (w.drew.alloc (.cells (xs.take (i * 4) ++ (zs zP (n + m - i) ++ zs zP (grownCap w (n + m) cap 102 - (n + m)))).toArray 102)) := fun ty => by
    have h := Lib.run_append_grow_zeros w 98 3 ty 102 i0 zP .i64 .i64 Tryz.underlying98 Tryz.underlying3 hi0 hz0 (some ⟨g, 0, none⟩) i cap (xs.take (i * 4)) hold (n + m - i) (by omega) (by omega) (by omega) (by omega) (by rw [hzb]; omega) (by rw [hzb, hik]; exact growslice_fits hroom hbig)
    rw [hik] at h
    rw [hkk, h]
    congr 3
    apply Array.ext'
    simp [zs]
  obtain ⟨z, hz⟩ : ∃ z, z = zs zP (n + m - i) ++ zs zP (grownCap w (n + m) cap 102 - (n + m)) := ⟨_, rfl⟩
  have hzl : z.length = (grownCap w (n + m) cap 102 - i) * 4 := by rw [hz, List.length_append, zs_len, zs_len]; omega
  rw [← hz] at hrz
  clear hz
  generalize grownCap w (n + m) cap 102 = G at hrz hG1 hG2 hzl
  obtain ⟨A, hA⟩ : ∃ A, A = (xs.take (i * 4) ++ z).toArray := ⟨_, rfl⟩
  have hAs : A.size = G * 4 := by rw [hA, List.size_toArray, List.length_append, htk, hzl]; omega
  rw [← hA] at hrz
  have hnc := R.hn
  obtain ⟨W1, hW1⟩ : ∃ W1, W1 = (w.alloc (.cells A 102)).drew := ⟨_, rfl⟩
  have hr1 : W1.heap[w.heap.size]? = some (.cells A 102 (0, 0)) := by rw [hW1]; exact heap_alloc_new w _
  have ho1 : ∀ k, k < w.heap.size → W1.heap[k]? = w.heap[k]? := fun k hk => by rw [hW1]; exact Below.heap_alloc w _ k hk
  have hcpA : ∀ ty dc, (Builtin.copy_ #[98, 98] ty #[.slice (some ⟨w.heap.size, i * 4, none⟩) (n + m - i) dc, .slice (some ⟨gv, 0, none⟩) m vc]).run Tryz.prog W1 = .ok (goInt (Nat.min m (n + m - i))) (W1.setRow w.heap.size (spl A (i * 4) ys)) := fun ty dc =>
    run_copyK W1 _ _ ty 102 4 w.heap.size (i * 4) (n + m - i) dc ⟨gv, 0, none⟩ m vc A _ ys Tryz.underlying98 sizeP4 hr1
      (by rw [Rv.len]; congr 1; simp only [Nat.min_def]; split <;> omega) (fun j v hj => Rv.cell (ho1 gv hvw) 0 j v hj) (by rw [Rv.len, hAs]; omega) Rv.h1
  have hC1s : (spl A (i * 4) ys).size = G * 4 := by rw [spl_size _ _ _ (by rw [Rv.len, hAs]; omega), hAs]
  have hr2 := setRow_heap W1 w.heap.size A (spl A (i * 4) ys) _ _ hr1
  have hcpB : ∀ ty dc sc, (Builtin.copy_ #[98, 98] ty #[.slice (some ⟨w.heap.size, (i + m) * 4, none⟩) (n + m - (i + m)) dc, .slice (some ⟨g, i * 4, none⟩) (n - i) sc]).run Tryz.prog (W1.setRow w.heap.size (spl A (i * 4) ys)).drew = .ok (goInt (Nat.min (n - i) (n + m - (i + m)))) ((W1.setRow w.heap.size (spl A (i * 4) ys)).drew.setRow w.heap.size (spl (spl A (i * 4) ys) ((i + m) * 4) (xs.drop (i * 4)))) := fun ty dc sc =>
    run_copyK (W1.setRow w.heap.size (spl A (i * 4) ys)).drew _ _ ty 102 4 w.heap.size ((i + m) * 4) (n + m - (i + m)) dc ⟨g, i * 4, none⟩ (n - i) sc (spl A (i * 4) ys) _ (xs.drop (i * 4)) Tryz.underlying98 sizeP4 hr2
      (by rw [hdl]; congr 1; simp only [Nat.min_def]; split <;> omega) (fun j v hj => R.cell ((setRow_other W1 w.heap.size g _ (by omega)).trans (ho1 g hgw)) (i * 4) j v hj) (by rw [hdl, hC1s]; omega) (fun v hv => R.h1 v (List.mem_of_mem_drop hv))
  have hG63 : G ≤ 9223372036854775807 := by unfold maxLen at hG2; omega
  have hGi : ¬ (G = i) := by omega
  have hGim : ¬ (G = i + m) := by omega
  have hci : ¬ (cap = i) := by omega
  have hw1 : IntKind.i64.wrap ((i : Int) + (m : Int)) = (i : Int) + (m : Int) := by rw [IntKind.wrap_i64]; omega
  have hw2 : IntKind.i64.wrap ((n : Int) + (m : Int)) = (n : Int) + (m : Int) := by rw [IntKind.wrap_i64]; omega
  have hb1 : (0 : Int) ≤ (i : Int) + (m : Int) := by omega
  have hin : i ≤ n := by omega
  have htn : ((i : Int) + (m : Int)).toNat = i + m := by omega
  have hb3 : (i : Int) ≤ (n : Int) := by omega
  refine Calls.mono (R := fun e w' => e = .returned (.slice (some ⟨w.heap.size, 0, none⟩) (n + m) G) ∧ w' = ((W1.setRow w.heap.size (spl A (i * 4) ys)).drew).setRow w.heap.size (spl (spl A (i * 4) ys) ((i + m) * 4) (xs.drop (i * 4)))) ?_ ?_
  · clear hkk hik hold hA hAs hr1 ho1 hC1s hr2 R Rv hml hdl htk hzl hG1 hG2
    obtain ⟨X1, hX1⟩ : ∃ X1, X1 = spl A (i * 4) ys := ⟨_, rfl⟩
    obtain ⟨X2, hX2⟩ : ∃ X2, X2 = spl (spl A (i * 4) ys) ((i + m) * 4) (xs.drop (i * 4)) := ⟨_, rfl⟩
    rw [← hX2] at hcpB ⊢
    rw [← hX1] at hcpA hcpB ⊢
    clear hX1 hX2
    subst hW1
    go_enter Tryz.func198, Tryz.ntmps198
    go_wp2_with (first
      | (at_builtin; refine Lib.wpList_append_run _ rfl _ _ _ _ rfl _ _ rfl rfl _ _ (hrz _) ?_)
      | (at_builtin; refine wpList_copy_runI _ rfl _ _ 98 98 rfl _ _ rfl rfl (hcpA _ _) ?_))
    go_region_law (refine step_copy_runI rfl _ _ 98 98 rfl _ _ (by simp [Act.eval, Act.put]) (by simp [Act.eval, Act.put]) (hcpB _ _ _) ?_)
    go_wp2
    go_ret
    exact ⟨rfl, rfl⟩
  · rintro e w' ⟨rfl, rfl⟩
    exact ⟨G, z, hG1, hG2, hzl, rfl, W1, by rw [hW1, hA], by rw [hA]⟩
end Go.Proofs.YthgaadjkjnibaaaGreatDoor.VN
/-
  slices.Insert of pieces, whatever the room.
-/
namespace Go.Proofs.YthgaadjkjnibaaaGreatDoor.VN
open Go.RowKit Go.PlainAid Go.Lib Go.PRow Go.Shelf
set_option linter.unusedVariables false

theorem RowP.rw {W : World} {B : Nat} {v : Value} {ps : List (Pc (Int × Int))} (h : RowP W B v ps) : (∃ a, v = .slice a 0 0 ∧ ps = []) ∨ ∃ g cap cur, v = .slice (some ⟨g, 0, none⟩) ps.length cap ∧ B ≤ g ∧ Rw W g cap ps.length cur (cellsP ps) := by
  rcases h.2 with ⟨a, rfl, hn⟩ | ⟨g, cap, cur, rfl, hb, hh, hc, hm, hs, ht⟩
  · exact .inl ⟨a, rfl, List.length_eq_zero_iff.1 hn⟩
  · exact .inr ⟨g, cap, cur, rfl, hb, hh, hc, hm, hs, ht, cellsP_one ps⟩
theorem RowP.of {W : World} {B g cap n : Nat} {cur : Array Value} {ps : List (Pc (Int × Int))} (hb : B ≤ g) (hh : W.heap[g]? = some (.cells cur 102 (0, 0))) (hn : ps.length = n) (hc : n ≤ cap) (hm : cap ≤ maxLen) (hs : cur.size = cap * 4) (ht : cur.toList.take (n * 4) = cellsP ps) :
    RowP W B (.slice (some ⟨g, 0, none⟩) n cap) ps := by
  subst hn
  exact ⟨cellsP_len ps, .inr ⟨g, cap, cur, rfl, hb, hh, hc, hm, hs, ht⟩⟩
theorem RowP.mono {W : World} {B B' : Nat} {v : Value} {ps : List (Pc (Int × Int))} (h : RowP W B v ps) (hb : B' ≤ B) : RowP W B' v ps := RowV.mono h hb
theorem blk_pos {a : Addr} {n c : Nat} (h : 0 < c) : blk (.slice (some a) n c) = some a.block := by
  cases c with
  | zero => omega
  | succ c => rfl

/-- what becomes of a slice s of pieces: s' with the pieces ps', in its own block or in a new one -/
def Turned (w w' : World) (B : Nat) (s s' : Value) (ps' : List (Pc (Int × Int))) : Prop :=
  RowP w' B s' ps' ∧ w.grownBy w' (blk s) ∧ (blk s' = blk s ∨ ∀ g, blk s' = some g → w.heap.size ≤ g)

theorem grown_refl (w : World) (row : Option Nat) : w.grownBy w row := ⟨rfl, rfl, rfl, Nat.le_refl _, fun _ _ _ => rfl⟩
theorem grown_new (w : World) (o : Obj) (row : Option Nat) : w.grownBy (w.drew.alloc o) row :=
  ⟨rfl, rfl, rfl, by simp, fun k hk _ => Below.heap_alloc w.drew o k hk⟩

theorem insert_any (B Bv : Nat) (s u : Value) (ps qs : List (Pc (Int × Int))) (i : Nat) (w : World) (hB : B ≤ w.heap.size) (hr : RowP w B s ps) (hu : RowP w Bv u qs) (hap : ∀ g, blk u = some g → blk s ≠ some g) (hi : i ≤ ps.length) (hbig : (ps.length + qs.length) * 24 ≤ 140737488355328) :
    Calls Tryz.prog 198 #[s, .int .i64 i, u] w fun e w' => ∃ s', e = .returned s' ∧ Turned w w' B s s' (ps.take i ++ qs ++ ps.drop i) := by
  by_cases hq : qs = []
  · subst hq
    obtain ⟨a, cap, rfl, hc1, hc2, _⟩ := hr.form
    obtain ⟨a2, cap2, rfl, _⟩ := hu.form
    refine (ins_nothing a ps.length cap i a2 cap2 w hi hc1 hc2).mono ?_
    rintro e w' ⟨rfl, rfl⟩
    exact ⟨_, rfl, by simpa using hr, grown_refl _ _, .inl rfl⟩
  have hm : 0 < qs.length := List.length_pos_iff.2 hq
  rcases hu.rw with ⟨a, _, e⟩ | ⟨gv, vc, curv, rfl, _, Rv⟩
  · exact absurd e hq
  have hvc := Rv.hn
  have hne : ∀ g cap, blk (.slice (some ⟨g, 0, none⟩) ps.length cap) = some g → s = .slice (some ⟨g, 0, none⟩) ps.length cap → gv ≠ g := fun g cap h1 h2 e => by
    subst h2
    exact hap gv (blk_pos (by omega)) (by rw [e]; exact h1)
  have hsrcv := src_of_row (P := Tryz.prog) hu Tryz.underlying98 (cellsP_one qs)
  have hsrcs := src_of_row (P := Tryz.prog) hr Tryz.underlying98 (cellsP_one ps)
  have hqc := cellsP_len qs
  have hpc := cellsP_len ps
  by_cases hin : i = ps.length
  · subst hin
    have el : ps.take ps.length ++ qs ++ ps.drop ps.length = ps ++ qs := by simp
    rw [el]
    obtain ⟨a, cap, rfl, hc1, hc2, _⟩ := hr.form
    by_cases hroom : ps.length + qs.length ≤ cap
    · rcases hr.rw with ⟨a', e, e'⟩ | ⟨g, cap', cur, e, hg, R⟩
      · subst e'
        simp only [List.length_nil] at e hroom
        injection e with e1 e2 e3
        omega
      · injection e with e1 e2 e3
        subst e1; subst e3
        refine (ins_end_in g cap ps.length _ vc qs.length cur (cellsP ps) (cellsP qs) w R hsrcv hm hroom).mono ?_
        rintro e w' ⟨rfl, rfl⟩
        have hfit : ps.length * 4 + (cellsP qs).length ≤ cur.size := by rw [hqc, R.hs]; omega
        refine ⟨_, rfl, RowP.of (cur := spl cur (ps.length * 4) (cellsP qs)) hg (setRow_heap w g cur _ _ _ R.hh) (by simp) hroom hc2 (by rw [spl_size _ _ _ hfit, R.hs]) ?_, ?_, .inl ?_⟩
        · rw [Nat.add_mul, spl_end R.ht hpc hqc, cellsP_append]
        · rw [blk_pos (by omega)]; exact setRow_grown w g _
        · rw [blk_pos (by omega), blk_pos (by omega)]
    · refine (ins_end_out a ps.length cap _ vc qs.length (cellsP ps) (cellsP qs) w hsrcs hsrcv hm hc1 (by omega) hbig).mono ?_
      rintro e w' ⟨G, z, h1, h2, h3, rfl, rfl⟩
      refine ⟨_, rfl, RowP.of (cur := ((cellsP ps ++ cellsP qs) ++ z).toArray) hB (heap_alloc_new w.drew _) (by simp) h1 h2 (by rw [List.size_toArray, List.length_append, List.length_append, hpc, hqc, h3]; omega) ?_, grown_new w _ _, .inr fun g hg => ?_⟩
      · rw [List.take_left' (by rw [List.length_append, hpc, hqc]; omega), cellsP_append]
      · rw [blk_pos (by omega)] at hg
        cases hg
        exact Nat.le_refl _
  · have hlt : i < ps.length := by omega
    rcases hr.rw with ⟨a', e, e'⟩ | ⟨g, cap, cur, rfl, hg, R⟩
    · subst e'
      simp at hlt
    have hc1 := R.hn
    have e1 : cellsP (ps.take i ++ qs ++ ps.drop i) = (cellsP ps).take (i * 4) ++ cellsP qs ++ (cellsP ps).drop (i * 4) := by rw [cellsP_append, cellsP_append, cellsP_take, cellsP_drop]
    have hdl : ((cellsP ps).drop (i * 4)).length = (ps.length - i) * 4 := by rw [List.length_drop, hpc]; omega
    have htk : ((cellsP ps).take (i * 4)).length = i * 4 := by rw [List.length_take, hpc]; omega
    have hln : (ps.take i ++ qs ++ ps.drop i).length = ps.length + qs.length := by simp; omega
    have e3 : (ps.length + qs.length) * 4 = i * 4 + qs.length * 4 + (ps.length - i) * 4 := by omega
    have e4 : (i + qs.length) * 4 = i * 4 + qs.length * 4 := by omega
    by_cases hroom : ps.length + qs.length ≤ cap
    · refine (ins_shift g cap ps.length i gv vc qs.length cur curv (cellsP ps) (cellsP qs) w R Rv (hne g cap (blk_pos (by omega)) rfl) hlt hm hroom).mono ?_
      rintro e w' ⟨rfl, rfl⟩
      have hs1 : (spl cur ((i + qs.length) * 4) ((cellsP ps).drop (i * 4))).size = cur.size := spl_size _ _ _ (by rw [hdl, R.hs]; omega)
      have hs2 : (spl (spl cur ((i + qs.length) * 4) ((cellsP ps).drop (i * 4))) (i * 4) (cellsP qs)).size = cap * 4 := by rw [spl_size _ _ _ (by rw [hs1, hqc, R.hs]; omega), hs1, R.hs]
      refine ⟨_, rfl, RowP.of hg (setRow_heap _ g _ _ _ _ (setRow_heap w.drew g cur _ _ _ R.hh)) hln hroom R.hm hs2 ?_, ?_, .inl ?_⟩
      · rw [e1, e3, e4]
        exact spl_shift R.ht (by omega) (by rw [R.hs]; omega) hqc hdl
      · rw [blk_pos (by omega), setRow_setRow]
        have := setRow_grown w g (spl (spl cur ((i + qs.length) * 4) ((cellsP ps).drop (i * 4))) (i * 4) (cellsP qs))
        exact ⟨this.os, this.tape, this.output, this.size, this.block⟩
      · rw [blk_pos (by omega), blk_pos (by omega)]
    · refine (ins_grow g cap ps.length i gv vc qs.length cur curv (cellsP ps) (cellsP qs) w R Rv hlt hm (by omega) hbig).mono ?_
      rintro e w' ⟨G, z, h1, h2, h3, rfl, w1, rfl, rfl⟩
      have hA : ((cellsP ps).take (i * 4) ++ z).toArray.size = G * 4 := by rw [List.size_toArray, List.length_append, htk, h3]; omega
      have hs1 : (spl ((cellsP ps).take (i * 4) ++ z).toArray (i * 4) (cellsP qs)).size = G * 4 := by rw [spl_size _ _ _ (by rw [hA, hqc]; omega), hA]
      have hs2 : (spl (spl ((cellsP ps).take (i * 4) ++ z).toArray (i * 4) (cellsP qs)) ((i + qs.length) * 4) ((cellsP ps).drop (i * 4))).size = G * 4 := by rw [spl_size _ _ _ (by rw [hs1, hdl]; omega), hs1]
      have hr1 : ((w.alloc (.cells ((cellsP ps).take (i * 4) ++ z).toArray 102)).drew.setRow w.heap.size (spl ((cellsP ps).take (i * 4) ++ z).toArray (i * 4) (cellsP qs))).heap[w.heap.size]? = _ := setRow_heap _ w.heap.size _ _ _ _ (heap_alloc_new w _)
      refine ⟨_, rfl, RowP.of hB (setRow_heap _ w.heap.size _ _ _ _ hr1) hln h1 h2 hs2 ?_, ?_, .inr fun g hg => ?_⟩
      · rw [e1, e3, e4, spl_fill (by rw [hA]; omega) hqc hdl]
        rw [List.take_left' htk]
      · refine ⟨rfl, rfl, rfl, by simp [setRow_size], fun k hk _ => ?_⟩
        rw [setRow_other _ _ _ _ (by omega)]
        show (World.setRow _ _ _).heap[k]? = _
        rw [setRow_other _ _ _ _ (by omega)]
        exact Below.heap_alloc w _ k hk
      · rw [blk_pos (by omega)] at hg
        cases hg
        exact Nat.le_refl _
end Go.Proofs.YthgaadjkjnibaaaGreatDoor.VN
/-
  slices.Replace of no piece: it is slices.Insert.
-/
namespace Go.Proofs.YthgaadjkjnibaaaGreatDoor.VN
open Go.RowKit Go.PlainAid Go.Lib Go.PRow Go.Shelf
set_option linter.unusedVariables false

set_option maxHeartbeats 4000000 in
set_option maxRecDepth 100000 in
theorem rep_eq (B Bv : Nat) (s u : Value) (ps qs : List (Pc (Int × Int))) (i : Nat) (w : World) (hB : B ≤ w.heap.size) (hr : RowP w B s ps) (hu : RowP w Bv u qs) (hap : ∀ g, blk u = some g → blk s ≠ some g) (hi : i ≤ ps.length) (hbig : (ps.length + qs.length) * 24 ≤ 140737488355328) :
    Calls Tryz.prog 166 #[s, .int .i64 i, .int .i64 i, u] w fun e w' => ∃ s', e = .returned s' ∧ Turned w w' B s s' (ps.take i ++ qs ++ ps.drop i) := by
  have H := hide (insert_any B Bv s u ps qs i w hB hr hu hap hi hbig)
  obtain ⟨a, cap, rfl, hc1, hc2, _⟩ := hr.form
  have q1 : (i : Int) ≤ (cap : Int) := by omega
  clear hr hu hap
  generalize ps.take i ++ qs ++ ps.drop i = rs at H ⊢
  generalize ps.length = n at *
  refine Calls.mono (R := fun e w' => Hid (∃ s', e = .returned s' ∧ Turned w w' B (.slice a n cap) s' rs)) ?_ (fun e w' h => unhide h)
  by_cases hci : cap = i
  · subst hci
    go_enter Tryz.func166, Tryz.ntmps166
    go_wp2_with (go_at_call 198; refine (unhide H).mono ?_; rintro e w' ⟨s', rfl, ht⟩)
    all_goals go_ret
    all_goals exact hide ⟨_, rfl, ht⟩
  · go_enter Tryz.func166, Tryz.ntmps166
    go_wp2_with (go_at_call 198; refine (unhide H).mono ?_; rintro e w' ⟨s', rfl, ht⟩)
    all_goals go_ret
    all_goals exact hide ⟨_, rfl, ht⟩

theorem replace_any (B Bv : Nat) (s u : Value) (ps qs : List (Pc (Int × Int))) (i j : Nat) (w : World) (hB : B ≤ w.heap.size) (hr : RowP w B s ps) (hu : RowP w Bv u qs) (hap : ∀ g, blk u = some g → blk s ≠ some g) (hij : i = j) (hj : j ≤ ps.length) (hbig : (ps.length + qs.length) * 24 ≤ 140737488355328) :
    Calls Tryz.prog 166 #[s, .int .i64 i, .int .i64 j, u] w fun e w' => ∃ s', e = .returned s' ∧ Turned w w' B s s' (ps.take i ++ qs ++ ps.drop j) := by
  subst hij
  exact rep_eq B Bv s u ps qs i w hB hr hu hap hj hbig
end Go.Proofs.YthgaadjkjnibaaaGreatDoor.VN
/-
  An append of pieces to pieces; slices.Clone.
-/
namespace Go.Proofs.YthgaadjkjnibaaaGreatDoor.VN
open Go.RowKit Go.PlainAid Go.Lib Go.PRow Go.Shelf
set_option linter.unusedVariables false

theorem append_ps (B Bv : Nat) (s u : Value) (ps qs : List (Pc (Int × Int))) (w : World) (hB : B ≤ w.heap.size) (hr : RowP w B s ps) (hu : RowP w Bv u qs) (hbig : (ps.length + qs.length) * 24 ≤ 140737488355328) :
    ∃ s' w', (∀ ty, (Builtin.append_ #[98, 98] ty #[s, u]).run Tryz.prog w = .ok s' w') ∧ Turned w w' B s s' (ps ++ qs) ∧ (∀ a, s = .slice a 0 0 → qs ≠ [] → w'.heap.size = w.heap.size + 1 ∧ blk s' = some w.heap.size) := by
  obtain ⟨i0, hi0, hz0, hzs, hzb⟩ := info_parts infoP
  obtain ⟨u0, vc, rfl, hvc1, hvc2, _⟩ := hu.form
  have hsrcv := src_of_row (P := Tryz.prog) hu Tryz.underlying98 (cellsP_one qs)
  have hsrcs := src_of_row (P := Tryz.prog) hr Tryz.underlying98 (cellsP_one ps)
  have hqc := cellsP_len qs
  have hpc := cellsP_len ps
  obtain ⟨a, cap, rfl, hc1, hc2, _⟩ := hr.form
  by_cases hq : qs = []
  · subst hq
    refine ⟨_, _, fun ty => run_append_none w 98 98 ty 102 i0 Tryz.underlying98 hi0 a ps.length cap _ (by rw [hzs]; exact hsrcv) hc1, ⟨by simpa using hr, grown_refl _ _, .inl rfl⟩, fun _ _ h => absurd rfl h⟩
  have hm : 0 < qs.length := List.length_pos_iff.2 hq
  by_cases hroom : ps.length + qs.length ≤ cap
  · rcases hr.rw with ⟨a', e, e'⟩ | ⟨g, cap', cur, e, hg, R⟩
    · subst e'
      simp only [List.length_nil] at e hroom
      injection e with e1 e2 e3
      omega
    · injection e with e1 e2 e3
      subst e1; subst e3
      have hfit : ps.length * 4 + (cellsP qs).length ≤ cur.size := by rw [hqc, R.hs]; omega
      refine ⟨_, _, fun ty => by
        have := run_append_inK w 98 98 ty 102 i0 Tryz.underlying98 hi0 g 0 ps.length cap cur _ (.slice u0 qs.length vc) qs.length (cellsP qs) (by rw [hzs]; exact hsrcv) hroom R.hh (by rw [hzs]; omega)
        rw [hzs, Nat.zero_add] at this
        exact this, ⟨RowP.of (cur := spl cur (ps.length * 4) (cellsP qs)) hg (setRow_heap w g cur _ _ _ R.hh) (by simp) hroom hc2 (by rw [spl_size _ _ _ hfit, R.hs]) ?_, ?_, .inl ?_⟩, fun a e _ => ?_⟩
      · rw [Nat.add_mul, spl_end R.ht hpc hqc, cellsP_append]
      · rw [blk_pos (by omega)]; exact setRow_grown w g _
      · rw [blk_pos (by omega), blk_pos (by omega)]
      · injection e with e1 e2 e3
        omega
  · have hG1 : ps.length + qs.length ≤ grownCap w (ps.length + qs.length) cap 102 := grownCap_ge w _ cap 102
    have hG2 := grownCap_le_maxLen w (ps.length + qs.length) cap 102 (by unfold maxLen; omega)
    refine ⟨_, _, fun ty => by
      have := run_append_grow_src w 98 98 ty 102 i0 zP Tryz.underlying98 hi0 hz0 a ps.length cap (cellsP ps) (by rw [hzs]; exact hsrcs.cellsD) (.slice u0 qs.length vc) qs.length (cellsP qs) (by rw [hzs]; exact hsrcv) (by omega) (by omega) (by rw [hzb]; exact growslice_fits (by omega) hbig)
      exact this, ⟨RowP.of (cur := (cellsP ps ++ cellsP qs).toArray ++ Builtin.zeroCells zP.cells (grownCap w (ps.length + qs.length) cap 102 - (ps.length + qs.length))) hB (heap_alloc_new w.drew _) (by simp) hG1 hG2 (by
        have := zs_len (grownCap w (ps.length + qs.length) cap 102 - (ps.length + qs.length))
        rw [zs, Array.length_toList] at this
        rw [Array.size_append, List.size_toArray, List.length_append, hpc, hqc, this]; omega) ?_, grown_new w _ _, .inr fun g hg => ?_⟩, fun a e _ => ⟨by simp, blk_pos (by omega)⟩⟩
    · rw [Array.toList_append, List.take_left' (by simp [hpc, hqc]; omega), cellsP_append]
    · rw [blk_pos (by omega)] at hg
      cases hg
      exact Nat.le_refl _

/-- an append in a walk, where there is such a run -/
theorem wpList_append_ex {w : World} {ops : Array Oper} {rest : List Oper} {o : Oper} {a : Act} {Q : Exit → Act → World → Prop} (hgd : o.guard = none) (s x : Operand) (t tn : TypeId)
    (ho : o.op = .call { callee := .builtin .append, args := #[s, x], argTypes := #[t, tn] }) (vs vx : Value) (hs : a.eval s = vs) (hx : a.eval x = vx) {Post : Value → World → Prop}
    (hr : ∃ v' w', (∀ ty, (Builtin.append_ #[t, tn] ty #[vs, vx]).run Tryz.prog w = .ok v' w') ∧ Post v' w') (h : ∀ v' w', Post v' w' → wpList Tryz.prog ops Q rest (a.put o.dst v') w') : wpList Tryz.prog ops Q (o :: rest) a w := by
  obtain ⟨v', w', h1, h2⟩ := hr
  exact Lib.wpList_append_run w hgd s x t tn ho vs vx hs hx v' w' (h1 _) (h v' w' h2)

theorem Turned.below {w w' : World} {B : Nat} {s s' : Value} {ps' : List (Pc (Int × Int))} (h : Turned w w' B s s' ps') {a : World} {C : Nat} (hb : Below C a w) (hC : C ≤ w.heap.size) (hs : ∀ g, blk s = some g → C ≤ g) : Below C a w' :=
  hb.trans ⟨h.2.1.os, h.2.1.tape, h.2.1.output, h.2.1.size, fun k hk => h.2.1.block k (by omega) (fun e => by have := hs k e.symm; omega)⟩
theorem Turned.from {w w' : World} {B : Nat} {s s' : Value} {ps' : List (Pc (Int × Int))} (h : Turned w w' B s s' ps') {C : Nat} (hC : C ≤ w.heap.size) (hs : ∀ g, blk s = some g → C ≤ g) : ∀ g, blk s' = some g → C ≤ g := fun g hg => by
  rcases h.2.2 with e | e
  · exact hs g (e.symm.trans hg)
  · exact Nat.le_trans hC (e g hg)

theorem eqNil_some (x : Addr) (n c : Nat) (w : World) : (binOp .eql 98 (.slice (some x) n c) (.slice none 0 0)).run Tryz.prog w = .ok (.bool false) w := by kernel_rfl
theorem eqNil_none (n c : Nat) (w : World) : (binOp .eql 98 (.slice none n c) (.slice none 0 0)).run Tryz.prog w = .ok (.bool true) w := by kernel_rfl

set_option maxRecDepth 100000 in
set_option maxHeartbeats 2000000 in
theorem clone_any (B : Nat) (v : Value) (ps : List (Pc (Int × Int))) (w : World) (hr : RowP w B v ps) (hbig : ps.length * 24 ≤ 140737488355328) :
    Calls Tryz.prog 139 #[v] w fun e w' => ∃ v', e = .returned v' ∧ RowP w' w.heap.size v' ps ∧ Below w.heap.size w w' ∧ (ps ≠ [] → w'.heap.size = w.heap.size + 2 ∧ blk v' = some (w.heap.size + 1)) := by
  obtain ⟨a, cap, rfl, hc1, hc2, hn, hg⟩ := hr.form
  cases a with
  | none =>
    have e := hn rfl
    subst e
    refine Calls.mono (R := fun e w' => e = .returned (.slice none 0 0) ∧ w' = w) ?_ ?_
    · clear hg hr
      have hqn := eqNil_none
      go_enter Tryz.func139, Tryz.ntmps139
      go_wp2
      all_goals go_ret
      all_goals exact ⟨rfl, rfl⟩
    · rintro e w' ⟨rfl, rfl⟩
      exact ⟨_, rfl, RowV.nil _ _ _ _ _, Below.refl _ _, fun h => absurd rfl h⟩
  | some a =>
    have hB1 : Below w.heap.size w (w.alloc (.cells #[] 102)) := (Below.refl _ w).alloc (Nat.le_refl _) _
    have HAP := hide (append_ps w.heap.size B (.slice (some ⟨w.heap.size, 0, none⟩) 0 0) (.slice (some a) ps.length cap) [] ps (w.alloc (.cells #[] 102)) (by simp) (RowV.nil _ _ _ _ _) (hr.below hB1) (by simpa using hbig))
    clear hg hn hr
    refine Calls.mono (R := fun e w' => Hid (∃ v', e = .returned v' ∧ Turned (w.alloc (.cells #[] 102)) w' w.heap.size (.slice (some ⟨w.heap.size, 0, none⟩) 0 0) v' ([] ++ ps) ∧ (ps ≠ [] → w'.heap.size = w.heap.size + 2 ∧ blk v' = some (w.heap.size + 1)))) ?_ ?_
    · have hqn := eqNil_some
      go_enter Tryz.func139, Tryz.ntmps139
      go_wp2_with (at_builtin; refine wpList_append_ex rfl _ _ _ _ rfl _ _ rfl rfl (unhide HAP) ?_; rintro v' w' ⟨ht, hx⟩)
      all_goals go_ret
      all_goals exact hide ⟨_, rfl, ht, fun h => by have := hx _ rfl h; simpa using this⟩
    · rintro e w' h
      obtain ⟨v', rfl, ht, hx⟩ := unhide h
      exact ⟨v', rfl, by simpa using ht.1, ht.below hB1 (by simp) (fun g hg => by rw [blk_zero] at hg; cases hg), hx⟩
end Go.Proofs.YthgaadjkjnibaaaGreatDoor.VN
/-
  From which piece up to which one a range is met: reach, meeting.
-/
namespace Go.Proofs.YthgaadjkjnibaaaGreatDoor.VN
open Go.RowKit Go.PlainAid Go.Lib Go.PRow Go.Shelf

theorem range_count (ps : List (Pc (Int × Int))) (f : Nat → Bool) (g : Pc (Int × Int) → Bool) (h : ∀ i p, ps[i]? = some p → f i = g p) : (List.range ps.length).countP f = ps.countP g := by
  induction ps generalizing f with
  | nil => rfl
  | cons p ps ih =>
    rw [List.length_cons, List.range_succ_eq_map, List.countP_cons, List.countP_cons, h 0 p rfl, List.countP_map]
    rw [ih (f ∘ Nat.succ) (fun i q hq => h (i + 1) q (by simpa using hq))]

theorem okP_hi {ps : List (Pc (Int × Int))} (o : OkP ps) {i j : Nat} {p q : Pc (Int × Int)} (hp : ps[i]? = some p) (hq : ps[j]? = some q) (h : i ≤ j) : p.hi ≤ q.hi ∧ p.lo ≤ q.lo := by
  rcases Nat.lt_or_ge i j with h | h
  · obtain ⟨h1, e1⟩ := List.getElem?_eq_some_iff.1 hp
    obtain ⟨h2, e2⟩ := List.getElem?_eq_some_iff.1 hq
    have := List.pairwise_iff_getElem.1 o.1 i j h1 h2 h
    rw [e1, e2] at this
    have a := o.2 p (by rw [← e1]; exact List.getElem_mem _)
    have b := o.2 q (by rw [← e2]; exact List.getElem_mem _)
    omega
  · have : i = j := by omega
    subst this
    rw [hp] at hq
    cases hq
    exact ⟨Int.le_refl _, Int.le_refl _⟩

set_option maxHeartbeats 2000000 in
theorem reach1 (bp br g n cap : Nat) (x : Int) (lo : Int) (i : Nat) (W : World) (hi1 : i < n)
    (ha : W.cell? ⟨bp, 0, none⟩ = some (.slice (some ⟨g, 0, none⟩) n cap)) (hx : W.cell? ⟨br, 0, none⟩ = some (.int .i32 lo)) (hc : W.cell? ⟨g, i * 4 + 1, none⟩ = some (.int .i32 x)) :
    Calls Tryz.prog 105 (#[.int .i64 i] ++ #[.pointer (some ⟨bp, 0, none⟩), .pointer (some ⟨br, 0, none⟩)]) W fun e w' => e = .returned (.bool (decide (lo ≤ x))) ∧ ∃ q, w' = W.drewN q := by
  have hiz : (i : Int) < (n : Int) := by omega
  go_enter Tryz.func105, Tryz.ntmps105
  go_wp2
  go_quiet (fail)
  all_goals go_wp2
  all_goals go_ret
  all_goals exact ⟨by first | rfl | simp, _, rfl⟩
set_option maxHeartbeats 2000000 in
theorem reach2 (bp br g n cap : Nat) (x : Int) (hi : Int) (i : Nat) (W : World) (hi1 : i < n)
    (ha : W.cell? ⟨bp, 0, none⟩ = some (.slice (some ⟨g, 0, none⟩) n cap)) (hx : W.cell? ⟨br, 1, none⟩ = some (.int .i32 hi)) (hc : W.cell? ⟨g, i * 4, none⟩ = some (.int .i32 x)) :
    Calls Tryz.prog 106 (#[.int .i64 i] ++ #[.pointer (some ⟨bp, 0, none⟩), .pointer (some ⟨br, 0, none⟩)]) W fun e w' => e = .returned (.bool (decide (hi < x))) ∧ ∃ q, w' = W.drewN q := by
  have hiz : (i : Int) < (n : Int) := by omega
  go_enter Tryz.func106, Tryz.ntmps106
  go_wp2
  go_quiet (fail)
  all_goals go_wp2
  all_goals go_ret
  all_goals exact ⟨by first | rfl | simp, _, rfl⟩

/-- sort.Search over pieces that rise: f: what is asked of a piece -/
theorem search_ps (f : Nat) (eg : ∀ args w, (callFunc f args).run Tryz.prog w = .ok (.enter f args) w) (ps : List (Pc (Int × Int))) (hl : ps.length < 4611686018427387904) (q : Pc (Int × Int) → Bool) (hq : ∀ (i j : Nat) (p r : Pc (Int × Int)), i ≤ j → ps[i]? = some p → ps[j]? = some r → q p = true → q r = true)
    (cb : Array Value) (W : World)
    (hf : ∀ (i : Nat) (p : Pc (Int × Int)) (V : World), ps[i]? = some p → Below W.heap.size W V → Calls Tryz.prog f (#[.int .i64 i] ++ cb) V fun e w' => e = .returned (.bool (q p)) ∧ ∃ k, w' = V.drewN k) :
    Calls Tryz.prog 104 #[.int .i64 ps.length, .func (.func f) #[] cb] W fun e w' => e = .returned (.int .i64 (ps.countP (fun p => !q p) : Nat)) ∧ Below W.heap.size W w' := by
  have h := Any.sort_Search Tryz.laysSearch f cb ps.length (fun i => match ps[i]? with | some p => q p | none => true) W eg hl
    (fun m os i hi => by
      have e : ps[i]? = some ps[i] := List.getElem?_eq_getElem hi
      rw [e]
      exact (hf i ps[i] _ e (below_grown_sl _ W m os (Nat.le_refl _))).mono fun _ _ ⟨he, k, hk⟩ => ⟨he, k, #[], by rw [hk, Go.Sort.grow_empty]⟩)
    (fun a b hab hb hp => by
      have e1 : ps[a]? = some ps[a] := List.getElem?_eq_getElem (by omega)
      have e2 : ps[b]? = some ps[b] := List.getElem?_eq_getElem hb
      simp only [e1] at hp
      simp only [e2]
      exact hq a b _ _ hab e1 e2 hp)
  refine h.mono ?_
  rintro e w' ⟨rfl, k, os, rfl⟩
  refine ⟨?_, below_grown_sl _ W k os (Nat.le_refl _)⟩
  rw [range_count ps _ (fun p => !q p) (fun i p hp => by simp only [hp])]

theorem okP_len {ps : List (Pc (Int × Int))} (o : OkP ps) : ps.length ≤ 1114112 := by
  have key : ∀ (ps : List (Pc (Int × Int))) (a : Int), OkP ps → (∀ p ∈ ps, a ≤ p.lo) → a ≤ 1114112 → (ps.length : Int) ≤ 1114112 - a := by
    intro ps
    induction ps with
    | nil => intro a _ _ h; simp; omega
    | cons p ps ih =>
      intro a o h ha
      have k := o.head
      have := ih (p.hi + 1) o.tail (fun q hq => by have := o.next q hq; omega) (by omega)
      have := h p List.mem_cons_self
      simp only [List.length_cons]
      omega
  have := key ps 0 o (fun p hp => (o.2 p hp).1) (by omega)
  omega

set_option maxHeartbeats 2000000 in
theorem reach_any (B : Nat) (v : Value) (ps : List (Pc (Int × Int))) (o : OkP ps) (lo hi : Int) (w : World) (hr : RowP w B v ps) :
    Calls Tryz.prog 76 #[v, .agg #[.int .i32 lo, .int .i32 hi]] w fun e w' => e = .returned (.tuple #[.int .i64 (frI ps lo), .int .i64 (upI ps hi)]) ∧ Below w.heap.size w w' := by
  have hlen := okP_len o
  obtain ⟨W0, hW0⟩ : ∃ W0, W0 = (w.alloc (.cells #[v] 98)).alloc (.cells #[.int .i32 lo, .int .i32 hi] 32) := ⟨_, rfl⟩
  have hsz : W0.heap.size = w.heap.size + 1 + 1 := by rw [hW0]; simp
  have hB0 : Below w.heap.size w W0 := by rw [hW0]; exact ((Below.refl _ w).alloc (Nat.le_refl _) _).alloc (by simp) _
  obtain ⟨a, cap, rfl, hc1, hc2, hn, hg⟩ := hr.form
  have ca : W0.cell? ⟨w.heap.size, 0, none⟩ = some (.slice a ps.length cap) := by rw [hW0]; exact cell_alloc_sl _ (cell_new_sl w _ _)
  have cr : ∀ k, k < 2 → W0.cell? ⟨w.heap.size + 1, k, none⟩ = (#[.int .i32 lo, .int .i32 hi] : Array Value)[k]? := fun k hk => by
    rw [hW0, World.cell?_alloc_at _ _ _ _ (by simp)]
  have cr0 := cr 0 (by omega)
  have cr1 := cr 1 (by omega)
  have key : ∀ (V : World) (i : Nat) (p : Pc (Int × Int)), Below W0.heap.size W0 V → ps[i]? = some p → ∃ g, a = some ⟨g, 0, none⟩ ∧ V.cell? ⟨g, i * 4, none⟩ = some (.int .i32 p.lo) ∧ V.cell? ⟨g, i * 4 + 1, none⟩ = some (.int .i32 p.hi) := by
    intro V i p hV hp
    obtain ⟨g, rfl, _, _, hgl, hcell⟩ := hg (by intro e; subst e; simp at hp)
    obtain ⟨c1, c2, _⟩ := hcell i p hp
    refine ⟨g, rfl, ?_, ?_⟩
    · rw [hV.cell (by show g < W0.heap.size; omega), hB0.cell (by show g < w.heap.size; omega)]; exact c1
    · rw [hV.cell (by show g < W0.heap.size; omega), hB0.cell (by show g < w.heap.size; omega)]; exact c2
  have S1 : ∀ V, Below W0.heap.size W0 V → Calls Tryz.prog 104 #[.int .i64 ps.length, .func (.func 105) #[] #[.pointer (some ⟨w.heap.size, 0, none⟩), .pointer (some ⟨w.heap.size + 1, 0, none⟩)]] V fun e w' => e = .returned (.int .i64 (frI ps lo)) ∧ Below V.heap.size V w' := by
    intro V hV
    refine (search_ps 105 (enters_of Tryz.func105 (by kernel_rfl) rfl) ps (by omega) (fun p => decide (lo ≤ p.hi)) (fun i j p r hij hp hr h => by have := okP_hi o hp hr hij; simp at h ⊢; omega) _ V ?_).mono ?_
    · intro i p U hp hU
      have hU' : Below W0.heap.size W0 U := hV.trans (hU.mono hV.size)
      obtain ⟨g, rfl, _, c2⟩ := key U i p hU' hp
      exact reach1 _ _ g ps.length cap p.hi lo i U (List.getElem?_eq_some_iff.1 hp).1 ((hU'.cell (by show w.heap.size < W0.heap.size; omega)).trans ca) ((hU'.cell (by show w.heap.size + 1 < W0.heap.size; omega)).trans cr0) c2
    · rintro e w' ⟨rfl, h⟩
      refine ⟨?_, h⟩
      have : (fun p : Pc (Int × Int) => !decide (lo ≤ p.hi)) = fun p => decide (p.hi < lo) := by
        funext p
        by_cases h : lo ≤ p.hi
        · simp [h]
        · simp [h]; omega
      rw [this]
      rfl
  have S2 : ∀ V, Below W0.heap.size W0 V → Calls Tryz.prog 104 #[.int .i64 ps.length, .func (.func 106) #[] #[.pointer (some ⟨w.heap.size, 0, none⟩), .pointer (some ⟨w.heap.size + 1, 0, none⟩)]] V fun e w' => e = .returned (.int .i64 (upI ps hi)) ∧ Below V.heap.size V w' := by
    intro V hV
    refine (search_ps 106 (enters_of Tryz.func106 (by kernel_rfl) rfl) ps (by omega) (fun p => decide (hi < p.lo)) (fun i j p r hij hp hr h => by have := okP_hi o hp hr hij; simp at h ⊢; omega) _ V ?_).mono ?_
    · intro i p U hp hU
      have hU' : Below W0.heap.size W0 U := hV.trans (hU.mono hV.size)
      obtain ⟨g, rfl, c2, _⟩ := key U i p hU' hp
      exact reach2 _ _ g ps.length cap p.lo hi i U (List.getElem?_eq_some_iff.1 hp).1 ((hU'.cell (by show w.heap.size < W0.heap.size; omega)).trans ca) ((hU'.cell (by show w.heap.size + 1 < W0.heap.size; omega)).trans cr1) c2
    · rintro e w' ⟨rfl, h⟩
      refine ⟨?_, h⟩
      have : (fun p : Pc (Int × Int) => !decide (hi < p.lo)) = fun p => decide (p.lo ≤ hi) := by
        funext p
        by_cases h : hi < p.lo
        · simp [h]
        · simp [h]; omega
      rw [this]
      rfl
  have H1 := hide S1
  have H2 := hide S2
  have CA := hide (fun V (hV : Below W0.heap.size W0 V) => (hV.cell (p := ⟨w.heap.size, 0, none⟩) (by show w.heap.size < W0.heap.size; omega)).trans ca)
  clear S1 S2 key cr cr1 cr0 ca hg hn hr
  generalize frI ps lo = F at *
  generalize upI ps hi = U at *
  go_enter Tryz.func76, Tryz.ntmps76
  have hmf : ∀ (fn : Fn) (first cap : Array Value) (w : World), (Instr.makeFunc fn first cap).run Tryz.prog w = .ok (.func fn first cap) w := fun _ _ _ _ => rfl
  go_wp2_with fail
  rw [← hW0]
  refine (unhide H1 _ (Below.refl _ _)).mono ?_
  rintro e w1 ⟨rfl, hb1⟩
  have c1 := unhide CA _ hb1
  go_wp2_with fail
  refine (unhide H2 _ hb1).mono ?_
  rintro e w2 ⟨rfl, hb2⟩
  go_wp2
  go_ret2
  exact ⟨rfl, hB0.trans ((hb1.trans (hb2.mono hb1.size)).mono (by omega))⟩

/-- the slice of the pieces that meet a range -/
def midV (v : Value) (f u : Nat) : Value := match v with
  | .slice a _ cap => if cap = f then .slice a (u - f) 0 else .slice (a.map fun x => x.add (f * 4)) (u - f) (cap - f)
  | x => x

set_option maxHeartbeats 2000000 in
theorem meeting_any (B : Nat) (v : Value) (ps : List (Pc (Int × Int))) (o : OkP ps) (lo hi : Int) (hlh : lo ≤ hi) (w : World) (hr : RowP w B v ps) :
    Calls Tryz.prog 46 #[v, .agg #[.int .i32 lo, .int .i32 hi]] w fun e w' => e = .returned (midV v (frI ps lo) (upI ps hi)) ∧ Below w.heap.size w w' := by
  have hB1 : Below w.heap.size w (w.alloc (.cells #[.int .i32 lo, .int .i32 hi] 32)) := (Below.refl _ w).alloc (Nat.le_refl _) _
  have H := hide (reach_any B v ps o lo hi _ (hr.below hB1))
  have h1 : frI ps lo ≤ upI ps hi := by
    obtain ⟨A, M, C, c⟩ := cut3 o hlh
    rw [c.fr, c.up]; omega
  have h2 := upI_le ps hi
  have hlen := okP_len o
  obtain ⟨a, cap, rfl, hc1, hc2, hn, hg⟩ := hr.form
  clear hg hr hn
  generalize frI ps lo = F at *
  generalize upI ps hi = U at *
  generalize ps.length = n at *
  have q1 : (F : Int) ≤ (U : Int) := by omega
  have q2 : (U : Int) ≤ (cap : Int) := by omega
  go_enter Tryz.func46, Tryz.ntmps46
  go_wp2_with (go_at_call 76; refine (unhide H).mono ?_; rintro e w' ⟨rfl, hb⟩)
  all_goals go_ret
  all_goals exact ⟨by simp [midV, *], hB1.trans (hb.mono (by simp))⟩
end Go.Proofs.YthgaadjkjnibaaaGreatDoor.VN
/-
  replaced: the pieces with what is new in a range.
-/
namespace Go.Proofs.YthgaadjkjnibaaaGreatDoor.VN
open Go.RowKit Go.PlainAid Go.Lib Go.PRow Go.Shelf
set_option linter.unusedVariables false

theorem one_row (W : World) (k : Nat) (hk : k = W.heap.size) (a b : Int) (v : (Int × Int)) (B : Nat) (hB : B ≤ W.heap.size) : RowP (W.alloc (.cells #[.int .i32 a, .int .i32 b, .int .u8 v.1, .int .i64 v.2] 102)) B (.slice (some ⟨k, 0, none⟩) 1 1) [⟨a, b, v⟩] := by
  subst hk
  exact RowP.of hB (heap_alloc_new W _) rfl (Nat.le_refl _) (by unfold maxLen; omega) rfl rfl

/-- behind W1: what lay there lies, and s has the pieces rs in memory of its own -/
def St (W1 W : World) (s : Value) (rs : List (Pc (Int × Int))) : Prop := Below W1.heap.size W1 W ∧ RowP W W1.heap.size s rs
theorem St.alloc {W1 W : World} {s : Value} {rs : List (Pc (Int × Int))} (h : St W1 W s rs) (o : Obj) : St W1 (W.alloc o) s rs :=
  ⟨h.1.alloc h.1.size o, h.2.below ((Below.refl _ W).alloc (Nat.le_refl _) o)⟩
theorem St.drewN {W1 W : World} {s : Value} {rs : List (Pc (Int × Int))} (h : St W1 W s rs) (q : Nat) : St W1 (W.drewN q) s rs :=
  ⟨⟨h.1.os, h.1.tape, h.1.output, h.1.size, h.1.block⟩, h.2.below ⟨rfl, rfl, rfl, Nat.le_refl _, fun _ _ => rfl⟩⟩
theorem St.app {W1 W : World} {s u : Value} {rs qs : List (Pc (Int × Int))} {Bv : Nat} (h : St W1 W s rs) (hu : RowP W Bv u qs) (hbig : (rs.length + qs.length) * 24 ≤ 140737488355328) :
    ∃ s' w', (∀ ty, (Builtin.append_ #[98, 98] ty #[s, u]).run Tryz.prog W = .ok s' w') ∧ St W1 w' s' (rs ++ qs) := by
  obtain ⟨s', w', h1, h2, _⟩ := append_ps W1.heap.size Bv s u rs qs W h.1.size h.2 hu hbig
  exact ⟨s', w', h1, h2.below h.1 h.1.size (fun g hg => (RowV.lt h.2 g hg).1), h2.1⟩
theorem St.one {W1 W : World} {s : Value} {rs : List (Pc (Int × Int))} (h : St W1 W s rs) (k : Nat) (hk : k = W.heap.size) (a b : Int) (v : (Int × Int)) (hbig : rs.length ≤ 100) :
    ∃ s' w', (∀ ty, (Builtin.append_ #[98, 98] ty #[s, .slice (some ⟨k, 0, none⟩) 1 1]).run Tryz.prog (W.alloc (.cells #[.int .i32 a, .int .i32 b, .int .u8 v.1, .int .i64 v.2] 102)) = .ok s' w') ∧ St W1 w' s' (rs ++ [⟨a, b, v⟩]) :=
  (h.alloc _).app (one_row W k hk a b v 0 (Nat.zero_le _)) (by simp; omega)

theorem Turned.after {w W w' : World} {B : Nat} {s s' : Value} {ps' : List (Pc (Int × Int))} (h : Turned W w' B s s' ps') (hb : Below w.heap.size w W) : Turned w w' B s s' ps' :=
  ⟨h.1, ⟨h.2.1.os.trans hb.os, h.2.1.tape.trans hb.tape, h.2.1.output.trans hb.output, Nat.le_trans hb.size h.2.1.size, fun k hk hne => (h.2.1.block k (Nat.lt_of_lt_of_le hk hb.size) hne).trans (hb.block k hk)⟩,
    h.2.2.imp id fun h g hg => Nat.le_trans hb.size (h g hg)⟩

set_option maxHeartbeats 4000000 in
set_option maxRecDepth 100000 in
theorem rep_no (B : Nat) (v : Value) (ps : List (Pc (Int × Int))) (o : OkP ps) (lo hi : Int) (hm : 0 ≤ lo ∧ lo ≤ hi ∧ hi ≤ 1114111) (Bw : Nat) (u : Value) (ws : List (Pc (Int × Int))) (hf : ws.length ≤ 1) (w : World) (hB : B ≤ w.heap.size) (hr : RowP w B v ps) (hu : RowP w Bw u ws) (hFU : frI ps lo = upI ps hi) :
    Calls Tryz.prog 130 #[v, .agg #[.int .i32 lo, .int .i32 hi], u] w fun e w' => ∃ s', e = .returned s' ∧ Turned w w' B v s' (ps.take (frI ps lo) ++ (ws) ++ ps.drop (upI ps hi)) := by
  have hB1 : Below w.heap.size w (w.alloc (.cells #[.int .i32 lo, .int .i32 hi] 32)) := (Below.refl _ w).alloc (Nat.le_refl _) _
  have H := hide (reach_any B v ps o lo hi _ (hr.below hB1))
  have hlen := okP_len o
  have hw1 : IntKind.i32.wrap (lo - 1) = lo - 1 := by rw [IntKind.wrap_i32]; omega
  have hw2 : IntKind.i32.wrap (hi + 1) = hi + 1 := by rw [IntKind.wrap_i32]; omega
  have hU := upI_le ps hi
  have HU := hide (fun V (hV : Below w.heap.size w V) => hu.below hV)
  have HR := hide (fun V s rs (hV : Below (w.alloc (.cells #[.int .i32 lo, .int .i32 hi] 32)).heap.size (w.alloc (.cells #[.int .i32 lo, .int .i32 hi] 32)) V) (h : RowP V (w.alloc (.cells #[.int .i32 lo, .int .i32 hi] 32)).heap.size s rs) (hl : rs.length ≤ 3) => (replace_any B (w.alloc (.cells #[.int .i32 lo, .int .i32 hi] 32)).heap.size v s ps rs (frI ps lo) (upI ps hi) V (Nat.le_trans hB (hB1.trans (hV.mono (by simp))).size) (hr.below (hB1.trans (hV.mono (by simp)))) h (fun g h1 h2 => by
      have e1 := (RowV.lt h g h1).1
      have e2 := (RowV.lt hr g h2).2
      simp at e1
      omega) hFU hU (by omega)).mono fun e w' h => (show ∃ s', e = .returned s' ∧ Turned w w' B v s' (ps.take (frI ps lo) ++ rs ++ ps.drop (upI ps hi)) from by
        obtain ⟨s', h1, h2⟩ := h
        exact ⟨s', h1, h2.after (hB1.trans (hV.mono (by simp)))⟩))
  have HAPP := hide (fun V s rs (h : St (w.alloc (.cells #[.int .i32 lo, .int .i32 hi] 32)) V s rs) (hl : rs.length ≤ 2) => h.app (hu.below (hB1.trans (h.1.mono (by simp)))) (by omega))
  obtain ⟨a, cap, rfl, hc1, hc2, hn, hg⟩ := hr.form
  clear hn hg hr
  clear hu
  generalize frI ps lo = F at *
  generalize upI ps hi = U at *
  subst hFU
  generalize ps.take F = PA at *
  generalize ps.drop F = PB at *
  generalize ps.length = n at *
  have hpost : ∀ e w', (∃ s', e = Ending.returned s' ∧ Turned w w' B (.slice a n cap) s' (PA ++ (ws) ++ PB)) → Hid (∃ s', e = Ending.returned s' ∧ Turned w w' B (.slice a n cap) s' (PA ++ (ws) ++ PB)) := fun _ _ h => h
  refine Calls.mono (R := fun e w' => Hid (∃ s', e = .returned s' ∧ Turned w w' B (.slice a n cap) s' (PA ++ (ws) ++ PB))) ?_ (fun e w' h => unhide h)
  have HP := hide hpost
  clear hpost
  go_enter Tryz.func130, Tryz.ntmps130
  go_wp2_with (go_at_call 76; refine (unhide H).mono ?_; rintro e w2 ⟨rfl, hb⟩)
  go_quiet (fail)
  have hb3 : Below (w.alloc (.cells #[.int .i32 lo, .int .i32 hi] 32)).heap.size (w.alloc (.cells #[.int .i32 lo, .int .i32 hi] 32)) (w2.drewN nq) := ⟨hb.os, hb.tape, hb.output, hb.size, hb.block⟩
  generalize w2.drewN nq = w3 at hb3 ⊢
  clear hb
  have s3 : St (w.alloc (.cells #[.int .i32 lo, .int .i32 hi] 32)) w3 (.slice none 0 0) [] := ⟨hb3, RowV.nil _ _ _ _ _⟩
  have S3 := hide s3
  clear s3
  clear hb3
  go_wp2_with (at_builtin; refine wpList_append_ex rfl _ _ _ _ rfl _ _ rfl rfl (unhide HAPP w3 _ _ (unhide S3) (by simp)) ?_; rintro v5 w5 s5)
  have S5 := hide s5
  clear s5
  go_quiet (fail)
  have s6 := (unhide S5).drewN nq
  generalize w5.drewN nq = w6 at s6 ⊢
  have S6 := hide s6
  clear s6
  go_wp2_with (go_at_call 166; refine (unhide HR w6 v5 _ (unhide S6).1 (unhide S6).2 (by simp; omega)).mono ?_; rintro e w8 ⟨s8, rfl, h8⟩)
  go_ret
  exact unhide HP _ _ ⟨_, rfl, by simpa [List.append_assoc] using h8⟩

theorem replaced_any (B : Nat) (v : Value) (ps : List (Pc (Int × Int))) (o : OkP ps) (lo hi : Int) (hm : 0 ≤ lo ∧ lo ≤ hi ∧ hi ≤ 1114111) (hFU : frI ps lo = upI ps hi) (Bw : Nat) (u : Value) (ws : List (Pc (Int × Int))) (hf : ws.length ≤ 1) (w : World) (hB : B ≤ w.heap.size) (hr : RowP w B v ps) (hu : RowP w Bw u ws) :
    Calls Tryz.prog 130 #[v, .agg #[.int .i32 lo, .int .i32 hi], u] w fun e w' => ∃ s', e = .returned s' ∧ Turned w w' B v s' (repP ps lo hi ws) := by
  obtain ⟨A, M, C, c⟩ := cut3 o hm.2.1
  have eF := c.fr
  have eU := c.up
  unfold repP
  rw [c.mid]
  have hM : M = [] := List.length_eq_zero_iff.1 (by rw [eF, eU] at hFU; omega)
  subst hM
  have := rep_no B v ps o lo hi hm Bw u ws hf w hB hr hu hFU
  simpa [aheadP, behindP] using this
end Go.Proofs.YthgaadjkjnibaaaGreatDoor.VN

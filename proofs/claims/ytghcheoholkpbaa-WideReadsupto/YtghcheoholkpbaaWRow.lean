/-
  Rows of units in memory; appendUnits, FromRunes, FromText of package wide.
-/
import Derived.Test.YtghcheoholkpbaaWMath2
import Derived.Test.YtghcheoholkpbaaMend
import Derived.Test.YtghcheoholkpbaaRefB
import Derived.Maps.AppendAt
import Derived.Laws.MakeOwn
namespace Go.Proofs.Ytghcheoholkpbaa
open Go.RowKit Go.PlainAid Go.Lib
set_option linter.unusedVariables false

abbrev u16s (l : List Int) : List Value := l.map (Value.int .u16)
theorem infoUnit : (Try.prog.info? 22).map (fun i => (i.zero, i.size, i.bytes)) = some (some (.int .u16 0), 1, 2) := by kernel_rfl
theorem row_is {w : World} {base : Nat} {e : TypeId} {size : Nat} {v : Value} {n : Nat} {xs : List Value} (h : w.ownsRow base e size v n xs) : ∃ a c, v = .slice a n c := by
  rcases h.2 with ⟨rfl, h0⟩ | ⟨g, cap, cur, rfl, _⟩
  · exact ⟨_, _, by rw [h0]⟩
  · exact ⟨_, _, rfl⟩
theorem row_at {w : World} {base : Nat} {e : TypeId} {size : Nat} {a : Option Addr} {n c : Nat} {xs : List Value} (h : w.ownsRow base e size (.slice a n c) n xs) (hn : 0 < n) : ∃ g, a = some ⟨g, 0, none⟩ := by
  rcases h.2 with ⟨h0, _⟩ | ⟨g, cap, cur, h0, _⟩
  · obtain ⟨_, h1, _⟩ : a = none ∧ n = 0 ∧ c = 0 := by simpa using h0
    omega
  · obtain ⟨h1, _⟩ : a = some ⟨g, 0, none⟩ ∧ c = cap := by simpa using h0
    exact ⟨g, h1⟩

theorem rowBelow {w w' : World} {base : Nat} {e : TypeId} {size : Nat} {v : Value} {n : Nat} {xs : List Value} (h : w.ownsRow base e size v n xs) (hb : Below w.heap.size w w') : w'.ownsRow base e size v n xs := by
  refine ⟨h.1, ?_⟩
  rcases h.2 with h | ⟨g, cap, cur, h1, h2, h3, h4⟩
  · exact .inl h
  · exact .inr ⟨g, cap, cur, h1, h2, (hb.block g (Array.getElem?_eq_some_iff.1 h3).1).trans h3, h4⟩
theorem row_mono {w : World} {base base' : Nat} {e : TypeId} {size : Nat} {v : Value} {n : Nat} {xs : List Value} (h : w.ownsRow base e size v n xs) (hb : base' ≤ base) : w.ownsRow base' e size v n xs := by
  refine ⟨h.1, ?_⟩
  rcases h.2 with h | ⟨g, cap, cur, h1, h2, h3⟩
  · exact .inl h
  · exact .inr ⟨g, cap, cur, h1, Nat.le_trans hb h2, h3⟩
theorem belowGrown {a W w4 : World} {B : Nat} {e : TypeId} {size : Nat} {v : Value} {n : Nat} {xs : List Value} (hB : Below B a W) (hB' : B ≤ W.heap.size) (h : W.ownsRow B e size v n xs) (hg : W.grownBy w4 v.ownBlock) : Below B a w4 :=
  hB.grown hg hB' (fun k e1 => (h.lt k e1).1)

/-- a list of units in memory, whatever its spare room -/
def ReadsU (w : World) (a : Option Addr) (zs : List Int) : Prop := ∀ k, k < zs.length → ∃ b off, a = some ⟨b, off, none⟩ ∧ w.cell? ⟨b, off + k, none⟩ = some (.int .u16 (uA zs k))
theorem ReadsU.below {w W : World} {a : Option Addr} {zs : List Int} (h : ReadsU w a zs) (hb : Below w.heap.size w W) : ReadsU W a zs := by
  intro k hk
  obtain ⟨b, off, h1, h2⟩ := h k hk
  exact ⟨b, off, h1, (hb.cell (p := ⟨b, off + k, none⟩) (World.block_lt_of_cell? w _ h2)).trans h2⟩
theorem ReadsU.grown {w W : World} {a : Option Addr} {zs : List Int} {row : Option Nat} (h : ReadsU w a zs) (hg : w.grownBy W row) (hne : ∀ x, a = some x → some x.block ≠ row) : ReadsU W a zs := by
  intro k hk
  obtain ⟨b, off, h1, h2⟩ := h k hk
  exact ⟨b, off, h1, hg.cell h2 (show some b ≠ row from hne _ h1)⟩
theorem readsU_own {w : World} {base : Nat} {a : Option Addr} {n c : Nat} {zs : List Int} (h : w.ownsRow base 22 1 (.slice a n c) n (u16s zs)) : ReadsU w a zs := by
  intro k hk
  have hn : zs.length = n := by have := h.1; simpa using this
  rcases h.2 with ⟨_, h0⟩ | ⟨g, cap, cur, hv, _, hg, _⟩
  · omega
  · obtain ⟨rfl, rfl⟩ : a = some ⟨g, 0, none⟩ ∧ c = cap := by simpa using hv
    refine ⟨g, 0, rfl, ?_⟩
    rw [Nat.zero_add, h.cellAt k (by omega)]
    simp [uA, List.getD, List.getElem?_eq_getElem hk]
theorem row_len {w : World} {base : Nat} {e : TypeId} {v : Value} {n : Nat} {zs : List Int} (h : w.ownsRow base e 1 v n (u16s zs)) : zs.length = n := by have := h.1; simpa using this
theorem u16s_append (l m : List Int) : u16s (l ++ m) = u16s l ++ u16s m := by simp

/-- a row of units to which something is put -/
theorem ReadsU.front {w : World} {a : Option Addr} {zs ys : List Int} (h : ReadsU w a (zs ++ ys)) : ReadsU w a zs := by
  intro k hk
  obtain ⟨b, off, h1, h2⟩ := h k (by rw [List.length_append]; omega)
  refine ⟨b, off, h1, h2.trans ?_⟩
  simp [uA, List.getD, List.getElem?_append, hk]

set_option maxRecDepth 100000 in
set_option maxHeartbeats 1000000 in
theorem appendUnits_any (W : World) (B : Nat) (v : Value) (n : Nat) (zs : List Int) (r : Int) (hrow : W.ownsRow B 22 1 v n (u16s zs)) (hn : n ≤ 8796093022208) (hB : B ≤ W.heap.size) :
    Calls Try.prog 56 #[v, .int .i32 r] W fun e w' => ∃ v', e = .returned v' ∧ w'.ownsRow B 22 1 v' (n + (unitsOf r).length) (u16s (zs ++ unitsOf r)) ∧ Below B W w' := by
  obtain ⟨i0, hi, hz0, hz1, hz2⟩ := info_parts infoUnit
  obtain ⟨a, c, rfl⟩ := row_is hrow
  cases hp : pairB r
  · cases hs : scalarB r
    · have HU : Hid (unitsOf r = [65533]) := by show _ = _; unfold unitsOf; rw [hp, hs]; rfl
      go_enter Try.func56, Try.ntmps56
      go_wp2_with (first
        | (go_at_call 14; refine (split_no _ _ hp).mono ?_; rintro e w' ⟨rfl, rfl⟩)
        | (go_at_call 72; refine (scalar_any _ _).mono ?_; rintro e w' ⟨rfl, rfl⟩)
        | (at_builtin; refine wpList_append_own_at _ rfl _ _ 31 rfl B 22 i0 (.int .u16 0) 1 2 Try.underlying31 hi hz0 hz1 hz2 rfl (by decide) _ _ _ rfl (hrow.alloc _) ⟨_, 0, none⟩ 1 1 [.int .u16 65533] rfl rfl (cell_one_new _ _ _) (by simp [Value.oneCell']) (by unfold maxLen; omega) (by omega) (by simp; omega) ?_; intro v' w4 hown hgrow _ _))
      go_ret
      rw [unhide HU]
      exact ⟨_, rfl, by rw [u16s_append]; exact hown, belowGrown ((Below.refl _ _).alloc hB _) (by simp; omega) (hrow.alloc _) hgrow⟩
    · have HU : Hid (unitsOf r = [r]) := by show _ = _; unfold unitsOf; rw [hp, hs]; rfl
      have hb : 0 ≤ r ∧ r ≤ 65535 := by unfold pairB at hp; unfold scalarB at hs; simp at hp hs; omega
      obtain ⟨h0, h1⟩ := hb
      go_enter Try.func56, Try.ntmps56
      go_wp2_with (first
        | (go_at_call 14; refine (split_no _ _ hp).mono ?_; rintro e w' ⟨rfl, rfl⟩)
        | (go_at_call 72; refine (scalar_any _ _).mono ?_; rintro e w' ⟨rfl, rfl⟩)
        | (at_builtin; refine wpList_append_own_at _ rfl _ _ 31 rfl B 22 i0 (.int .u16 0) 1 2 Try.underlying31 hi hz0 hz1 hz2 rfl (by decide) _ _ _ rfl (hrow.alloc _) ⟨_, 0, none⟩ 1 1 [.int .u16 r] rfl rfl (cell_one_new _ _ _) (by simp [Value.oneCell']) (by unfold maxLen; omega) (by omega) (by simp; omega) ?_; intro v' w4 hown hgrow _ _))
      go_ret
      rw [unhide HU]
      exact ⟨_, rfl, by rw [u16s_append]; exact hown, belowGrown ((Below.refl _ _).alloc hB _) (by simp; omega) (hrow.alloc _) hgrow⟩
  · have HU : Hid (unitsOf r = [hiN r, loN r]) := by show _ = _; unfold unitsOf; rw [hp]; rfl
    generalize hh : hiN r = h at *
    generalize hl : loN r = l at *
    have HS := hide (split_yes r · hp)
    rw [hh, hl] at HS
    clear hh hl
    go_enter Try.func56, Try.ntmps56
    go_wp2_with (first
      | (go_at_call 14; refine (unhide HS _).mono ?_; rintro e w' ⟨rfl, rfl⟩)
      | (at_builtin; refine wpList_append_own_at _ rfl _ _ 31 rfl B 22 i0 (.int .u16 0) 1 2 Try.underlying31 hi hz0 hz1 hz2 rfl (by decide) _ _ _ rfl (hrow.alloc _) ⟨_, 0, none⟩ 2 2 [.int .u16 h, .int .u16 l] rfl rfl (cell_two_new _ _ _ _) (by simp [Value.oneCell']) (by unfold maxLen; omega) (by omega) (by simp; omega) ?_; intro v' w4 hown hgrow _ _))
    go_ret
    rw [unhide HU]
    exact ⟨_, rfl, by rw [u16s_append]; exact hown, belowGrown ((Below.refl _ _).alloc hB _) (by simp; omega) (hrow.alloc _) hgrow⟩

set_option maxRecDepth 100000 in
set_option maxHeartbeats 1000000 in
theorem fromText_any (s : ByteArray) (w : World) (hs : s.size ≤ 1099511627776) :
    Calls Try.prog 25 #[.string s] w fun e w' => ∃ v, e = .returned v ∧ w'.ownsRow w.heap.size 22 1 v (units (nums s 0)).length (u16s (units (nums s 0))) ∧ Below w.heap.size w w' := by
  have hcl := chars_length s 0
  go_enter Try.func25, Try.ntmps25
  go_wp2
  go_loopw [3] (fun v wr => ∃ (pos k : Nat) (zs : List Int), Hid (zs ++ nums s pos = nums s 0) ∧ Hid (zs.length + (chars s pos).length ≤ s.size) ∧ wr.heap[w.heap.size]? = some (.stringIter s pos) ∧ wr.ownsRow (w.heap.size + 1) 22 1 v (units zs).length (u16s (units zs)) ∧ Below w.heap.size w wr ∧ w.heap.size + 1 ≤ wr.heap.size) (fun _ wr => s.size - wr.iterPos w.heap.size)
  case atStart => exact ⟨0, 0, [], rfl, hide (by simpa using hcl), heap_alloc_new w _, by simpa [units] using World.ownsRow_nil _ _ _ _, (Below.refl _ _).alloc (Nat.le_refl _) _, Nat.le_of_eq (World.size_alloc w _).symm⟩
  case round =>
    obtain ⟨pos, k, zs, HZ, HL, hit, hrow, hB, hsz⟩ := hrel
    by_cases hlt : pos < s.size
    · have hnx := fun ty => run_next_any_at (P := Try.prog) wr w.heap.size s pos ty hit hlt
      have hb := dec_bounds s pos hlt
      have hit2 := iterAt_heap wr w.heap.size s pos (pos + (Utf8.decode s pos).2) hit
      have hc := chars_step s pos hlt
      have HZ2 : Hid (zs ++ [((Utf8.decode s pos).1 : Int)] ++ nums s (pos + (Utf8.decode s pos).2) = nums s 0) := by
        show _ = _
        rw [← HZ.out]; unfold nums; rw [hc]; simp
      have HL2 : Hid ((zs ++ [((Utf8.decode s pos).1 : Int)]).length + (chars s (pos + (Utf8.decode s pos).2)).length ≤ s.size) := by
        show _ ≤ _
        have := HL.out; rw [hc] at this; simp at this ⊢; omega
      have hun : (units zs).length ≤ 8796093022208 := by
        have h1 := units_len zs; have := HL.out; omega
      have hmeas : s.size - (pos + (Utf8.decode s pos).2) < s.size - wr.iterPos w.heap.size := by rw [iterPos_of hit]; omega
      have hB2 : Below w.heap.size w (wr.iterAt w.heap.size s (pos + (Utf8.decode s pos).2)) := hB.grown (grownBy_iterAt wr w.heap.size s _) hB.size (fun k e => by cases e; exact Nat.le_refl _)
      have hrow2 : (wr.iterAt w.heap.size s (pos + (Utf8.decode s pos).2)).ownsRow (w.heap.size + 1) 22 1 u3 (units zs).length (u16s (units zs)) := hrow.kept (grownBy_iterAt wr w.heap.size s _) (.inr (fun e => by have := (hrow.lt _ e).1; omega))
      have hsz2 : w.heap.size + 1 ≤ (wr.iterAt w.heap.size s (pos + (Utf8.decode s pos).2)).heap.size := Nat.le_trans hsz (grownBy_iterAt wr w.heap.size s _).size
      clear hc hB hrow HL HZ
      generalize hR : (((Utf8.decode s pos).1 : Nat) : Int) = R at *
      have HR := hide hR
      clear hR
      generalize hW3 : wr.iterAt w.heap.size s (pos + (Utf8.decode s pos).2) = W3 at *
      clear hW3
      go_wp2_with (go_at_call 56; refine (appendUnits_any _ _ _ _ (units zs) _ hrow2 hun hsz2).mono ?_; rintro e w' ⟨v', rfl, hrow3, hb3⟩)
      have hit3 : w'.heap[w.heap.size]? = some (.stringIter s (pos + (Utf8.decode s pos).2)) := (hb3.block w.heap.size (by omega)).trans hit2
      go_roundw
      case rel => exact ⟨_, 0, _, HZ2, HL2, hit3, by rw [units_append, List.length_append]; simpa [units] using hrow3, hB2.trans (hb3.mono (by omega)), Nat.le_trans hsz2 hb3.size⟩
      case measure => rw [iterPos_of hit3]; exact hmeas
    · have hnx := fun ty => run_next_end_at (P := Try.prog) wr w.heap.size s pos ty hit hlt
      have HE : Hid (zs = nums s 0) := by
        show _ = _
        have := HZ.out
        unfold nums at this
        rw [chars_end s pos hlt] at this; simpa using this
      go_wp2
      go_ret
      rw [HE.out] at hrow
      exact ⟨_, rfl, row_mono hrow (by omega), hB⟩

theorem make_units (w : World) (c : Nat) (hc : c ≤ 8796093022208) :
    ∃ w', (Instr.makeSlice 31 (.int .i64 0) (.int .i64 (c : Int))).run Try.prog w = .ok (.slice (some ⟨w.heap.size, 0, none⟩) 0 c) w' ∧
      w'.ownsRow w.heap.size 22 1 (.slice (some ⟨w.heap.size, 0, none⟩) 0 c) 0 [] ∧ w.grownBy w' none := by
  obtain ⟨i0, hi, hz0, hz1, hz2⟩ := info_parts infoUnit
  exact run_make_own (P := Try.prog) w w.heap.size 31 22 i0 (.int .u16 0) 1 Try.underlying31 hi hz0 hz1 .i64 .i64 c (by rw [hz2]; omega) (by unfold maxLen; omega) (Nat.le_refl _)

set_option maxRecDepth 100000 in
set_option maxHeartbeats 1000000 in
theorem fromRunes_any (a : Option Addr) (cap : Nat) (zs : List Int) (w : World) (h : Reads w a zs) (hc : zs.length ≤ 1099511627776) :
    Calls Try.prog 21 #[.slice a zs.length cap] w fun e w' => ∃ v, e = .returned v ∧ w'.ownsRow w.heap.size 22 1 v (units zs).length (u16s (units zs)) ∧ Below w.heap.size w w' := by
  have HR := hide h
  clear h
  obtain ⟨w1, hmk, hown0, hgr0⟩ := make_units w zs.length (by omega)
  have hB0 : Below w.heap.size w w1 := (Below.refl _ _).grown hgr0 (Nat.le_refl _) (fun k e => by cases e)
  have hsz0 := hB0.size
  generalize hlen : zs.length = len at *
  have HLEN := hide hlen
  clear hlen
  go_enter Try.func21, Try.ntmps21
  go_wp2
  go_loopw [3, 11] (fun v3 v11 wr => ∃ k : Nat, k ≤ len ∧ v11 = .int .i64 k ∧ wr.ownsRow w.heap.size 22 1 v3 (units (zs.take k)).length (u16s (units (zs.take k))) ∧ Below w.heap.size w wr) (fun _ v11 _ => len - (intOf v11).toNat)
  case atStart => exact ⟨0, Nat.zero_le _, rfl, by simpa [units] using hown0, hB0⟩
  case round =>
    clear hown0 hB0 hsz0 hgr0 hmk
    obtain ⟨k, hk, rfl, hrow, hB⟩ := hrel
    by_cases hlt : k < len
    · obtain ⟨b, off, rfl, hcell⟩ := (unhide HR).below hB k (by rw [unhide HLEN]; exact hlt)
      have HT : Hid (units (zs.take (k + 1)) = units (zs.take k) ++ unitsOf (zs.getD k 0)) := by
        show _ = _
        rw [take_snoc' zs k (by rw [unhide HLEN]; exact hlt), units_append]; simp [units]
      have hun : (units (zs.take k)).length ≤ 8796093022208 := by
        have h1 := units_len (zs.take k); rw [List.length_take] at h1; omega
      simp only [List.getD_eq_getElem?_getD] at hcell HT
      generalize hr : zs[k]?.getD 0 = r at *
      clear hr
      have hBs := hB.size
      go_wp2_with (go_at_call 56; refine (appendUnits_any _ _ _ _ (units (zs.take k)) _ hrow hun hBs).mono ?_; rintro e w' ⟨v', rfl, hrow3, hb3⟩)
      go_roundw
      case rel => exact ⟨k + 1, by omega, by go_num, by rw [unhide HT, List.length_append]; exact hrow3, hB.trans hb3⟩
      case measure => simp [intOf]; omega
    · have hke : zs.take k = zs := List.take_of_length_le (by rw [unhide HLEN]; omega)
      rw [hke] at hrow
      have HK := hide hke
      clear hke
      go_wp2
      go_ret
      exact ⟨_, rfl, hrow, hB⟩

end Go.Proofs.Ytghcheoholkpbaa

/-
  The document's Runes and Check of a list of units (furrowref02), for every list of units.
-/
import Derived.Test.YtghcheoholkpbaaWMarks
import Derived.Test.YtghcheoholkpbaaRefRunes
namespace Go.Proofs.Ytghcheoholkpbaa
open Go.RowKit Go.PlainAid Go.Lib
set_option linter.unusedVariables false

/-- the marks of the places l in memory -/
def MarksAt (w : World) (us : List Int) (a : Option Addr) (l : List Nat) : Prop :=
  ∀ (i x : Nat), l[i]? = some x → ∃ g, a = some ⟨g, 0, none⟩ ∧ w.cell? ⟨g, i * 3, none⟩ = some (.int .i64 (x : Nat)) ∧ w.cell? ⟨g, i * 3 + 1, none⟩ = some (.int .i32 (rA us x)) ∧ w.cell? ⟨g, i * 3 + 2, none⟩ = some (.int .i64 (cA us x))
theorem MarksAt.below {w w' : World} {us : List Int} {a : Option Addr} {l : List Nat} (h : MarksAt w us a l) (hb : Below w.heap.size w w') : MarksAt w' us a l := by
  intro i x hx
  obtain ⟨g, h1, h2, h3, h4⟩ := h i x hx
  have hlt : g < w.heap.size := by
    refine Decidable.byContradiction fun hn => ?_
    have : w.heap[g]? = none := Array.getElem?_eq_none (by omega)
    simp [World.cell?, this] at h2
  exact ⟨g, h1, (hb.cell (p := ⟨g, i * 3, none⟩) hlt).trans h2, (hb.cell (p := ⟨g, i * 3 + 1, none⟩) hlt).trans h3, (hb.cell (p := ⟨g, i * 3 + 2, none⟩) hlt).trans h4⟩
theorem mc_length (us : List Int) (l : List Nat) : (markCs us l).length = l.length * 3 := by
  induction l with
  | nil => rfl
  | cons x l ih => simp only [markCs, List.flatMap_cons, List.length_append, List.length_cons, List.length_nil] at ih ⊢; omega
theorem mc_at (us : List Int) : ∀ (l : List Nat) (i x : Nat), l[i]? = some x → (markCs us l)[i * 3]? = some (.int .i64 (x : Nat)) ∧ (markCs us l)[i * 3 + 1]? = some (.int .i32 (rA us x)) ∧ (markCs us l)[i * 3 + 2]? = some (.int .i64 (cA us x)) := by
  intro l
  induction l with
  | nil => intro i x h; simp at h
  | cons y l ih =>
    intro i x h
    cases i with
    | zero =>
      obtain rfl : y = x := by simpa using h
      exact ⟨rfl, rfl, rfl⟩
    | succ i =>
      have := ih i x (by simpa using h)
      have e1 : (i + 1) * 3 = i * 3 + 1 + 1 + 1 := by omega
      rw [e1]
      exact this
theorem mc_row {w1 : World} {base : Nat} {us : List Int} {v : Value} {n : Nat} {l : List Nat} (h : w1.ownsRow base 78 3 v n (markCs us l)) :
    ∃ a c, v = .slice a n c ∧ n = l.length ∧ MarksAt w1 us a l := by
  have hn : l.length = n := by have := h.1; rw [mc_length] at this; omega
  rcases h.2 with ⟨rfl, h0⟩ | ⟨g, cap, cur, rfl, _, hg, _⟩
  · refine ⟨none, 0, by rw [h0], hn.symm, fun i x hx => ?_⟩
    have := (List.getElem?_eq_some_iff.1 hx).1
    omega
  · refine ⟨_, _, rfl, hn.symm, fun i x hx => ⟨g, rfl, ?_, ?_, ?_⟩⟩ <;> have hi := (List.getElem?_eq_some_iff.1 hx).1
    · exact (h.cellAt _ (by omega)).trans (mc_at us l i x hx).1
    · exact (h.cellAt _ (by omega)).trans (mc_at us l i x hx).2.1
    · exact (h.cellAt _ (by omega)).trans (mc_at us l i x hx).2.2

set_option maxRecDepth 100000 in
set_option maxHeartbeats 1000000 in
theorem rMRunes_any (us : List Int) (a : Option Addr) (c : Nat) (w : World) (hf : Fits us) (hl : us.length ≤ 1099511627776) (hrd : ReadsU w a us) :
    Calls Try.prog 31 #[.slice a us.length c] w fun e w' => ∃ v, e = .returned v ∧ w'.ownsRow w.heap.size 21 1 v (wrunes us).length (i32l (wrunes us)) ∧ Below w.heap.size w w' := by
  obtain ⟨i0, hi, hz0, hz1, hz2⟩ := info_parts infoRune
  have HM := hide (rMarks_any us a c w hf hl hrd)
  have hwl := wplaces_length us 0
  have HRL : Hid ((wrunes us).length = (wplaces us 0).length) := by show _ = _; simp [wrunes]
  have HRA : Hid (∀ k x, (wplaces us 0)[k]? = some x → (wrunes us)[k]? = some (rA us x)) := fun k x h => by unfold wrunes; rw [List.getElem?_map, h]; rfl
  have hL' : (wplaces us 0).length ≤ 1099511627776 := by omega
  clear hf hrd hwl
  generalize us.length = n at *
  rw [unhide HRL]
  go_enter Try.func31, Try.ntmps31
  go_wp2_with fail
  refine (unhide HM).mono ?_
  rintro e w1 ⟨v, rfl, hrow, hb1⟩
  obtain ⟨l, cc, rfl, hx1, hx2⟩ := mc_row hrow
  clear hx1 hx2 HM
  generalize hL : (wplaces us 0).length = L at *
  have HL := hide hL
  clear hL
  go_wp2
  go_loopw [4, 5] (fun v4 v5 wr => ∃ k : Nat, k ≤ L ∧ v5 = .int .i64 k ∧ wr.ownsRow w.heap.size 21 1 v4 k (i32l ((wrunes us).take k)) ∧ Below w.heap.size w wr ∧ wr.ownsRow w.heap.size 78 3 (.slice l L cc) L (markCs us (wplaces us 0))) (fun _ v5 _ => L - (intOf v5).toNat)
  case atStart => exact ⟨0, Nat.zero_le _, rfl, by simpa using World.ownsRow_nil w1 _ _ _, hb1, hrow⟩
  case round =>
    clear hrow hb1
    obtain ⟨k, hk, rfl, hrow, hB, hsr⟩ := hrel
    by_cases hlt : k < L
    · obtain ⟨x, hx⟩ : ∃ x, (wplaces us 0)[k]? = some x := ⟨_, List.getElem?_eq_getElem (by rw [unhide HL]; exact hlt)⟩
      obtain ⟨l', c'', he, hx1, hsp⟩ := mc_row hsr
      clear hx1
      obtain ⟨rfl, rfl⟩ : l = l' ∧ cc = c'' := by simpa using he
      obtain ⟨g, rfl, _, y2, _⟩ := hsp k x hx
      clear hsp he
      have hr := unhide HRA k x hx
      have HT : Hid (i32l ((wrunes us).take (k + 1)) = i32l ((wrunes us).take k) ++ [.int .i32 (rA us x)]) := by
        show _ = _
        rw [List.take_add_one, hr]; simp
      have hBs := hB.size
      generalize rA us x = R at *
      clear hx hr
      obtain ⟨a4, c4, rfl⟩ := row_is hrow
      go_wp2_with (at_builtin; refine wpList_append_own _ rfl _ _ 30 rfl w.heap.size 21 i0 (.int .i32 0) 1 4 Try.underlying30 hi hz0 hz1 hz2 rfl (by decide) _ _ _ rfl (hrow.alloc _) ⟨wr.heap.size, 0, none⟩ 1 1 [.int .i32 R] rfl rfl (cell_one_new _ _ _) (by simp [Value.oneCell']) (by unfold maxLen; omega) (by omega) (by simp; omega) ?_; intro v' w4 hown' hgrow _)
      have hsr2 := (hsr.alloc (.cells #[.int .i32 R] 21)).kept hgrow (rows_apart hsr hrow (by decide))
      have hB2 := below_grown2 (hB.alloc hBs _) (by simp; omega) (hrow.alloc _) hgrow
      clear hsr hrow hB hgrow
      go_roundw
      case rel => exact ⟨k + 1, by omega, by go_num, by rw [unhide HT]; exact hown', hB2, hsr2⟩
      case measure => simp [intOf]; omega
    · obtain rfl : k = L := by omega
      have HE : Hid ((wrunes us).take k = wrunes us) := by
        show _ = _
        rw [List.take_of_length_le (by rw [unhide HRL]; exact Nat.le_refl _)]
      rw [unhide HE] at hrow
      go_wp2
      go_ret
      exact ⟨_, rfl, by rw [unhide HL]; exact hrow, hB⟩

theorem ret_ints {p : Int × Int} {a b : Int} (h : p = (a, b)) : Ending.returned (.tuple #[.int .i64 a, .int .i64 b]) = Ending.returned (.tuple #[.int .i64 p.1, .int .i64 p.2]) := by rw [h]
theorem code_lone (us : List Int) (p : Nat) : cA us p = 0 ↔ lone us p = false := by
  unfold cA
  cases lone us p
  · simp
  · cases highB (uA us p) <;> simp
theorem split_at (l : List Nat) (k x : Nat) (h : l[k]? = some x) : l = l.take k ++ x :: l.drop (k + 1) := by
  obtain ⟨hk, rfl⟩ := List.getElem?_eq_some_iff.1 h
  rw [List.getElem_cons_drop, List.take_append_drop]

set_option maxRecDepth 100000 in
set_option maxHeartbeats 1000000 in
theorem rMCheck_any (us : List Int) (a : Option Addr) (c : Nat) (w : World) (hf : Fits us) (hl : us.length ≤ 1099511627776) (hrd : ReadsU w a us) :
    Calls Try.prog 33 #[.slice a us.length c] w fun e w' => e = .returned (.tuple #[.int .i64 (chkR us).1, .int .i64 (chkR us).2]) ∧ Below w.heap.size w w' := by
  have HM := hide (rMarks_any us a c w hf hl hrd)
  have hwl := wplaces_length us 0
  have hL' : (wplaces us 0).length ≤ 1099511627776 := by omega
  clear hf hrd hwl
  generalize us.length = n at *
  go_enter Try.func33, Try.ntmps33
  go_wp2_with fail
  refine (unhide HM).mono ?_
  rintro e w1 ⟨v, rfl, hrow, hb1⟩
  obtain ⟨l, cc, rfl, hx1, hx2⟩ := mc_row hrow
  have HX := hide hx2
  clear hx1 hx2 HM hrow
  generalize hL : (wplaces us 0).length = L at *
  have HL := hide hL
  clear hL
  go_wp2
  go_loop [5] (fun v5 => ∃ k : Nat, k ≤ L ∧ v5 = .int .i64 k ∧ Hid (∀ q ∈ (wplaces us 0).take k, lone us q = false)) (fun v5 => L - (intOf v5).toNat)
  case atStart => exact ⟨0, Nat.zero_le _, rfl, hide (by simp)⟩
  case round =>
    obtain ⟨k, hk, rfl, HQ⟩ := hrel
    by_cases hlt : k < L
    · obtain ⟨x, hx⟩ : ∃ x, (wplaces us 0)[k]? = some x := ⟨_, List.getElem?_eq_getElem (by rw [unhide HL]; exact hlt)⟩
      obtain ⟨g, rfl, y0, y1, y2⟩ := unhide HX k x hx
      cases hlo : lone us x
      · have hc0 : cA us x = 0 := (code_lone us x).2 hlo
        have HQ2 : Hid (∀ q ∈ (wplaces us 0).take (k + 1), lone us q = false) := by
          intro q hq
          rw [List.take_add_one, hx] at hq
          simp only [Option.toList_some, List.mem_append, List.mem_singleton] at hq
          rcases hq with hq | rfl
          · exact unhide HQ q hq
          · exact hlo
        rw [hc0] at y2
        clear hx hlo hc0 HQ
        go_wp2
        go_round
        case rel => exact ⟨k + 1, by omega, by go_num, HQ2⟩
        case measure => simp [intOf]; omega
      · have hck := chk_some us _ _ x (split_at _ k x hx) (unhide HQ) hlo
        have hcx : cA us x = if highB (uA us x) then 20 else 21 := by unfold cA; rw [hlo]; simp
        have hq : (cA us x != 0) = true := by rw [hcx]; split <;> rfl
        rw [← hcx] at hck
        have HC := hide hck
        clear hck hcx hx hlo
        generalize cA us x = C at *
        go_wp2
        go_quiet (fail)
        go_wp2
        go_returns
        exact ⟨ret_ints (unhide HC), by first | exact hb1 | exact below_drewN hb1 _⟩
    · have hck := chk_none us (by have := unhide HQ; rwa [List.take_of_length_le (by rw [unhide HL]; omega)] at this)
      have HC := hide hck
      clear hck
      go_wp2
      go_returns
      exact ⟨ret_ints (unhide HC), hb1⟩

end Go.Proofs.Ytghcheoholkpbaa

/-
  Rows of a book of two rows; slices.Sorted of its keys.
-/
import Derived.Test.YtijiiapnbeljnaaGreatDoorBrR
import Derived.Test.YtijiiapnbeljnaaGreatDoorBrO
import Derived.Test.YtijiiapnbeljnaaGreatDoorSeq4
namespace Go.Proofs.YtijiiapnbeljnaaGreatDoor
open Go.RowKit Go.PlainAid Go.Lib Go.Shelf
open Go.Seq4 (Gives4 Kp4 KpR CalmR)
attribute [local go_sem] Oper.semAt_some
set_option linter.unusedVariables false
set_option linter.unusedSimpArgs false

theorem two_perm {a b : Int} (hab : a < b) {xs : List Int} (h : xs.Nodup) (hm : ∀ x, x ∈ xs ↔ x = a ∨ x = b) : xs = [a, b] ∨ xs = [b, a] := by
  have hl : xs.length ≤ 2 := nodup_len xs [a, b] h (fun x hx => by simpa using (hm x).1 hx)
  have ha := (hm a).2 (.inl rfl)
  have hb := (hm b).2 (.inr rfl)
  match xs, hl, h, hm, ha, hb with
  | [], _, _, _, ha, _ => simp at ha
  | [x], _, _, hm, ha, hb => simp at ha hb; omega
  | [x, y], _, h, hm, ha, hb =>
    simp at ha hb h
    rcases ha with rfl | rfl
    · rcases hb with rfl | rfl
      · omega
      · exact .inl rfl
    · rcases hb with rfl | rfl
      · exact .inr rfl
      · omega
/-- slices.Sorted of the keys of two rows -/
theorem sorted2_any (p q : BrD) (hpq : p.at_ < q.at_) (rows : List BrD) (hrs : ∀ x, (findB rows x).isSome = true ↔ x = p.at_ ∨ x = q.at_) (hlen : rows.length ≤ 1099511627776) (Bm b : Nat) (w : World) (hm : w.cell? ⟨Bm, 0, none⟩ = some (.map (some b))) (hown : BrMap w b rows) :
    Calls Tryz.prog 50 #[.func (.func 85) #[] #[.pointer (some ⟨Bm, 0, none⟩)]] w fun e w' => Below w.heap.size w w' ∧ ∃ g cap, e = .returned (.slice (some ⟨g, 0, none⟩) 2 cap) ∧ w'.cell? ⟨g, 0, none⟩ = some (.int .i32 p.at_) ∧ w'.cell? ⟨g, 1, none⟩ = some (.int .i32 q.at_) ∧ w.heap.size ≤ g ∧ ∃ L, w'.heap[g]? = some (.cells L 21 (0, 0)) := by
  have HA := hide (collect_any rows hlen Bm b w hm hown)
  have HR : Hid (∀ (w1 : World) (xs : List Int) (v : Value), (xs.Nodup ∧ ∀ x, x ∈ xs ↔ (findB rows x).isSome = true) → w1.ownsRow w.heap.size 21 1 v xs.length (xs.map (Value.int .i32)) → ∃ g cap, v = .slice (some ⟨g, 0, none⟩) 2 cap ∧ Calls Tryz.prog 84 #[v] w1 fun e w' => e = .returned (.tuple #[]) ∧ w'.cell? ⟨g, 0, none⟩ = some (.int .i32 p.at_) ∧ w'.cell? ⟨g, 1, none⟩ = some (.int .i32 q.at_) ∧ ButB g w1 w' ∧ w.heap.size ≤ g ∧ ∃ L, w'.heap[g]? = some (.cells L 21 (0, 0))) := by
    rintro w1 xs v ⟨h1, h2⟩ ho
    have h3 := two_perm hpq h1 (fun x => (h2 x).trans (hrs x))
    have hl : xs.length = 2 := by rcases h3 with rfl | rfl <;> rfl
    rcases ho.2 with ⟨rfl, h0⟩ | ⟨g, cap, cur, rfl, hb, hg, hr⟩
    · omega
    · refine ⟨g, cap, by rw [hl], ?_⟩
      have c0 := World.ownsRow.cellAt ho 0 (by omega)
      have c1 := World.ownsRow.cellAt ho 1 (by omega)
      rw [hl]
      rcases h3 with rfl | rfl
      · refine (sort2_any p.at_ q.at_ (by omega) g cap cur _ w1 hg (by simpa using c0) (by simpa using c1)).mono ?_
        rintro e w' ⟨rfl, d0, d1, d2, d3⟩
        rw [show min p.at_ q.at_ = p.at_ by omega] at d0
        rw [show max p.at_ q.at_ = q.at_ by omega] at d1
        exact ⟨rfl, d0, d1, d2, hb, d3⟩
      · refine (sort2_any q.at_ p.at_ (by omega) g cap cur _ w1 hg (by simpa using c0) (by simpa using c1)).mono ?_
        rintro e w' ⟨rfl, d0, d1, d2, d3⟩
        rw [show min q.at_ p.at_ = p.at_ by omega] at d0
        rw [show max q.at_ p.at_ = q.at_ by omega] at d1
        exact ⟨rfl, d0, d1, d2, hb, d3⟩
  clear hm hown hrs
  go_enter Tryz.func50, Tryz.ntmps50
  go_wp2_with (first | (go_at_call 83; with_reducible refine (unhide HA).mono ?_; rintro e w1 ⟨hb, xs, v, h1, rfl, h2⟩; obtain ⟨g, cap, rfl, hs⟩ := unhide HR w1 xs v h1 h2; have HS := hide hs; clear hs h1 h2) | (go_at_call 84; with_reducible refine (unhide HS).mono ?_; rintro e w2 ⟨rfl, h3⟩; have HH := hide h3; clear h3))
  go_ret
  obtain ⟨d0, d1, d2, hwg, d3⟩ := unhide HH
  refine ⟨⟨d2.os.trans hb.os, d2.tape.trans hb.tape, d2.output.trans hb.output, Nat.le_trans hb.size d2.size, fun k hk => (d2.block k (Nat.lt_of_lt_of_le hk hb.size) (by omega)).trans (hb.block k hk)⟩, g, cap, rfl, d0, d1, hwg, d3⟩
end Go.Proofs.YtijiiapnbeljnaaGreatDoor

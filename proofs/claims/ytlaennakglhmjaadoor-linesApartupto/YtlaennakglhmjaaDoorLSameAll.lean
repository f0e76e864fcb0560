/-
  The document's SameAll (furrowref03): two lists of lines that hold the same are told so.
-/
import Derived.Test.YtlaennakglhmjaaDoorLSame2
import Derived.Test.YtlaennakglhmjaaDoorLRead
import Derived.Test.YtlaennakglhmjaaDoorReadsW
namespace Go.Proofs.YtlaennakglhmjaaDoor
open Go.RowKit Go.PlainAid Go.Lib Go.Shelf
attribute [local go_sem] Oper.semAt_some
set_option linter.unusedVariables false

def LiAt (w : World) (a : Option Addr) (ps : List (LineD × Value)) : Prop := ∀ (i : Nat) (p : LineD × Value), ps[i]? = some p → ∃ g, a = some ⟨g, 0, none⟩ ∧ w.cell? ⟨g, i * 5, none⟩ = some (.int .i64 p.1.no) ∧ w.cell? ⟨g, i * 5 + 1, none⟩ = some (.int .u8 p.1.kind) ∧ w.cell? ⟨g, i * 5 + 2, none⟩ = some (.string (S p.1.name)) ∧ w.cell? ⟨g, i * 5 + 3, none⟩ = some p.2 ∧ w.cell? ⟨g, i * 5 + 4, none⟩ = some (.string (S p.1.note))
theorem li_at : ∀ (ps : List (LineD × Value)) (i : Nat) (p : LineD × Value), ps[i]? = some p → (lineCells ps)[i * 5]? = some (.int .i64 p.1.no) ∧ (lineCells ps)[i * 5 + 1]? = some (.int .u8 p.1.kind) ∧ (lineCells ps)[i * 5 + 2]? = some (.string (S p.1.name)) ∧ (lineCells ps)[i * 5 + 3]? = some p.2 ∧ (lineCells ps)[i * 5 + 4]? = some (.string (S p.1.note)) := by
  intro ps
  induction ps with
  | nil => intro i p h; simp at h
  | cons q ps ih =>
    intro i p h
    cases i with
    | zero =>
      obtain rfl : q = p := by simpa using h
      exact ⟨rfl, rfl, rfl, rfl, rfl⟩
    | succ i =>
      have := ih i p (by simpa using h)
      have e1 : (i + 1) * 5 = i * 5 + 1 + 1 + 1 + 1 + 1 := by omega
      rw [e1]
      exact this
theorem li_row {w : World} {base : Nat} {v : Value} {ps : List (LineD × Value)} (h : RowL w base v ps) : ∃ a c, v = .slice a ps.length c ∧ LiAt w a ps := by
  rcases h.1.2 with ⟨rfl, h0⟩ | ⟨g, cap, cur, rfl, _, hg, _⟩
  · refine ⟨none, 0, by rw [h0], fun i p hp => ?_⟩
    have := (List.getElem?_eq_some_iff.1 hp).1
    omega
  · refine ⟨_, _, rfl, fun i p hp => ⟨g, rfl, ?_, ?_, ?_, ?_, ?_⟩⟩ <;> have hi := (List.getElem?_eq_some_iff.1 hp).1
    · exact (World.ownsRow.cellAt h.1 _ (by omega)).trans (li_at ps i p hp).1
    · exact (World.ownsRow.cellAt h.1 _ (by omega)).trans (li_at ps i p hp).2.1
    · exact (World.ownsRow.cellAt h.1 _ (by omega)).trans (li_at ps i p hp).2.2.1
    · exact (World.ownsRow.cellAt h.1 _ (by omega)).trans (li_at ps i p hp).2.2.2.1
    · exact (World.ownsRow.cellAt h.1 _ (by omega)).trans (li_at ps i p hp).2.2.2.2

set_option maxRecDepth 100000 in
set_option maxHeartbeats 2000000 in
theorem refSameAll_yes (ba bb : Nat) (va vb : Value) (ps qs : List (LineD × Value)) (w : World) (hnb : ps.length ≤ 1099511627776) (hl : ∀ p ∈ ps, p.1.fields.length ≤ 1099511627776) (hpq : ps.map (·.1) = qs.map (·.1)) (ha : RowL w ba va ps) (hb : RowL w bb vb qs) :
    Calls Tryd.prog 35 #[va, vb] w fun e w' => e = .returned (.bool true) ∧ Below w.heap.size w w' := by
  have hlen : qs.length = ps.length := by have := congrArg List.length hpq; simpa using this.symm
  have hslA := row_slice2 ha.1
  have hslB := row_slice2 hb.1
  obtain ⟨a, ca, rfl⟩ := hslA
  obtain ⟨b, cb, rfl⟩ := hslB
  rw [hlen]
  obtain ⟨N, hN⟩ : ∃ N, ps.length = N := ⟨_, rfl⟩
  rw [hN] at hnb hlen
  rw [hN]
  have HA : Hid (∀ W, Below w.heap.size w W → LiAt W a ps ∧ ∀ p ∈ ps, TextsAt W ba p.2 p.1.fields) := fun W hW => by
    have h1 := ha.below hW
    obtain ⟨a', c', e, h2⟩ := li_row h1
    obtain ⟨rfl, _⟩ : a = a' ∧ ca = c' := by simpa using e
    exact ⟨h2, h1.2⟩
  have HB : Hid (∀ W, Below w.heap.size w W → LiAt W b qs ∧ ∀ p ∈ qs, TextsAt W bb p.2 p.1.fields) := fun W hW => by
    have h1 := hb.below hW
    obtain ⟨a', c', e, h2⟩ := li_row h1
    obtain ⟨rfl, _⟩ : b = a' ∧ cb = c' := by simpa using e
    exact ⟨h2, h1.2⟩
  have HN := hide hN
  have HL := hide hlen
  have HPQ := hide hpq
  have HFL := hide hl
  clear ha hb hN hlen hpq hl
  refine (callsIn_wide (n := 5)).1 ?_
  refine callsIn_of_wp Tryd.func35 rfl trivial ?_ rfl
  simp only [Tryd.ntmps35, List.size_toArray, List.length_cons, List.length_nil, Nat.reduceAdd, Nat.reduceSub, Array.replicate_succ, Array.replicate_zero, List.push_toArray, List.append_toArray, List.nil_append, List.cons_append]
  have hF : ∀ f, Fence.wide.fn f := fun _ => trivial
  gi_wp2
  gi_loopw [5] (fun v5 wr => ∃ i : Nat, i ≤ N ∧ v5 = .int .i64 (i : Nat) ∧ Below w.heap.size w wr) (fun v5 _ => N - (RowKit.intOf v5).toNat)
  case atStart => exact ⟨0, Nat.zero_le _, rfl, Below.refl _ _⟩
  case round =>
    obtain ⟨i, hi, rfl, hB⟩ := hrel
    by_cases hlt : i < N
    · obtain ⟨p, hp⟩ : ∃ p, ps[i]? = some p := ⟨_, List.getElem?_eq_getElem (by rw [unhide HN]; exact hlt)⟩
      obtain ⟨q, hq⟩ : ∃ q, qs[i]? = some q := ⟨_, List.getElem?_eq_getElem (by rw [unhide HL]; exact hlt)⟩
      have hpq1 : p.1 = q.1 := by
        have h1 := congrArg (fun l => l[i]?) (unhide HPQ)
        simp only [List.getElem?_map, hp, hq, Option.map_some] at h1
        exact Option.some.inj h1
      have hA := unhide HA wr hB
      have hBB := unhide HB wr hB
      obtain ⟨g, rfl, y0, y1, y2, y3, y4⟩ := hA.1 i p hp
      obtain ⟨g', rfl, z0, z1, z2, z3, z4⟩ := hBB.1 i q hq
      have tA := hA.2 p (List.mem_of_getElem? hp)
      have tB := hBB.2 q (List.mem_of_getElem? hq)
      have hfl := unhide HFL p (List.mem_of_getElem? hp)
      obtain ⟨d, pv⟩ := p
      obtain ⟨d', qv⟩ := q
      simp only [] at hpq1 y0 y1 y2 y3 y4 z0 z1 z2 z3 z4 tA tB hfl
      subst hpq1
      obtain ⟨fa, fc, rfl, xA⟩ := texts_row tA
      obtain ⟨fb, fd, rfl, xB⟩ := texts_row tB
      have HS : Hid (∀ W', Below wr.heap.size wr W' → Calls Tryd.prog 26 #[lineV d (.slice fa d.fields.length fc), lineV d (.slice fb d.fields.length fd)] W' fun e w' => e = .returned (.bool true) ∧ Below W'.heap.size W' w') := fun W' h => refSame_yes d fa fb fc fd W' hfl (xA.below h) (xB.below h)
      dsimp only [lineV] at HS
      clear hA hBB tA tB xA xB hp hq
      gi_wp2
      refine ReadsW.wpIn_region_reads 8 (by kernel_rfl) (by kernel_rfl) (by kernel_rfl) ?_
      simp only [List.take_succ_cons, List.take_zero, List.drop_succ_cons, List.drop_zero]
      repeat (go_big_quiet_step (fail))
      refine wpQuiet_nil ?_
      intro _ hw'
      obtain ⟨nr, hw''⟩ := hw'
      subst hw''
      gi_wp2_with (gi_at_call 26; refine (callsIn_wide.2 (unhide HS (wr.drewN nr) (below_drewN (Below.refl _ _) nr))).mono ?_; rintro e W5 ⟨rfl, hb5⟩)
      go_roundw
      case rel => exact ⟨i + 1, by omega, by go_num, (below_drewN hB nr).trans (hb5.mono (by have := hB.size; exact this))⟩
      case measure => simp [RowKit.intOf]; omega
    · obtain rfl : i = N := by omega
      gi_wp2
      go_ret
      exact ⟨rfl, hB⟩
end Go.Proofs.YtlaennakglhmjaaDoor

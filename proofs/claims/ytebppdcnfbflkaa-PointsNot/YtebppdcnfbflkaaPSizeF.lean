/-
  size, and Size of a map.
-/
import Derived.Test.YtebppdcnfbflkaaPAtF
namespace Go.Proofs.Ytebppdcnfbflkaa.VF
open Go.RowKit Go.PlainAid Go.Lib Go.PRow Go.Shelf
set_option linter.unusedVariables false
set_option linter.unusedSimpArgs false

theorem sizeP_bound {ps : List (Pc Nat)} (o : OkP ps) : 0 ≤ sizeP ps ∧ sizeP ps ≤ 1114112 := by
  have key : ∀ (ps : List (Pc Nat)) (a : Int), OkP ps → (∀ p ∈ ps, a ≤ p.lo) → a ≤ 1114112 → 0 ≤ sizeP ps ∧ sizeP ps ≤ 1114112 - a := by
    intro ps
    induction ps with
    | nil => intro a _ _ h; simp [sizeP]; omega
    | cons p ps ih =>
      intro a o h ha
      have k := o.head
      have := ih (p.hi + 1) o.tail (fun q hq => by have := o.next q hq; omega) (by omega)
      have := h p List.mem_cons_self
      simp only [sizeP]
      omega
  have := key ps 0 o (fun p hp => (o.2 p hp).1) (by omega)
  omega
theorem okP_take {ps : List (Pc Nat)} (o : OkP ps) (i : Nat) : OkP (ps.take i) := ⟨o.1.sublist (List.take_sublist _ _), fun p hp => o.2 p (List.mem_of_mem_take hp)⟩
theorem sizeP_take (ps : List (Pc Nat)) (i : Nat) (p : Pc Nat) (h : ps[i]? = some p) : sizeP (ps.take (i + 1)) = sizeP (ps.take i) + (p.hi - p.lo + 1) := by
  rw [List.take_add_one, h]
  simp [sizeP_append, sizeP]

set_option maxHeartbeats 2000000 in
theorem size_any (B : Nat) (v : Value) (ps : List (Pc Nat)) (o : OkP ps) (w : World) (hr : RowP w B v ps) :
    Calls Try.prog 66 #[v] w fun e w' => e = .returned (.int .i64 (sizeP ps)) ∧ Below w.heap.size w w' := by
  have hlen := okP_len o
  obtain ⟨a, cap, rfl, hc1, hc2, _, hg⟩ := hr.form
  have KK := hide (fun (i : Nat) (p : Pc Nat) (hp : ps[i]? = some p) => (show ∃ g, a = some ⟨g, 0, none⟩ ∧ ∀ V, Below w.heap.size w V → V.cell? ⟨g, i * 3, none⟩ = some (.int .i32 p.lo) ∧ V.cell? ⟨g, i * 3 + 1, none⟩ = some (.int .i32 p.hi) ∧ V.cell? ⟨g, i * 3 + 2, none⟩ = some (Value.float .f64 p.val) from by
    obtain ⟨g, rfl, _, _, hgl, hcell⟩ := hg (by intro e; subst e; simp at hp)
    obtain ⟨c1, c2, c3⟩ := hcell _ _ hp
    exact ⟨g, rfl, fun V hV => ⟨(hV.cell hgl).trans c1, (hV.cell hgl).trans c2, (hV.cell hgl).trans c3⟩⟩))
  have HS := hide (fun i => sizeP_bound (okP_take o i))
  have HO := hide o
  clear hg hr o
  go_enter Try.func66, Try.ntmps66
  go_wp2
  go_loopg [3, 8] ps.length (fun kx s3 s8 wr => ∃ i : Nat, s8 = .int .i64 i ∧ i ≤ ps.length ∧ s3 = .int .i64 (sizeP (ps.take i)) ∧ kx = ps.length - i ∧ Below w.heap.size w wr)
  case atStart => exact ⟨0, rfl, Nat.zero_le _, by simp [sizeP], by simp, Below.refl _ _⟩
  case round =>
    obtain ⟨i, rfl, hi, rfl, rfl, hb⟩ := hrel
    by_cases hlt : i < ps.length
    · obtain ⟨⟨pl, ph, pv⟩, hp⟩ : ∃ p, ps[i]? = some p := ⟨_, List.getElem?_eq_getElem hlt⟩
      have hst := sizeP_take ps i _ hp
      have b1 := unhide HS i
      have b2 := unhide HS (i + 1)
      have hm := (unhide HO).2 _ (List.mem_of_getElem? hp)
      obtain ⟨g, rfl, hcell⟩ := unhide KK i _ hp
      obtain ⟨d1, d2, d3⟩ := hcell _ hb
      have hs := hb.size
      have hnext := hide hst
      rw [hst] at b2
      clear hst hp hcell
      generalize sizeP (ps.take i) = S at *
      simp only at *
      have q1 : (i : Int) < (ps.length : Int) := by omega
      have q2 : IntKind.i32.wrap (ph - pl) = ph - pl := by rw [IntKind.wrap_i32]; omega
      have q3 : IntKind.i64.wrap (ph - pl) = ph - pl := by rw [IntKind.wrap_i64]; omega
      have q4 : IntKind.i64.wrap (ph - pl + 1) = ph - pl + 1 := by rw [IntKind.wrap_i64]; omega
      have q5 : IntKind.i64.wrap (S + (ph - pl + 1)) = S + (ph - pl + 1) := by rw [IntKind.wrap_i64]; omega
      have q6 : IntKind.i64.wrap ((i : Int) + 1) = (i : Int) + 1 := by rw [IntKind.wrap_i64]; omega
      go_wp2
      go_roundg (ps.length - (i + 1))
      case measure => omega
      case rel => exact ⟨i + 1, by simp, by omega, by rw [unhide hnext], rfl, hb.alloc (by omega) _⟩
    · obtain rfl : i = ps.length := by omega
      rw [List.take_length]
      go_wp2
      go_ret
      exact ⟨rfl, hb⟩

theorem size_map (b : Nat) (v : Value) (B : Nat) (ps : List (Pc Nat)) (o : OkP ps) (w : World) (h : IsMap w b v) (hr : RowP w B v ps) :
    Calls Try.prog 26 #[.pointer (some ⟨b, 0, none⟩)] w fun e w' => e = .returned (.int .i64 (sizeP ps)) ∧ Below w.heap.size w w' := by
  have HH := hide (held_map b v w h)
  have HS := hide (size_any B v ps o w hr)
  clear h hr
  go_enter Try.func26, Try.ntmps26
  go_wp2_with (first | (go_at_call 62; refine (unhide HH).mono ?_; rintro e w1 ⟨rfl, rfl⟩) | (go_at_call 66; refine (unhide HS).mono ?_; rintro e w2 ⟨rfl, hb⟩))
  go_ret
  exact ⟨rfl, hb⟩
end Go.Proofs.Ytebppdcnfbflkaa.VF

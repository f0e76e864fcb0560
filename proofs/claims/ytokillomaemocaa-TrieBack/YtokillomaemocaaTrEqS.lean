/-
  slices.Equal of two rows.
-/
import Derived.Test.YtokillomaemocaaTrQj
import Derived.Deep.LoopGhost
namespace Go.Proofs.Ytokillomaemocaa.VS
open Go.RowKit Go.PlainAid Go.Lib Go.PRow Go.Maps Go.TrM
set_option linter.unusedVariables false
set_option linter.unusedSimpArgs false
theorem hideE {p : Prop} (h : p) : Hid p := h
theorem unhideE {p : Prop} (h : Hid p) : p := h
theorem run_neqE (x y : El) (W : World) : (binOp .neq 9 (enc x) (enc y)).run Try.prog W = .ok (.bool (!decide (x = y))) W := by
  by_cases h : x = y
  · subst h
    simp [go_sem, enc]
  · have : ¬ enc x = enc y := fun e => h (enc_inj e)
    simp [go_sem, enc, h]
theorem ends_in {xs ys : List El} (h : xs.length = ys.length) (hj : ∀ (j : Nat) (x y : El), xs[j]? = some x → ys[j]? = some y → x = y) : xs = ys := by
  refine List.ext_getElem? fun i => ?_
  rcases Nat.lt_or_ge i xs.length with hi | hi
  · have e1 := List.getElem?_eq_getElem hi
    have e2 := List.getElem?_eq_getElem (l := ys) (i := i) (by omega)
    rw [e1, e2, hj i _ _ e1 e2]
  · rw [List.getElem?_eq_none hi, List.getElem?_eq_none (by omega)]
set_option maxRecDepth 100000 in
set_option maxHeartbeats 4000000 in
theorem equal_any (w : World) (B C : Nat) (u v : Value) (xs ys : List El) (hx : RowE w B u xs) (hy : RowE w C v ys) (hb : xs.length ≤ 2000000) (hb2 : ys.length ≤ 2000000) :
    Calls Try.prog 70 #[u, v] w fun e w' => e = .returned (.bool (decide (xs = ys))) ∧ Below w.heap.size w w' := by
  obtain ⟨a, cap, rfl, hc1, -⟩ := hx.form
  obtain ⟨b, dap, rfl, hd1, -⟩ := hy.form
  have KX := hideE (fun (V : World) (hV : Below w.heap.size w V) j x (h : xs[j]? = some x) => (show ∃ g, a = some ⟨g, 0, none⟩ ∧ V.cell? ⟨g, j, none⟩ = some (enc x) by
    obtain ⟨g, cap', e, _, _, hc⟩ := hx.cell h
    injection e with e1 _ _
    exact ⟨g, e1, (hV.cell (World.block_lt_of_cell? _ _ hc)).trans hc⟩))
  have KY := hideE (fun (V : World) (hV : Below w.heap.size w V) j x (h : ys[j]? = some x) => (show ∃ g, b = some ⟨g, 0, none⟩ ∧ V.cell? ⟨g, j, none⟩ = some (enc x) by
    obtain ⟨g, cap', e, _, _, hc⟩ := hy.cell h
    injection e with e1 _ _
    exact ⟨g, e1, (hV.cell (World.block_lt_of_cell? _ _ hc)).trans hc⟩))
  clear hx hy
  by_cases hl : xs.length = ys.length
  · obtain ⟨n, hn⟩ : ∃ n, n = xs.length := ⟨_, rfl⟩
    have hn' : ys.length = n := by omega
    rw [hn', ← hn]
    rw [← hn] at hb hc1
    rw [hn'] at hd1 hb2
    have HN := hideE (And.intro hn hn')
    have hrun := run_neqE
    clear hl hn hn'
    go_enter Try.func70, Try.ntmps70
    go_wp2
    go_loopg [13] n (fun kx s13 wr => ∃ i : Nat, s13 = .int .i64 i ∧ i ≤ n ∧ kx = n - i ∧ Hid (∀ (j : Nat) (p q : El), j < i → xs[j]? = some p → ys[j]? = some q → p = q) ∧ Below w.heap.size w wr)
    case atStart => exact ⟨0, rfl, Nat.zero_le _, by simp, fun j p q hj => absurd hj (Nat.not_lt_zero _), Below.refl _ _⟩
    case round =>
      obtain ⟨i, rfl, hi, rfl, HJ, hbl⟩ := hrel
      by_cases hlt : i < n
      · obtain ⟨x, hp⟩ : ∃ p, xs[i]? = some p := ⟨_, List.getElem?_eq_getElem (by have := (unhideE HN).1; omega)⟩
        obtain ⟨y, hq⟩ : ∃ p, ys[i]? = some p := ⟨_, List.getElem?_eq_getElem (by have := (unhideE HN).2; omega)⟩
        obtain ⟨g, rfl, d1⟩ := unhideE KX _ hbl.drew i x hp
        obtain ⟨g', rfl, d2⟩ := unhideE KY _ hbl.drew i y hq
        have d3 : wr.cell? ⟨g, i, none⟩ = some (enc x) := d1
        have d4 : wr.cell? ⟨g', i, none⟩ = some (enc y) := d2
        have q1 : (i : Int) < (n : Int) := by omega
        have q6 : IntKind.i64.wrap ((i : Int) + 1) = (i : Int) + 1 := by rw [IntKind.wrap_i64]; omega
        have HP := hideE (And.intro hp hq)
        have HB := hideE hbl
        clear hp hq hbl
        by_cases hxy : x = y
        · subst hxy
          go_wp2_with fail
          go_region
          go_wp2
          go_roundg (n - (i + 1))
          case measure => omega
          case rel =>
            refine ⟨i + 1, by simp, by omega, rfl, fun j p q hj h1 h2 => ?_, (unhideE HB).drew⟩
            by_cases e : j = i
            · subst e
              rw [(unhideE HP).1] at h1
              rw [(unhideE HP).2] at h2
              cases h1; cases h2; rfl
            · exact unhideE HJ j p q (by omega) h1 h2
        · have hne2 : (x != y) = true := by simpa using hxy
          have hne3 : (!(x == y)) = true := by simpa using hxy
          go_wp2_with fail
          go_region
          go_wp2
          go_ret
          have hdec : decide (xs = ys) = false := decide_eq_false fun e => by
            subst e
            have h2 := (unhideE HP).2
            rw [(unhideE HP).1] at h2
            cases h2
            exact hxy rfl
          exact ⟨by rw [hdec]; rfl, (unhideE HB).drew⟩
      · have : i = n := by omega
        subst this
        have HB := hideE hbl
        clear hbl
        go_wp2
        go_ret
        have h := unhideE HN
        have hdec : decide (xs = ys) = true := decide_eq_true (ends_in (by omega) fun j p q h1 h2 => unhideE HJ j p q (by have := (List.getElem?_eq_some_iff.1 h1).1; omega) h1 h2)
        exact ⟨by rw [hdec]; rfl, unhideE HB⟩
  · have hne : ¬ (xs.length : Int) = (ys.length : Int) := by omega
    go_enter Try.func70, Try.ntmps70
    go_wp2
    go_ret
    have hdec : decide (xs = ys) = false := decide_eq_false fun e => hl (congrArg List.length e)
    exact ⟨by rw [hdec]; rfl, Below.refl _ _⟩
end Go.Proofs.Ytokillomaemocaa.VS

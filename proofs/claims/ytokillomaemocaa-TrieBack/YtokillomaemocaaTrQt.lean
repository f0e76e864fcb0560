/-
  These texts, one behind the other: TrLaM, TrLaU.
-/
import Derived.Test.YtokillomaemocaaTrQf
import Derived.Test.YtokillomaemocaaTrQa
import Derived.Test.YtokillomaemocaaTrAt2U
import Derived.Deep.LoopGhost
/-
  The stretches of a list of values: where one ends, and all of them one behind another.
-/
namespace Go.TrM
open Go.Proofs.Ytokillomaemocaa
set_option linter.unusedVariables false
section
variable {α : Type} [DecidableEq α]
def endN (vs : List α) (v : Option α) : Nat → Nat → Nat
  | 0, r => r
  | n + 1, r => if vs[r]? = v then endN vs v n (r + 1) else r
theorem endN_spec (vs : List α) (v : Option α) : ∀ n r, r ≤ endN vs v n r ∧ endN vs v n r ≤ r + n ∧ (∀ k, r ≤ k → k < endN vs v n r → vs[k]? = v) ∧ (endN vs v n r = r + n ∨ vs[endN vs v n r]? ≠ v) := by
  intro n
  induction n with
  | zero => intro r; exact ⟨Nat.le_refl _, Nat.le_refl _, fun k h1 h2 => absurd h2 (by unfold endN; omega), .inl rfl⟩
  | succ n ih =>
    intro r
    unfold endN
    split
    · rename_i h
      obtain ⟨h1, h2, h3, h4⟩ := ih (r + 1)
      refine ⟨by omega, by omega, fun k k1 k2 => ?_, by rcases h4 with h4 | h4; exact .inl (by omega); exact .inr h4⟩
      rcases Nat.lt_or_ge r k with hk | hk
      · exact h3 k hk k2
      · obtain rfl : k = r := by omega
        exact h
    · rename_i h
      exact ⟨Nat.le_refl _, by omega, fun k h1 h2 => by omega, .inr h⟩
/-- the last number of the stretch that begins at i -/
def endV (vs : List α) (i : Nat) : Nat := endN vs vs[i]? (vs.length - (i + 1)) (i + 1) - 1
theorem endV_spec (vs : List α) (i : Nat) (h : i < vs.length) : i ≤ endV vs i ∧ endV vs i < vs.length ∧ (∀ k, i ≤ k → k ≤ endV vs i → vs[k]? = vs[i]?) ∧ (endV vs i + 1 = vs.length ∨ vs[endV vs i + 1]? ≠ vs[i]?) := by
  obtain ⟨h1, h2, h3, h4⟩ := endN_spec vs vs[i]? (vs.length - (i + 1)) (i + 1)
  have e : endV vs i + 1 = endN vs vs[i]? (vs.length - (i + 1)) (i + 1) := by unfold endV; omega
  refine ⟨by omega, by omega, fun k k1 k2 => ?_, by rw [e]; rcases h4 with h4 | h4; exact .inl (by omega); exact .inr h4⟩
  rcases Nat.lt_or_ge i k with hk | hk
  · exact h3 k hk (by omega)
  · obtain rfl : k = i := by omega
    rfl
theorem endV_uniq (vs : List α) (i to : Nat) (h : i < vs.length) (h1 : i ≤ to) (h2 : to < vs.length) (h3 : ∀ k, i ≤ k → k ≤ to → vs[k]? = vs[i]?) (h4 : to + 1 = vs.length ∨ vs[to + 1]? ≠ vs[i]?) : endV vs i = to := by
  obtain ⟨e1, e2, e3, e4⟩ := endV_spec vs i h
  rcases Nat.lt_trichotomy (endV vs i) to with hl | he | hl
  · rcases e4 with e4 | e4
    · omega
    · exact absurd (h3 (endV vs i + 1) (by omega) (by omega)) e4
  · exact he
  · rcases h4 with h4 | h4
    · omega
    · exact absurd (e3 (to + 1) (by omega) (by omega)) h4
/-- so many stretches, and where the next one begins -/
def spS (vs : List α) : Nat → List (Pc α) × Nat
  | 0 => ([], 0)
  | k + 1 => match vs[(spS vs k).2]? with
    | some x => ((spS vs k).1 ++ [⟨((spS vs k).2 : Int), (endV vs (spS vs k).2 : Int), x⟩], endV vs (spS vs k).2 + 1)
    | none => spS vs k
theorem spS_step (vs : List α) (k : Nat) (x : α) (h : vs[(spS vs k).2]? = some x) : spS vs (k + 1) = ((spS vs k).1 ++ [⟨((spS vs k).2 : Int), (endV vs (spS vs k).2 : Int), x⟩], endV vs (spS vs k).2 + 1) := by
  rw [spS, h]
theorem spS_none (vs : List α) (k : Nat) (h : vs[(spS vs k).2]? = none) : spS vs (k + 1) = spS vs k := by
  rw [spS, h]
theorem spS_le (vs : List α) : ∀ k, (spS vs k).2 ≤ vs.length ∧ (k ≤ (spS vs k).2 ∨ (spS vs k).2 = vs.length) := by
  intro k
  induction k with
  | zero => exact ⟨Nat.zero_le _, .inl (Nat.le_refl _)⟩
  | succ k ih =>
    cases h : vs[(spS vs k).2]? with
    | none =>
      rw [spS_none vs k h]
      have := List.getElem?_eq_none_iff.1 h
      exact ⟨ih.1, .inr (by omega)⟩
    | some x =>
      rw [spS_step vs k x h]
      have hl := (List.getElem?_eq_some_iff.1 h).1
      obtain ⟨e1, e2, _, _⟩ := endV_spec vs _ hl
      simp only
      rcases ih.2 with i | i
      · exact ⟨by omega, .inl (by omega)⟩
      · omega
/-- where what was told ends -/
def endL (l : List (Pc α)) : Nat := match l.getLast? with
  | none => 0
  | some p => (p.hi + 1).toNat
theorem spS_end (vs : List α) : ∀ k, (spS vs k).2 = endL (spS vs k).1 := by
  intro k
  induction k with
  | zero => rfl
  | succ k ih =>
    cases h : vs[(spS vs k).2]? with
    | none => rw [spS_none vs k h]; exact ih
    | some x =>
      rw [spS_step vs k x h]
      simp only [endL, List.getLast?_append, List.getLast?_singleton, Option.some_or]
      omega
/-- all stretches -/
def spansV (vs : List α) : List (Pc α) := (spS vs vs.length).1
theorem spS_all (vs : List α) : ∀ k, (spS vs k).2 = vs.length → (spS vs k).1 = spansV vs := by
  intro k hk
  have stay : ∀ j, (spS vs (k + j)) = spS vs k := by
    intro j
    induction j with
    | zero => rfl
    | succ j ih =>
      have : vs[(spS vs (k + j)).2]? = none := by rw [ih, hk]; exact List.getElem?_eq_none (Nat.le_refl _)
      rw [← Nat.add_assoc, spS_none vs (k + j) this, ih]
  have stay2 : ∀ j, spS vs (vs.length + j) = spS vs vs.length := by
    intro j
    induction j with
    | zero => rfl
    | succ j ih =>
      have h := spS_le vs vs.length
      have : vs[(spS vs (vs.length + j)).2]? = none := by rw [ih]; exact List.getElem?_eq_none (by omega)
      rw [← Nat.add_assoc, spS_none vs (vs.length + j) this, ih]
  unfold spansV
  rcases Nat.le_total k vs.length with h | h
  · have := stay (vs.length - k)
    rw [show k + (vs.length - k) = vs.length by omega] at this
    rw [this]
  · have := stay2 (k - vs.length)
    rw [show vs.length + (k - vs.length) = k by omega] at this
    rw [this]
theorem spS_full (vs : List α) (k : Nat) (h : (spS vs k).1 = spansV vs) : (spS vs k).2 = vs.length := by
  rw [spS_end, h]
  unfold spansV
  rw [← spS_end]
  have := spS_le vs vs.length
  omega
/-- the numbers below r that have the value v -/
def whereV (vs : List α) (v : α) (r : Nat) : List Nat := (List.range r).filter fun k => decide (vs[k]? = some v)
theorem whereV_succ (vs : List α) (v : α) (r : Nat) : whereV vs v (r + 1) = whereV vs v r ++ if vs[r]? = some v then [r] else [] := by
  unfold whereV
  rw [List.range_succ, List.filter_append]
  congr 1
  by_cases h : vs[r]? = some v
  · simp [h]
  · simp [h]
theorem whereV_skip (vs : List α) (v : α) (a b : Nat) (hab : a ≤ b) (h : ∀ k, a ≤ k → k < b → vs[k]? ≠ some v) : whereV vs v b = whereV vs v a := by
  obtain ⟨c, rfl⟩ : ∃ c, b = a + c := ⟨b - a, by omega⟩
  clear hab
  induction c with
  | zero => rfl
  | succ c ih =>
    rw [← Nat.add_assoc, whereV_succ, if_neg (h _ (by omega) (by omega)), List.append_nil]
    exact ih fun k k1 k2 => h k k1 (by omega)
end
end Go.TrM
/-
  last: the last number of a stretch.
-/
namespace Go.Proofs.Ytokillomaemocaa.VU
open Go.RowKit Go.PlainAid Go.Lib Go.PRow Go.Maps Go.TrM
set_option linter.unusedVariables false
set_option linter.unusedSimpArgs false
/-- where last is: whole is no block, or one of the value alone -/
def WholeAt (vs : List El) (f r : Nat) (wh : Int) : Prop := wh = -1 ∨ ∃ p, wh = (lowP vs p : Int) ∧ p < 17408 ∧ f ≤ 64 * p ∧ 64 * p + 64 ≤ r
theorem atN_nat (r : Nat) (h : r < 1114112) : atN (r : Int) = r := by unfold atN; split <;> omega
theorem place_eq (vs : List El) (h : vs.length = 1114112) (p q : Nat) (hp : p < 17408) (hq : q < 17408) (e : lowP vs p = lowP vs q) (i : Nat) (hi : i < 64) : vs[64 * p + i]? = vs[64 * q + i]? := by
  obtain ⟨m1, l1, _, _, _, a4, _, a6⟩ := place_at vs (p := p) (by rw [h]; omega)
  obtain ⟨m2, l2, _, _, _, b4, _, b6⟩ := place_at vs (p := q) (by rw [h]; omega)
  have e1 : lowP vs p = l1 := by unfold lowP; rw [a4]; rfl
  have e2 : lowP vs q = l2 := by unfold lowP; rw [b4]; rfl
  have : l1 = l2 := by omega
  subst this
  rw [a6] at b6
  injection b6 with b6
  have := congrArg (fun l => l[i]?) b6
  simp only [List.getElem?_take, if_pos hi, List.getElem?_drop] at this
  exact this
theorem WholeAt.mono {vs : List El} {f r r' : Nat} {wh : Int} (h : WholeAt vs f r wh) (hr : r ≤ r') : WholeAt vs f r' wh := by
  rcases h with h | ⟨p, h1, h2, h3, h4⟩
  · exact .inl h
  · exact .inr ⟨p, h1, h2, h3, by omega⟩
theorem more64 (vs : List El) (hl : vs.length = 1114112) (f r : Nat) (wh : Int) (hfr : f < r) (hr : r < 1114112) (hm : r % 64 = 0) (hw : WholeAt vs f r wh) (he : (lowP vs (r / 64) : Int) = wh) (hs : ∀ k, f ≤ k → k < r → vs[k]? = vs[f]?) : ∀ k, f ≤ k → k < r + 64 → vs[k]? = vs[f]? := by
  intro k k1 k2
  rcases Nat.lt_or_ge k r with hk | hk
  · exact hs k k1 hk
  · rcases hw with hw | ⟨p, h1, h2, h3, h4⟩
    · omega
    · have e := place_eq vs hl (r / 64) p (by omega) h2 (by omega) (k - r) (by omega)
      rw [show 64 * (r / 64) + (k - r) = k by omega] at e
      rw [e]
      exact hs _ (by omega) (by omega)
set_option maxRecDepth 100000 in
set_option maxHeartbeats 4000000 in
theorem last_any (w : World) (B bt : Nat) (vt vm vl : Value) (vs : List El) (h : TrAt w B bt vt vm vl vs) (f : Nat) (hf : f < 1114112) :
    Calls Try.prog 63 #[.pointer (some ⟨bt, 0, none⟩), .int .i32 f] w fun e w' => e = .returned (.int .i32 (endV vs f : Int)) ∧ Below w.heap.size w w' := by
  obtain ⟨x0, hx0⟩ : ∃ x, vs[f]? = some x := ⟨_, List.getElem?_eq_getElem (by rw [h.len]; exact hf)⟩
  have HAT := hideA (fun W (hW : Below w.heap.size w W) (r : Nat) (hr : r < 1114112) x (hx : vs[r]? = some x) => at_any W B bt vt vm vl vs (h.below hW) (r : Int) x (by rw [atN_nat r hr]; exact hx))
  have HLO := hideA (fun W (hW : Below w.heap.size w W) (r : Nat) (hr : r < 1114112) => low_any W B bt vt vm vl vs (h.below hW) r hr)
  have HLEN := hideA h.len
  have HX := hideA hx0
  have q1 : IntKind.i32.wrap ((f : Int) + 1) = (f : Int) + 1 := by rw [IntKind.wrap_i32]; omega
  clear h hx0
  go_enter Try.func63, Try.ntmps63
  go_wp2_with fail
  refine (unhideA HAT w (Below.refl _ _) f hf x0 (unhideA HX)).mono ?_
  rintro e w1 ⟨rfl, hb1⟩
  have HB1 := hideA hb1
  clear hb1
  go_wp2_with fail
  go_loopg [6, 7] (1114111 - f) (fun kx v6 v7 wr => ∃ (r : Nat) (wh : Int), v6 = .int .i64 wh ∧ v7 = .int .i32 (r : Int) ∧ f < r ∧ r ≤ 1114112 ∧ kx = 1114112 - r ∧ Hid (WholeAt vs f r wh) ∧ Hid (∀ k, f ≤ k → k < r → vs[k]? = vs[f]?) ∧ Hid (Below w.heap.size w wr))
  case atStart => exact ⟨f + 1, -1, rfl, by simp, by omega, by omega, by simp, hideA (.inl rfl), hideA (fun k h1 h2 => congrArg (fun j => vs[j]?) (show k = f by omega)), HB1⟩
  case round =>
    obtain ⟨r, wh, rfl, rfl, hfr, hr, rfl, HW, HS, HB⟩ := hrel
    by_cases hlt : r < 1114112
    · have q2 : (r : Int) ≤ 1114111 := by omega
      by_cases hm : r % 64 = 0
      · by_cases h64 : 64 ≤ r - f
        · have d64 : decide ((64 : Int) ≤ (r : Int) - (f : Int)) = true := decide_eq_true (by omega)
          have HL1 := hideA (fun W hW => unhideA HLO W hW (r - 1) (by omega))
          rw [show ((r - 1 : Nat) : Int) = (r : Int) - 1 by omega] at HL1
          have q5 : IntKind.i32.wrap ((r : Int) - 1) = (r : Int) - 1 := by rw [IntKind.wrap_i32]; omega
          have hWv : WholeAt vs f r (lowP vs ((r - 1) / 64) : Int) := .inr ⟨(r - 1) / 64, rfl, by omega, by omega, by omega⟩
          generalize hwv : (lowP vs ((r - 1) / 64) : Int) = wv at *
          have HWV := hideA hWv
          clear hWv hwv
          go_wp2_with fail
          refine (unhideA HL1 wr (unhideA HB)).mono ?_
          rintro e w4 ⟨rfl, hb4⟩
          have HB4 := hideA ((unhideA HB).trans (hb4.mono (unhideA HB).size))
          clear hb4 HL1
          go_wp2_with fail
          refine (unhideA HLO w4 (unhideA HB4) r hlt).mono ?_
          rintro e w5 ⟨rfl, hb5⟩
          have HB5 := hideA ((unhideA HB4).trans (hb5.mono (unhideA HB4).size))
          clear hb5
          by_cases he : (lowP vs (r / 64) : Int) = wv
          · have HE := hideA he
            rw [he]
            clear he
            have q7 : IntKind.i32.wrap ((r : Int) + 64) = (r : Int) + 64 := by rw [IntKind.wrap_i32]; omega
            have HM := hideA hm
            clear hm
            go_wp2
            go_roundg (1114112 - (r + 64))
            case measure => have := unhideA HM; omega
            case rel =>
              have hm := unhideA HM
              refine ⟨r + 64, wv, rfl, by simp, by omega, by omega, rfl, hideA ((unhideA HWV).mono (by omega)), hideA (fun k k1 k2 => ?_), HB5⟩
              exact more64 vs (unhideA HLEN) f r wv hfr hlt hm (unhideA HWV) (unhideA HE) (unhideA HS) k k1 k2
          · have hq : ((lowP vs (r / 64) : Int) == wv) = false := by simpa using he
            clear he
            obtain ⟨y, hy⟩ : ∃ y, vs[r]? = some y := ⟨_, List.getElem?_eq_getElem (by rw [unhideA HLEN]; exact hlt)⟩
            have HY := hideA hy
            clear hy
            go_wp2_with fail
            refine (unhideA HAT w5 (unhideA HB5) r hlt y (unhideA HY)).mono ?_
            rintro e w7 ⟨rfl, hb7⟩
            have HB7 := hideA ((unhideA HB5).trans (hb7.mono (unhideA HB5).size))
            clear hb7
            by_cases hxy : y = x0
            · subst hxy
              go_wp2
              go_roundg (1114112 - (r + 1))
              case measure => omega
              case rel =>
                refine ⟨r + 1, wv, rfl, by simp, by omega, by omega, rfl, hideA ((unhideA HWV).mono (by omega)), hideA (fun k k1 k2 => ?_), HB7⟩
                rcases Nat.lt_or_ge k r with hk | hk
                · exact unhideA HS k k1 hk
                · rw [show k = r by omega, unhideA HY, unhideA HX]
            · have hn1 : (y != x0) = true := by simpa using hxy
              have hn2 : (!(y == x0)) = true := by simpa using hxy
              have q8 : IntKind.i32.wrap ((r : Int) - 1) = (r : Int) - 1 := by rw [IntKind.wrap_i32]; omega
              go_wp2
              go_ret
              have he : endV vs f = r - 1 := by
                have hl := unhideA HLEN
                refine endV_uniq vs f (r - 1) (by omega) (by omega) (by omega) (fun k k1 k2 => unhideA HS k k1 (by omega)) (.inr ?_)
                rw [show r - 1 + 1 = r by omega, unhideA HY, unhideA HX]
                intro e
                injection e with e
                exact hxy e
              refine ⟨?_, unhideA HB7⟩
              rw [he, show ((r - 1 : Nat) : Int) = (r : Int) - 1 by omega]
              rfl
        · have d64 : decide ((64 : Int) ≤ (r : Int) - (f : Int)) = false := decide_eq_false (by omega)
          have d65 : ¬ (64 : Int) ≤ (r : Int) - (f : Int) := by omega
          go_wp2_with fail
          refine (unhideA HLO wr (unhideA HB) r hlt).mono ?_
          rintro e w5 ⟨rfl, hb5⟩
          have HB5 := hideA ((unhideA HB).trans (hb5.mono (unhideA HB).size))
          clear hb5
          by_cases he : (lowP vs (r / 64) : Int) = wh
          · have HE := hideA he
            rw [he]
            clear he
            have q7 : IntKind.i32.wrap ((r : Int) + 64) = (r : Int) + 64 := by rw [IntKind.wrap_i32]; omega
            have HM := hideA hm
            clear hm
            go_wp2
            go_roundg (1114112 - (r + 64))
            case measure => have := unhideA HM; omega
            case rel =>
              have hm := unhideA HM
              refine ⟨r + 64, wh, rfl, by simp, by omega, by omega, rfl, hideA ((unhideA HW).mono (by omega)), hideA (fun k k1 k2 => ?_), HB5⟩
              exact more64 vs (unhideA HLEN) f r wh hfr hlt hm (unhideA HW) (unhideA HE) (unhideA HS) k k1 k2
          · have hq : ((lowP vs (r / 64) : Int) == wh) = false := by simpa using he
            clear he
            obtain ⟨y, hy⟩ : ∃ y, vs[r]? = some y := ⟨_, List.getElem?_eq_getElem (by rw [unhideA HLEN]; exact hlt)⟩
            have HY := hideA hy
            clear hy
            go_wp2_with fail
            refine (unhideA HAT w5 (unhideA HB5) r hlt y (unhideA HY)).mono ?_
            rintro e w7 ⟨rfl, hb7⟩
            have HB7 := hideA ((unhideA HB5).trans (hb7.mono (unhideA HB5).size))
            clear hb7
            by_cases hxy : y = x0
            · subst hxy
              go_wp2
              go_roundg (1114112 - (r + 1))
              case measure => omega
              case rel =>
                refine ⟨r + 1, wh, rfl, by simp, by omega, by omega, rfl, hideA ((unhideA HW).mono (by omega)), hideA (fun k k1 k2 => ?_), HB7⟩
                rcases Nat.lt_or_ge k r with hk | hk
                · exact unhideA HS k k1 hk
                · rw [show k = r by omega, unhideA HY, unhideA HX]
            · have hn1 : (y != x0) = true := by simpa using hxy
              have hn2 : (!(y == x0)) = true := by simpa using hxy
              have q8 : IntKind.i32.wrap ((r : Int) - 1) = (r : Int) - 1 := by rw [IntKind.wrap_i32]; omega
              go_wp2
              go_ret
              have he : endV vs f = r - 1 := by
                have hl := unhideA HLEN
                refine endV_uniq vs f (r - 1) (by omega) (by omega) (by omega) (fun k k1 k2 => unhideA HS k k1 (by omega)) (.inr ?_)
                rw [show r - 1 + 1 = r by omega, unhideA HY, unhideA HX]
                intro e
                injection e with e
                exact hxy e
              refine ⟨?_, unhideA HB7⟩
              rw [he, show ((r - 1 : Nat) : Int) = (r : Int) - 1 by omega]
              rfl
      · have hm2 : ¬ (r : Int) % 64 = 0 := by omega
        obtain ⟨y, hy⟩ : ∃ y, vs[r]? = some y := ⟨_, List.getElem?_eq_getElem (by rw [unhideA HLEN]; exact hlt)⟩
        have HY := hideA hy
        clear hy
        go_wp2_with fail
        refine (unhideA HAT wr (unhideA HB) r hlt y (unhideA HY)).mono ?_
        rintro e w7 ⟨rfl, hb7⟩
        have HB7 := hideA ((unhideA HB).trans (hb7.mono (unhideA HB).size))
        clear hb7
        by_cases hxy : y = x0
        · subst hxy
          go_wp2
          go_roundg (1114112 - (r + 1))
          case measure => omega
          case rel =>
            refine ⟨r + 1, wh, rfl, by simp, by omega, by omega, rfl, hideA ((unhideA HW).mono (by omega)), hideA (fun k k1 k2 => ?_), HB7⟩
            rcases Nat.lt_or_ge k r with hk | hk
            · exact unhideA HS k k1 hk
            · rw [show k = r by omega, unhideA HY, unhideA HX]
        · have hn1 : (y != x0) = true := by simpa using hxy
          have hn2 : (!(y == x0)) = true := by simpa using hxy
          have q8 : IntKind.i32.wrap ((r : Int) - 1) = (r : Int) - 1 := by rw [IntKind.wrap_i32]; omega
          go_wp2
          go_ret
          have he : endV vs f = r - 1 := by
            have hl := unhideA HLEN
            refine endV_uniq vs f (r - 1) (by omega) (by omega) (by omega) (fun k k1 k2 => unhideA HS k k1 (by omega)) (.inr ?_)
            rw [show r - 1 + 1 = r by omega, unhideA HY, unhideA HX]
            intro e
            injection e with e
            exact hxy e
          refine ⟨?_, unhideA HB7⟩
          rw [he, show ((r - 1 : Nat) : Int) = (r : Int) - 1 by omega]
          rfl
    · have q2 : ¬ (r : Int) ≤ 1114111 := by omega
      go_wp2
      go_ret
      have he : endV vs f = 1114111 := by
        have hl := unhideA HLEN
        exact endV_uniq vs f 1114111 (by omega) (by omega) (by omega) (fun k k1 k2 => unhideA HS k k1 (by omega)) (.inl (by omega))
      exact ⟨by rw [he]; rfl, unhideA HB⟩
end Go.Proofs.Ytokillomaemocaa.VU

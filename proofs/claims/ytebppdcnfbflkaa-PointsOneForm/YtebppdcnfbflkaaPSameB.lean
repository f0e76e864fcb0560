/-
  Whether two maps have the same stretches.
-/
import Derived.Test.YtebppdcnfbflkaaPToldB
namespace Go.Proofs.Ytebppdcnfbflkaa.VB
open Go.RowKit Go.PlainAid Go.Lib Go.PRow Go.Shelf
set_option linter.unusedVariables false

/-- two stretches are the same -/
def sameB (p q : Pc Bool) : Bool := decide (p.lo = q.lo) && (decide (p.hi = q.hi) && eqv p.val q.val)

set_option maxHeartbeats 2000000 in
theorem eq1_any (p q : Pc Bool) (w : World) :
    Calls Try.prog 51 #[.agg #[.int .i32 p.lo, .int .i32 p.hi, Value.bool p.val], .agg #[.int .i32 q.lo, .int .i32 q.hi, Value.bool q.val]] w fun e w' => e = .returned (.bool (sameB p q)) ∧ Below w.heap.size w w' := by
  obtain ⟨l1, h1, v1⟩ := p
  obtain ⟨l2, h2, v2⟩ := q
  simp only [sameB]
  have HA := hide (fun W => alike_any v1 v2 W)
  generalize eqv v1 v2 = q at HA ⊢
  by_cases h : l1 = l2
  · by_cases h' : h1 = h2
    all_goals
      go_enter Try.func51, Try.ntmps51
      go_wp2_with (go_at_call 52; refine (unhide HA _).mono ?_; rintro e w' ⟨rfl, rfl⟩)
      go_ret
      exact ⟨by simp [h, h'], by go_grown⟩
  · go_enter Try.func51, Try.ntmps51
    go_wp2_with (go_at_call 52; refine (unhide HA _).mono ?_; rintro e w' ⟨rfl, rfl⟩)
    go_ret
    exact ⟨by simp [h], by go_grown⟩

/-- two lists of stretches are the same -/
def eqL (xs ys : List (Pc Bool)) : Bool := decide (xs.length = ys.length) && (xs.zip ys).all fun x => sameB x.1 x.2
theorem eqL_len {xs ys : List (Pc Bool)} (h : ¬ xs.length = ys.length) : eqL xs ys = false := by simp [eqL, h]
theorem eqL_not {xs ys : List (Pc Bool)} {i : Nat} {p q : Pc Bool} (hp : xs[i]? = some p) (hq : ys[i]? = some q) (h : sameB p q = false) : eqL xs ys = false := by
  unfold eqL
  rw [Bool.and_eq_false_iff]
  right
  rw [List.all_eq_false]
  exact ⟨(p, q), List.mem_of_getElem? (i := i) (List.getElem?_zip_eq_some (z := (p, q)) |>.2 ⟨hp, hq⟩), by simp [h]⟩
theorem eqL_all {xs ys : List (Pc Bool)} (hl : xs.length = ys.length) (h : ∀ (i : Nat) (p q : Pc Bool), xs[i]? = some p → ys[i]? = some q → sameB p q = true) : eqL xs ys = true := by
  unfold eqL
  rw [decide_eq_true hl, Bool.true_and, List.all_eq_true]
  rintro ⟨p, q⟩ hm
  obtain ⟨i, hi⟩ := List.mem_iff_getElem?.1 hm
  rw [List.getElem?_zip_eq_some] at hi
  exact h i p q hi.1 hi.2
theorem eqL_iff (he : ∀ a b, eqv a b = true ↔ a = b) (xs ys : List (Pc Bool)) : eqL xs ys = true ↔ xs = ys := by
  constructor
  · intro h
    unfold eqL at h
    rw [Bool.and_eq_true, decide_eq_true_eq, List.all_eq_true] at h
    refine List.ext_getElem? fun i => ?_
    rcases Nat.lt_or_ge i xs.length with hi | hi
    · have e1 := List.getElem?_eq_getElem hi
      have e2 := List.getElem?_eq_getElem (l := ys) (i := i) (by omega)
      rw [e1, e2]
      have := h.2 (xs[i], ys[i]'(by omega)) (List.mem_of_getElem? (i := i) (by rw [List.getElem?_zip_eq_some]; exact ⟨e1, e2⟩))
      simp only [sameB, Bool.and_eq_true, decide_eq_true_eq, he] at this
      obtain ⟨a1, a2, a3⟩ := this
      generalize xs[i] = p at a1 a2 a3
      generalize ys[i]'(by omega) = q at a1 a2 a3
      cases p; cases q; simp_all
    · rw [List.getElem?_eq_none hi, List.getElem?_eq_none (by omega)]
  · rintro rfl
    refine eqL_all rfl fun i p q h1 h2 => ?_
    rw [h1] at h2
    cases h2
    simp [sameB, (he p.val p.val).2 rfl]

theorem row_cells {w : World} {B : Nat} {a : Option Addr} {n cap : Nat} {ps : List (Pc Bool)} (hr : RowP w B (.slice a n cap) ps) (i : Nat) (p : Pc Bool) (hp : ps[i]? = some p) :
    ∃ g, a = some ⟨g, 0, none⟩ ∧ ∀ V, Below w.heap.size w V → V.cell? ⟨g, i * 3, none⟩ = some (.int .i32 p.lo) ∧ V.cell? ⟨g, i * 3 + 1, none⟩ = some (.int .i32 p.hi) ∧ V.cell? ⟨g, i * 3 + 2, none⟩ = some (Value.bool p.val) := by
  obtain ⟨a', cap', e, hc1, hc2, _, hg⟩ := hr.form
  injection e with e1 e2 e3
  subst e1
  obtain ⟨g, rfl, _, _, hgl, hcell⟩ := hg (by intro e; subst e; simp at hp)
  obtain ⟨c1, c2, c3⟩ := hcell _ _ hp
  exact ⟨g, rfl, fun V hV => ⟨(hV.cell hgl).trans c1, (hV.cell hgl).trans c2, (hV.cell hgl).trans c3⟩⟩

set_option maxRecDepth 100000 in
set_option maxHeartbeats 4000000 in
theorem equal_any (B C : Nat) (u v : Value) (xs ys : List (Pc Bool)) (w : World) (hx : RowP w B u xs) (hy : RowP w C v ys) (hlen : xs.length ≤ 1114112) :
    Calls Try.prog 49 #[u, v, .func (.func 51) #[] #[]] w fun e w' => e = .returned (.bool (eqL xs ys)) ∧ Below w.heap.size w w' := by
  obtain ⟨a, cap, rfl, hc1, hc2, -, -⟩ := hx.form
  obtain ⟨b, dap, rfl, hd1, hd2, -, -⟩ := hy.form
  have KX := hide (row_cells hx)
  have KY := hide (row_cells hy)
  have HE := hide (fun p q V => eq1_any p q V)
  clear hx hy
  by_cases hl : xs.length = ys.length
  · obtain ⟨n, hn⟩ : ∃ n, n = xs.length := ⟨_, rfl⟩
    have hn' : ys.length = n := by omega
    rw [hn', ← hn]
    rw [← hn] at hlen hc1
    rw [hn'] at hd1
    have HN := hide hn
    have HN' := hide hn'
    clear hl hn hn'
    go_enter Try.func49, Try.ntmps49
    go_wp2
    go_loopg [17] n (fun kx s17 wr => ∃ i : Nat, s17 = .int .i64 i ∧ i ≤ n ∧ kx = n - i ∧ Hid (∀ (j : Nat) (p q : Pc Bool), j < i → xs[j]? = some p → ys[j]? = some q → sameB p q = true) ∧ Below w.heap.size w wr)
    case atStart => exact ⟨0, rfl, Nat.zero_le _, by simp, fun j p q hj => absurd hj (Nat.not_lt_zero _), Below.refl _ _⟩
    case round =>
      obtain ⟨i, rfl, hi, rfl, HJ, hb⟩ := hrel
      by_cases hlt : i < n
      · obtain ⟨⟨pl, ph, pv⟩, hp⟩ : ∃ p, xs[i]? = some p := ⟨_, List.getElem?_eq_getElem (by have := unhide HN; omega)⟩
        obtain ⟨⟨ql, qh, qv⟩, hq⟩ : ∃ p, ys[i]? = some p := ⟨_, List.getElem?_eq_getElem (by have := unhide HN'; omega)⟩
        obtain ⟨g, rfl, hcell⟩ := unhide KX i _ hp
        obtain ⟨g', rfl, hcell'⟩ := unhide KY i _ hq
        obtain ⟨d1, d2, d3⟩ := hcell _ hb
        have hsz := hb.size
        obtain ⟨d4, d5, d6⟩ := hcell' _ (hb.alloc (by omega) (.cells #[.int .i32 pl, .int .i32 ph, Value.bool pv] 98))
        have HBB := hide ((hb.alloc (by omega) (.cells #[.int .i32 pl, .int .i32 ph, Value.bool pv] 98)).alloc (by simp; omega) (.cells #[.int .i32 ql, .int .i32 qh, Value.bool qv] 98))
        have q1 : (i : Int) < (n : Int) := by omega
        have q6 : IntKind.i64.wrap ((i : Int) + 1) = (i : Int) + 1 := by rw [IntKind.wrap_i64]; omega
        have HP := hide hp
        have HQ := hide hq
        clear hp hq hcell hcell'
        have HS := hide (unhide HE ⟨pl, ph, pv⟩ ⟨ql, qh, qv⟩)
        obtain ⟨sm, hsm⟩ : ∃ sm, sm = sameB ⟨pl, ph, pv⟩ ⟨ql, qh, qv⟩ := ⟨_, rfl⟩
        rw [← hsm] at HS
        have HSM := hide hsm
        clear hsm
        cases sm with
        | true =>
          go_wp2_with fail
          generalize (wr.alloc (.cells #[.int .i32 pl, .int .i32 ph, Value.bool pv] 98)).alloc (.cells #[.int .i32 ql, .int .i32 qh, Value.bool qv] 98) = W5 at HBB ⊢
          refine (unhide HS W5).mono ?_
          rintro e W6 ⟨rfl, hb6⟩
          have HB6 := hide ((unhide HBB).trans (hb6.mono (unhide HBB).size))
          clear hb6 d1 d2 d3 d4 d5 d6
          go_wp2
          go_roundg (n - (i + 1))
          case measure => omega
          case rel =>
            refine ⟨i + 1, by simp, by omega, rfl, fun j p q hj h1 h2 => ?_, unhide HB6⟩
            rcases Nat.lt_or_ge j i with h | h
            · exact unhide HJ j p q h h1 h2
            · obtain rfl : j = i := by omega
              rw [unhide HP] at h1
              rw [unhide HQ] at h2
              cases h1; cases h2
              exact (unhide HSM).symm
        | false =>
          have hR : eqL xs ys = false := eqL_not (unhide HP) (unhide HQ) (unhide HSM).symm
          have HR := hide hR
          clear hR
          go_wp2_with fail
          generalize (wr.alloc (.cells #[.int .i32 pl, .int .i32 ph, Value.bool pv] 98)).alloc (.cells #[.int .i32 ql, .int .i32 qh, Value.bool qv] 98) = W5 at HBB ⊢
          refine (unhide HS W5).mono ?_
          rintro e W6 ⟨rfl, hb6⟩
          have HB6 := hide ((unhide HBB).trans (hb6.mono (unhide HBB).size))
          clear hb6 d1 d2 d3 d4 d5 d6
          go_wp2
          go_ret
          exact ⟨by rw [unhide HR]; rfl, unhide HB6⟩
      · obtain rfl : i = n := by omega
        have hR : eqL xs ys = true := eqL_all ((unhide HN).symm.trans (unhide HN').symm) fun j p q h1 h2 => unhide HJ j p q (by have := (List.getElem?_eq_some_iff.1 h1).1; have := unhide HN; omega) h1 h2
        go_wp2
        go_ret
        exact ⟨by rw [hR]; rfl, hb⟩
  · have hR := eqL_len hl
    have hl' : ¬ ((xs.length : Int) = (ys.length : Int)) := by omega
    go_enter Try.func49, Try.ntmps49
    go_wp2
    go_ret
    exact ⟨by rw [hR]; rfl, Below.refl _ _⟩

/-- Same of two maps -/
theorem same_maps (b c : Nat) (u v : Value) (B C : Nat) (ps qs : List (Pc Bool)) (o : OkP ps) (o' : OkP qs) (w : World) (hb : IsMap w b u) (hr : RowP w B u ps) (hc : IsMap w c v) (hr' : RowP w C v qs) :
    Calls Try.prog 17 #[.pointer (some ⟨b, 0, none⟩), .pointer (some ⟨c, 0, none⟩)] w fun e w' => e = .returned (.bool (eqL (strsP eqv ps) (strsP eqv qs))) ∧ Below w.heap.size w w' := by
  have hlen : (strsP eqv ps).length ≤ 1114112 := Nat.le_trans (strs_len eqv ps) (okP_len o)
  have H1 := hide (told_map b u B ps o w hb hr)
  have H2 := hide (fun V (hV : Below w.heap.size w V) => told_map c v C qs o' V (hc.below hV) (hr'.below hV))
  generalize strsP eqv ps = xs at *
  generalize strsP eqv qs = ys at *
  clear hb hr hc hr' o o'
  go_enter Try.func17, Try.ntmps17
  go_wp2_with fail
  refine (unhide H1).mono ?_
  rintro e W1 ⟨x, rfl, hx, hb1⟩
  have H3 := hide (unhide H2 W1 hb1)
  clear H1 H2
  go_wp2_with fail
  refine (unhide H3).mono ?_
  rintro e W2 ⟨y, rfl, hy, hb2⟩
  have hx2 := hx.below hb2
  have hb12 := hb1.trans (hb2.mono hb1.size)
  have HE := hide (equal_any _ _ x y xs ys W2 hx2 hy hlen)
  clear H3 hx hy hx2 hb1 hb2
  go_wp2_with fail
  refine (unhide HE).mono ?_
  rintro e W3 ⟨rfl, hb3⟩
  go_wp2
  go_ret
  exact ⟨rfl, hb12.trans (hb3.mono hb12.size)⟩
end Go.Proofs.Ytebppdcnfbflkaa.VB

/-
  The small functions of package mirrors: isPoint, whyWrong, how a From is found.
-/
import Derived.Test.YtnabbahdmajfpaaGreatDoorMrW
import Derived.Deep.QuietTactic
import Derived.BigQuiet
namespace Go.Proofs.YtnabbahdmajfpaaGreatDoor
open Go.RowKit Go.PlainAid Go.Maps
set_option linter.unusedVariables false
set_option linter.unusedSimpArgs false

theorem isPointM_any (r : Int) (w : World) : Calls Tryz.prog 59 #[.int .i32 r] w fun e w' => e = .returned (.bool (isPtM r)) ∧ w' = w := by
  go_enter Tryz.func59, Tryz.ntmps59
  go_wp2
  all_goals go_ret
  all_goals exact ⟨by simp [isPtM]; omega, rfl⟩
theorem refPoint_any (r : Int) (w : World) : Calls Tryz.prog 38 #[.int .i32 r] w fun e w' => e = .returned (.bool (isPtM r)) ∧ w' = w := by
  go_enter Tryz.func38, Tryz.ntmps38
  go_wp2
  all_goals go_ret
  all_goals exact ⟨by simp [isPtM]; omega, rfl⟩
theorem whyWrongM_any (x : MirD) (w : World) : Calls Tryz.prog 37 #[mirV x] w fun e w' => e = .returned (.int .i64 (whyM x)) ∧ Below w.heap.size w w' := by
  obtain ⟨x0, x1, x2, x3⟩ := x
  have hA := fun w => isPointM_any x1 w
  have hO := fun w => isPointM_any x2 w
  have HE : Hid (whyM ⟨x0, x1, x2, x3⟩ = if isPtM x1 && isPtM x2 then (if x1 = x2 then 91 else 0) else 2) := rfl
  cases h1 : isPtM x1
  · rw [h1] at hA HE
    have HA := hideM hA
    clear hA hO h1
    go_enter Tryz.func37, Tryz.ntmps37
    go_wp2_with (go_at_call 59; refine (unhideM HA _).mono ?_; rintro e w' ⟨rfl, rfl⟩)
    go_ret
    exact ⟨by rw [HE.out]; simp, by go_grown⟩
  · cases h2 : isPtM x2
    · rw [h1] at hA HE
      rw [h2] at hO HE
      have HA := hideM hA
      have HO := hideM hO
      clear hA hO h1 h2
      have tok : True := trivial
      go_enter Tryz.func37, Tryz.ntmps37
      go_wp2_with (first | (go_at_call 59; have _t := tok; refine (unhideM HA _).mono ?_; rintro e w' ⟨rfl, rfl⟩; clear tok) | (go_at_call 59; refine (unhideM HO _).mono ?_; rintro e w' ⟨rfl, rfl⟩))
      go_ret
      exact ⟨by rw [HE.out]; simp, by go_grown⟩
    · rw [h1] at hA HE
      rw [h2] at hO HE
      have HA := hideM hA
      have HO := hideM hO
      clear hA hO h1 h2
      by_cases h3 : x1 = x2
      · have d3 : (x1 == x2) = true := by simpa using h3
        have HE' : Hid (whyM ⟨x0, x1, x2, x3⟩ = 91) := by show _ = _; rw [HE.out]; simp [h3]
        clear h3 HE
        have tok : True := trivial
        go_enter Tryz.func37, Tryz.ntmps37
        go_wp2_with (first | (go_at_call 59; have _t := tok; refine (unhideM HA _).mono ?_; rintro e w' ⟨rfl, rfl⟩; clear tok) | (go_at_call 59; refine (unhideM HO _).mono ?_; rintro e w' ⟨rfl, rfl⟩))
        go_ret
        exact ⟨by rw [HE'.out]; rfl, by go_grown⟩
      · have d3 : (x1 == x2) = false := by simpa using h3
        have HE' : Hid (whyM ⟨x0, x1, x2, x3⟩ = 0) := by show _ = _; rw [HE.out]; simp [h3]
        clear h3 HE
        have tok : True := trivial
        go_enter Tryz.func37, Tryz.ntmps37
        go_wp2_with (first | (go_at_call 59; have _t := tok; refine (unhideM HA _).mono ?_; rintro e w' ⟨rfl, rfl⟩; clear tok) | (go_at_call 59; refine (unhideM HO _).mono ?_; rintro e w' ⟨rfl, rfl⟩))
        go_ret
        exact ⟨by rw [HE'.out]; rfl, by go_grown⟩

theorem find1_any (l : List MirD) (pb : Nat) (r : Int) (hr : i32OkM r) (w : World) (h : FindAt w pb l) :
    Calls Tryz.prog 58 #[.int .i32 r, .pointer (some ⟨pb, 0, none⟩)] w fun e w' => e = .returned (.tuple #[.int .i64 (((idxM l r).getD 0 : Nat) : Int), .bool (idxM l r).isSome]) ∧ w' = w := by
  obtain ⟨m, P, h1, h2, h3⟩ := h.ex
  have c0 : w.cell? ⟨pb, 0, none⟩ = some (.map (some m)) := by simp [World.cell?, h1]
  have hl := h2.look hr
  have e1 : (findP P r).getD 0 = (((idxM l r).getD 0 : Nat) : Int) := by rw [h3]; cases idxM l r <;> rfl
  have e2 : (findP P r).isSome = (idxM l r).isSome := by rw [h3]; cases idxM l r <;> rfl
  rw [e1, e2] at hl
  clear h1 h2 h3 e1 e2 h
  generalize (((idxM l r).getD 0 : Nat) : Int) = A at *
  generalize (idxM l r).isSome = B at *
  go_enter Tryz.func58, Tryz.ntmps58
  go_wp2
  go_ret2
  exact ⟨rfl, rfl⟩

theorem i64_wf (i : Nat) (h : i ≤ 1099511627776) : (Lit.int .i64 (i : Int)).wf = true := by
  have h1 : IntKind.i64.min = -9223372036854775808 := by decide
  have h2 : IntKind.i64.max = 9223372036854775807 := by decide
  simp only [Lit.wf, h1, h2, Bool.and_eq_true, decide_eq_true_eq]
  omega
theorem run_makeMap_hint (t k e : TypeId) (h : Tryz.prog.underlying t = some (.map k e)) (n : Int) (w : World) : (Instr.makeMap t (some (.int .i64 n))).run Tryz.prog w = .ok (.map (some w.heap.size)) (w.alloc (.map #[] 0)) := by
  simp [Instr.makeMap, run_underlying h, asInt, asIntOf, Result.andThen]
set_option maxRecDepth 100000 in
set_option maxHeartbeats 2000000 in
theorem finder_any (l : List MirD) (a : Option Addr) (n c : Nat) (w : World) (hn : l.length = n) (hnb : n ≤ 1099511627776) (hok : ∀ x ∈ l, i32OkM x.frm) (hm : MrMem w a l) :
    Calls Tryz.prog 36 #[.slice a n c] w fun e w' => ∃ pb, e = .returned (findV pb) ∧ FindAt w' pb l ∧ w.heap.size ≤ pb ∧ Below w.heap.size w w' := by
  have HN := hideM hn
  have HM := hideM hm
  have HOK := hideM hok
  clear hn hm hok
  obtain ⟨W0, hW0⟩ : ∃ W0, (w.alloc (.map #[] 0)).alloc (.cells #[.map (some w.heap.size)] 113) = W0 := ⟨_, rfl⟩
  have hb0 : Below w.heap.size w W0 := by rw [← hW0]; exact ((Below.refl _ w).alloc (Nat.le_refl _) _).alloc (by simp) _
  have hs0 : W0.heap.size = w.heap.size + 2 := by rw [← hW0]; simp
  have p0 : PlMap W0 w.heap.size [] := by rw [← hW0]; exact (PlMap.new w).same (Below.heap_alloc _ _ _ (by simp))
  have b0 : W0.heap[w.heap.size + 1]? = some (.cells #[.map (some w.heap.size)] 113 (0, 0)) := by
    rw [← hW0]
    have h := heap_alloc_new (w.alloc (.map #[] 0)) (.cells #[.map (some w.heap.size)] 113)
    rw [World.size_alloc] at h; exact h
  have hmm := run_makeMap_hint 113 _ _ Tryz.underlying113 n
  go_enter Tryz.func36, Tryz.ntmps36
  go_wp2
  clear hW0 hmm
  go_loopw [13] (fun v13 wr => ∃ (i : Nat) (P : List (Int × Int)), v13 = .int .i64 i ∧ i ≤ n ∧ P.length ≤ i ∧ Hid (∀ r, findP P r = (idxM (l.take i) r).map fun (k : Nat) => (k : Int)) ∧ PlMap wr w.heap.size P ∧ wr.heap[w.heap.size + 1]? = some (.cells #[.map (some w.heap.size)] 113 (0, 0)) ∧ Below w.heap.size w wr) (fun v13 _ => n - (RowKit.intOf v13).toNat)
  case atStart => exact ⟨0, [], rfl, Nat.zero_le _, Nat.le_refl _, fun r => rfl, p0, b0, hb0⟩
  case round =>
    obtain ⟨i, P, rfl, hi, hP, HF, hpm, hbk, hB⟩ := hrel
    by_cases hlt : i < n
    · obtain ⟨x, hx⟩ : ∃ x, l[i]? = some x := ⟨_, List.getElem?_eq_getElem (by rw [unhideM HN]; exact hlt)⟩
      obtain ⟨g, off, rfl, hc⟩ := ((unhideM HM).below hB) i x hx
      have cx0 := hc 0 _ rfl
      have cx1 := hc 1 _ rfl
      have cx2 := hc 2 _ rfl
      have cx3 := hc 3 _ rfl
      simp only [Nat.add_zero] at cx0
      have hlt' : (i : Int) < (n : Int) := by omega
      have hq1 : IntKind.i64.wrap ((i : Int) + 1) = (i : Int) + 1 := by rw [IntKind.wrap_i64]; omega
      have hxo : i32OkM x.frm := unhideM HOK x (List.mem_of_getElem? hx)
      have htk : l.take (i + 1) = l.take i ++ [x] := by
        rw [List.take_add_one, hx]; rfl
      have hil : (l.take i).length = i := by rw [List.length_take, unhideM HN]; omega
      have hix : ∀ r, idxM (l.take (i + 1)) r = (idxM (l.take i) r).or (if x.frm = r then some i else none) := fun r => by rw [htk, idx_snoc, hil]
      obtain ⟨V, hV⟩ : ∃ V, wr.alloc (.cells #[.int .i64 x.line, .int .i32 x.frm, .int .i32 x.to, .bool x.best] 27) = V := ⟨_, rfl⟩
      have hVb : Below wr.heap.size wr V := by rw [← hV]; exact (Below.refl _ wr).alloc (Nat.le_refl _) _
      have hVB : Below w.heap.size w V := hB.trans (hVb.mono hB.size)
      have vM : V.heap[wr.heap.size]? = some (.cells #[.int .i64 x.line, .int .i32 x.frm, .int .i32 x.to, .bool x.best] 27 (0, 0)) := by rw [← hV]; exact heap_alloc_new wr _
      have v1 : V.cell? ⟨wr.heap.size, 1, none⟩ = some (.int .i32 x.frm) := by simp [World.cell?, vM]
      have hpV := hpm.below hVb
      have hbV : V.heap[w.heap.size + 1]? = some (.cells #[.map (some w.heap.size)] 113 (0, 0)) := (hVb.block _ (Array.getElem?_eq_some_iff.1 hbk).1).trans hbk
      have vb : V.cell? ⟨w.heap.size + 1, 0, none⟩ = some (.map (some w.heap.size)) := by simp [World.cell?, hbV]
      have hlk := hpV.look hxo
      obtain ⟨A, hA⟩ : ∃ A, (findP P x.frm).getD 0 = A := ⟨_, rfl⟩
      rw [hA] at hlk
      cases hs : (findP P x.frm).isSome with
      | true =>
        rw [hs] at hlk
        have HF' : Hid (∀ r, findP P r = (idxM (l.take (i + 1)) r).map fun (k : Nat) => (k : Int)) := fun r => by
          rw [hix r, unhideM HF r]
          by_cases hr : x.frm = r
          · subst hr
            have := unhideM HF x.frm
            cases h : idxM (l.take i) x.frm with
            | none => rw [h] at this; rw [this] at hs; simp at hs
            | some k => rfl
          · rw [if_neg hr, Option.or_none]
        have HR := hideM (⟨hpV, hbV, hVB⟩ : _ ∧ _ ∧ _)
        clear hc hx hix htk hil hA hs hpV hbV hVB HF hpm hbk hB hxo vM hVb
        go_wp2
        go_roundw
        case rel => exact ⟨i + 1, P, by go_num, by omega, by omega, HF', (unhideM HR).1, (unhideM HR).2.1, (unhideM HR).2.2⟩
        case measure => simp [RowKit.intOf]; omega
      | false =>
        rw [hs] at hlk
        have hnone : idxM (l.take i) x.frm = none := by
          have := unhideM HF x.frm
          cases h : idxM (l.take i) x.frm with
          | none => rfl
          | some k => rw [h] at this; rw [this] at hs; simp at hs
        have HF' : Hid (∀ r, findP (P ++ [(x.frm, (i : Int))]) r = (idxM (l.take (i + 1)) r).map fun (k : Nat) => (k : Int)) := fun r => by
          rw [hix r, findP_snoc]
          by_cases hr : x.frm = r
          · subst hr
            rw [if_pos rfl, if_pos rfl, hnone]; rfl
          · rw [if_neg hr, if_neg hr, Option.or_none, unhideM HF r]
        obtain ⟨w9, hput, hp9, hg9⟩ := hpV.put (x.frm, (i : Int)) hxo (i64_wf i (by omega)) (by unfold maxLen; omega)
        have hb9 : w9.heap[w.heap.size + 1]? = some (.cells #[.map (some w.heap.size)] 113 (0, 0)) := (hg9.block _ (Array.getElem?_eq_some_iff.1 hbV).1 (by simp)).trans hbV
        have hB9 : Below w.heap.size w w9 := hVB.grown hg9 hVB.size (fun k e => by cases e; exact Nat.le_refl _)
        have hP9 : (P ++ [(x.frm, (i : Int))]).length ≤ i + 1 := by simp; exact hP
        have HR := hideM (⟨hp9, hb9, hB9⟩ : _ ∧ _ ∧ _)
        clear hc hx hix htk hil hA hs hpV hbV hVB HF hpm hbk hB hxo vM hVb hp9 hg9 hb9 hB9 hnone
        go_wp2
        go_roundw
        case rel => exact ⟨i + 1, P ++ [(x.frm, (i : Int))], by go_num, by omega, hP9, HF', (unhideM HR).1, (unhideM HR).2.1, (unhideM HR).2.2⟩
        case measure => simp [RowKit.intOf]; omega
    · obtain rfl : i = n := by omega
      have HR : Hid (FindAt wr (w.heap.size + 1) l) := ⟨w.heap.size, P, hbk, hpm, fun r => by
        have := unhideM HF r
        rwa [List.take_of_length_le (by rw [unhideM HN]; exact Nat.le_refl _)] at this⟩
      clear hpm hbk HF
      go_wp2
      go_ret
      exact ⟨_, rfl, unhideM HR, Nat.le_succ _, hB⟩
end Go.Proofs.YtnabbahdmajfpaaGreatDoor

/-
  ParasCut: the pieces of a split cover the list, and each ends with its one separator. The condition: the lists hold together at most 1048576 values (a bulk of at most 1048576).
-/
import Derived.Test.YtkckkchnmgidgaaBulk
import Derived.Test.YtkckkchnmgidgaaPaAw
import Derived.Test.YtkckkchnmgidgaaPaSp
import Derived.Deep.LoopGhost
import Derived.ProofKit
import Derived.OpenShut
import Derived.ShutString
import Derived.ChangeOld
namespace Go.Proofs.Ytkckkchnmgidgaa.parasCut
open Go.ChangeShapes Go.WideShapes Go.ChangeAt Go.RowKit Go.PlainAid Go.Lib Go.ChangeMaps
set_option linter.unusedVariables false

theorem flat2 : ∀ (l : List (Nat × Nat)) (i : Nat) (p : Nat × Nat), l[i]? = some p → (pcsC l)[i * 2]? = some (.int .i64 (p.1 : Nat)) ∧ (pcsC l)[i * 2 + 1]? = some (.int .i64 (p.2 : Nat)) := by
  intro l
  induction l with
  | nil => intro i p h; simp at h
  | cons q l ih =>
    intro i p h
    have e : pcsC (q :: l) = .int .i64 (q.1 : Nat) :: .int .i64 (q.2 : Nat) :: pcsC l := by simp [pcsC]
    rw [e]
    cases i with
    | zero =>
      have : q = p := by simpa using h
      subst this
      exact ⟨rfl, rfl⟩
    | succ i =>
      have := ih i p (by simpa using h)
      rw [show (i + 1) * 2 = i * 2 + 1 + 1 by omega]
      simpa using this
theorem pc_cells {w : World} {B : Nat} {g c : Nat} {ps : List (Nat × Nat)} (h : w.ownsRow B 46 2 (.slice (some ⟨g, 0, none⟩) ps.length c) ps.length (pcsC ps)) (i : Nat) (p : Nat × Nat) (hp : ps[i]? = some p) :
    w.cell? ⟨g, i * 2, none⟩ = some (.int .i64 (p.1 : Nat)) ∧ w.cell? ⟨g, i * 2 + 1, none⟩ = some (.int .i64 (p.2 : Nat)) := by
  obtain ⟨h1, h2⟩ := flat2 ps i p hp
  have e1 := h.cells rfl (i * 2) _ h1
  have e2 := h.cells rfl (i * 2 + 1) _ h2
  rw [addr_add, Nat.zero_add] at e1 e2
  exact ⟨e1, e2⟩
/-- where the piece ahead of place i ends -/
def endN (ps : List (Nat × Nat)) (i : Nat) : Nat := if i = 0 then 0 else ((ps[i - 1]?).map (·.2)).getD 0
theorem endN_succ (ps : List (Nat × Nat)) (i : Nat) (p : Nat × Nat) (h : ps[i]? = some p) : endN ps (i + 1) = p.2 := by
  unfold endN; rw [if_neg (by omega), Nat.add_sub_cancel, h]; rfl
theorem endN_last (ps : List (Nat × Nat)) : endN ps ps.length = ((ps.getLast?).map (·.2)).getD 0 := by
  unfold endN
  by_cases h : ps = []
  · subst h; rfl
  · have : ps.length ≠ 0 := by intro e; exact h (List.length_eq_zero_iff.1 e)
    rw [if_neg this, List.getLast?_eq_getElem?]
set_option maxRecDepth 100000 in
set_option maxHeartbeats 4000000 in
theorem walk (a : Option Addr) (rs : List Int) (c : Nat) (b : Option Addr) (cs : List Int) (d : Nat) (W : World) (hr : Reads W a rs) (hlc : rs.length ≤ c) (hc : c ≤ 1048576) (hk : ReadsB W b cs) (hf : FitsB cs) (hld : cs.length ≤ d) (hd : d ≤ 1048576) :
    Calls Try.prog 9 #[.slice a rs.length c, .slice b cs.length d] W fun e w' => e = .returned (.bool true) ∧ Below W.heap.size W w' := by
  have HAW := hide (fun w => awake_any w)
  have HR := hide hr
  have HK := hide hk
  by_cases hno : rs.length ≠ 0 ∧ rs.length ≠ cs.length
  · have HS := hide (split_no a b rs.length c cs.length d W hno)
    generalize rs.length = n at *
    generalize cs.length = m at *
    obtain ⟨h1, h2⟩ := hno
    have e1 : 0 < n := by omega
    have e2 : ((n : Int) != (m : Int)) = true := by simp; omega
    have e3 : (n != m) = true := by simpa using h2
    clear hr hk
    go_enter Try.func9, Try.ntmps9
    go_wp2_with (first | (go_at_call 24; refine (unhide HS).mono ?_; rintro e w' ⟨rfl, rfl⟩) | (go_at_call 15; refine (unhide HAW _).mono ?_; rintro e w1 ⟨rfl, hb1⟩))
    go_ret
    exact ⟨rfl, hb1⟩
  · have HS := hide (split_any a b rs.length c cs.length d rs cs W rfl rfl hr hk (by omega) (by omega))
    have HOK := hide (split_ok rs cs)
    have hlen := splitL_len rs cs
    generalize splitL rs cs = ps at *
    have HLN := hide (And.intro (rfl : rs.length = rs.length) (rfl : cs.length = cs.length))
    generalize hn : rs.length = n at *
    generalize hm : cs.length = m at *
    generalize hL : ps.length = L at *
    have HN := hide (And.intro hn (And.intro hm hL))
    clear hr hk hno HLN hn hm hL
    go_enter Try.func9, Try.ntmps9
    go_wp2_with fail
    refine (unhide HS).mono ?_
    rintro e w1 ⟨v, rfl, hrow, hb1⟩
    obtain ⟨pa, pc, rfl⟩ := row_is hrow
    have HROW := hide hrow
    have HB1 := hide hb1
    clear hrow hb1
    go_wp2
    go_loopg [7, 8] L (fun g v7 v8 wx => ∃ i : Nat, i + g = L ∧ v8 = .int .i64 (i : Nat) ∧ v7 = .int .i64 (endN ps i : Nat) ∧ wx = w1)
    case atStart => exact ⟨0, by omega, rfl, rfl, rfl⟩
    case round =>
      obtain ⟨i, hig, rfl, rfl, rfl⟩ := hrel
      by_cases hlt : i < L
      · obtain ⟨p, hp⟩ : ∃ p, ps[i]? = some p := ⟨_, List.getElem?_eq_getElem (by rw [(unhide HN).2.2]; exact hlt)⟩
        have hP := (unhide HOK).1 i p hp
        have hnx := endN_succ ps i p hp
        have hfr : p.1 = endN ps i := hP.fr
        obtain ⟨g, rfl⟩ := row_at (unhide HROW) (by omega)
        have hrow := unhide HROW
        rw [← (unhide HN).2.2] at hrow
        obtain ⟨k1, k2⟩ := pc_cells hrow i p hp
        have hPl := hP.lt
        have hPe := hP.le
        have hPs := hP.sep
        have hPi := hP.inn
        rw [(unhide HN).2.1] at hPe
        rw [(unhide HN).2.2] at hPs
        obtain ⟨f, t⟩ := p
        simp only at k1 k2 hnx hfr hPl hPe hPs hPi
        obtain ⟨t', rfl⟩ : ∃ t', t = t' + 1 := ⟨t - 1, by omega⟩
        rw [Nat.add_sub_cancel] at hPs hPi
        rw [← hfr]
        obtain ⟨gb, off, rfl, cl⟩ := (unhide HK).below (unhide HB1) t' (by rw [(unhide HN).2.1]; omega)
        have HNX := hide hnx
        have HPI := hide hPi
        have HBE := hide (fun j (hj : j < m) => (show wr.cell? ⟨gb, off + j, none⟩ = some (.int .u8 (cA cs j)) from by
          obtain ⟨b2, o2, e2, c2⟩ := (unhide HK).below (unhide HB1) j (by rw [(unhide HN).2.1]; exact hj)
          cases e2; exact c2))
        have d1 : ¬ ((t' : Int) + 1 ≤ (f : Int)) := by omega
        have d2 : ¬ ((m : Int) < (t' : Int) + 1) := by omega
        have HPE := hide hPe
        obtain ⟨G, hG⟩ : ∃ G, G = gk := ⟨_, rfl⟩
        have HG := hide hG
        clear hnx hPi hfr hrow hP hp hPl hG
        by_cases hi1 : i + 1 < L
        · have e11 := hPs hi1
          rw [e11] at cl
          clear hPs
          go_wp2
          go_loopg [9] (t' - f) (fun g v9 wx => ∃ k : Nat, k + g = t' ∧ f ≤ k ∧ v9 = .int .i64 (k : Nat) ∧ wx = wr)
          case atStart => exact ⟨f, by omega, Nat.le_refl _, rfl, rfl⟩
          case round =>
            obtain ⟨k, hkg, hfk, rfl, rfl⟩ := hrel
            by_cases hl2 : k < t'
            · have ck := unhide HBE k (by omega)
              by_cases h11 : cA cs k = 11
              · obtain ⟨q1, q2, q3, q4, q5⟩ := unhide HPI k hfk hl2 h11
                have ht : t' = k + 1 := by omega
                have q6 : ((k : Int) == (t' : Int) + 1 - 2) = true := by simp; omega
                have q7 : ((k : Int) == (t' : Int) - 1) = true := by simp; omega
                obtain ⟨b1, o1, rfl, r1⟩ := (unhide HR).below (unhide HB1) k (by omega)
                obtain ⟨b2, o2, e2, r2⟩ := (unhide HR).below (unhide HB1) (k + 1) (by omega)
                cases e2
                have s1 : rs.getD k 0 = 13 := q4
                have s2 : rs.getD (k + 1) 0 = 10 := q5
                rw [s1] at r1
                rw [s2] at r2
                rw [h11] at ck
                rw [(unhide HN).1] at q2 q3
                have HKG := hide (And.intro hkg (And.intro ht hfk))
                clear hkg hfk ht
                clear q1 q4 q5 s1 s2 h11
                go_wp2
                go_roundg (gk - 1)
                case measure => obtain ⟨z1, z2, z3⟩ := unhide HKG; omega
                case rel => exact ⟨k + 1, by obtain ⟨z1, z2, z3⟩ := unhide HKG; omega, by obtain ⟨z1, z2, z3⟩ := unhide HKG; omega, by go_num, rfl⟩
              · generalize cA cs k = y at *
                have hy : (y == 11) = false := by simpa using h11
                clear h11
                go_wp2
                go_roundg (gk - 1)
                case measure => omega
                case rel => exact ⟨k + 1, by omega, by omega, by go_num, rfl⟩
            · obtain rfl : k = t' := by omega
              go_wp2
              go_roundg (G - 1)
              case measure => have := unhide HG; omega
              case rel => exact ⟨i + 1, by have := unhide HG; omega, by go_num, by rw [unhide HNX]; go_num, rfl⟩
        · clear hPs
          generalize cA cs t' = y at *
          have hL1 : ¬ ((i : Int) + 1 < (L : Int)) := by omega
          cases hy : (y != 11)
          · go_wp2
            go_loopg [9] (t' - f) (fun g v9 wx => ∃ k : Nat, k + g = t' ∧ f ≤ k ∧ v9 = .int .i64 (k : Nat) ∧ wx = wr)
            case atStart => exact ⟨f, by omega, Nat.le_refl _, rfl, rfl⟩
            case round =>
              obtain ⟨k, hkg, hfk, rfl, rfl⟩ := hrel
              by_cases hl2 : k < t'
              · have ck := unhide HBE k (by omega)
                by_cases h11 : cA cs k = 11
                · obtain ⟨q1, q2, q3, q4, q5⟩ := unhide HPI k hfk hl2 h11
                  have ht : t' = k + 1 := by omega
                  have q6 : ((k : Int) == (t' : Int) + 1 - 2) = true := by simp; omega
                  have q7 : ((k : Int) == (t' : Int) - 1) = true := by simp; omega
                  obtain ⟨b1, o1, rfl, r1⟩ := (unhide HR).below (unhide HB1) k (by omega)
                  obtain ⟨b2, o2, e2, r2⟩ := (unhide HR).below (unhide HB1) (k + 1) (by omega)
                  cases e2
                  have s1 : rs.getD k 0 = 13 := q4
                  have s2 : rs.getD (k + 1) 0 = 10 := q5
                  rw [s1] at r1
                  rw [s2] at r2
                  rw [h11] at ck
                  rw [(unhide HN).1] at q2 q3
                  have HKG := hide (And.intro hkg (And.intro ht hfk))
                  clear hkg hfk ht
                  clear q1 q4 q5 s1 s2 h11
                  go_wp2
                  go_roundg (gk - 1)
                  case measure => obtain ⟨z1, z2, z3⟩ := unhide HKG; omega
                  case rel => exact ⟨k + 1, by obtain ⟨z1, z2, z3⟩ := unhide HKG; omega, by obtain ⟨z1, z2, z3⟩ := unhide HKG; omega, by go_num, rfl⟩
                · generalize cA cs k = y at *
                  have hy : (y == 11) = false := by simpa using h11
                  clear h11
                  go_wp2
                  go_roundg (gk - 1)
                  case measure => omega
                  case rel => exact ⟨k + 1, by omega, by omega, by go_num, rfl⟩
              · obtain rfl : k = t' := by omega
                go_wp2
                go_roundg (G - 1)
                case measure => have := unhide HG; omega
                case rel => exact ⟨i + 1, by have := unhide HG; omega, by go_num, by rw [unhide HNX]; go_num, rfl⟩
          · go_wp2
            go_loopg [9] (t' - f) (fun g v9 wx => ∃ k : Nat, k + g = t' ∧ f ≤ k ∧ v9 = .int .i64 (k : Nat) ∧ wx = wr)
            case atStart => exact ⟨f, by omega, Nat.le_refl _, rfl, rfl⟩
            case round =>
              obtain ⟨k, hkg, hfk, rfl, rfl⟩ := hrel
              by_cases hl2 : k < t'
              · have ck := unhide HBE k (by omega)
                by_cases h11 : cA cs k = 11
                · obtain ⟨q1, q2, q3, q4, q5⟩ := unhide HPI k hfk hl2 h11
                  have ht : t' = k + 1 := by omega
                  have q6 : ((k : Int) == (t' : Int) + 1 - 2) = true := by simp; omega
                  have q7 : ((k : Int) == (t' : Int) - 1) = true := by simp; omega
                  obtain ⟨b1, o1, rfl, r1⟩ := (unhide HR).below (unhide HB1) k (by omega)
                  obtain ⟨b2, o2, e2, r2⟩ := (unhide HR).below (unhide HB1) (k + 1) (by omega)
                  cases e2
                  have s1 : rs.getD k 0 = 13 := q4
                  have s2 : rs.getD (k + 1) 0 = 10 := q5
                  rw [s1] at r1
                  rw [s2] at r2
                  rw [h11] at ck
                  rw [(unhide HN).1] at q2 q3
                  have HKG := hide (And.intro hkg (And.intro ht hfk))
                  clear hkg hfk ht
                  clear q1 q4 q5 s1 s2 h11
                  go_wp2
                  go_roundg (gk - 1)
                  case measure => obtain ⟨z1, z2, z3⟩ := unhide HKG; omega
                  case rel => exact ⟨k + 1, by obtain ⟨z1, z2, z3⟩ := unhide HKG; omega, by obtain ⟨z1, z2, z3⟩ := unhide HKG; omega, by go_num, rfl⟩
                · generalize cA cs k = y at *
                  have hy : (y == 11) = false := by simpa using h11
                  clear h11
                  go_wp2
                  go_roundg (gk - 1)
                  case measure => omega
                  case rel => exact ⟨k + 1, by omega, by omega, by go_num, rfl⟩
              · obtain rfl : k = t' := by omega
                go_wp2
                go_roundg (G - 1)
                case measure => have := unhide HG; omega
                case rel => exact ⟨i + 1, by have := unhide HG; omega, by go_num, by rw [unhide HNX]; go_num, rfl⟩
      · obtain rfl : i = L := by omega
        have he : endN ps i = m := by rw [← (unhide HN).2.2, endN_last]; exact (unhide HOK).2
        rw [he]
        have hq : ((m : Int) == (m : Int)) = true := by simp
        clear he
        go_wp2_with (go_at_call 15; refine (unhide HAW _).mono ?_; rintro e w2 ⟨rfl, hb2⟩)
        go_ret
        exact ⟨rfl, (unhide HB1).trans (hb2.mono (unhide HB1).size)⟩

theorem own : ownKnob Try.prog.godebug = none := by kernel_rfl
theorem laidOut : laidOutB Try.prog = true := by kernel_rfl

set_option maxRecDepth 100000 in
theorem contract (H : Type) (enc : TypeId × Value → H) (W : World) (base : Nat) (args : Array Value) (ds gs : List (DataW H)) (before : List MemPlace)
    (hval : ∀ (j : Nat) t v, Try.f9.params[j]? = some t → args[j]? = some v → Value.okWide Try.prog W .any base t v)
    (hW : DataW.Whole enc Try.prog Try.f9.params.toList Rows.parasCutSpec.vars false W args.toList ds gs before) (hk : Rows.uptoSmall H (ds ++ gs) = true) :
    Calls Try.prog 9 args W fun e W' => ∃ v, e = .returned v ∧ Rows.parasCutSpec.post enc Try.prog Try.f9 false true false false W args v W' := by
  have hW' := hW
  obtain ⟨p, q, hA0, hV, rfl, hfz, hnd⟩ := hW
  have hA : DataW.TrodAll enc Try.prog W 0 (fun _ => true) true Try.f9.params.toList args.toList ds p := hA0
  rw [Try.params9] at hA hval
  obtain ⟨v0, vs0, d0, ds0, p0, q0, hargs, rfl, rfl, h0, r0⟩ := trodAll_cons hA
  obtain ⟨v1, vs1, d1, ds1, p1, q1, rfl, rfl, rfl, h1, r1⟩ := trodAll_cons r0
  obtain ⟨rfl, rfl, rfl⟩ := trodAll_nil r1
  obtain rfl : args = #[v0, v1] := by cases args; simp_all
  obtain ⟨rfl, rfl⟩ := trodVars_none hV
  obtain ⟨a0, len0, cap0, rfl⟩ := okWide_slice Try.underlying26 (hval 0 26 v0 rfl rfl)
  have k0 := h0
  have lt0 : ∀ x ∈ p0, x.block < W.heap.size := by obtain ⟨m, hm⟩ := k0; exact DataW.trod_lt m _ _ _ hm
  obtain ⟨a1, len1, cap1, rfl⟩ := okWide_slice Try.underlying29 (hval 1 29 v1 rfl rfl)
  have k1 := h1
  have lt1 : ∀ x ∈ p1, x.block < W.heap.size := by obtain ⟨m, hm⟩ := k1; exact DataW.trod_lt m _ _ _ hm
  have hk' : Rows.uptoSmall H [d0, d1] = true := hk
  have hb := bulk_bound hk'
  simp only [Rows.uptoBulkAll] at hb
  obtain ⟨z0, w0, c0, wf0⟩ : ∃ zs : List Int, ((a0 = none ∧ len0 = 0 ∧ cap0 = 0 ∧ zs = []) ∨ ∃ x, a0 = some x ∧ len0 ≤ cap0 ∧ cap0 ≤ maxLen ∧ zs.length = cap0 ∧ (∀ i, i < zs.length → W.cell? (x.add i) = some (.int .i32 (zs.getD i 0)))) ∧ cap0 ≤ 1048576 ∧ (∀ n ∈ zs, (Lit.int .i32 n).wf = true) := by
    obtain ⟨fuel, hf⟩ := h0
    rcases open_ints Try.underlying26 Try.underlying21 (by kernel_rfl) hf with ⟨hcs, _⟩ | ⟨x, l, c, zs, hcs, _, hl, hm, hz, hx, hcell, hwz⟩
    · simp [Value.cells] at hcs
      obtain ⟨rfl, rfl, rfl⟩ := hcs
      exact ⟨[], .inl ⟨rfl, rfl, rfl, rfl⟩, by omega, by simp⟩
    · simp [Value.cells] at hcs
      obtain ⟨rfl, rfl, rfl⟩ := hcs
      have hz' : zs.length = cap0 := by simpa using hz
      refine ⟨zs, .inr ⟨_, rfl, hl, hm, hz', hcell⟩, ?_, hwz⟩
      have hd : d0 = .slice (lits .i32 (zs.take len0)) (lits .i32 (zs.drop len0)) := by simp only [Prod.mk.injEq] at hx; exact hx.1
      rw [hd] at hb
      have h2 := bulk_slice (H := H) (lits .i32 (zs.take len0)) (lits .i32 (zs.drop len0))
      have e1 : (lits (H := H) .i32 (zs.take len0)).length = (zs.take len0).length := by simp [lits]
      have e2 : (lits (H := H) .i32 (zs.drop len0)).length = (zs.drop len0).length := by simp [lits]
      rw [e1, e2, List.length_take, List.length_drop] at h2
      omega
  have hlc0 : len0 ≤ cap0 := by rcases w0 with ⟨_, h, h', _⟩ | ⟨_, _, h, _⟩ <;> omega
  have hzc0 : z0.length = cap0 := w0.elim (fun ⟨_, _, h, h'⟩ => by rw [h', h]; rfl) (fun ⟨_, _, _, _, h, _⟩ => h)
  have hle0 : (z0.take len0).length = len0 := by rw [List.length_take]; omega
  have hrd0 : Reads W a0 (z0.take len0) := by
    intro i hi
    rw [hle0] at hi
    rcases w0 with ⟨_, h, _⟩ | ⟨x, h1, h2, h3, h4, h5⟩
    · omega
    · obtain ⟨b, off, rfl, hc⟩ := ints_at h5 (by omega)
      refine ⟨b, off, h1, (hc i (by omega)).trans ?_⟩
      simp [List.getD, hi]
  obtain ⟨z1, w1, c1, wf1⟩ : ∃ zs : List Int, ((a1 = none ∧ len1 = 0 ∧ cap1 = 0 ∧ zs = []) ∨ ∃ x, a1 = some x ∧ len1 ≤ cap1 ∧ cap1 ≤ maxLen ∧ zs.length = cap1 ∧ (∀ i, i < zs.length → W.cell? (x.add i) = some (.int .u8 (zs.getD i 0)))) ∧ cap1 ≤ 1048576 ∧ (∀ n ∈ zs, (Lit.int .u8 n).wf = true) := by
    obtain ⟨fuel, hf⟩ := h1
    rcases open_ints Try.underlying29 Try.underlying22 (by kernel_rfl) hf with ⟨hcs, _⟩ | ⟨x, l, c, zs, hcs, _, hl, hm, hz, hx, hcell, hwz⟩
    · simp [Value.cells] at hcs
      obtain ⟨rfl, rfl, rfl⟩ := hcs
      exact ⟨[], .inl ⟨rfl, rfl, rfl, rfl⟩, by omega, by simp⟩
    · simp [Value.cells] at hcs
      obtain ⟨rfl, rfl, rfl⟩ := hcs
      have hz' : zs.length = cap1 := by simpa using hz
      refine ⟨zs, .inr ⟨_, rfl, hl, hm, hz', hcell⟩, ?_, hwz⟩
      have hd : d1 = .slice (lits .u8 (zs.take len1)) (lits .u8 (zs.drop len1)) := by simp only [Prod.mk.injEq] at hx; exact hx.1
      rw [hd] at hb
      have h2 := bulk_slice (H := H) (lits .u8 (zs.take len1)) (lits .u8 (zs.drop len1))
      have e1 : (lits (H := H) .u8 (zs.take len1)).length = (zs.take len1).length := by simp [lits]
      have e2 : (lits (H := H) .u8 (zs.drop len1)).length = (zs.drop len1).length := by simp [lits]
      rw [e1, e2, List.length_take, List.length_drop] at h2
      omega
  have hlc1 : len1 ≤ cap1 := by rcases w1 with ⟨_, h, h', _⟩ | ⟨_, _, h, _⟩ <;> omega
  have hzc1 : z1.length = cap1 := w1.elim (fun ⟨_, _, h, h'⟩ => by rw [h', h]; rfl) (fun ⟨_, _, _, _, h, _⟩ => h)
  have hle1 : (z1.take len1).length = len1 := by rw [List.length_take]; omega
  have hrd1 : ReadsB W a1 (z1.take len1) := by
    intro i hi
    rw [hle1] at hi
    rcases w1 with ⟨_, h, _⟩ | ⟨x, h1, h2, h3, h4, h5⟩
    · omega
    · obtain ⟨b, off, rfl, hc⟩ := ints_at h5 (by omega)
      refine ⟨b, off, h1, (hc i (by omega)).trans ?_⟩
      simp [cA, List.getD, hi]
  have hfi1 : FitsB (z1.take len1) := by
    intro x hx
    exact wf_u8 (wf1 x (List.mem_of_mem_take hx))
  clear hA0
  have hwk := walk a0 (z0.take len0) cap0 a1 (z1.take len1) cap1 W hrd0 (by rw [hle0]; omega) c0 hrd1 hfi1 (by rw [hle1]; omega) c1
  rw [hle0] at hwk
  rw [hle1] at hwk
  refine hwk.mono fun e W' ⟨he, bel⟩ => ?_
  subst he
  exact ⟨_, rfl, _, _, _, [], _, [], hW', trodAll_mk1 (shut_bool Try.underlying4 _), (trodAll_cons_mk (Below.trod laidOut (by kernel_rfl) (of_decide_eq_true (by kernel_rfl)) k0 bel lt0) (trodAll_cons_mk (Below.trod laidOut (by kernel_rfl) (of_decide_eq_true (by kernel_rfl)) k1 bel lt1) trodAll_mk0)), rfl, bel.frame _, fun h => by cases h⟩

set_option maxRecDepth 100000 in
theorem lifted (os : Os) (started : os.Started) (H : Type) (enc : TypeId × Value → H) (F : Stop.Interp) :
    ReturnsInHanded {} Try.checked os 9 .any ((Rows.OpenSpec.upto Rows.parasCutSpec).pre6 enc Try.prog Try.f9 Rows.parasCutUptoRow.domain false) (((Rows.OpenSpec.upto Rows.parasCutSpec).at F).post enc Try.prog Try.f9 false true false false) := by
  refine returnsInHanded_of_cond (C := Try.checked) (s := Rows.OpenSpec.upto Rows.parasCutSpec) (k := Rows.uptoSmall) rfl own started (by kernel_rfl) Try.func9
    (OpenSpec.witness (enc := enc) (C := Try.checked) (s := Rows.OpenSpec.upto Rows.parasCutSpec) (k := Rows.uptoSmall) rfl false ⟨#[], #[.slice none 0 0, .slice none 0 0], []⟩ 8 (by kernel_rfl) (by kernel_rfl) (by kernel_rfl)
      (x := ([.nil, .nil], [], [])) (by kernel_rfl) rfl (by kernel_rfl)) ?_
  intro W base args ds gs before hval hW _ hk _
  exact contract H enc W base args ds gs before hval hW hk

theorem over : Rows.parasCutUptoRow.holds Try.pinned (Rows.OpenSpec.upto Rows.parasCutSpec) :=
  OpenClaim.holds_of_cond 9 Try.f9 rfl rfl rfl rfl rfl rfl rfl ⟨rfl, rfl, rfl, rfl, rfl⟩ rfl rfl rfl rfl rfl (by kernel_rfl) Try.func9 (by kernel_rfl)
    (of_decide_eq_true (by kernel_rfl)) (by unfold Func.isWrapper; first | (rw [if_pos (by decide +kernel)]; kernel_rfl) | (rw [if_neg (by decide +kernel)]; exact ⟨rfl, rfl⟩))
    (fun os started H enc _ F => lifted os started H enc F)

end Go.Proofs.Ytkckkchnmgidgaa.parasCut
namespace Go.Proofs.Ytkckkchnmgidgaa
theorem parasCut_upto : Rows.ParasCutUptoSaid := parasCut.over
end Go.Proofs.Ytkckkchnmgidgaa


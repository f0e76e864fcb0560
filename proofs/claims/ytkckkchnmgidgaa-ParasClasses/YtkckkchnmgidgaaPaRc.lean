/-
  Classes of the document, over props made by hand.
-/
import Derived.Test.YtkckkchnmgidgaaPaC
import Derived.Test.YtkckkchnmgidgaaRegInv
import Derived.LoopIn
import Derived.ControlIn
import Derived.BigFrameIn
import Derived.BigGuardIn
import Derived.BigRegionIn
import Derived.OwnWalkIn
namespace Go.Proofs.Ytkckkchnmgidgaa
open Go.RowKit Go.PlainAid Go.Lib
attribute [local go_sem] Oper.semAt_some
set_option linter.unusedVariables false
set_option linter.unusedSimpArgs false
set_option maxRecDepth 100000
set_option maxHeartbeats 4000000

theorem rClasses_any (rest : Int) (la : Option Addr) (pn lc : Nat) (l : List CharD) (a : Option Addr) (n c : Nat) (rs : List Int) (w : World) (hpl : l.length = pn) (hp : ReadsC w la l) (hpn : pn ≤ 1099511627776) (hl : rs.length = n) (h : Reads w a rs) (hn : n ≤ 1099511627776) :
    Calls Try.prog 18 #[propsV rest la pn lc, .slice a n c] w fun e w' => ∃ v, e = .returned v ∧ w'.ownsRow w.heap.size 22 1 v n (u8l (classesL rest l rs)) ∧ Below w.heap.size w w' := by
  obtain ⟨i0, hi, hz0, hz1, hz2⟩ := info_parts infoClass
  have HA := hide h
  have HLEN := hide hl
  have HCLs := hide (fun (w' : World) (r : Int) (hb : Below w.heap.size w w') => class_any rest la pn lc l r w' hpl (hp.below hb) hpn)
  unfold propsV at *
  obtain ⟨W2, hW2⟩ : ∃ W2, w.alloc (.cells #[.int .u8 rest, .slice la pn lc] 25) = W2 := ⟨_, rfl⟩
  have hb2 : Below w.heap.size w W2 := by rw [← hW2]; exact (Below.refl _ w).alloc (Nat.le_refl _) _
  have b0 : Blk W2 w.heap.size [.int .u8 rest, .slice la pn lc] 25 := by rw [← hW2]; exact Blk.new w [.int .u8 rest, .slice la pn lc] _
  have HW2 := hide hW2
  clear h hl hp hpl hW2
  refine (callsIn_wide (n := 8)).1 ?_
  refine callsIn_of_wp Try.func18 rfl trivial ?_ rfl
  simp only [Try.ntmps18, List.size_toArray, List.length_cons, List.length_nil, Nat.reduceAdd, Nat.reduceSub, Array.replicate_succ, Array.replicate_zero, List.push_toArray, List.append_toArray, List.nil_append, List.cons_append]
  have hF : ∀ f, Fence.wide.fn f := fun _ => trivial
  gi_wp2
  rw [unhide HW2]
  gi_loopw [5, 6] (fun v5 v6 wr => ∃ k : Nat, k ≤ n ∧ v6 = .int .i64 (k : Nat) ∧ wr.ownsRow (w.heap.size + 1) 22 1 v5 k (u8l (classesL rest l (rs.take k))) ∧ Below w.heap.size w wr ∧ Blk wr w.heap.size [.int .u8 rest, .slice la pn lc] 25) (fun _ v6 _ => n - (RowKit.intOf v6).toNat)
  case atStart => exact ⟨0, Nat.zero_le _, rfl, World.ownsRow_nil _ _ _ _, hb2, b0⟩
  case round =>
    obtain ⟨k, hk, rfl, hrow, hBw, hXb⟩ := hrel
    by_cases hlt : k < n
    · obtain ⟨b, off, rfl, c1r⟩ := (unhide HA).below hBw k (by rw [unhide HLEN]; exact hlt)
      obtain ⟨x, hx⟩ : ∃ x, rs.getD k 0 = x := ⟨_, rfl⟩
      rw [hx] at c1r
      have hst : classesL rest l (rs.take (k + 1)) = classesL rest l (rs.take k) ++ [cntC (clsC rest l (knR x))] := by
        have hkl : k < rs.length := by rw [unhide HLEN]; exact hlt
        have : rs[k] = x := by rw [← hx]; simp [List.getD, List.getElem?_eq_getElem hkl]
        unfold classesL
        rw [List.take_succ_eq_append_getElem hkl, List.map_append, this]; rfl
      have HST := hide hst
      obtain ⟨pa, pc, rfl⟩ := row_is hrow
      have HX := hide hXb
      have HROW := hide hrow
      have HBW := hide hBw
      have HRU := hide (fun V => rRune_any x V)
      have HCL := hide (fun V (hB : Below wr.heap.size wr V) => unhide HCLs V (knR x) ((unhide HBW).trans (hB.mono (unhide HBW).size)))
      have HCN := hide (fun V => rClass_any (clsC rest l (knR x)) V)
      have d0 := hXb.cell (j := 0) rfl
      have d1 := hXb.cell (j := 1) rfl
      clear hst hrow hBw hXb
      generalize classesL rest l (rs.take k) = os at *
      generalize knR x = y at *
      generalize clsC rest l y = z at *
      gi_wp2
      obtain ⟨Inv, hInv⟩ : ∃ Inv : (Nat → Bool) → Act → World → Prop, Inv = (fun D a' V => ∃ x13 x14 x15 x16 x17 x18 x19 x20 x21 x22 x23 x5 : Value, a' = { tmps := #[.agg #[.int .u8 rest, .slice la pn lc], .slice (some ⟨b, off, none⟩) n c, .pointer (some ⟨w.heap.size, 0, none⟩), undef, .slice none 0 0, x5, .int .i64 (k : Nat), .int .i64 (k : Nat), .slice (some ⟨b, off, none⟩) n c, .int .i64 (n : Nat), .bool true, u11, u12, x13, x14, x15, x16, x17, x18, x19, x20, x21, x22, x23, undef], defers := [] } ∧ (D 0 = true → x13 = .slice pa k pc) ∧ (D 1 = true → x14 = .agg #[.int .u8 rest, .slice la pn lc]) ∧ (D 2 = true → x15 = .slice (some ⟨b, off, none⟩) n c) ∧ (D 3 = true → x16 = .int .i64 (k : Nat)) ∧ (D 4 = true → x17 = .pointer (some ⟨b, off + k, none⟩)) ∧ (D 5 = true → x18 = .int .i32 x) ∧ (D 6 = true → x19 = .int .i32 y) ∧ (D 7 = true → x20 = .int .u8 z) ∧ (D 8 = true → x21 = .int .u8 (cntC z)) ∧ (D 10 = false → Below wr.heap.size wr V ∧ (D 9 = true → ∃ g, x22 = .slice (some ⟨g, 0, none⟩) 1 1 ∧ V.cell? ⟨g, 0, none⟩ = some (.int .u8 (cntC z)))) ∧ (D 10 = true → (∃ a3 c3, x23 = .slice a3 (k + 1) c3) ∧ V.ownsRow (w.heap.size + 1) 22 1 x23 (k + 1) (u8l (os ++ [cntC z])) ∧ Below w.heap.size w V ∧ Blk V w.heap.size [.int .u8 rest, .slice la pn lc] 25) ∧ (D 11 = false → x5 = .slice pa k pc) ∧ (D 11 = true → x5 = x23)) := ⟨_, rfl⟩
      have HInv := hide hInv
      clear hInv
      refine RegInv.region Inv (by kernel_rfl) (by kernel_rfl) (by kernel_rfl) ?h0 ?hs ?he
      case h0 =>
        rw [unhide HInv]
        exact ⟨_, _, _, _, _, _, _, _, _, _, _, _, rfl, (fun h => (by cases h)), (fun h => (by cases h)), (fun h => (by cases h)), (fun h => (by cases h)), (fun h => (by cases h)), (fun h => (by cases h)), (fun h => (by cases h)), (fun h => (by cases h)), (fun h => (by cases h)), fun _ => ⟨⟨rfl, rfl, rfl, Nat.le_refl _, fun _ _ => rfl⟩, fun h => (by cases h)⟩, fun h => (by cases h), fun _ => rfl, fun h => (by cases h)⟩
      case hs =>
        refine ⟨?o0, ?o1, ?o2, ?o3, ?o4, ?o5, ?o6, ?o7, ?o8, ?o9, ?o10, ?o11, trivial⟩
        case o0 =>
          rintro D a' V hn hd hdn hI
          rw [unhide HInv] at hI
          obtain ⟨x13, x14, x15, x16, x17, x18, x19, x20, x21, x22, x23, x5, rfl, c0, c1, c2, c3, c4, c5, c6, c7, c8, cw, cr, cf, ct⟩ := hI
          have h11 : D 11 = false := by
            cases h : D 11 with
            | false => rfl
            | true => exact absurd (hdn 11 _ rfl h 0 (by decide)) (by rw [hn]; decide)
          have h10 : D 10 = false := by
            cases h : D 10 with
            | false => rfl
            | true =>
              have h100 := hdn 10 _ rfl h 0 (by decide)
              exact absurd h100 (by rw [hn]; decide)
          obtain ⟨hB, h9⟩ := cw h10
          have hf := cf h11
          subst hf
          gi_wp2
          show Inv _ _ _
          rw [unhide HInv]
          exact ⟨_, _, _, _, _, _, _, _, _, _, _, _, rfl, fun _ => rfl, fun h => c1 (by simpa using h), fun h => c2 (by simpa using h), fun h => c3 (by simpa using h), fun h => c4 (by simpa using h), fun h => c5 (by simpa using h), fun h => c6 (by simpa using h), fun h => c7 (by simpa using h), fun h => c8 (by simpa using h), fun _ => ⟨hB, fun h => h9 (by simpa using h)⟩, fun h => (by simp [h10] at h), fun _ => rfl, fun h => (by simp [h11] at h)⟩
        case o1 =>
          rintro D a' V hn hd hdn hI
          rw [unhide HInv] at hI
          obtain ⟨x13, x14, x15, x16, x17, x18, x19, x20, x21, x22, x23, x5, rfl, c0, c1, c2, c3, c4, c5, c6, c7, c8, cw, cr, cf, ct⟩ := hI
          have h11 : D 11 = false := by
            cases h : D 11 with
            | false => rfl
            | true => exact absurd (hdn 11 _ rfl h 1 (by decide)) (by rw [hn]; decide)
          have h10 : D 10 = false := by
            cases h : D 10 with
            | false => rfl
            | true =>
              have h109 := hdn 10 _ rfl h 9 (by decide)
              have h98 := hdn 9 _ rfl h109 8 (by decide)
              have h87 := hdn 8 _ rfl h98 7 (by decide)
              have h71 := hdn 7 _ rfl h87 1 (by decide)
              exact absurd h71 (by rw [hn]; decide)
          obtain ⟨hB, h9⟩ := cw h10
          have hf := cf h11
          subst hf
          have hX := (unhide HX).below hB
          have e0 := hX.cell (j := 0) rfl
          have e1 := hX.cell (j := 1) rfl
          clear hX
          gi_wp2
          show Inv _ _ _
          rw [unhide HInv]
          exact ⟨_, _, _, _, _, _, _, _, _, _, _, _, rfl, fun h => c0 (by simpa using h), fun _ => rfl, fun h => c2 (by simpa using h), fun h => c3 (by simpa using h), fun h => c4 (by simpa using h), fun h => c5 (by simpa using h), fun h => c6 (by simpa using h), fun h => c7 (by simpa using h), fun h => c8 (by simpa using h), fun _ => ⟨hB, fun h => h9 (by simpa using h)⟩, fun h => (by simp [h10] at h), fun _ => rfl, fun h => (by simp [h11] at h)⟩
        case o2 =>
          rintro D a' V hn hd hdn hI
          rw [unhide HInv] at hI
          obtain ⟨x13, x14, x15, x16, x17, x18, x19, x20, x21, x22, x23, x5, rfl, c0, c1, c2, c3, c4, c5, c6, c7, c8, cw, cr, cf, ct⟩ := hI
          have h11 : D 11 = false := by
            cases h : D 11 with
            | false => rfl
            | true => exact absurd (hdn 11 _ rfl h 2 (by decide)) (by rw [hn]; decide)
          have h10 : D 10 = false := by
            cases h : D 10 with
            | false => rfl
            | true =>
              have h109 := hdn 10 _ rfl h 9 (by decide)
              have h98 := hdn 9 _ rfl h109 8 (by decide)
              have h87 := hdn 8 _ rfl h98 7 (by decide)
              have h76 := hdn 7 _ rfl h87 6 (by decide)
              have h65 := hdn 6 _ rfl h76 5 (by decide)
              have h54 := hdn 5 _ rfl h65 4 (by decide)
              have h42 := hdn 4 _ rfl h54 2 (by decide)
              exact absurd h42 (by rw [hn]; decide)
          obtain ⟨hB, h9⟩ := cw h10
          have hf := cf h11
          subst hf
          gi_wp2
          show Inv _ _ _
          rw [unhide HInv]
          exact ⟨_, _, _, _, _, _, _, _, _, _, _, _, rfl, fun h => c0 (by simpa using h), fun h => c1 (by simpa using h), fun _ => rfl, fun h => c3 (by simpa using h), fun h => c4 (by simpa using h), fun h => c5 (by simpa using h), fun h => c6 (by simpa using h), fun h => c7 (by simpa using h), fun h => c8 (by simpa using h), fun _ => ⟨hB, fun h => h9 (by simpa using h)⟩, fun h => (by simp [h10] at h), fun _ => rfl, fun h => (by simp [h11] at h)⟩
        case o3 =>
          rintro D a' V hn hd hdn hI
          rw [unhide HInv] at hI
          obtain ⟨x13, x14, x15, x16, x17, x18, x19, x20, x21, x22, x23, x5, rfl, c0, c1, c2, c3, c4, c5, c6, c7, c8, cw, cr, cf, ct⟩ := hI
          have h11 : D 11 = false := by
            cases h : D 11 with
            | false => rfl
            | true => exact absurd (hdn 11 _ rfl h 3 (by decide)) (by rw [hn]; decide)
          have h10 : D 10 = false := by
            cases h : D 10 with
            | false => rfl
            | true =>
              have h109 := hdn 10 _ rfl h 9 (by decide)
              have h98 := hdn 9 _ rfl h109 8 (by decide)
              have h87 := hdn 8 _ rfl h98 7 (by decide)
              have h76 := hdn 7 _ rfl h87 6 (by decide)
              have h65 := hdn 6 _ rfl h76 5 (by decide)
              have h54 := hdn 5 _ rfl h65 4 (by decide)
              have h43 := hdn 4 _ rfl h54 3 (by decide)
              exact absurd h43 (by rw [hn]; decide)
          obtain ⟨hB, h9⟩ := cw h10
          have hf := cf h11
          subst hf
          gi_wp2
          show Inv _ _ _
          rw [unhide HInv]
          exact ⟨_, _, _, _, _, _, _, _, _, _, _, _, rfl, fun h => c0 (by simpa using h), fun h => c1 (by simpa using h), fun h => c2 (by simpa using h), fun _ => rfl, fun h => c4 (by simpa using h), fun h => c5 (by simpa using h), fun h => c6 (by simpa using h), fun h => c7 (by simpa using h), fun h => c8 (by simpa using h), fun _ => ⟨hB, fun h => h9 (by simpa using h)⟩, fun h => (by simp [h10] at h), fun _ => rfl, fun h => (by simp [h11] at h)⟩
        case o4 =>
          rintro D a' V hn hd hdn hI
          rw [unhide HInv] at hI
          obtain ⟨x13, x14, x15, x16, x17, x18, x19, x20, x21, x22, x23, x5, rfl, c0, c1, c2, c3, c4, c5, c6, c7, c8, cw, cr, cf, ct⟩ := hI
          have h11 : D 11 = false := by
            cases h : D 11 with
            | false => rfl
            | true => exact absurd (hdn 11 _ rfl h 4 (by decide)) (by rw [hn]; decide)
          have h10 : D 10 = false := by
            cases h : D 10 with
            | false => rfl
            | true =>
              have h109 := hdn 10 _ rfl h 9 (by decide)
              have h98 := hdn 9 _ rfl h109 8 (by decide)
              have h87 := hdn 8 _ rfl h98 7 (by decide)
              have h76 := hdn 7 _ rfl h87 6 (by decide)
              have h65 := hdn 6 _ rfl h76 5 (by decide)
              have h54 := hdn 5 _ rfl h65 4 (by decide)
              exact absurd h54 (by rw [hn]; decide)
          obtain ⟨hB, h9⟩ := cw h10
          have hf := cf h11
          subst hf
          obtain rfl := c2 (hd 2 (by decide))
          obtain rfl := c3 (hd 3 (by decide))
          gi_wp2
          show Inv _ _ _
          rw [unhide HInv]
          exact ⟨_, _, _, _, _, _, _, _, _, _, _, _, rfl, fun h => c0 (by simpa using h), fun h => c1 (by simpa using h), fun _ => rfl, fun _ => rfl, fun _ => rfl, fun h => c5 (by simpa using h), fun h => c6 (by simpa using h), fun h => c7 (by simpa using h), fun h => c8 (by simpa using h), fun _ => ⟨hB, fun h => h9 (by simpa using h)⟩, fun h => (by simp [h10] at h), fun _ => rfl, fun h => (by simp [h11] at h)⟩
        case o5 =>
          rintro D a' V hn hd hdn hI
          rw [unhide HInv] at hI
          obtain ⟨x13, x14, x15, x16, x17, x18, x19, x20, x21, x22, x23, x5, rfl, c0, c1, c2, c3, c4, c5, c6, c7, c8, cw, cr, cf, ct⟩ := hI
          have h11 : D 11 = false := by
            cases h : D 11 with
            | false => rfl
            | true => exact absurd (hdn 11 _ rfl h 5 (by decide)) (by rw [hn]; decide)
          have h10 : D 10 = false := by
            cases h : D 10 with
            | false => rfl
            | true =>
              have h109 := hdn 10 _ rfl h 9 (by decide)
              have h98 := hdn 9 _ rfl h109 8 (by decide)
              have h87 := hdn 8 _ rfl h98 7 (by decide)
              have h76 := hdn 7 _ rfl h87 6 (by decide)
              have h65 := hdn 6 _ rfl h76 5 (by decide)
              exact absurd h65 (by rw [hn]; decide)
          obtain ⟨hB, h9⟩ := cw h10
          have hf := cf h11
          subst hf
          obtain rfl := c4 (hd 4 (by decide))
          have ce := (hB.cell (p := ⟨b, off + k, none⟩) (World.block_lt_of_cell? wr _ c1r)).trans c1r
          gi_wp2
          show Inv _ _ _
          rw [unhide HInv]
          exact ⟨_, _, _, _, _, _, _, _, _, _, _, _, rfl, fun h => c0 (by simpa using h), fun h => c1 (by simpa using h), fun h => c2 (by simpa using h), fun h => c3 (by simpa using h), fun _ => rfl, fun _ => rfl, fun h => c6 (by simpa using h), fun h => c7 (by simpa using h), fun h => c8 (by simpa using h), fun _ => ⟨hB, fun h => h9 (by simpa using h)⟩, fun h => (by simp [h10] at h), fun _ => rfl, fun h => (by simp [h11] at h)⟩
        case o6 =>
          rintro D a' V hn hd hdn hI
          rw [unhide HInv] at hI
          obtain ⟨x13, x14, x15, x16, x17, x18, x19, x20, x21, x22, x23, x5, rfl, c0, c1, c2, c3, c4, c5, c6, c7, c8, cw, cr, cf, ct⟩ := hI
          have h11 : D 11 = false := by
            cases h : D 11 with
            | false => rfl
            | true => exact absurd (hdn 11 _ rfl h 6 (by decide)) (by rw [hn]; decide)
          have h10 : D 10 = false := by
            cases h : D 10 with
            | false => rfl
            | true =>
              have h109 := hdn 10 _ rfl h 9 (by decide)
              have h98 := hdn 9 _ rfl h109 8 (by decide)
              have h87 := hdn 8 _ rfl h98 7 (by decide)
              have h76 := hdn 7 _ rfl h87 6 (by decide)
              exact absurd h76 (by rw [hn]; decide)
          obtain ⟨hB, h9⟩ := cw h10
          have hf := cf h11
          subst hf
          obtain rfl := c5 (hd 5 (by decide))
          gi_wp2_with (gi_at_call 44; with_reducible refine CallsIn.mono (callsIn_wide.2 (unhide HRU V)) ?_; rintro e w4 ⟨rfl, rfl⟩)
          show Inv _ _ _
          rw [unhide HInv]
          exact ⟨_, _, _, _, _, _, _, _, _, _, _, _, rfl, fun h => c0 (by simpa using h), fun h => c1 (by simpa using h), fun h => c2 (by simpa using h), fun h => c3 (by simpa using h), fun h => c4 (by simpa using h), fun _ => rfl, fun _ => rfl, fun h => c7 (by simpa using h), fun h => c8 (by simpa using h), fun _ => ⟨hB, fun h => h9 (by simpa using h)⟩, fun h => (by simp [h10] at h), fun _ => rfl, fun h => (by simp [h11] at h)⟩
        case o7 =>
          rintro D a' V hn hd hdn hI
          rw [unhide HInv] at hI
          obtain ⟨x13, x14, x15, x16, x17, x18, x19, x20, x21, x22, x23, x5, rfl, c0, c1, c2, c3, c4, c5, c6, c7, c8, cw, cr, cf, ct⟩ := hI
          have h11 : D 11 = false := by
            cases h : D 11 with
            | false => rfl
            | true => exact absurd (hdn 11 _ rfl h 7 (by decide)) (by rw [hn]; decide)
          have h10 : D 10 = false := by
            cases h : D 10 with
            | false => rfl
            | true =>
              have h109 := hdn 10 _ rfl h 9 (by decide)
              have h98 := hdn 9 _ rfl h109 8 (by decide)
              have h87 := hdn 8 _ rfl h98 7 (by decide)
              exact absurd h87 (by rw [hn]; decide)
          obtain ⟨hB, h9⟩ := cw h10
          have hn9 : D 9 = false := by
            cases h : D 9 with
            | false => rfl
            | true => exact absurd (hdn 8 _ rfl (hdn 9 _ rfl h 8 (by decide)) 7 (by decide)) (by rw [hn]; decide)
          have hf := cf h11
          subst hf
          obtain rfl := c1 (hd 1 (by decide))
          obtain rfl := c6 (hd 6 (by decide))
          gi_wp2_with (gi_at_call 39; with_reducible refine CallsIn.mono (callsIn_wide.2 (unhide HCL V hB)) ?_; rintro e w4 ⟨rfl, hb4⟩)
          show Inv _ _ _
          rw [unhide HInv]
          exact ⟨_, _, _, _, _, _, _, _, _, _, _, _, rfl, fun h => c0 (by simpa using h), fun _ => rfl, fun h => c2 (by simpa using h), fun h => c3 (by simpa using h), fun h => c4 (by simpa using h), fun h => c5 (by simpa using h), fun _ => rfl, fun _ => rfl, fun h => c8 (by simpa using h), fun _ => ⟨hB.trans (hb4.mono hB.size), fun h => (by simp [hn9] at h)⟩, fun h => (by simp [h10] at h), fun _ => rfl, fun h => (by simp [h11] at h)⟩
        case o8 =>
          rintro D a' V hn hd hdn hI
          rw [unhide HInv] at hI
          obtain ⟨x13, x14, x15, x16, x17, x18, x19, x20, x21, x22, x23, x5, rfl, c0, c1, c2, c3, c4, c5, c6, c7, c8, cw, cr, cf, ct⟩ := hI
          have h11 : D 11 = false := by
            cases h : D 11 with
            | false => rfl
            | true => exact absurd (hdn 11 _ rfl h 8 (by decide)) (by rw [hn]; decide)
          have h10 : D 10 = false := by
            cases h : D 10 with
            | false => rfl
            | true =>
              have h109 := hdn 10 _ rfl h 9 (by decide)
              have h98 := hdn 9 _ rfl h109 8 (by decide)
              exact absurd h98 (by rw [hn]; decide)
          obtain ⟨hB, h9⟩ := cw h10
          have hf := cf h11
          subst hf
          obtain rfl := c7 (hd 7 (by decide))
          gi_wp2_with (gi_at_call 38; with_reducible refine CallsIn.mono (callsIn_wide.2 (unhide HCN V)) ?_; rintro e w4 ⟨rfl, rfl⟩)
          show Inv _ _ _
          rw [unhide HInv]
          exact ⟨_, _, _, _, _, _, _, _, _, _, _, _, rfl, fun h => c0 (by simpa using h), fun h => c1 (by simpa using h), fun h => c2 (by simpa using h), fun h => c3 (by simpa using h), fun h => c4 (by simpa using h), fun h => c5 (by simpa using h), fun h => c6 (by simpa using h), fun _ => rfl, fun _ => rfl, fun _ => ⟨hB, fun h => h9 (by simpa using h)⟩, fun h => (by simp [h10] at h), fun _ => rfl, fun h => (by simp [h11] at h)⟩
        case o9 =>
          rintro D a' V hn hd hdn hI
          rw [unhide HInv] at hI
          obtain ⟨x13, x14, x15, x16, x17, x18, x19, x20, x21, x22, x23, x5, rfl, c0, c1, c2, c3, c4, c5, c6, c7, c8, cw, cr, cf, ct⟩ := hI
          have h11 : D 11 = false := by
            cases h : D 11 with
            | false => rfl
            | true => exact absurd (hdn 11 _ rfl h 9 (by decide)) (by rw [hn]; decide)
          have h10 : D 10 = false := by
            cases h : D 10 with
            | false => rfl
            | true =>
              have h109 := hdn 10 _ rfl h 9 (by decide)
              exact absurd h109 (by rw [hn]; decide)
          obtain ⟨hB, h9⟩ := cw h10
          have hf := cf h11
          subst hf
          obtain rfl := c8 (hd 8 (by decide))
          gi_wp2
          show Inv _ _ _
          rw [unhide HInv]
          exact ⟨_, _, _, _, _, _, _, _, _, _, _, _, rfl, fun h => c0 (by simpa using h), fun h => c1 (by simpa using h), fun h => c2 (by simpa using h), fun h => c3 (by simpa using h), fun h => c4 (by simpa using h), fun h => c5 (by simpa using h), fun h => c6 (by simpa using h), fun h => c7 (by simpa using h), fun _ => rfl, fun _ => ⟨hB.alloc hB.size _, fun _ => ⟨V.heap.size, rfl, (Blk.new V [.int .u8 (cntC z)] 22).cell (j := 0) rfl⟩⟩, fun h => (by simp [h10] at h), fun _ => rfl, fun h => (by simp [h11] at h)⟩
        case o10 =>
          rintro D a' V hn hd hdn hI
          rw [unhide HInv] at hI
          obtain ⟨x13, x14, x15, x16, x17, x18, x19, x20, x21, x22, x23, x5, rfl, c0, c1, c2, c3, c4, c5, c6, c7, c8, cw, cr, cf, ct⟩ := hI
          have h11 : D 11 = false := by
            cases h : D 11 with
            | false => rfl
            | true => exact absurd (hdn 11 _ rfl h 10 (by decide)) (by rw [hn]; decide)
          have hf := cf h11
          subst hf
          obtain ⟨hB, h9⟩ := cw hn
          obtain ⟨g, rfl, cg⟩ := h9 (hd 9 (by decide))
          obtain rfl := c0 (hd 0 (by decide))
          have hrv := rowBelow (unhide HROW) hB
          have hXv := (unhide HX).below hB
          have hsz : w.heap.size + 1 ≤ V.heap.size := hXv.lt
          gi_wp2_with (gi_at_builtin; refine wpListIn_append_own _ rfl _ _ 29 rfl (w.heap.size + 1) 22 i0 (.int .u8 0) 1 1 Try.underlying29 hi hz0 hz1 hz2 rfl (by decide) (.slice pa k pc) k (u8l os) rfl hrv ⟨g, 0, none⟩ 1 1 [.int .u8 (cntC z)] rfl rfl (fun j u hu => by cases j with | zero => (have : u = .int .u8 (cntC z) := by simpa using hu.symm); subst this; exact cg | succ j => simp at hu) (by simp [Value.oneCell']) (by unfold maxLen; omega) (by omega) hsz ?_; intro v6 w6 hown6 hgrow6 _; obtain ⟨gg6, cc6, rfl⟩ := ownsRow_succ hown6; have HO := hide (And.intro hown6 hgrow6); clear hown6 hgrow6)
          show Inv _ _ _
          rw [unhide HInv]
          exact ⟨_, _, _, _, _, _, _, _, _, _, _, _, rfl, fun _ => rfl, fun h => c1 (by simpa using h), fun h => c2 (by simpa using h), fun h => c3 (by simpa using h), fun h => c4 (by simpa using h), fun h => c5 (by simpa using h), fun h => c6 (by simpa using h), fun h => c7 (by simpa using h), fun h => c8 (by simpa using h), fun h => (by simp at h), fun _ => ⟨⟨_, _, rfl⟩, by have := (unhide HO).1; simpa using this, ((unhide HBW).trans (hB.mono (unhide HBW).size)).trans ((belowGrown (Below.refl _ V) hsz hrv (unhide HO).2).mono (Nat.le_succ _)), (belowGrown (Below.refl _ V) hsz hrv (unhide HO).2).block _ (Nat.lt_succ_self _) |>.trans hXv⟩, fun _ => rfl, fun h => (by simp [h11] at h)⟩
        case o11 =>
          rintro D a' V hn hd hdn hI
          rw [unhide HInv] at hI
          obtain ⟨x13, x14, x15, x16, x17, x18, x19, x20, x21, x22, x23, x5, rfl, c0, c1, c2, c3, c4, c5, c6, c7, c8, cw, cr, cf, ct⟩ := hI
          gi_wp2
          show Inv _ _ _
          rw [unhide HInv]
          exact ⟨_, _, _, _, _, _, _, _, _, _, _, _, rfl, fun h => c0 (by simpa using h), fun h => c1 (by simpa using h), fun h => c2 (by simpa using h), fun h => c3 (by simpa using h), fun h => c4 (by simpa using h), fun h => c5 (by simpa using h), fun h => c6 (by simpa using h), fun h => c7 (by simpa using h), fun h => c8 (by simpa using h), fun h => cw (by simpa using h), fun h => cr (by simpa using h), fun h => (by simp at h), fun _ => rfl⟩
      case he =>
        intro D a' V hall hI
        rw [unhide HInv] at hI
        obtain ⟨x13, x14, x15, x16, x17, x18, x19, x20, x21, x22, x23, x5, rfl, c0, c1, c2, c3, c4, c5, c6, c7, c8, cw, cr, cf, ct⟩ := hI
        obtain ⟨⟨a3, cc3, rfl⟩, hr3, hb3, hx3⟩ := cr (hall 10 (by decide))
        obtain rfl := ct (hall 11 (by decide))
        have HR3 := hide hr3
        have HB3 := hide hb3
        have HX3 := hide hx3
        clear c0 c1 c2 c3 c4 c5 c6 c7 c8 cw cr cf ct hr3 hb3 hx3 HInv
        gi_wp2
        go_roundw
        case rel => exact ⟨k + 1, by omega, by go_num, by rw [unhide HST]; exact unhide HR3, unhide HB3, unhide HX3⟩
        case measure => simp [RowKit.intOf]; omega
    · obtain rfl : k = n := by omega
      have HR3 := hide hrow
      have HB3 := hide hBw
      have ht : rs.take k = rs := by rw [List.take_of_length_le (by rw [unhide HLEN]; omega)]
      have HT := hide ht
      clear hrow hBw hXb ht
      gi_wp2
      go_ret
      exact ⟨_, rfl, by rw [unhide HT] at HR3; exact row_mono (unhide HR3) (Nat.le_succ _), unhide HB3⟩
end Go.Proofs.Ytkckkchnmgidgaa

/-
  The document's Where (furrowref03), for every text and every place in it.
-/
import Derived.Test.YtlaennakglhmjaaDoorRWhM
import Derived.Test.YtlaennakglhmjaaDoorREnds
namespace Go.Proofs.YtlaennakglhmjaaDoor
open Go.RowKit Go.PlainAid Go.Lib Go.Shelf
set_option linter.unusedVariables false

theorem CharsAt.below {w w' : World} {s : ByteArray} {a : Option Addr} {l : List Nat} (h : CharsAt w s a l) (hb : Below w.heap.size w w') : CharsAt w' s a l := by
  intro i x hx
  obtain ⟨g, h1, h2, h3, h4, h5⟩ := h i x hx
  have hlt : g < w.heap.size := by
    refine Decidable.byContradiction fun hn => ?_
    have : w.heap[g]? = none := Array.getElem?_eq_none (by omega)
    simp [World.cell?, this] at h2
  exact ⟨g, h1, (hb.cell (p := ⟨g, i * 4, none⟩) hlt).trans h2, (hb.cell (p := ⟨g, i * 4 + 1, none⟩) hlt).trans h3, (hb.cell (p := ⟨g, i * 4 + 2, none⟩) hlt).trans h4, (hb.cell (p := ⟨g, i * 4 + 3, none⟩) hlt).trans h5⟩
theorem box3 {W : World} {b : Nat} {x y z : Value} {t : TypeId} (h : W.heap[b]? = some (.cells #[x, y, z] t)) : W.cell? ⟨b, 0, none⟩ = some x ∧ W.cell? ⟨b, 1, none⟩ = some y ∧ W.cell? ⟨b, 2, none⟩ = some z := by
  refine ⟨?_, ?_, ?_⟩ <;> simp [World.cell?, h]

set_option maxRecDepth 100000 in
set_option maxHeartbeats 4000000 in
theorem refWhere_any (s : ByteArray) (b : Int) (w : World) (hs : s.size ≤ 1099511627776) (hb0 : 0 ≤ b) (hb1 : b ≤ (s.size : Int)) :
    Calls Tryd.prog 28 #[.string s, .int .i64 b] w fun e w' => e = .returned (.tuple #[.int .i64 ((whereE s b).1 : Nat), .int .i64 (whereC s b : Nat)]) ∧ Below w.heap.size w w' := by
  have d1 : decide (b < 0) = false := decide_eq_false (by omega)
  have d2 : decide ((s.size : Int) < b) = false := decide_eq_false (by omega)
  have d2' : ¬ (s.size : Int) < b := by omega
  have HEN := hide (fun w => refEnds_any s w hs)
  have HCI := hide (cntE_iff s b)
  have hcp := cntE_pos s b
  have hwa := whereE_at s b
  have hme := exts_mem s _ (whereE_mem s b)
  have hxl := exts_len s
  have HCC := hide (whereC_eq s b)
  rw [hwa.2]
  have HC2 := hide (fun (m : Nat) (x : Nat × Nat) => cntC_iff s (whereE s b).2.1 (whereE s b).2.2 b hme.1 hme.2.1 m x)
  have hc2p := cntC_pos s (whereE s b).2.1 (whereE s b).2.2 b hme.1 hme.2.1
  have HCN := hide (fun (k x : Nat) => cols_next s (whereE s b).2.1 (whereE s b).2.2 k x hme.1 hme.2.1)
  have hxs : (s.extract (whereE s b).2.1 (whereE s b).2.2).size = (whereE s b).2.2 - (whereE s b).2.1 := by rw [← L_len, L_extract, List.length_take, List.length_drop, L_len]; omega
  have hpl := plF_len (s.extract (whereE s b).2.1 (whereE s b).2.2)
  have HCH := hide (fun w => refChars_any (s.extract (whereE s b).2.1 (whereE s b).2.2) w (by omega))
  have HAT := hide hwa.1
  clear hwa
  rw [whereC_eq]
  generalize cntE s b = K at *
  generalize whereE s b = E at *
  obtain ⟨EX, EF, ET⟩ := E
  simp only [] at hme HC2 hc2p HCN hxs hpl HCH ⊢
  generalize cntC s EF ET b = KC at *
  obtain ⟨N, hN⟩ : ∃ N, (extsL s).length = N := ⟨_, rfl⟩
  rw [hN] at hcp hxl
  go_enter Tryd.func28, Tryd.ntmps28
  go_wp2_with fail
  refine (unhide HEN _).mono ?_
  rintro e w1 ⟨v, rfl, hrow, hbl1⟩
  obtain ⟨a, c, rfl, hat⟩ := pi_row hrow
  rw [hN]
  have HPA := hide hat
  have HN := hide hN
  clear hat hrow hN
  go_wp2
  go_loopw [7, 8] (fun v7 v8 wr => ∃ i no : Nat, v8 = .int .i64 (i : Nat) ∧ v7 = .int .i64 (no : Nat) ∧ i ≤ N ∧ (i = 0 ∧ no = 0 ∨ 1 ≤ i ∧ no + 1 = min i K) ∧ wr = w1) (fun _ v8 _ => N - (RowKit.intOf v8).toNat)
  case atStart => exact ⟨0, 0, rfl, rfl, Nat.zero_le _, .inl ⟨rfl, rfl⟩, rfl⟩
  case round =>
    obtain ⟨i, no, rfl, rfl, hi, hinv, hw1⟩ := hrel
    subst hw1
    by_cases hlt : i < N
    · obtain ⟨x, hx⟩ : ∃ x, (extsL s)[i]? = some x := ⟨_, List.getElem?_eq_getElem (by rw [unhide HN]; exact hlt)⟩
      obtain ⟨g, rfl, p0, _, _⟩ := unhide HPA i x hx
      have hif := unhide HCI i x hx
      generalize x.2.1 = F at *
      clear hx
      by_cases h0 : i = 0
      · subst h0
        have dz : (((0 : Nat) : Int) == 0) = true := by simp
        have hK : 0 < K := hif.1 (.inl rfl)
        go_wp2
        go_roundw
        case rel => exact ⟨1, 0, by simp, by simp, by omega, .inr ⟨by omega, by omega⟩, trivial⟩
        case measure => simp [RowKit.intOf]; omega
      · have dz : ((i : Int) == 0) = false := by simp; omega
        by_cases hF : (F : Int) ≤ b
        · have dF : decide ((F : Int) ≤ b) = true := decide_eq_true hF
          have hK : i < K := hif.1 (.inr hF)
          go_wp2
          go_roundw
          case rel => exact ⟨i + 1, i, by go_num, rfl, by omega, .inr ⟨by omega, by omega⟩, trivial⟩
          case measure => simp [RowKit.intOf]; omega
        · have dF : decide ((F : Int) ≤ b) = false := decide_eq_false hF
          have hK : ¬ i < K := fun h => by rcases hif.2 h with k | k; exact h0 k; exact hF k
          go_wp2
          go_roundw
          case rel => exact ⟨i + 1, no, by go_num, rfl, by omega, .inr ⟨by omega, by omega⟩, trivial⟩
          case measure => simp [RowKit.intOf]; omega
    · obtain rfl : i = N := by omega
      obtain rfl : no = K - 1 := by omega
      obtain ⟨g, rfl, p0, p1, p2⟩ := unhide HPA (K - 1) _ (unhide HAT)
      simp only [] at p0 p1 p2
      generalize endNext s EF = NX at *
      have hEl : (EF : Int) ≤ (ET : Int) := by omega
      have hEs : (ET : Int) ≤ (s.size : Int) := by omega
      have hKi : (K - 1 : Nat) < i := by omega
      obtain ⟨J, hJ⟩ : ∃ J, K - 1 = J := ⟨_, rfl⟩
      rw [hJ] at p0 p1 p2 hKi
      rw [hJ]
      have hKJ : K = J + 1 := by omega
      subst hKJ
      clear hJ hinv
      obtain ⟨X, hX⟩ : ∃ X, s.extract EF ET = X := ⟨_, rfl⟩
      rw [hX] at hxs hpl HCH HCN hc2p
      go_wp2_with fail
      refine (unhide HCH _).mono ?_
      rintro e w2 ⟨vc, rfl, hrowc, hb2⟩
      have hbx : w2.heap[wr.heap.size]? = some (.cells #[.int .i64 (EF : Nat), .int .i64 (ET : Nat), .int .i64 (NX : Nat)] 61) := (hb2.block _ (by simp)).trans (heap_alloc_new wr _)
      have hBw : Below w.heap.size w w2 := (hbl1.alloc hbl1.size _).trans (hb2.mono (by have := hbl1.size; simp; omega))
      obtain ⟨ca, cc, rfl, -, hcat⟩ := cc_row hrowc
      have HCA := hide hcat
      have HBX := hide hbx
      clear hcat hrowc hbx hb2 p0 p1 p2 hbl1
      obtain ⟨n, hn⟩ : ∃ n, (plF X 0).length = n := ⟨_, rfl⟩
      rw [hn] at hpl hc2p
      rw [hn]
      have HNN := hide hn
      clear hn
      generalize wr.heap.size = b9 at *
      go_wp2
      go_loopw [10, 53] (fun v10 v53 W => ∃ k col : Nat, v53 = .int .i64 (k : Nat) ∧ v10 = .int .i64 (col : Nat) ∧ k ≤ n ∧ col = min (k + 1) KC ∧ Below w2.heap.size w2 W) (fun _ v53 _ => n - (RowKit.intOf v53).toNat)
      case atStart => exact ⟨0, 1, rfl, rfl, Nat.zero_le _, by omega, Below.refl _ _⟩
      case round =>
        obtain ⟨k, col, rfl, rfl, hk, hcol, hB⟩ := hrel
        have hcl : col ≤ n + 1 := by omega
        by_cases hlt2 : k < n
        · obtain ⟨x, hx⟩ : ∃ x, (plF X 0)[k]? = some x := ⟨_, List.getElem?_eq_getElem (by rw [unhide HNN]; exact hlt2)⟩
          obtain ⟨g', rfl, y0, y1, y2, y3⟩ := (unhide HCA).below hB k x hx
          have hiff := unhide HC2 (k + 1) _ (unhide HCN k x hx)
          have hxlt := plF_up X k x hx
          have hdb := dec_bounds X x hxlt
          have hbx := (hB.block b9 (Array.getElem?_eq_some_iff.1 (unhide HBX)).1).trans (unhide HBX)
          obtain ⟨z0, z1, z2⟩ := box3 hbx
          have gz : ∀ o, (wr.alloc o).cell? ⟨b9, 0, none⟩ = some (.int .i64 (EF : Nat)) := fun o => (box3 ((Below.heap_alloc wr o b9 (Array.getElem?_eq_some_iff.1 hbx).1).trans hbx)).1
          have hB2 : ∀ o, Below w2.heap.size w2 (wr.alloc o) := fun o => hB.alloc hB.size o
          have HB2 := hide hB2
          clear hx hB hbx hB2
          generalize (Utf8.decode X x).1 = R at *
          generalize (Utf8.decode X x).2 = Dw at *
          generalize isB X x = Ib at *
          simp only [] at hiff
          by_cases hc : (EF : Int) + (x : Int) + (Dw : Int) ≤ b
          · have dc : decide ((EF : Int) + (x : Int) + (Dw : Int) ≤ b) = true := decide_eq_true hc
            have hK2 : k + 1 < KC := hiff.1 (.inr (by omega))
            go_wp2
            go_roundw
            case rel => exact ⟨k + 1, col + 1, by go_num, by go_num, by omega, by omega, unhide HB2 _⟩
            case measure => simp [RowKit.intOf]; omega
          · have dc : decide ((EF : Int) + (x : Int) + (Dw : Int) ≤ b) = false := decide_eq_false hc
            have hK2 : ¬ k + 1 < KC := fun h => by rcases hiff.2 h with q | q; omega; omega
            go_wp2
            go_roundw
            case rel => exact ⟨k + 1, col, by go_num, rfl, by omega, by omega, unhide HB2 _⟩
            case measure => simp [RowKit.intOf]; omega
        · obtain rfl : k = n := by omega
          obtain rfl : col = KC := by omega
          go_wp2
          go_ret2
          exact ⟨by simp, hBw.trans (hB.mono hBw.size)⟩
end Go.Proofs.YtlaennakglhmjaaDoor

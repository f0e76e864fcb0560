/-
  The law's laid: Put of numbers of type uint32, twice.
-/
import Derived.Test.YtdbfpmelhokeoaaDoorSuRt
import Derived.Test.YtdbfpmelhokeoaaDoorSuApD
import Derived.Test.YtdbfpmelhokeoaaDoorSuApD
import Derived.Test.YtdbfpmelhokeoaaDoorSuCv
namespace Go.Proofs.YtdbfpmelhokeoaaDoor.ND
open Go.RowKit Go.PlainAid Go.Lib Go.SuM
set_option linter.unusedVariables false
set_option linter.unusedSimpArgs false
def cutN (x : Nat) : Nat := x % 4294967296
def Mof (l : List Nat) : List Nat := l.map cutN
theorem cutN_lt (x : Nat) : cutN x < 4294967296 := Nat.mod_lt _ (by decide)
theorem Mof_lt (l : List Nat) : ∀ x ∈ Mof l, x < 4294967296 := fun x hx => by
  obtain ⟨y, _, rfl⟩ := List.mem_map.1 hx
  exact cutN_lt y
theorem Mof_snoc (l : List Nat) {k : Nat} (h : k < l.length) : Mof (l.take (k + 1)) = Mof (l.take k) ++ [cutN l[k]] := by
  unfold Mof
  rw [List.take_succ_eq_append_getElem h, List.map_append]
  rfl
theorem Mof_len (l : List Nat) : (Mof l).length = l.length := List.length_map _
def Apart (v u : Value) : Prop := ∀ k, v.ownBlock = some k → u.ownBlock = some k → False
theorem Apart.ne {v u : Value} (h : Apart v u) : v.ownBlock = none ∨ v.ownBlock ≠ u.ownBlock := by
  cases hv : v.ownBlock with
  | none => exact .inl rfl
  | some k => exact .inr fun e => h k hv e.symm
theorem Apart.symm {v u : Value} (h : Apart v u) : Apart u v := fun k h1 h2 => h k h2 h1
/-- one number more in each of two rows -/
theorem two_more (w : World) (B : Nat) (v u : Value) (l : List Nat) (y : Nat) (h : OwnN w B v l) (g : ND.OwnN w B u l) (hA : Apart v u) (hB : B ≤ w.heap.size) (hbig : (l.length + 1) * 4 ≤ 140737488355328) :
    ∃ v' w1 u' w2, (Builtin.append_ #[34, 34] 34 #[v, .slice (some ⟨w.heap.size, 0, none⟩) 1 1]).run Tryd.prog (w.alloc (.cells #[.int .u32 (y : Int)] 23)) = .ok v' w1 ∧
      (Builtin.append_ #[34, 34] 34 #[u, .slice (some ⟨w1.heap.size, 0, none⟩) 1 1]).run Tryd.prog (w1.alloc (.cells #[.int .u32 (y : Int)] 23)) = .ok u' w2 ∧
      OwnN w2 B v' (l ++ [y]) ∧ ND.OwnN w2 B u' (l ++ [y]) ∧ Apart v' u' ∧ Below B w w2 := by
  obtain ⟨v', w1, r1, h1, g1, o1⟩ := append_num2 w B v l y h hB (by omega) 34
  have hs1 : w.heap.size < w1.heap.size := by
    have := g1.size
    simp at this
    omega
  have hb1 : Below B w w1 := ((Below.refl B w).alloc hB _).grown g1 (by simp; omega) (fun k hk => (World.ownsRow.lt h k hk).1)
  have hu1 : ND.OwnN w1 B u l := (World.ownsRow.alloc g _).kept g1 hA.symm.ne
  have hA1 : Apart v' u := fun k e1 e2 => by
    rcases o1 with o1 | o1
    · exact hA k (o1.symm.trans e1) e2
    · rw [o1] at e1
      have e3 := Option.some.inj e1
      have := (World.ownsRow.lt g k e2).2
      simp at e3
      omega
  obtain ⟨u', w2, r2, h2, g2, o2⟩ := ND.append_num2 w1 B u l y hu1 (by omega) (by omega) 34
  have hv2 : OwnN w2 B v' (l ++ [y]) := (World.ownsRow.alloc h1 _).kept g2 hA1.ne
  have hA2 : Apart v' u' := fun k e1 e2 => by
    rcases o2 with o2 | o2
    · exact hA1 k e1 (o2.symm.trans e2)
    · rw [o2] at e2
      have e3 := Option.some.inj e2
      have := (World.ownsRow.lt h1 k e1).2
      simp at e3
      omega
  refine ⟨v', w1, u', w2, r1, r2, hv2, h2, hA2, ?_⟩
  exact hb1.trans (((Below.refl B w1).alloc (by omega) _).grown g2 (by simp; omega) (fun k hk => (World.ownsRow.lt hu1 k hk).1))
def nines : List UInt8 := [9, 9, 9, 9, 9, 9, 9, 9]
def eights : List UInt8 := [1, 2, 3, 4, 5, 6, 7, 8]
theorem nine_row : (#[.int .u8 9, .int .u8 9, .int .u8 9, .int .u8 9, .int .u8 9, .int .u8 9, .int .u8 9, .int .u8 9] : Array Value) = (bytesV nines).toArray := rfl
theorem eight_row : (#[.int .u8 1, .int .u8 2, .int .u8 3, .int .u8 4, .int .u8 5, .int .u8 6, .int .u8 7, .int .u8 8] : Array Value) = (bytesV eights).toArray := rfl
theorem nines_gat (l : List UInt8) (i : Nat) (h : l.length ≤ i) (h2 : i < l.length + 8) : gat (l ++ nines) i = 9 := by
  unfold gat
  rw [List.getElem?_append_right h]
  have : ∀ j : Fin 8, ((nines[j.val]?).getD 0).toNat = 9 := by decide
  exact this ⟨i - l.length, by omega⟩
set_option maxRecDepth 20000 in
set_option maxHeartbeats 4000000 in
theorem laid_walk (b : ByteArray) (hb : b.size ≤ 1048576) (l : List Nat) (a : Option Addr) (n cap : Nat) (hn : l.length = n) (hn2 : n ≤ 1048576) (hnc : n ≤ cap) (hcap : cap ≤ maxLen) (w : World) (ht : ND.NumsAt w a l) : Calls Tryd.prog 25 #[.string b, .slice a n cap, .int .i64 4] w fun e w' => e = .returned (.bool true) ∧ Below w.heap.size w w' := by
  have HT := hide ht
  have HN := hide hn
  unfold maxLen at hcap
  clear ht hn
  go_enter Tryd.func25, Tryd.ntmps25
  go_wp2
  go_loopw [7, 8, 9] (fun v7 v8 v9 wr => ∃ k : Nat, k ≤ n ∧ v9 = .int .i64 (k : Int) ∧ Hid (OwnN wr w.heap.size v7 (Mof (l.take k)) ∧ ND.OwnN wr w.heap.size v8 (Mof (l.take k)) ∧ Apart v7 v8 ∧ Below w.heap.size w wr)) (fun _ _ v9 _ => n - (intOf v9).toNat)
  case atStart => exact ⟨0, Nat.zero_le _, rfl, ⟨rfl, .inl ⟨rfl, rfl⟩⟩, ⟨rfl, .inl ⟨rfl, rfl⟩⟩, fun k h _ => by simp [Value.ownBlock] at h, Below.refl _ _⟩
  case round =>
    obtain ⟨k, hk, rfl, HX⟩ := hrel
    by_cases hlt : k < n
    · have hkl : k < l.length := by rw [unhide HN]; exact hlt
      obtain ⟨g, off, rfl, hg, hc, hsm⟩ := ((unhide HT).below (unhide HX).2.2.2).get hkl
      obtain ⟨v', w1, u', w2, hr1, hr2, q1, q2, q3, q4⟩ := two_more wr w.heap.size _ _ (Mof (l.take k)) (cutN l[k]) (unhide HX).1 (unhide HX).2.1 (unhide HX).2.2.1 (Nat.le_trans (Nat.le_refl _) (unhide HX).2.2.2.size) (by rw [Mof_len, List.length_take]; omega)
      rw [← Mof_snoc l hkl] at q1 q2
      have HY : Hid (OwnN w2 w.heap.size v' (Mof (l.take (k + 1))) ∧ ND.OwnN w2 w.heap.size u' (Mof (l.take (k + 1))) ∧ Apart v' u' ∧ Below w.heap.size w w2) := ⟨q1, q2, q3, (unhide HX).2.2.2.trans q4⟩
      generalize l[k] = x at *
      have hy0 : cutN x = x := Nat.mod_eq_of_lt hsm
      rw [hy0] at hr1 hr2
      clear hy0
      clear q1 q2 q3 q4 HX hkl
      go_wp2_with (first | (at_builtin; refine wpList_append_run _ rfl _ _ _ _ rfl _ _ rfl rfl v' w1 hr1 ?_) | (at_builtin; refine wpList_append_run _ rfl _ _ _ _ rfl _ _ rfl rfl u' w2 hr2 ?_))
      exact ⟨⟨k + 1, by omega, by go_num, unhide HY⟩, by simp [intOf]; omega⟩
    · have hE : l.take k = l := List.take_of_length_le (by rw [unhide HN]; omega)
      have hX := unhide HX
      rw [hE] at hX
      obtain ⟨h7, h8, hA78, hB0⟩ := hX
      have hML : (Mof l).length = n := by rw [Mof_len, unhide HN]
      obtain ⟨v7, W1, r7, p7, g7, o7⟩ := append_num2 wr w.heap.size _ (Mof l) 77 h7 hB0.size (by rw [hML]; omega) 34
      have hr7 : (Builtin.append_ #[34, 34] 34 #[u7, .slice (some ⟨wr.heap.size, 0, none⟩) 1 1]).run Tryd.prog (wr.alloc (.cells #[.int .u32 77] 23)) = .ok v7 W1 := r7
      have hB1 : Below w.heap.size w W1 := hB0.trans (((Below.refl _ wr).alloc hB0.size _).grown g7 (by have := hB0.size; simp; omega) (fun k hk => (World.ownsRow.lt h7 k hk).1))
      have h81 : ND.OwnN W1 w.heap.size u8 (Mof l) := (World.ownsRow.alloc h8 _).kept g7 hA78.symm.ne
      obtain ⟨a8, c8, rfl, hc8, hm8⟩ := h81.form
      have hp7 := p7
      obtain ⟨g0, c7, rfl, hc7, hm7⟩ : ∃ g0 c7, v7 = .slice (some ⟨g0, 0, none⟩) (n + 1) c7 ∧ n + 1 ≤ c7 ∧ c7 ≤ maxLen := by
        rcases hp7.2 with ⟨_, h0⟩ | ⟨g, cap, cur, e, _, _, h1, h2, _⟩
        · simp at h0
        · rw [List.length_append, hML] at e h1
          exact ⟨g, cap, e, h1, h2⟩
      rw [hML] at hc8 h81 ⊢
      have hnum : NumsAt W1 (some ⟨g0, 0, none⟩) (Mof l) := ⟨fun _ => ⟨g0, 0, rfl, (World.ownsRow.lt p7 g0 rfl).2, fun i hi => by
        have hpo : W1.ownsRow w.heap.size 23 1 (.slice (some ⟨g0, 0, none⟩) (n + 1) c7) (n + 1) (nV (Mof l ++ [77])) := by have := p7; unfold OwnN at this; rwa [List.length_append, hML] at this
        rw [Nat.zero_add, World.ownsRow.cellAt hpo i (by omega)]
        unfold nV
        rw [List.getElem?_map, List.getElem?_append_left hi, List.getElem?_eq_getElem hi]
        rfl⟩, Mof_lt l⟩
      have h77 : W1.cell? ⟨g0, n, none⟩ = some (.int .u32 77) := by
        have hpo : W1.ownsRow w.heap.size 23 1 (.slice (some ⟨g0, 0, none⟩) (n + 1) c7) (n + 1) (nV (Mof l ++ [77])) := by have := p7; unfold OwnN at this; rwa [List.length_append, hML] at this
        rw [World.ownsRow.cellAt hpo n (by omega)]
        unfold nV
        rw [List.getElem?_map, ← hML, List.getElem?_append_right (Nat.le_refl _), Nat.sub_self]
        rfl
      have hg0 := (World.ownsRow.lt p7 g0 rfl).2
      have hcut : ND.NumsAt W1 a8 (Mof l) := by
        have h := h81
        rw [← hML] at h
        exact h.nums (fun x hx => Nat.lt_of_lt_of_le (Mof_lt l x hx) (by decide))
      have HB1 := hide hB1
      have HNUM := hide hnum
      have HCUT := hide hcut
      have H77 := hide h77
      have HML := hide hML
      unfold maxLen at hm7 hm8
      clear hE h7 h8 hA78 hB0 hML r7 p7 hp7 g7 o7 hB1 h81 hnum hcut h77 HX
      obtain ⟨cr, W2, hcv, hCR, hb2⟩ := conv_row b (by unfold maxLen; omega) W1
      have hsz2 : W1.heap.size < W2.heap.size := by obtain ⟨cur, fr, h1, _⟩ := hCR; exact (Array.getElem?_eq_some_iff.1 h1).1
      obtain ⟨gr, c12, W3, r12, hBR, hb3, hgr1, hgr2, hgr3, hgr4⟩ := append_conv (W2.alloc (.cells #[.int .u8 9, .int .u8 9, .int .u8 9, .int .u8 9, .int .u8 9, .int .u8 9, .int .u8 9, .int .u8 9] 5)) W1.heap.size cr (LS b) nines ⟨W2.heap.size, 0, none⟩ 8 (hCR.alloc _) (fun j u hj => by
        rw [Addr.add_lit, Nat.zero_add, World.cell?_alloc_mark, nine_row]
        simpa using hj) (by decide) (by rw [LS_len]; show b.size + 8 ≤ _; omega) W1.heap.size (Nat.le_refl _) 57
      rw [LS_len] at r12 hgr3
      have hr12 : (Builtin.append_ #[57, 57] 57 #[.slice (some ⟨W1.heap.size, 0, none⟩) b.size cr, .slice (some ⟨W2.heap.size, 0, none⟩) 8 8]).run Tryd.prog (W2.alloc (.cells #[.int .u8 9, .int .u8 9, .int .u8 9, .int .u8 9, .int .u8 9, .int .u8 9, .int .u8 9, .int .u8 9] 5)) = .ok (.slice (some ⟨gr, 0, none⟩) (b.size + 8) c12) W3 := r12
      have hgr3' : b.size + 8 ≤ c12 := hgr3
      have hb13 : Below W1.heap.size W1 W3 := (hb2.alloc (by omega) _).trans hb3
      have HB3 := hide ((unhide HB1).trans (hb13.mono (unhide HB1).size))
      have HNUM3 := hide ((unhide HNUM).below hb13)
      have HCUT3 := hide ((unhide HCUT).below hb13)
      have HS13 := hide hb13.size
      have H773 : Hid (W3.cell? ⟨g0, n, none⟩ = some (.int .u32 77)) := (hb13.cell (p := ⟨g0, n, none⟩) hg0).trans (unhide H77)
      have HBR := hide hBR
      unfold maxLen at hgr4
      clear hCR hb2 r12 hBR hb3 hgr3 hb13 HNUM HCUT H77
      go_wp2_with (first | (at_builtin; refine wpList_append_run _ rfl _ _ _ _ rfl _ _ rfl rfl _ W1 hr7 ?_) | (at_builtin; refine wpList_append_run _ rfl _ _ _ _ rfl _ _ rfl rfl _ W3 hr12 ?_))
      have hP : ∀ W : World, Below W3.heap.size W3 W → Calls Tryd.prog 54 #[.slice (some ⟨gr, 0, none⟩) b.size c12, .slice (some ⟨g0, 0, none⟩) n c7] W fun e w' => ∃ s', e = .returned s' ∧ OwnB w' W.heap.size s' (LS b ++ laidL (Mof l)) ∧ Below W.heap.size W w' := fun W hW => by
        have hbr := (unhide HBR).below hW
        have hby := hbr.bytes b.size
        rw [List.take_left' (LS_len b)] at hby
        have h := put_any (LS b) (some ⟨gr, 0, none⟩) c12 (Mof l) (some ⟨g0, 0, none⟩) c7 W hby (fun a0 e _ => by have := Option.some.inj e; subst this; exact Nat.lt_of_lt_of_le hgr2 hW.size) ((unhide HNUM3).below hW) (by rw [LS_len, unhide HML]; omega)
        rwa [LS_len, unhide HML] at h
      have HP := hide hP
      clear hP
      go_wp2_with fail
      with_reducible refine (unhide HP W3 (Below.refl _ _)).mono ?_
      rintro e W4 ⟨s1, rfl, hO1, hb4⟩
      have HB4 := hide hb4
      have HO1 := hide hO1
      clear hO1 hb4
      go_wp2_with fail
      with_reducible refine (unhide HP W4 (unhide HB4)).mono ?_
      rintro e W5 ⟨s2, rfl, hO2, hb5⟩
      have HB5 := hide ((unhide HB4).trans (hb5.mono (unhide HB4).size))
      have HO15 := hide ((unhide HO1).below hb5)
      have HS45 := hide hb5.size
      have hlt1 : ∀ k, s1.ownBlock = some k → W3.heap.size ≤ k ∧ k < W4.heap.size := World.ownsRow.lt (unhide HO1)
      have HO2 := hide hO2
      have HLT1 := hide hlt1
      clear hO2 hb5 hlt1 HO1
      have hR : ∀ W : World, Below W3.heap.size W3 W → Calls Tryd.prog 53 #[.string b, .slice a8 n c8, .int .i64 4] W fun e w' => e = .returned (.string (BA (LS b ++ laidL (Mof l)))) ∧ Below W.heap.size W w' := fun W hW =>
        rput_any 4 (by decide) b (Mof l) a8 c8 n (unhide HML) (by unfold maxLen; omega) W ((unhide HCUT3).below hW) (by unfold maxLen; omega) (by unfold maxLen; omega)
      have HR := hide hR
      clear hR
      go_wp2_with fail
      with_reducible refine (unhide HR W5 (unhide HB5)).mono ?_
      rintro e W6 ⟨rfl, hb6⟩
      have HB6 := hide ((unhide HB5).trans (hb6.mono (unhide HB5).size))
      have HO16 := hide ((unhide HO15).below hb6)
      have HO26 := hide ((unhide HO2).below hb6)
      have hcv1 := (unhide HO16).str
      have hcv2 := (unhide HO26).str
      have hwl : (LS b ++ laidL (Mof l)).length = b.size + 4 * n := by rw [List.length_append, laidL_len, LS_len, unhide HML]
      have hws : (BA (LS b ++ laidL (Mof l))).size = b.size + 4 * n := by rw [BA_size, hwl]
      generalize LS b ++ laidL (Mof l) = PL at *
      generalize hwt : BA PL = want at *
      obtain ⟨m, hm⟩ : ∃ m, m = b.size + 4 * n := ⟨_, rfl⟩
      rw [← hm] at hwl hws
      have HWL := hide hwl
      have HWT := hide hwt
      have hm20 : m ≤ 8388608 := by omega
      have HM := hide hm
      clear hb6 HO15 HO2 hwl hwt hm
      obtain ⟨g1, hg1a, hg1b, hg1c⟩ : ∃ g1, W3.heap.size ≤ g1 ∧ (∀ k, s1.ownBlock = some k → k = g1) ∧ s2.ownBlock ≠ some g1 := by
        cases hs1 : s1.ownBlock with
        | none => exact ⟨W6.heap.size, (unhide HB6).size, (fun k h => by cases h), (fun h => by have := (World.ownsRow.lt (unhide HO26) _ h).2; omega)⟩
        | some k =>
          have h1 := unhide HLT1 k hs1
          exact ⟨k, h1.1, fun k2 h => (Option.some.inj h).symm, fun h => by have := (World.ownsRow.lt (unhide HO26) _ h).1; omega⟩
      have HB0 := hide (And.intro hg1b hg1c)
      obtain ⟨a1, c1, rfl⟩ := (unhide HO16).form
      rw [unhide HWL] at HB0 hcv1 ⊢
      have HO16' : Hid (OwnB W6 W3.heap.size (.slice a1 m c1) PL) := by have := unhide HO16; rwa [unhide HWL] at this
      clear hg1b hg1c HO16 HLT1
      generalize wr = Wr at *
      go_wp2
      go_loopw [16] (fun v16 wx => ∃ (k2 : Nat) (l2 : List UInt8), k2 ≤ m ∧ v16 = .int .i64 (k2 : Int) ∧ Hid (l2.length = m ∧ OwnB wx W3.heap.size (.slice a1 m c1) l2 ∧ Beside g1 W6 wx (.slice a1 m c1))) (fun v16 _ => m - (intOf v16).toNat)
      case atStart => exact ⟨0, PL, Nat.zero_le _, rfl, unhide HWL, unhide HO16', ⟨⟨rfl, rfl, rfl, Nat.le_refl _, fun _ _ _ => rfl⟩, fun k h => .inl ((unhide HB0).1 k h)⟩⟩
      case round =>
        obtain ⟨k2, l2, hk2, rfl, HX2⟩ := hrel
        by_cases hlt2 : k2 < m
        · obtain ⟨gs, rfl⟩ : ∃ gs, a1 = some ⟨gs, 0, none⟩ := by
            rcases (unhide HX2).2.1.2 with ⟨_, h0⟩ | ⟨g, cap, cur, e, _⟩
            · rw [(unhide HX2).1] at h0; omega
            · simp only [Value.slice.injEq] at e; exact ⟨g, e.1⟩
          have hkl : k2 < l2.length := by rw [(unhide HX2).1]; exact hlt2
          have hown : wr.ownsRow W3.heap.size 5 1 (.slice (some ⟨gs, 0, none⟩) m c1) m (bytesV l2) := by have := (unhide HX2).2.1; unfold OwnB at this; rwa [(unhide HX2).1] at this
          have hc0 : wr.cell? ⟨gs, k2, none⟩ = some (.int .u8 (l2[k2].toNat : Int)) := by
            rw [World.ownsRow.cellAt hown k2 (by omega)]
            unfold bytesV
            rw [List.getElem?_map, List.getElem?_eq_getElem hkl]
            rfl
          have hfz := World.ownsRow.frozenAt hown k2
          have hst := hown.stored k2 (.int .u8 (((l2[k2].toNat : Int) + 1) % 256))
          have hY : Hid ((l2.set k2 (UInt8.ofNat (l2[k2].toNat + 1))).length = m ∧ OwnB (wr.setCell ⟨gs, k2, none⟩ (.int .u8 (((l2[k2].toNat : Int) + 1) % 256))) W3.heap.size (.slice (some ⟨gs, 0, none⟩) m c1) (l2.set k2 (UInt8.ofNat (l2[k2].toNat + 1))) ∧ Beside g1 W6 (wr.setCell ⟨gs, k2, none⟩ (.int .u8 (((l2[k2].toNat : Int) + 1) % 256))) (.slice (some ⟨gs, 0, none⟩) m c1)) := by
            refine ⟨by rw [List.length_set]; exact (unhide HX2).1, ?_, (unhide HX2).2.2.grown hst.2 (.inl rfl)⟩
            unfold OwnB
            rw [List.length_set, (unhide HX2).1, bytesV_set, u8of]
            exact hst.1
          have hxl := l2[k2].toNat_lt
          generalize l2[k2].toNat = x at *
          clear hown hst HX2 hkl
          go_wp2
          exact ⟨⟨k2 + 1, _, by omega, by go_num, unhide hY⟩, by simp [intOf]; omega⟩
        · have HX3 : Hid (∃ l3, l3.length = m ∧ OwnB wr W3.heap.size (.slice a1 m c1) l3 ∧ Beside g1 W6 wr (.slice a1 m c1)) := ⟨l2, unhide HX2⟩
          clear HX2
          generalize wr = W7 at *
          obtain ⟨l3, hl3, ho3, hbs3⟩ := unhide HX3
          have hW37 : W3.heap.size ≤ W7.heap.size := Nat.le_trans (unhide HB6).size hbs3.1.size
          obtain ⟨v13, W8, r8, ho8, hg8, hv8⟩ := append_rowB (W7.alloc (.cells #[.int .u8 1, .int .u8 2, .int .u8 3, .int .u8 4, .int .u8 5, .int .u8 6, .int .u8 7, .int .u8 8] 5)) W3.heap.size (.slice a1 m c1) l3 (World.ownsRow.alloc ho3 _) (by simp; omega) eights 8 ⟨W7.heap.size, 0, none⟩ (fun j u hj => by
            rw [Addr.add_lit, Nat.zero_add, World.cell?_alloc_mark, eight_row]
            simpa using hj) (by rw [hl3]; show m + 8 ≤ _; omega) 57
          have hr8 : (Builtin.append_ #[57, 57] 57 #[.slice a1 m c1, .slice (some ⟨W7.heap.size, 0, none⟩) 8 8]).run Tryd.prog (W7.alloc (.cells #[.int .u8 1, .int .u8 2, .int .u8 3, .int .u8 4, .int .u8 5, .int .u8 6, .int .u8 7, .int .u8 8] 5)) = .ok v13 W8 := r8
          have hbs8 : Beside g1 W6 W8 v13 := (hbs3.alloc _).grown hg8 hv8
          have hb38 : Below W3.heap.size W3 W8 := hbs8.below (unhide HB6) hg1a (Nat.le_refl _)
          have ho28 : OwnB W8 W4.heap.size s2 PL := World.ownsRow.kept (unhide HO26) hbs8.1 (.inr (unhide HB0).2)
          have hcv28 := ho28.str
          rw [unhide HWT] at hcv28
          obtain ⟨a13, c13, rfl⟩ := ho8.form
          have hl8 : (l3 ++ eights).length = m + 8 := by rw [List.length_append, hl3]; rfl
          rw [hl8] at hr8
          have hbr8 := (unhide HBR).below hb38
          have hfr8 := hbr8.front (cap := c12) b.size (by rw [List.length_append, LS_len]; omega)
          rw [List.take_left' (LS_len b), BA_LS] at hfr8
          have HCELL : Hid (∀ j : Nat, b.size ≤ j → j < b.size + 8 → W8.cell? ⟨gr, j, none⟩ = some (.int .u8 9)) := fun j h1 h2 => by
            rw [hbr8.cell (by rw [List.length_append, LS_len]; show j < b.size + 8; exact h2), nines_gat (LS b) j (by rw [LS_len]; exact h1) (by rw [LS_len]; exact h2)]
            rfl
          have HNUM8 := hide ((unhide HNUM3).below hb38)
          have HCUT8 := hide ((unhide HCUT3).below hb38)
          have h778 : W8.cell? ⟨g0, n, none⟩ = some (.int .u32 77) := (hb38.cell (p := ⟨g0, n, none⟩) (Nat.lt_of_lt_of_le hg0 (unhide HS13))).trans (unhide H773)
          have H778 := hide h778
          have HB8 := hide ((unhide HB3).trans (hb38.mono (unhide HB3).size))
          clear r8 ho8 hg8 hv8 hbs8 hb38 ho28 hl8 hbr8 h778 ho3 hbs3 hl3 HX3 HO26 hcv1 hcv2
          go_wp2_with (at_builtin; refine wpList_append_run _ rfl _ _ _ _ rfl _ _ rfl rfl _ W8 hr8 ?_)
          clear hcv28 hfr8 hr8 hcv hr12 hr7
          obtain ⟨bs, hbs⟩ : ∃ bs, bs = b.size := ⟨_, rfl⟩
          rw [← hbs] at HCELL hb hgr3' ⊢
          clear hws
          have HBS := hide hbs
          clear hbs
          go_loop [17] (fun v17 => ∃ k3 : Nat, bs ≤ k3 ∧ k3 ≤ bs + 8 ∧ v17 = .int .i64 (k3 : Int)) (fun v17 => bs + 8 - (intOf v17).toNat)
          case atStart => exact ⟨bs, Nat.le_refl _, by omega, rfl⟩
          case round =>
            obtain ⟨k3, hk3, hk3', rfl⟩ := hrel
            by_cases hlt3 : k3 < bs + 8
            · have hc9 := unhide HCELL k3 hk3 hlt3
              go_wp2
              go_round
              case rel => exact ⟨k3 + 1, by omega, by omega, by go_num⟩
              case measure => simp [intOf]; omega
            · go_wp2
              go_loopw [18] (fun v18 wy => ∃ k4 : Nat, k4 ≤ n ∧ v18 = .int .i64 (k4 : Int) ∧ Hid (∃ q, wy = W8.drewN q)) (fun v18 _ => n - (intOf v18).toNat)
              case atStart => exact ⟨0, Nat.zero_le _, rfl, ⟨0, rfl⟩⟩
              case round =>
                obtain ⟨k4, hk4, rfl, HQ⟩ := hrel
                obtain ⟨q, rfl⟩ := unhide HQ
                clear HQ
                by_cases hlt4 : k4 < n
                · have hkl : k4 < (Mof l).length := by rw [unhide HML]; exact hlt4
                  have hn8 : NumsAt (W8.drewN q) (some ⟨g0, 0, none⟩) (Mof l) := (unhide HNUM8).below (below_drewN _ _ _)
                  have hc8' : ND.NumsAt (W8.drewN q) a8 (Mof l) := (unhide HCUT8).below (below_drewN _ _ _)
                  obtain ⟨gx, ox, e1, _, hcx, hxs⟩ := hn8.get hkl
                  obtain ⟨gy, oy, rfl, _, hcy, _⟩ := hc8'.get hkl
                  simp only [Option.some.injEq, Addr.mk.injEq, and_true] at e1
                  obtain ⟨rfl, rfl⟩ := e1
                  rw [Nat.zero_add] at hcx
                  generalize (Mof l)[k4] = x at *
                  have hx32 : (x : Int) % 4294967296 = (x : Int) := by omega
                  clear hn8 hc8' hkl
                  generalize hW : W8.drewN q = W at *
                  have HW := hide hW
                  clear hW
                  go_wp2
                  go_quiet (fail)
                  go_wp2
                  exact ⟨⟨k4 + 1, by omega, by go_num, ⟨q + nq, by rw [← unhide HW, World.drewN_drewN]⟩⟩, by simp [intOf]; omega⟩
                · have HBq := hide ((unhide HB8).trans (below_drewN w.heap.size W8 q))
                  have h77q : (W8.drewN q).cell? ⟨g0, n, none⟩ = some (.int .u32 77) := unhide H778
                  generalize W8.drewN q = W at *
                  go_wp2
                  go_ret
                  exact ⟨rfl, unhide HBq⟩
end Go.Proofs.YtdbfpmelhokeoaaDoor.ND

/-
  Each as an iterator: the paragraphs of a text with their bytes.
-/
import Derived.Test.YtkckkchnmgidgaaPaAw
import Derived.Test.YtkckkchnmgidgaaPaS
import Derived.Test.YtkckkchnmgidgaaPaCo
import Derived.Test.YtkckkchnmgidgaaSeq6
import Derived.Test.YtkckkchnmgidgaaPlace2
import Derived.OwnWalkIn
import Derived.RangeFuncSeq
namespace Go.Proofs.Ytkckkchnmgidgaa
open Go.RowKit Go.PlainAid Go.Lib Go.Seq4 Go.Seq6
attribute [local go_sem] Oper.semAt_some
set_option linter.unusedVariables false
set_option linter.unusedSimpArgs false

/-- the paragraphs of a text by props made by hand -/
def eachL (rest : Int) (l : List CharD) (s : ByteArray) : List (Nat × Nat) := splitL (runesL s) (classesL rest l (runesL s))
/-- what a round tells: a piece and its bytes -/
def eaE (s : ByteArray) (p : Nat × Nat) : Array Value := #[pcV p, .string (s.extract (startN s p.1) (startN s p.2))]
theorem cellK {W : World} {b j : Nat} {cs : Array Value} {T : TypeId} {v : Value} (h : W.heap[b]? = some (.cells cs T (0, 0))) (hj : cs[j]? = some v) : W.cell? ⟨b, j, none⟩ = some v := by
  simp only [World.cell?, h]
  simpa using hj

theorem split_in (l cs : List Int) (hnm : l.length = cs.length) : ∀ p ∈ splitL l cs, p.1 ≤ p.2 ∧ p.2 ≤ cs.length := by
  have hst : ∀ k, k ≤ cs.length → ∀ p ∈ (stS l cs k).2, p.1 ≤ p.2 ∧ p.2 ≤ k := by
    intro k
    induction k with
    | zero => intro _ p hp; simp [stS] at hp
    | succ k ih =>
      intro hk p hp
      rw [stS] at hp
      split at hp
      · rcases List.mem_append.1 hp with hp | hp
        · have := ih (by omega) p hp; omega
        · have hp' : p = ((stS l cs k).1, k + 1) := by simpa using hp
          subst hp'
          have := stS_le l cs k
          simp only; omega
      · have := ih (by omega) p hp; omega
  intro p hp
  unfold splitL at hp
  split at hp
  · rename_i hlt
    rcases List.mem_append.1 hp with hp | hp
    · exact hst _ (Nat.le_refl _) p hp
    · have hp' : p = ((stS l cs cs.length).1, cs.length) := by simpa using hp
      subst hp'
      simp only; omega
  · exact hst _ (Nat.le_refl _) p hp

set_option maxRecDepth 100000 in
set_option maxHeartbeats 4000000 in
theorem each1_in (n l Bp Bt : Nat) (hn : 7 ≤ n) (rest : Int) (pa : Option Addr) (pn pc : Nat) (lc : List CharD) (s : ByteArray) (J : Nat → List (Nat × Nat) → World → Prop) (Jx : List (Nat × Nat) → World → Prop) (W : World)
    (hpl : lc.length = pn) (hp : ReadsC W pa lc) (hpn : pn ≤ 1099511627776) (hs : s.size ≤ 1099511627776)
    (hBp : W.heap[Bp]? = some (.cells #[.iface 25 (propsV rest pa pn pc)] 84 (0, 0))) (hBt : W.heap[Bt]? = some (.cells #[.string s] 9 (0, 0)))
    (hY : ∀ m pre x W1, J m pre W1 → (pre ++ [x]) <+: eachL rest lc s → W.heap.size + m ≤ W1.heap.size → YieldAt Fence.wide (n - 1) Try.prog l (eaE s x) W1 fun e W' =>
      (e = .returned (.bool true) ∧ J m (pre ++ [x]) W' ∧ Kp4 m (fun _ => False) W.heap.size W1 W') ∨ (e = .returned (.bool false) ∧ Jx (pre ++ [x]) W' ∧ KeepsFrom W.heap.size W1 W'))
    (hJ : ∀ m, OwnFrom W.heap.size (J m)) (hJx : OwnFrom W.heap.size Jx) (h0 : ∀ m, J m [] W) :
    CallsIn Fence.wide n Try.prog 48 #[.func (.yield l) #[] #[], .pointer (some ⟨Bp, 0, none⟩), .pointer (some ⟨Bt, 0, none⟩)] W fun e W' => (∃ v, e = .returned v) ∧
      ((∃ m xs, xs = eachL rest lc s ∧ J m xs W') ∨ (∃ pre, pre <+: eachL rest lc s ∧ Jx pre W')) := by
  obtain ⟨W1, hW1⟩ : ∃ W1, W1 = W.alloc (.cells #[.func (.yield l) #[] #[]] 89) := ⟨_, rfl⟩
  have hB1 : Below W.heap.size W W1 := by rw [hW1]; exact (Below.refl _ W).alloc (Nat.le_refl _) _
  have hs1 : W1.heap.size = W.heap.size + 1 := by rw [hW1]; simp
  have y1 : W1.heap[W.heap.size]? = some (.cells #[.func (.yield l) #[] #[]] 89 (0, 0)) := by rw [hW1]; exact heap_alloc_new W _
  have hBp1 := (hB1.block Bp (Array.getElem?_eq_some_iff.1 hBp).1).trans hBp
  have hBt1 := (hB1.block Bt (Array.getElem?_eq_some_iff.1 hBt).1).trans hBt
  have hrl : (runesL s).length ≤ s.size := by rw [runesL_len]; have := chars_length s 0; omega
  have HRU := hide (fun w => paRunes_any s w (by omega))
  have HCL := hide (fun (w : World) (g c' : Nat) (hb : Below W.heap.size W w) (h : Reads w (some ⟨g, 0, none⟩) (runesL s)) => classes_any rest pa pn pc lc (runesL s).length c' (some ⟨g, 0, none⟩) (runesL s) w hpl (hp.below hb) hpn rfl h (by omega))
  have HNE := hide (fun w => new_any s w (by omega))
  have HSL := hide (fun (w : World) (p : Value) (h : IsPlaces w p s) (a b : Nat) (hab : a ≤ b) (hb : b ≤ (runesL s).length) => slice_any w p s (by omega) h a b hab (by rw [← runesL_len]; exact hb))
  have HIN := hide (split_in (runesL s) (classesL rest lc (runesL s)) (by simp [classesL]))
  have HPG := hide (fun (H b1 b2 : Nat) (a b : Option Addr) (c d : Nat) (w : World) (hH : HoldP w H b1 b2 a b c d (runesL s) (classesL rest lc (runesL s))) (n : Nat) (hn : 4 ≤ n) => paras_gives H b1 b2 a b c d (runesL s) (classesL rest lc (runesL s)) (.inr (by simp [classesL])) (by simp [classesL]; omega) w hH n hn)
  have hUN : (classesL rest lc (runesL s)).length = (runesL s).length := by simp [classesL]
  unfold eachL at *
  generalize classesL rest lc (runesL s) = us at *
  generalize hts : runesL s = ts at *
  have hcn : (chars s 0).length = ts.length := by rw [← hts, runesL_len]
  have HUN := hide hUN
  have HCN := hide hcn
  clear hts hp hpl hBp hBt hUN hcn
  unfold propsV at *
  refine callsIn_of_wp_marks Try.func48 rfl trivial ?_ rfl
  simp only [Try.ntmps48, List.size_toArray, List.length_cons, List.length_nil, Nat.reduceAdd, Nat.reduceSub, Array.replicate_succ, Array.replicate_zero, List.push_toArray, List.append_toArray, List.nil_append, List.cons_append]
  have hF : ∀ f, Fence.wide.fn f := fun _ => trivial
  have hn1 : 1 ≤ n := by omega
  have HYY := hide hY
  clear hY
  have g0 := cellK hBp1 (j := 0) rfl
  have g1 := cellK hBt1 (j := 0) rfl
  rw [hW1] at g0 g1
  have HBP := hide hBp1
  have HBT := hide hBt1
  have HY1 := hide y1
  have HB1 := hide hB1
  clear hBp1 hBt1 y1 hB1
  gi_wp2_with (gi_at_call 21; rw [← hW1]; with_reducible refine CallsIn.mono (callsIn_wide.2 (unhide HRU W1)) ?_; rintro e w2 ⟨rc, rfl, hr2, hb2⟩; rw [hs1] at hr2; have HR2 := hide hr2; have HB2 := hide ((unhide HB1).trans (hb2.mono (unhide HB1).size)); have HX2 := hide hb2; clear hr2 hb2 g0 g1; have g0 := cellK (((unhide HX2).block _ (Array.getElem?_eq_some_iff.1 (unhide HBP)).1).trans (unhide HBP)) (j := 0) rfl; have g1 := cellK (((unhide HX2).block _ (Array.getElem?_eq_some_iff.1 (unhide HBT)).1).trans (unhide HBT)) (j := 0) rfl)
  with_reducible refine CallsIn.mono (callsIn_wide.2 (unhide HCL w2 _ _ (unhide HB2) (reads_own (unhide HR2)))) ?_
  rintro e w3 ⟨rfl, hk3, hb3⟩
  have HK3 := hide hk3
  have HR3 := hide (rowBelow (unhide HR2) hb3)
  have HB3 := hide ((unhide HB2).trans (hb3.mono (unhide HB2).size))
  have HX3 := hide ((unhide HX2).trans (hb3.mono (unhide HX2).size))
  have Z2 : Hid (w2.heap.size < w3.heap.size ∧ W.heap.size + 1 < w2.heap.size) := ⟨hk3.lt, ((unhide HR2).lt (W.heap.size + 1) rfl).2⟩
  clear hk3 hb3 g0 g1
  have g1 := cellK (((unhide HX3).block _ (Array.getElem?_eq_some_iff.1 (unhide HBT)).1).trans (unhide HBT)) (j := 0) rfl
  gi_wp2_with fail
  with_reducible refine CallsIn.mono (callsIn_wide.2 (unhide HNE w3)) ?_
  rintro e w4 ⟨bq, vq, rfl, hge, hbk, hrow, hb4⟩
  obtain ⟨gq, cq, rfl⟩ := ownsRow_succ hrow
  have hgq : w3.heap.size ≤ gq ∧ gq < w4.heap.size := hrow.lt gq rfl
  have HK4 := hide ((unhide HK3).below hb4)
  have HR4 := hide (rowBelow (unhide HR3) hb4)
  have HB4 := hide ((unhide HB3).trans (hb4.mono (unhide HB3).size))
  have HX4 := hide ((unhide HX3).trans (hb4.mono (unhide HX3).size))
  have HQ4 := hide hbk
  have HO4 := hide hrow
  have Z4 : Hid (w3.heap.size ≤ bq ∧ bq < w4.heap.size ∧ w3.heap.size ≤ gq ∧ gq < w4.heap.size) := ⟨hge, (Array.getElem?_eq_some_iff.1 hbk).1, hgq⟩
  clear hge hbk hrow hb4 hgq g1
  gi_wp2_with fail
  obtain ⟨V4, hV4⟩ : ∃ V4, V4 = w4.alloc (.cells #[.pointer (some ⟨bq, 0, none⟩)] 90) := ⟨_, rfl⟩
  have hb4 : Below w4.heap.size w4 V4 := by rw [hV4]; exact (Below.refl _ _).alloc (Nat.le_refl _) _
  have hv4 : V4.heap.size = w4.heap.size + 1 := by rw [hV4]; simp
  have q4 : V4.heap[w4.heap.size]? = some (.cells #[.pointer (some ⟨bq, 0, none⟩)] 90 (0, 0)) := by rw [hV4]; exact heap_alloc_new w4 _
  rw [← hV4]
  clear hV4
  with_reducible refine CallsIn.mono (callsIn_wide.2 (paragraphs_any _ _ ⟨_, _, _, rfl⟩ ⟨_, _, _, rfl⟩ V4)) ?_
  rintro e W0 ⟨rfl, hW0⟩
  have hb5 : Below V4.heap.size V4 W0 := by rw [hW0]; exact ((Below.refl _ _).alloc (Nat.le_refl _) _).alloc (by simp) _
  have hw0 : W0.heap.size = V4.heap.size + 2 := by rw [hW0]; simp
  have p2 : W0.heap[V4.heap.size]? = some (.cells #[.slice (some ⟨W.heap.size + 1, 0, none⟩) ts.length rc] 26 (0, 0)) := by
    rw [hW0]; exact (Below.heap_alloc _ _ _ (by simp)).trans (heap_alloc_new V4 _)
  have p1 : W0.heap[V4.heap.size + 1]? = some (.cells #[.slice (some ⟨w2.heap.size, 0, none⟩) us.length ts.length] 29 (0, 0)) := by
    rw [hW0, unhide HUN]
    have := heap_alloc_new (V4.alloc (.cells #[.slice (some ⟨W.heap.size + 1, 0, none⟩) ts.length rc] 26)) (.cells #[.slice (some ⟨w2.heap.size, 0, none⟩) ts.length ts.length] 29)
    rw [World.size_alloc] at this; exact this
  clear hW0
  have hb45 : Below w4.heap.size w4 W0 := hb4.trans (hb5.mono hb4.size)
  have hB0 : Below W.heap.size W W0 := (unhide HB4).trans (hb45.mono (unhide HB4).size)
  have hq0 := (hb5.block _ (by omega)).trans q4
  have hy0 := (hb45.block _ (by have := (unhide HX4).size; omega)).trans (((unhide HX4).block _ (by omega)).trans (unhide HY1))
  obtain ⟨z21, z22⟩ := unhide Z2
  obtain ⟨z41, z42, z43, z44⟩ := unhide Z4
  have z23 : w3.heap.size ≤ w4.heap.size := by omega
  have hHP : HoldP W0 W0.heap.size (V4.heap.size + 1) V4.heap.size (some ⟨W.heap.size + 1, 0, none⟩) (some ⟨w2.heap.size, 0, none⟩) rc ts.length ts us :=
    ⟨p1, p2, ((unhide HK4).below hb45).readsB, reads_own (rowBelow (unhide HR4) hb45), by omega, by omega, fun _ x e => by obtain rfl := Option.some.inj e; show w2.heap.size < _; omega, fun _ x e => by obtain rfl := Option.some.inj e; show W.heap.size + 1 < _; omega⟩
  obtain ⟨cur, hG⟩ : ∃ cur, w4.heap[gq]? = some (.cells cur 3 (0, 0)) := by
    rcases (unhide HO4).2 with ⟨h, _⟩ | ⟨g', cap', cur, hv, _, hg, _⟩
    · cases h
    · obtain ⟨rfl, rfl⟩ : gq = g' ∧ cq = cap' := by simpa using hv
      exact ⟨cur, hg⟩
  have HPL : Hid (∀ V : World, V.heap[bq]? = some (.cells #[.string s, .slice (some ⟨gq, 0, none⟩) ((chars s 0).length + 1) cq] 103 (0, 0)) → V.heap[gq]? = some (.cells cur 3 (0, 0)) → IsPlaces V (.pointer (some ⟨bq, 0, none⟩)) s) :=
    fun V h1 h2 => ⟨bq, gq, cq, rfl, h1, own_zero (row_keptB (unhide HO4) (fun g c' hh _ ho => by obtain rfl : gq = g := Option.some.inj ho; exact h2.trans hG.symm))⟩
  have hg0 := (hb45.block _ z44).trans hG
  have hp0 := (hb45.block _ z42).trans (unhide HQ4)
  have hJ0 : ∀ m, J m [] W0 := fun m => hJ m [] W W0 none (h0 m) ⟨hB0.os, hB0.tape, hB0.output, hB0.size, fun k hk _ => hB0.block k hk⟩ (fun r e => by cases e)
  obtain ⟨m, hm⟩ : ∃ m, W.heap.size + m = W0.heap.size := ⟨W0.heap.size - W.heap.size, by have := hB0.size; omega⟩
  have HHP := hide hHP
  clear hHP HK4 HR4 HB4 HX4 HQ4 HO4 HX3 HB3 HK3 HR3 HX2 HB2 HR2 HY1 HB1 HBP HBT HRU HCL HNE hb4 hb5 q4 p1 p2 Z2 Z4 hG hb45 h0
  have HV4 := hide (And.intro hv4 hw0)
  clear hv4 hw0
  gi_wp2
  refine range4B (by omega) (gf := 55) (lb := #[.pointer (some ⟨V4.heap.size + 1, 0, none⟩), .pointer (some ⟨V4.heap.size, 0, none⟩)]) rfl (enters_of Try.func55 (by kernel_rfl) rfl)
    (unhide HPG _ _ _ _ _ _ _ W0 (unhide HHP) _ (by omega)) (Below.refl _ _) (fun _ => rfl)
    (fun pre V => J m pre V ∧ V.heap[W.heap.size]? = some (.cells #[.func (.yield l) #[] #[]] 89 (0, 0)) ∧ V.heap[w4.heap.size]? = some (.cells #[.pointer (some ⟨bq, 0, none⟩)] 90 (0, 0)) ∧
      V.heap[bq]? = some (.cells #[.string s, .slice (some ⟨gq, 0, none⟩) ((chars s 0).length + 1) cq] 103 (0, 0)) ∧ V.heap[gq]? = some (.cells cur 3 (0, 0)) ∧ W0.heap.size ≤ V.heap.size)
    (fun c pre V => c = .ret ∧ Jx pre V)
    (OwnFrom.and (fun st A B row hx hg hr => OwnFrom.le (hJ m) (by omega) st A B row hx hg hr) ((own_block _ _ _ rfl).and ((own_block _ _ _ rfl).and ((own_block _ _ _ rfl).and ((own_block _ _ _ rfl).and (own_size _ _))))))
    (fun c st A B row hx hg hr => ⟨hx.1, OwnFrom.le hJx (by omega) st A B row hx.2 hg hr⟩) (CalmR.none _ _ _)
    ⟨hJ0 m, hy0, hq0, hp0, hg0, Nat.le_refl _⟩
    (fun x => .cells #[.int .i64 (x.1 : Nat), .int .i64 (x.2 : Nat)] 46 (0, 0)) (fun _ => rfl) ?fr ?assign ?body ?done ?stop
  case assign =>
    intro l2 x V K hK
    dsimp only [pcE, pcV]
    gi_wp2
    generalize hBx : V.heap.size = Bx
    exact hK Bx hBx.symm
  case body =>
    rintro l2 pre x Bx V hl hsz2 ⟨r, hr⟩ ⟨h1, h2, h3, h4, h5, h6⟩ hx1 hx2 hSp
    obtain ⟨hxa, hxb⟩ := unhide HIN x (hSp.subset (by simp))
    have z0 := cellK hx1 (j := 0) rfl
    have z1 := cellK hx1 (j := 1) rfl
    have z3 := cellK h3 (j := 0) rfl
    have HS := hide (unhide HSL V _ (unhide HPL V h4 h5) x.1 x.2 hxa (by rw [← unhide HUN]; exact hxb))
    have hn2 : 1 ≤ n - 1 - 1 := by omega
    have HX1 := hide hx1
    have HV := hide (And.intro h1 (And.intro h2 (And.intro h3 (And.intro h4 (And.intro h5 h6)))))
    clear h1 h2 h3 h4 h5 hx1 hr
    gi_wp2_with fail
    with_reducible refine CallsIn.mono (CallsIn.inRound _ (callsIn_wide.2 (unhide HS))) ?_
    rintro e V' ⟨rfl, hbV⟩
    obtain ⟨h1, h2, h3, h4, h5, _⟩ := unhide HV
    have hsV := hbV.size
    have y0 := cellK ((hbV.block _ (Array.getElem?_eq_some_iff.1 (unhide HX1)).1).trans (unhide HX1)) (j := 0) rfl
    have y1 := cellK ((hbV.block _ (Array.getElem?_eq_some_iff.1 (unhide HX1)).1).trans (unhide HX1)) (j := 1) rfl
    have y2 := cellK ((hbV.block _ (Array.getElem?_eq_some_iff.1 h2).1).trans h2) (j := 0) rfl
    have hJV : J m pre V' := hJ m pre V V' none h1 ⟨hbV.os, hbV.tape, hbV.output, hbV.size, fun k hk _ => hbV.block k hk⟩ (fun r e => by cases e)
    obtain ⟨fn, tmps, assign, body, hy, hR⟩ := yieldIn (m := n - 1 - 1 - 1) (lr := l2) (unhide HYY m pre x V' hJV hSp (by omega))
    dsimp only [eaE, pcV] at hy
    have HBV := hide hbV
    clear h1 h2 h3 h4 h5 hbV hJV z3 z0 z1
    gi_wp2
    have hbV := unhide HBV
    obtain ⟨h1, h2, h3, h4, h5, _⟩ := unhide HV
    obtain ⟨v1, v2⟩ := unhide HV4
    have up : ∀ {k : Nat} {o : Obj}, V.heap[k]? = some o → V'.heap[k]? = some o := fun h => (hbV.block _ (Array.getElem?_eq_some_iff.1 h).1).trans h
    refine hR.mono ?_
    rintro e V5 (⟨rfl, hJ5, hk5⟩ | ⟨rfl, hJx5, hk5⟩)
    · gi_wp2
      have hKF := hk5.1
      have hKR := hk5.2.2
      refine ⟨⟨Nat.le_trans hbV.size hKF.size, fun k ob hB hk ho => hKF.same k ob (by omega) (up hk) ho⟩,
        ⟨KeepsWalks.trans (KeepsWalks.of_grownBy (row := none) ⟨hbV.os, hbV.tape, hbV.output, hbV.size, fun k hk _ => hbV.block k hk⟩ (fun j o e => by cases e)) hk5.2.1, fun k ob hk ho hx => ?_⟩,
        hJ5, hKR _ _ (.inl ⟨Nat.le_refl _, by omega⟩) rfl (up h2), hKR _ _ (.inl ⟨by omega, by omega⟩) rfl (up h3), hKR _ _ (.inl ⟨by omega, by omega⟩) rfl (up h4), hKR _ _ (.inl ⟨by omega, by omega⟩) rfl (up h5), ?_⟩
      · rcases hk with hk | ⟨hkH, hk⟩
        · omega
        · have hkW : W.heap.size ≤ k := by
            rcases hk with rfl | rfl | ⟨x, e, rfl⟩ | ⟨x, e, rfl⟩
            · omega
            · omega
            · obtain rfl := Option.some.inj e; show _ ≤ W.heap.size + 1; omega
            · obtain rfl := Option.some.inj e; show _ ≤ w2.heap.size; omega
          exact hKR k ob (.inl ⟨hkW, by omega⟩) ho (up hx)
      · have := hKF.size; omega
    · gi_wp2
      exact ⟨⟨Nat.le_trans hbV.size hk5.size, fun k ob hB hk ho => hk5.same k ob (by omega) (up hk) ho⟩, rfl, hJx5⟩
  case done =>
    rintro D xs V hD hS ⟨h1, h2, h3, h4, h5, h6⟩ hK
    subst hS
    gi_wp2
    refine ⟨by simp, .inl ⟨_, _, rfl, run_takeDeferred hK, ?_⟩⟩
    refine ⟨_, results_none rfl _ _ _, ⟨_, rfl⟩, .inl ⟨m, _, rfl, ?_⟩⟩
    exact hJ m _ V _ (some D) h1 (grownBy_putObj' V D _) (fun r e => by cases e; exact ⟨by omega, _, hK, rfl⟩)
  case stop =>
    rintro D c pre V hD hSp ⟨rfl, hx⟩ hK
    gi_wp2
    refine ⟨by simp, .inl ⟨_, _, rfl, run_takeDeferred hK, ?_⟩⟩
    refine ⟨_, results_none rfl _ _ _, ⟨_, rfl⟩, .inr ⟨pre, hSp, ?_⟩⟩
    exact hJx _ V _ (some D) hx (grownBy_putObj' V D _) (fun r e => by cases e; exact ⟨by omega, _, hK, rfl⟩)
theorem each_gives (n Bp Bt : Nat) (hn : 7 ≤ n) (rest : Int) (pa : Option Addr) (pn pc : Nat) (lc : List CharD) (s : ByteArray) (w : World) (hpl : lc.length = pn) (hp : ReadsC w pa lc) (hpn : pn ≤ 1099511627776) (hs : s.size ≤ 1099511627776)
    (hBp : w.heap[Bp]? = some (.cells #[.iface 25 (propsV rest pa pn pc)] 84 (0, 0))) (hBt : w.heap[Bt]? = some (.cells #[.string s] 9 (0, 0))) :
    Gives6 n Try.prog 48 #[.pointer (some ⟨Bp, 0, none⟩), .pointer (some ⟨Bt, 0, none⟩)] (eaE s) (fun xs => xs = eachL rest lc s) (fun pre => pre <+: eachL rest lc s) w :=
  fun l J Jx W hW hJ hJx hY h0 => each1_in n l Bp Bt hn rest pa pn pc lc s J Jx W hpl (hp.below hW) hpn hs ((hW.block Bp (Array.getElem?_eq_some_iff.1 hBp).1).trans hBp) ((hW.block Bt (Array.getElem?_eq_some_iff.1 hBt).1).trans hBt) hY hJ hJx h0
theorem each_any (t : TypeId) (v : Value) (s : ByteArray) (w : World) : Calls Try.prog 28 #[.iface t v, .string s] w fun e w' => e = .returned (.func (.func 48) #[] #[.pointer (some ⟨w.heap.size, 0, none⟩), .pointer (some ⟨w.heap.size + 1, 0, none⟩)]) ∧ w' = (w.alloc (.cells #[.iface t v] 84)).alloc (.cells #[.string s] 9) := by
  have hmf : ∀ (fn : Fn) (first cap : Array Value) (w : World), (Instr.makeFunc fn first cap).run Try.prog w = .ok (.func fn first cap) w := fun _ _ _ _ => rfl
  go_enter Try.func28, Try.ntmps28
  go_wp2
  go_ret
  exact ⟨rfl, rfl⟩
theorem each_nil (s : ByteArray) (w : World) : Calls Try.prog 28 #[.nilIface, .string s] w fun e w' => e = .returned (.func (.func 48) #[] #[.pointer (some ⟨w.heap.size, 0, none⟩), .pointer (some ⟨w.heap.size + 1, 0, none⟩)]) ∧ w' = (w.alloc (.cells #[.nilIface] 84)).alloc (.cells #[.string s] 9) := by
  have hmf : ∀ (fn : Fn) (first cap : Array Value) (w : World), (Instr.makeFunc fn first cap).run Try.prog w = .ok (.func fn first cap) w := fun _ _ _ _ => rfl
  go_enter Try.func28, Try.ntmps28
  go_wp2
  go_ret
  exact ⟨rfl, rfl⟩
end Go.Proofs.Ytkckkchnmgidgaa

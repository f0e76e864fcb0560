/-
  The paragraphs as an iterator: goesOn, paragraphs.
-/
import Derived.Test.YtkckkchnmgidgaaPaA
import Derived.Test.YtkckkchnmgidgaaSeq4
import Derived.LoopIn
import Derived.ControlIn
import Derived.BigFrameIn
import Derived.BigGuardIn
import Derived.BigRegionIn
namespace Go.Proofs.Ytkckkchnmgidgaa
open Go.RowKit Go.PlainAid Go.Lib Go.Seq4
attribute [local go_sem] Oper.semAt_some
set_option linter.unusedVariables false
set_option maxRecDepth 100000
set_option maxHeartbeats 2000000

theorem goesOn_any (a b : Option Addr) (n c m d : Nat) (rs cs : List Int) (k : Nat) (w : World) (hn : rs.length = n) (hm : cs.length = m) (ha : Reads w a rs) (hb : ReadsB w b cs) (hnm : n = 0 ∨ n = m) (hk : k < m) (hmm : m ≤ 1099511627776) :
    Calls Try.prog 56 #[.slice a n c, .slice b m d, .int .i64 (k : Nat)] w fun e w' => e = .returned (.bool (goesB rs cs k)) ∧ w' = w := by
  have hg : goesB rs cs k = (decide (k + 1 < n) && (cA rs k == 13 && (cA rs (k + 1) == 10 && cA cs (k + 1) == 11))) := by unfold goesB; rw [hn]
  have hw : IntKind.i64.wrap ((k : Int) + 1) = (k : Int) + 1 := by rw [IntKind.wrap_i64]; omega
  rw [hg]
  by_cases h1 : k + 1 < n
  · have hnm' : n = m := by omega
    obtain ⟨ba, oa, rfl, c1⟩ := ha k (by omega)
    obtain ⟨ba', oa', e1, c2⟩ := ha (k + 1) (by omega)
    cases e1
    obtain ⟨bb, ob, rfl, c3⟩ := hb (k + 1) (by omega)
    have e1 : rs.getD k 0 = cA rs k := rfl
    have e2 : rs.getD (k + 1) 0 = cA rs (k + 1) := rfl
    rw [e1] at c1
    rw [e2] at c2
    rw [decide_eq_true h1, Bool.true_and]
    clear e1 e2 hg ha hb
    generalize cA rs k = x at *
    generalize cA rs (k + 1) = y at *
    generalize cA cs (k + 1) = z at *
    by_cases hx : x = 13
    · subst hx
      by_cases hy : y = 10
      · subst hy
        generalize hz : (z == 11) = q
        go_enter Try.func56, Try.ntmps56
        go_wp2
        go_ret
        exact ⟨by simp, rfl⟩
      · have hq : (y == 10) = false := by simpa using hy
        rw [hq]
        go_enter Try.func56, Try.ntmps56
        go_wp2
        go_ret
        exact ⟨rfl, rfl⟩
    · have hq : (x == 13) = false := by simpa using hx
      rw [hq]
      go_enter Try.func56, Try.ntmps56
      go_wp2
      go_ret
      exact ⟨rfl, rfl⟩
  · rw [decide_eq_false h1, Bool.false_and]
    clear hg ha hb
    go_enter Try.func56, Try.ntmps56
    go_wp2
    go_ret
    exact ⟨rfl, rfl⟩

def pcV (p : Nat × Nat) : Value := .agg #[.int .i64 (p.1 : Nat), .int .i64 (p.2 : Nat)]
def pcE (p : Nat × Nat) : Array Value := #[pcV p]
/-- the lists that the iterator reads, and where they lie -/
structure HoldP (W : World) (H : Nat) (b1 b2 : Nat) (a b : Option Addr) (c d : Nat) (rs cs : List Int) : Prop where
  box1 : W.heap[b1]? = some (.cells #[.slice b cs.length d] 29 (0, 0))
  box2 : W.heap[b2]? = some (.cells #[.slice a rs.length c] 26 (0, 0))
  cls : ReadsB W b cs
  rns : Reads W a rs
  lt1 : b1 < H
  lt2 : b2 < H
  ltc : cs ≠ [] → ∀ x, b = some x → x.block < H
  ltr : rs ≠ [] → ∀ x, a = some x → x.block < H
def bsP (H b1 b2 : Nat) (a b : Option Addr) : Nat → Prop := fun k => k < H ∧ (k = b1 ∨ k = b2 ∨ (∃ x : Addr, a = some x ∧ x.block = k) ∨ (∃ x : Addr, b = some x ∧ x.block = k))
theorem cell_obj {W : World} {b o : Nat} {v : Value} (h : W.cell? ⟨b, o, none⟩ = some v) : ∃ ob : Obj, W.heap[b]? = some ob ∧ ob.isCells = true := by
  unfold World.cell? at h
  cases hb : W.heap[b]? with
  | none => simp [hb] at h
  | some ob =>
    cases ob with
    | cells c e f => exact ⟨_, rfl, rfl⟩
    | _ => simp [hb] at h
theorem cell_same {W W' : World} {b : Nat} (h : W'.heap[b]? = W.heap[b]?) (o : Nat) : W'.cell? ⟨b, o, none⟩ = W.cell? ⟨b, o, none⟩ := by
  unfold World.cell?; rw [h]
theorem HoldP.kept {W W' : World} {H b1 b2 : Nat} {a b : Option Addr} {c d : Nat} {rs cs : List Int} (h : HoldP W H b1 b2 a b c d rs cs)
    (hk : ∀ k (o : Obj), bsP H b1 b2 a b k → o.isCells = true → W.heap[k]? = some o → W'.heap[k]? = some o) : HoldP W' H b1 b2 a b c d rs cs := by
  refine ⟨hk _ _ ⟨h.lt1, .inl rfl⟩ rfl h.box1, hk _ _ ⟨h.lt2, .inr (.inl rfl)⟩ rfl h.box2, ?_, ?_, h.lt1, h.lt2, h.ltc, h.ltr⟩
  · intro k hk'
    obtain ⟨g, off, e, hc⟩ := h.cls k hk'
    obtain ⟨ob, ho, hi⟩ := cell_obj hc
    have := hk g ob ⟨h.ltc (by rintro rfl; simp at hk') _ e, .inr (.inr (.inr ⟨_, e, rfl⟩))⟩ hi ho
    exact ⟨g, off, e, (cell_same (this.trans ho.symm) _).trans hc⟩
  · intro k hk'
    obtain ⟨g, off, e, hc⟩ := h.rns k hk'
    obtain ⟨ob, ho, hi⟩ := cell_obj hc
    have := hk g ob ⟨h.ltr (by rintro rfl; simp at hk') _ e, .inr (.inr (.inl ⟨_, e, rfl⟩))⟩ hi ho
    exact ⟨g, off, e, (cell_same (this.trans ho.symm) _).trans hc⟩
theorem HoldP.below {W W' : World} {H b1 b2 : Nat} {a b : Option Addr} {c d : Nat} {rs cs : List Int} (h : HoldP W H b1 b2 a b c d rs cs) (hb : Below W.heap.size W W') : HoldP W' H b1 b2 a b c d rs cs :=
  ⟨(hb.block b1 (Array.getElem?_eq_some_iff.1 h.box1).1).trans h.box1, (hb.block b2 (Array.getElem?_eq_some_iff.1 h.box2).1).trans h.box2, h.cls.below hb, h.rns.below hb, h.lt1, h.lt2, h.ltc, h.ltr⟩

theorem stS_pre (l cs : List Int) : ∀ k n, k ≤ n → (stS l cs k).2 <+: (stS l cs n).2 := by
  intro k n hkn
  induction n with
  | zero => obtain rfl : k = 0 := by omega
            exact List.prefix_rfl
  | succ n ih =>
    by_cases h : k = n + 1
    · subst h; exact List.prefix_rfl
    · refine (ih (by omega)).trans ?_
      rw [stS]; split
      · exact List.prefix_append _ _
      · exact List.prefix_rfl
theorem split_pre (l cs : List Int) (k : Nat) (hk : k ≤ cs.length) : (stS l cs k).2 <+: splitL l cs := by
  refine (stS_pre l cs k _ hk).trans ?_
  unfold splitL; split
  · exact List.prefix_append _ _
  · exact List.prefix_rfl

theorem paras_in (H b1 b2 : Nat) (a b : Option Addr) (c d : Nat) (rs cs : List Int) (n l : Nat) (hn : 4 ≤ n) (hnm : rs.length = 0 ∨ rs.length = cs.length) (hcl : cs.length ≤ 1099511627776) (J Jx : List (Nat × Nat) → World → Prop) (W : World)
    (hY : ∀ pre x W1, J pre W1 → (pre ++ [x] <+: splitL rs cs) → W.heap.size + 0 ≤ W1.heap.size → YieldAt Fence.wide (n - 1) Try.prog l (pcE x) W1 fun e W' =>
      (e = .returned (.bool true) ∧ J (pre ++ [x]) W' ∧ Kp4 0 (bsP H b1 b2 a b) W.heap.size W1 W') ∨ (e = .returned (.bool false) ∧ Jx (pre ++ [x]) W' ∧ KeepsFrom W.heap.size W1 W'))
    (hJ : OwnFrom W.heap.size J) (hH : HoldP W H b1 b2 a b c d rs cs) (h0 : J [] W) :
    CallsIn Fence.wide n Try.prog 55 #[.func (.yield l) #[] #[], .pointer (some ⟨b1, 0, none⟩), .pointer (some ⟨b2, 0, none⟩)] W fun e W' => (∃ v, e = .returned v) ∧
      ((∃ xs, xs = splitL rs cs ∧ J xs W') ∨ (∃ pre, (pre <+: splitL rs cs) ∧ Jx pre W')) := by
  have HYY := hide hY
  have HJ := hide hJ
  clear hY hJ
  refine callsIn_of_wp Try.func55 rfl trivial ?_ rfl
  simp only [Try.ntmps55, List.size_toArray, List.length_cons, List.length_nil, Nat.reduceAdd, Nat.reduceSub, Array.replicate_succ, Array.replicate_zero, List.push_toArray, List.append_toArray, List.nil_append, List.cons_append]
  have hn1 : 1 ≤ n := by omega
  have hn2 : 1 ≤ n - 1 := by omega
  have hF : ∀ f, Fence.wide.fn f := fun _ => trivial
  have c1 : W.cell? ⟨b1, 0, none⟩ = some (.slice b cs.length d) := by simp [World.cell?, hH.box1]
  have HH := hide hH
  clear hH
  gi_wp2
  gi_loopw [4, 9] (fun v4 v9 wr => ∃ k : Nat, v9 = .int .i64 (k : Nat) ∧ v4 = .int .i64 ((stS rs cs k).1 : Nat) ∧ k ≤ cs.length ∧ HoldP wr H b1 b2 a b c d rs cs ∧ W.heap.size ≤ wr.heap.size ∧ J (stS rs cs k).2 wr)
    (fun _ v9 _ => cs.length - (RowKit.intOf v9).toNat)
  case atStart => exact ⟨0, rfl, rfl, Nat.zero_le _, unhide HH, Nat.le_refl _, h0⟩
  case round =>
    obtain ⟨k, rfl, rfl, hk, hH1, hsz, hJ1⟩ := hrel
    have d1 : wr.cell? ⟨b1, 0, none⟩ = some (.slice b cs.length d) := by simp [World.cell?, hH1.box1]
    have d2 : wr.cell? ⟨b2, 0, none⟩ = some (.slice a rs.length c) := by simp [World.cell?, hH1.box2]
    obtain ⟨fr, hfr⟩ : ∃ fr, fr = (stS rs cs k).1 := ⟨_, rfl⟩
    have hle := stS_le rs cs k
    rw [← hfr] at hle ⊢
    have HFR := hide hfr
    clear hfr
    by_cases hlt : k < cs.length
    · obtain ⟨g, off, hb, cx⟩ := hH1.cls k hlt
      have HST : Hid (stS rs cs (k + 1) = if sepB rs cs k = true then (k + 1, (stS rs cs k).2 ++ [((stS rs cs k).1, k + 1)]) else stS rs cs k) := by show _ = _; rw [stS]
      have HG := hide (goesOn_any a b rs.length c cs.length d rs cs k wr rfl rfl hH1.rns hH1.cls (by omega) hlt hcl)
      have HS : Hid (sepB rs cs k = (cA cs k == 11 && !goesB rs cs k)) := rfl
      have HH1 := hide hH1
      have HJ1 := hide hJ1
      have HPR := hide (split_pre rs cs (k + 1) hlt)
      clear hH1 hJ1
      subst hb
      generalize hm : cs.length = m at *
      generalize hnr : rs.length = nr at *
      obtain ⟨x, hx⟩ : ∃ x, cA cs k = x := ⟨_, rfl⟩
      rw [hx] at cx HS
      by_cases h11 : x = 11
      · subst h11
        cases hg : goesB rs cs k with
        | true =>
          have hst : stS rs cs (k + 1) = stS rs cs k := by rw [unhide HST, unhide HS, hg]; rfl
          rw [hg] at HG
          have HST2 := hide hst
          clear hst HST HPR
          gi_wp2_with (gi_at_call 56; with_reducible refine CallsIn.mono (callsIn_wide.2 (unhide HG)) ?_; rintro e w' ⟨rfl, rfl⟩)
          go_roundw
          case rel => exact ⟨k + 1, by go_num, by rw [unhide HST2, unhide HFR], by omega, unhide HH1, hsz, by rw [unhide HST2]; exact unhide HJ1⟩
          case measure => simp [RowKit.intOf]; omega
        | false =>
          have hst : stS rs cs (k + 1) = (k + 1, (stS rs cs k).2 ++ [(fr, k + 1)]) := by rw [unhide HST, unhide HS, hg, unhide HFR]; rfl
          rw [hg] at HG
          have hpr := unhide HPR
          rw [hst] at hpr
          have HST2 := hide hst
          obtain ⟨fn, tmps, assign, body, hy, hR⟩ := unhide HYY (stS rs cs k).2 (fr, k + 1) wr (unhide HJ1) hpr hsz
          dsimp only [pcE, pcV] at hy
          rw [show (((k + 1 : Nat)) : Int) = (k : Int) + 1 from rfl] at hy
          have HPR2 := hide hpr
          clear hst HST HPR hpr
          gi_wp2_with (gi_at_call 56; with_reducible refine CallsIn.mono (callsIn_wide.2 (unhide HG)) ?_; rintro e w' ⟨rfl, rfl⟩)
          refine hR.mono ?_
          rintro e W5 (⟨rfl, hJ5, hk5⟩ | ⟨rfl, hJx5, hk5⟩)
          · have hH5 := (unhide HH1).kept (fun k o hk ho hx => hk5.2.2 k o (.inr hk) ho hx)
            have hsz5 : W.heap.size ≤ W5.heap.size := Nat.le_trans hsz hk5.1.size
            have HG5 := hide (And.intro hH5 hJ5)
            clear hH5 hJ5 hk5
            gi_wp2
            go_roundw
            case rel => exact ⟨k + 1, by go_num, by rw [unhide HST2]; rfl, by omega, by rw [hm] at *; exact (unhide HG5).1, hsz5, by rw [unhide HST2]; exact (unhide HG5).2⟩
            case measure => simp [RowKit.intOf]; omega
          · gi_wp2
            refine bodyPost_ret (results_none rfl _ _ _) rfl ?_
            exact ⟨⟨_, rfl⟩, .inr ⟨_, unhide HPR2, hJx5⟩⟩
      · have hst : stS rs cs (k + 1) = stS rs cs k := by
          rw [unhide HST, unhide HS]
          have : (x == 11) = false := by simpa using h11
          rw [this]; rfl
        have HST2 := hide hst
        clear hst HST HPR
        gi_wp2
        go_roundw
        case rel => exact ⟨k + 1, by go_num, by rw [unhide HST2, unhide HFR], by omega, unhide HH1, hsz, by rw [unhide HST2]; exact unhide HJ1⟩
        case measure => simp [RowKit.intOf]; omega
    · obtain rfl : k = cs.length := by omega
      have HJ1 := hide hJ1
      have HSP : Hid (splitL rs cs = if (stS rs cs cs.length).1 < cs.length then (stS rs cs cs.length).2 ++ [((stS rs cs cs.length).1, cs.length)] else (stS rs cs cs.length).2) := rfl
      rw [← unhide HFR] at HSP
      clear hJ1 hH1
      generalize hm : cs.length = m at *
      by_cases hf : fr < m
      · have hsp : splitL rs cs = (stS rs cs m).2 ++ [(fr, m)] := by rw [unhide HSP, if_pos hf]
        obtain ⟨fn, tmps, assign, body, hy, hR⟩ := unhide HYY (stS rs cs m).2 (fr, m) wr (unhide HJ1) (by rw [hsp]; exact List.prefix_rfl) hsz
        dsimp only [pcE, pcV] at hy
        have HSP2 := hide hsp
        clear hsp HSP
        gi_wp2
        refine hR.mono ?_
        rintro e W5 (⟨rfl, hJ5, hk5⟩ | ⟨rfl, hJx5, hk5⟩)
        · gi_wp2
          refine bodyPost_end (results_none rfl _ _ _) rfl ?_
          exact ⟨⟨_, rfl⟩, .inl ⟨_, rfl, by rw [unhide HSP2]; exact hJ5⟩⟩
        · gi_wp2
          refine bodyPost_end (results_none rfl _ _ _) rfl ?_
          exact ⟨⟨_, rfl⟩, .inr ⟨_, by rw [unhide HSP2]; exact List.prefix_rfl, hJx5⟩⟩
      · have hsp : splitL rs cs = (stS rs cs m).2 := by rw [unhide HSP, if_neg hf]
        have HSP2 := hide hsp
        clear hsp HSP
        gi_wp2
        refine bodyPost_end (results_none rfl _ _ _) rfl ?_
        exact ⟨⟨_, rfl⟩, .inl ⟨_, rfl, by rw [unhide HSP2]; exact unhide HJ1⟩⟩
theorem paras_gives (H b1 b2 : Nat) (a b : Option Addr) (c d : Nat) (rs cs : List Int) (hnm : rs.length = 0 ∨ rs.length = cs.length) (hcl : cs.length ≤ 1099511627776) (w : World) (hH : HoldP w H b1 b2 a b c d rs cs) (n : Nat) (hn : 4 ≤ n) :
    Gives4 n Try.prog 55 #[.pointer (some ⟨b1, 0, none⟩), .pointer (some ⟨b2, 0, none⟩)] pcE 0 (bsP H b1 b2 a b) 0 0 (fun xs => xs = splitL rs cs) (fun pre => pre <+: splitL rs cs) w :=
  fun l J Jx W hW hJ hJx hcalm hY h0 => paras_in H b1 b2 a b c d rs cs n l hn hnm hcl J Jx W hY hJ (hH.below hW) h0
theorem paragraphs_any (x y : Value) (hx : ∃ a n c, x = .slice a n c) (hy : ∃ a n c, y = .slice a n c) (w : World) : Calls Try.prog 47 #[x, y] w fun e w' => e = .returned (.func (.func 55) #[] #[.pointer (some ⟨w.heap.size + 1, 0, none⟩), .pointer (some ⟨w.heap.size, 0, none⟩)]) ∧ w' = (w.alloc (.cells #[x] 26)).alloc (.cells #[y] 29) := by
  obtain ⟨a, n, c, rfl⟩ := hx
  obtain ⟨a2, n2, c2, rfl⟩ := hy
  go_enter Try.func47, Try.ntmps47
  go_wp2
  go_ret
  exact ⟨rfl, rfl⟩
end Go.Proofs.Ytkckkchnmgidgaa

/-
  UtfEncodes: Encode, Scalar and Width answer what the document says, and the list stays as it is: for every list of runes and every rune that hold together at most 1048576 values.
-/
import Derived.Test.YtgffibonikcecaaRefB
import Derived.Test.YtgffibonikcecaaBulk
import Derived.ProofKit
import Derived.ShutString
import Derived.ChangeOld
import Derived.JoinedCond
namespace Go.Proofs.Ytgffibonikcecaa.utfEncodes
open Go.ChangeShapes Go.WideShapes Go.ChangeAt Go.RowKit Go.PlainAid Go.Lib
set_option linter.unusedVariables false

theorem add_reads {x : Addr} {b off : Nat} (h : some x = some (⟨b, off, none⟩ : Addr)) (j : Nat) : x.add j = ⟨b, off + j, none⟩ := by
  cases h
  by_cases hj : j = 0
  · subst hj; rfl
  · simp [Addr.add, hj]
theorem news_reads {w : World} {x : Addr} {ys : List Int} (h : Reads w (some x) ys) :
    (ys.map (Value.int .i32)).length = ys.length * 1 ∧ (∀ j u, (ys.map (Value.int .i32))[j]? = some u → w.cell? (x.add j) = some u) ∧ (∀ u ∈ ys.map (Value.int .i32), u.oneCell' = true) := by
  refine ⟨by simp, ?_, ?_⟩
  · intro j u hu
    have hj : j < ys.length := by
      have := (List.getElem?_eq_some_iff.1 hu).1; simpa using this
    obtain ⟨b, off, e, hc⟩ := h j hj
    rw [add_reads e j, hc]
    simp [List.getElem?_eq_getElem hj] at hu
    simp [List.getD, List.getElem?_eq_getElem hj, hu]
  · intro u hu
    obtain ⟨z, _, rfl⟩ := List.mem_map.1 hu
    rfl
theorem own_cap {w : World} {base : Nat} {e : TypeId} {size g n cap : Nat} {xs : List Value} (h : w.ownsRow base e size (.slice (some ⟨g, 0, none⟩) n cap) n xs) : n ≤ cap := by
  rcases h.2 with ⟨h0, _⟩ | ⟨g', cap', cur, hv, _, _, hc, _⟩
  · cases h0
  · obtain ⟨_, rfl⟩ : g = g' ∧ cap = cap' := by simpa using hv
    exact hc

set_option maxRecDepth 100000 in
set_option maxHeartbeats 2000000 in
theorem walk (a1 : Option Addr) (ys : List Int) (cap : Nat) (r : Int) (w : World) (hR : Reads w a1 ys) (hnil : a1 = none → ys = [] ∧ cap = 0) (hlen : ys.length ≤ 1048576) :
    Calls Try.prog 5 #[.slice a1 ys.length cap, .int .i32 r] w fun e w' => e = .returned (.bool true) ∧ Below w.heap.size w w' := by
  obtain ⟨i0, hi, hz0, hz1, hz2⟩ := info_parts infoRune
  have HR := hide hR
  cases a1 with
  | none =>
    obtain ⟨rfl, rfl⟩ := hnil rfl
    clear hR hnil
    have HN : Hid (([] : List Int).length = 0) := rfl
    show Calls _ _ #[.slice none 0 0, _] _ _
    go_enter Try.func5, Try.ntmps5
    go_wp2_with (at_builtin; refine wpList_append_own _ rfl _ _ 38 rfl w.heap.size 21 i0 (.int .i32 0) 1 4 Try.underlying38 hi hz0 hz1 hz2 rfl (by decide) (.slice none 0 0) 0 [] rfl (World.ownsRow_nil _ _ _ _) ⟨w.heap.size, 0, none⟩ 1 1 [.int .i32 (-77)] rfl rfl (cell_one_new _ _ _) (by simp [Value.oneCell']) (by unfold maxLen; omega) (by omega) (by simp) ?_; intro v2 W2 hown2 hgrow2 _; obtain ⟨g', cap', rfl⟩ := ownsRow_succ hown2; have hcp := own_cap hown2; simp only [Nat.zero_add] at hcp)
    have hown3 : W2.ownsRow w.heap.size 21 1 (.slice (some ⟨g', 0, none⟩) 1 cap') 1 ((([] : List Int) ++ [-77]).map (Value.int .i32)) := by
      have := hown2
      simpa using this
    have hB2 : Below w.heap.size w W2 := below_grown (Below.refl _ _) (Nat.le_refl _) (World.ownsRow_nil w w.heap.size 21 1) hgrow2
    have hRF : Reads W2 (some ⟨g', 0, none⟩) ([] : List Int) := (reads_own hown3).front
    have hc77 := hown3.cellAt 0 (by omega)
    have e77 : ((([] : List Int) ++ [-77]).map (Value.int .i32))[0]? = some (.int .i32 (-77)) := by rw [← unhide HN]; simp
    rw [e77] at hc77
    have hg2 : g' < W2.heap.size := (hown3.lt g' rfl).2
    have henc : Calls Try.prog 29 #[.slice (some ⟨g', 0, none⟩) 0 cap'] W2 fun e w' => e = .returned (.string (runesBytes ([] : List Int))) ∧ w' = W2 := by
      have := encode_reads W2 (some ⟨g', 0, none⟩) cap' ([] : List Int) hRF (fun h => by cases h)
      rw [unhide HN] at this; exact this
    refine henc.mono ?_
    rintro e W2' ⟨rfl, rfl⟩
    have href : Calls Try.prog 28 #[.slice none 0 0] W2' fun e w' => e = .returned (.string (runesBytes ([] : List Int))) ∧ Below W2'.heap.size W2' w' := by
      have := refEncode_any none 0 ([] : List Int) W2' ((unhide HR).below hB2) (by rw [unhide HN]; omega)
      rw [unhide HN] at this; exact this
    have HREF := hide href
    have HRF := hide hRF
    have HC := hide hc77
    clear henc href hRF hc77 e77 hown3 hown2 hgrow2
    go_wp2_with fail
    refine (unhide HREF).mono ?_
    rintro e W3 ⟨rfl, hb3⟩
    have hsame : Calls Try.prog 30 #[.slice (some ⟨g', 0, none⟩) 0 cap', .slice none 0 0] W3 fun e w' => e = .returned (.bool true) ∧ Below W3.heap.size W3 w' := by
      have := same_yes (some ⟨g', 0, none⟩) none cap' 0 ([] : List Int) W3 ((unhide HRF).below hb3) (((unhide HR).below hB2).below hb3) (by rw [unhide HN]; omega)
      rw [unhide HN] at this; exact this
    have HSAME := hide hsame
    clear hsame
    go_wp2_with fail
    refine (unhide HSAME).mono ?_
    rintro e W4 ⟨rfl, hb4⟩
    have hb24 : Below W2'.heap.size W2' W4 := below2 hb3 hb4
    have hc4 : W4.cell? ⟨g', 0, none⟩ = some (.int .i32 (-77)) := (hb24.cell (p := ⟨g', 0, none⟩) hg2).trans (unhide HC)
    have hB4 : Below w.heap.size w W4 := hB2.trans (hb24.mono hB2.size)
    clear HREF HSAME HRF HC hb3 hb4 hb24 hB2
    go_wp2_with (first
      | (go_at_call 31; refine (scalar_any _ _).mono ?_; rintro e w' ⟨rfl, rfl⟩)
      | (go_at_call 32; refine (refScalar_any _ _).mono ?_; rintro e w' ⟨rfl, rfl⟩)
      | (go_at_call 33; refine (width_any _ _).mono ?_; rintro e w' ⟨rfl, rfl⟩)
      | (go_at_call 34; refine (refWidth_any _ _).mono ?_; rintro e w' ⟨rfl, rfl⟩)
      | (go_at_call 19; refine (lives_any _).mono ?_; rintro e w5 ⟨rfl, hb5⟩))
    go_ret
    exact ⟨rfl, hB4.trans (hb5.mono hB4.size)⟩
  | some x =>
    obtain ⟨n1, n2, n3⟩ := news_reads hR
    have N1 := hide n1
    have N2 := hide n2
    have N3 := hide n3
    clear n1 n2 n3 hR hnil
    generalize hn : ys.length = n at *
    have HN := hide hn
    clear hn
    have tok1 : True := trivial
    go_enter Try.func5, Try.ntmps5
    go_wp2_with (first
      | (at_builtin; have _t := tok1; refine wpList_append_own w rfl _ _ 38 rfl w.heap.size 21 i0 (.int .i32 0) 1 4 Try.underlying38 hi hz0 hz1 hz2 rfl (by decide) (.slice none 0 0) 0 [] rfl (World.ownsRow_nil _ _ _ _) x n cap (ys.map (Value.int .i32)) rfl (unhide N1) (unhide N2) (unhide N3) (by unfold maxLen; omega) (by omega) (Nat.le_refl _) ?_; intro v1 W1 hown1 hgrow1 _; clear tok1; have hle1 := hgrow1.size)
      | (at_builtin; refine wpList_append_own _ rfl _ _ 38 rfl w.heap.size 21 i0 (.int .i32 0) 1 4 Try.underlying38 hi hz0 hz1 hz2 rfl (by decide) _ _ _ rfl (hown1.alloc _) ⟨W1.heap.size, 0, none⟩ 1 1 [.int .i32 (-77)] rfl rfl (cell_one_new _ _ _) (by simp [Value.oneCell']) (by unfold maxLen; omega) (by omega) (by simp; omega) ?_; intro v2 W2 hown2 hgrow2 _; obtain ⟨g', cap', rfl⟩ := ownsRow_succ hown2; have hcp := own_cap hown2; simp only [Nat.zero_add] at hcp))
    have hown3 : W2.ownsRow w.heap.size 21 1 (.slice (some ⟨g', 0, none⟩) (n + 1) cap') (n + 1) ((ys ++ [-77]).map (Value.int .i32)) := by
      have := hown2
      simpa using this
    have hB2 : Below w.heap.size w W2 := below_grown ((Below.refl w.heap.size w).grown hgrow1 (Nat.le_refl _) (fun k e => by simp [Value.ownBlock] at e)) hle1 hown1 hgrow2
    have hRF : Reads W2 (some ⟨g', 0, none⟩) ys := (reads_own hown3).front
    have hc77 := hown3.cellAt n (by omega)
    have e77 : ((ys ++ [-77]).map (Value.int .i32))[n]? = some (.int .i32 (-77)) := by rw [← unhide HN]; simp
    rw [e77] at hc77
    have hg2 : g' < W2.heap.size := (hown3.lt g' rfl).2
    have henc : Calls Try.prog 29 #[.slice (some ⟨g', 0, none⟩) n cap'] W2 fun e w' => e = .returned (.string (runesBytes ys)) ∧ w' = W2 := by
      have := encode_reads W2 (some ⟨g', 0, none⟩) cap' ys hRF (fun h => by cases h)
      rw [unhide HN] at this; exact this
    refine henc.mono ?_
    rintro e W2' ⟨rfl, rfl⟩
    have href : Calls Try.prog 28 #[.slice (some x) n cap] W2' fun e w' => e = .returned (.string (runesBytes ys)) ∧ Below W2'.heap.size W2' w' := by
      have := refEncode_any (some x) cap ys W2' ((unhide HR).below hB2) (by rw [unhide HN]; omega)
      rw [unhide HN] at this; exact this
    have HREF := hide href
    have HRF := hide hRF
    have HC := hide hc77
    clear henc href hRF hc77 e77 hown3 hown2 hgrow2
    go_wp2_with fail
    refine (unhide HREF).mono ?_
    rintro e W3 ⟨rfl, hb3⟩
    have hsame : Calls Try.prog 30 #[.slice (some ⟨g', 0, none⟩) n cap', .slice (some x) n cap] W3 fun e w' => e = .returned (.bool true) ∧ Below W3.heap.size W3 w' := by
      have := same_yes (some ⟨g', 0, none⟩) (some x) cap' cap ys W3 ((unhide HRF).below hb3) (((unhide HR).below hB2).below hb3) (by rw [unhide HN]; omega)
      rw [unhide HN] at this; exact this
    have HSAME := hide hsame
    clear hsame
    go_wp2_with fail
    refine (unhide HSAME).mono ?_
    rintro e W4 ⟨rfl, hb4⟩
    have hb24 : Below W2'.heap.size W2' W4 := below2 hb3 hb4
    have hc4 : W4.cell? ⟨g', n, none⟩ = some (.int .i32 (-77)) := (hb24.cell (p := ⟨g', n, none⟩) hg2).trans (unhide HC)
    have hB4 : Below w.heap.size w W4 := hB2.trans (hb24.mono hB2.size)
    clear HREF HSAME HRF HC hb3 hb4 hb24 hB2
    go_wp2_with (first
      | (go_at_call 31; refine (scalar_any _ _).mono ?_; rintro e w' ⟨rfl, rfl⟩)
      | (go_at_call 32; refine (refScalar_any _ _).mono ?_; rintro e w' ⟨rfl, rfl⟩)
      | (go_at_call 33; refine (width_any _ _).mono ?_; rintro e w' ⟨rfl, rfl⟩)
      | (go_at_call 34; refine (refWidth_any _ _).mono ?_; rintro e w' ⟨rfl, rfl⟩)
      | (go_at_call 19; refine (lives_any _).mono ?_; rintro e w5 ⟨rfl, hb5⟩))
    go_ret
    exact ⟨rfl, hB4.trans (hb5.mono hB4.size)⟩

theorem own : ownKnob Try.prog.godebug = none := by kernel_rfl
theorem laidOut : laidOutB Try.prog = true := by kernel_rfl

set_option maxRecDepth 100000 in
theorem contract (H : Type) (enc : TypeId × Value → H) (W : World) (base : Nat) (args : Array Value) (ds gs : List (DataW H)) (before : List MemPlace)
    (hval : ∀ (j : Nat) t v, Try.f5.params[j]? = some t → args[j]? = some v → Value.okWide Try.prog W .any base t v)
    (hW : DataW.Whole enc Try.prog Try.f5.params.toList Rows.utfEncodesSpec.vars false W args.toList ds gs before) (hk : Rows.uptoSmall H (ds ++ gs) = true) :
    Calls Try.prog 5 args W fun e W' => ∃ v, e = .returned v ∧ Rows.utfEncodesSpec.post enc Try.prog Try.f5 false true false false W args v W' := by
  have hW' := hW
  obtain ⟨p, q, hA0, hV, rfl, hfz, hnd⟩ := hW
  have hA : DataW.TrodAll enc Try.prog W 0 (fun _ => true) true Try.f5.params.toList args.toList ds p := hA0
  rw [Try.params5] at hA hval
  obtain ⟨v0, vs0, d0, ds0, p0, q0, hargs, rfl, rfl, h0, r0⟩ := trodAll_cons hA
  obtain ⟨v1, vs1, d1, ds1, p1, q1, rfl, rfl, rfl, h1, r1⟩ := trodAll_cons r0
  obtain ⟨rfl, rfl, rfl⟩ := trodAll_nil r1
  obtain rfl : args = #[v0, v1] := by cases args; simp_all
  obtain ⟨rfl, rfl⟩ := trodVars_none hV
  obtain ⟨a0, len0, cap0, rfl⟩ := okWide_slice Try.underlying38 (hval 0 38 v0 rfl rfl)
  obtain ⟨r1, rfl, rfl, rfl, w1⟩ := open_int Try.underlying21 (hval 1 21 v1 rfl rfl) h1
  have k0 := h0
  have lt0 : ∀ x ∈ p0, x.block < W.heap.size := by obtain ⟨m, hm⟩ := k0; exact DataW.trod_lt m _ _ _ hm
  have b0 := bulk_first (show Rows.uptoSmall H (d0 :: [_]) = true from hk)
  obtain ⟨z0, w0, c0⟩ : ∃ zs, IsRow W a0 len0 cap0 zs ∧ cap0 ≤ 1048576 := by
    obtain ⟨fuel, hf⟩ := h0
    rcases open_ints Try.underlying38 Try.underlying21 (by kernel_rfl) hf with ⟨hcs, _⟩ | ⟨x, l, c, zs, hcs, _, hl, hm, hz, hx, hcell, hwz⟩
    · simp [Value.cells] at hcs
      obtain ⟨rfl, rfl, rfl⟩ := hcs
      exact ⟨[], .inl ⟨rfl, rfl, rfl, rfl⟩, by omega⟩
    · simp [Value.cells] at hcs
      obtain ⟨rfl, rfl, rfl⟩ := hcs
      have hz' : zs.length = cap0 := by simpa using hz
      refine ⟨zs, .inr ⟨_, rfl, hl, hm, hz', hcell⟩, ?_⟩
      have hd : d0 = .slice (lits .i32 (zs.take len0)) (lits .i32 (zs.drop len0)) := by simp only [Prod.mk.injEq] at hx; exact hx.1
      rw [hd] at b0
      have h2 := bulk_slice (H := H) (lits .i32 (zs.take len0)) (lits .i32 (zs.drop len0))
      have e1 : (lits (H := H) .i32 (zs.take len0)).length = (zs.take len0).length := by simp [lits]
      have e2 : (lits (H := H) .i32 (zs.drop len0)).length = (zs.drop len0).length := by simp [lits]
      rw [e1, e2, List.length_take, List.length_drop] at h2
      omega
  clear hA0
  obtain ⟨hrd, hle⟩ := w0.reads
  have hlc : len0 ≤ cap0 := by rcases w0 with ⟨_, h, h', _⟩ | ⟨_, _, h, _⟩ <;> omega
  have hnil : a0 = none → z0.take len0 = [] ∧ cap0 = 0 := by
    intro hn
    rcases w0 with ⟨_, h, h', rfl⟩ | ⟨_, h, _⟩
    · exact ⟨by simp, h'⟩
    · rw [hn] at h; cases h
  have hwk := walk a0 (z0.take len0) cap0 r1 W hrd hnil (by rw [hle]; omega)
  rw [hle] at hwk
  refine hwk.mono fun e W' ⟨he, bel⟩ => ?_
  subst he
  exact ⟨_, rfl, _, _, _, [], _, [], hW', trodAll_mk1 (shut_bool Try.underlying4 _), (trodAll_cons_mk (Below.trod laidOut (by kernel_rfl) (of_decide_eq_true (by kernel_rfl)) k0 bel lt0) (trodAll_cons_mk (shut_int Try.underlying21 w1) trodAll_mk0)), rfl, bel.frame _, fun h => by cases h⟩

set_option maxRecDepth 100000 in
theorem lifted (os : Os) (started : os.Started) (H : Type) (enc : TypeId × Value → H) (F : Stop.Interp) :
    ReturnsInHanded {} Try.checked os 5 .any ((Rows.OpenSpec.upto Rows.utfEncodesSpec).pre6 enc Try.prog Try.f5 Rows.utfEncodesUptoRow.domain false) (((Rows.OpenSpec.upto Rows.utfEncodesSpec).at F).post enc Try.prog Try.f5 false true false false) := by
  refine returnsInHanded_of_cond (C := Try.checked) (s := Rows.OpenSpec.upto Rows.utfEncodesSpec) (k := Rows.uptoSmall) rfl own started (by kernel_rfl) Try.func5
    (OpenSpec.witness (enc := enc) (C := Try.checked) (s := Rows.OpenSpec.upto Rows.utfEncodesSpec) (k := Rows.uptoSmall) rfl false ⟨#[], #[.slice none 0 0, .int .i32 0], []⟩ 8 (by kernel_rfl) (by kernel_rfl) (by kernel_rfl)
      (x := ([.nil, .lit (.int .i32 0)], [], [])) (by kernel_rfl) rfl (by kernel_rfl)) ?_
  intro W base args ds gs before hval hW _ hk _
  exact contract H enc W base args ds gs before hval hW hk

theorem over : Rows.utfEncodesUptoRow.holds Try.pinned (Rows.OpenSpec.upto Rows.utfEncodesSpec) :=
  OpenClaim.holds_of_cond 5 Try.f5 rfl rfl rfl rfl rfl rfl rfl ⟨rfl, rfl, rfl, rfl, rfl⟩ rfl rfl rfl rfl rfl (by kernel_rfl) Try.func5 (by kernel_rfl)
    (of_decide_eq_true (by kernel_rfl)) (by unfold Func.isWrapper; first | (rw [if_pos (by decide +kernel)]; kernel_rfl) | (rw [if_neg (by decide +kernel)]; exact ⟨rfl, rfl⟩))
    (fun os started H enc _ F => lifted os started H enc F)

end Go.Proofs.Ytgffibonikcecaa.utfEncodes
namespace Go.Proofs.Ytgffibonikcecaa
theorem utfEncodes_upto : Rows.UtfEncodesUptoSaid := utfEncodes.over
end Go.Proofs.Ytgffibonikcecaa

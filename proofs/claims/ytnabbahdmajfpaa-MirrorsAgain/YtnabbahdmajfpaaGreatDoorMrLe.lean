/-
  Mirrors in a list of their own, a mark behind them; two lists held against one another, by the law's own look.
-/
import Derived.Test.YtnabbahdmajfpaaGreatDoorMrC
import Derived.Test.YtnabbahdmajfpaaGreatDoorLb
import Derived.Maps.AppendAt
import Derived.Deep.Upon
import Derived.BigQuiet
import Derived.Laws.StructEq
namespace Go.Proofs.YtnabbahdmajfpaaGreatDoor
open Go.RowKit Go.PlainAid Go.Lib Go.Shelf
set_option linter.unusedVariables false
set_option linter.unusedSimpArgs false

theorem infoMir : (Tryz.prog.info? 27).map (fun i => (i.zero, i.size, i.bytes)) = some (some (.agg #[.int .i64 0, .int .i32 0, .int .i32 0, .bool false]), 4, 24) := by kernel_rfl
theorem fit_any (a : Option Addr) (n c : Nat) (w : World) : Calls Tryz.prog 16 #[.slice a n c] w fun e w' => e = .returned (.bool (decide (n ≤ 2000))) ∧ w' = w := by
  go_enter Tryz.func16, Tryz.ntmps16
  go_wp2
  go_ret
  refine ⟨?_, rfl⟩
  show Ending.returned (.bool (decide ((n : Int) ≤ 2000))) = _
  congr 2
  rw [decide_eq_decide]
  omega
theorem mrMem_flat {w : World} {a : Option Addr} {l : List MirD} (h : MrMem w a l) (h0 : 0 < l.length) : ∃ g off, a = some ⟨g, off, none⟩ ∧ ∀ j u, (mirsC l)[j]? = some u → w.cell? ⟨g, off + j, none⟩ = some u := by
  obtain ⟨g, off, rfl, _⟩ := h 0 l[0] (List.getElem?_eq_getElem h0)
  refine ⟨g, off, rfl, fun j u hu => ?_⟩
  have hj : j < l.length * 4 := by have := (List.getElem?_eq_some_iff.1 hu).1; rwa [mirsC_len] at this
  have hi : j / 4 < l.length := by omega
  obtain ⟨g', off', e, hc⟩ := h (j / 4) l[j / 4] (List.getElem?_eq_getElem hi)
  simp only [Option.some.injEq, Addr.mk.injEq] at e
  obtain ⟨rfl, rfl, _⟩ := e
  have e1 : j / 4 * 4 + j % 4 = j := by omega
  have := mirsC_at (List.getElem?_eq_getElem hi) (j % 4) (by omega)
  rw [e1, hu] at this
  have h2 := hc (j % 4) u this.symm
  rwa [Nat.add_assoc, e1] at h2
theorem row_capM {w : World} {base : Nat} {e : TypeId} {size n g cap : Nat} {xs : List Value} (h : w.ownsRow base e size (.slice (some ⟨g, 0, none⟩) n cap) n xs) : n ≤ cap ∧ cap ≤ 9223372036854775807 ∧ base ≤ g := by
  rcases h.2 with ⟨he, _⟩ | ⟨_, _, _, he, k0, _, k1, k2, _⟩
  · cases he
  · simp at he
    obtain ⟨rfl, rfl⟩ := he
    exact ⟨k1, k2, k0⟩

theorem append_mr (w : World) (base : Nat) (ty : TypeId) (v : Value) (n : Nat) (xs : List Value) (hown : w.ownsRow base 27 4 v n xs) (a : Option Addr) (m c : Nat) (l : List MirD) (hm : l.length = m) (hc : m ≤ c) (h : MrMem w a l)
    (h63 : n + m ≤ maxLen) (hbytes : (n + m) * 24 ≤ 140737488355328) (hbase : base ≤ w.heap.size) :
    ∃ v' w', (Builtin.append_ #[35, 35] ty #[v, .slice a m c]).run Tryz.prog w = .ok v' w' ∧ w'.ownsRow base 27 4 v' (n + m) (xs ++ mirsC l) ∧ w.grownBy w' v.ownBlock := by
  obtain ⟨i0, hi0, hz0, hz1, hz2⟩ := info_parts infoMir
  by_cases h0 : m = 0
  · subst h0
    have : l = [] := List.eq_nil_of_length_eq_zero hm
    subst this
    obtain ⟨b, c', rfl⟩ := row_slice2 hown
    have hle : n ≤ c' := by
      rcases hown.2 with ⟨he, h0⟩ | ⟨g, cap, cur, he, _, _, h1, _⟩
      · simp at he; omega
      · simp at he; obtain ⟨_, rfl⟩ := he; exact h1
    refine ⟨_, _, run_append_nothing w _ _ ty _ i0 Tryz.underlying35 hi0 b n c' hle _ ?_, ?_, World.grownBy.refl _ _⟩
    · cases a with
      | none => exact Src.ofNil w Tryz.underlying35 c
      | some a => exact Src.ofSlice w Tryz.underlying35 a 0 c [] (by simp) (fun j u hu => by simp at hu) (by simp)
    · simpa [mirsC] using hown
  · obtain ⟨g, o, rfl, hcl⟩ := mrMem_flat h (by omega)
    have hl : (mirsC l).length = m * 4 := by rw [mirsC_len, hm]
    obtain ⟨v', w', r1, r2, r3, _⟩ := run_append_own_at (P := Tryz.prog) (w := w) base _ ty _ i0 _ 4 24 Tryz.underlying35 hi0 hz0 hz1 hz2 rfl (by decide) v n xs hown ⟨g, o, none⟩ m c (mirsC l) hl (fun j u hu => by
      rw [Go.WideShapes.add_plain]; exact hcl j u hu) (mirsC_one l) h63 hbytes hbase
    exact ⟨v', w', r1, r2, r3⟩

theorem wpList_append_mr {w : World} {ops : Array Oper} {rest : List Oper} {o : Oper} {a : Act} {Q : Exit → Act → World → Prop} (hgd : Region.wanted o (yielded ops a.tmps) = true) (s x : Operand)
    (ho : o.op = .call { callee := .builtin .append, args := #[s, x], argTypes := #[35, 35] })
    (base : Nat) (v : Value) (n : Nat) (xs : List Value) (hs : a.eval s = v) (hown : w.ownsRow base 27 4 v n xs) (ad : Option Addr) (m c : Nat) (l : List MirD) (hx : a.eval x = .slice ad m c) (hm : l.length = m) (hc : m ≤ c) (hrw : MrMem w ad l)
    (h63 : n + m ≤ maxLen) (hbytes : (n + m) * 24 ≤ 140737488355328) (hbase : base ≤ w.heap.size)
    (h : ∀ v' w', w'.ownsRow base 27 4 v' (n + m) (xs ++ mirsC l) → w.grownBy w' v.ownBlock → wpList Tryz.prog ops Q rest (a.put o.dst v') w') :
    wpList Tryz.prog ops Q (o :: rest) a w := by
  obtain ⟨v', w', hr, h2, h3⟩ := append_mr w base o.type v n xs hown ad m c l hm hc hrw h63 hbytes hbase
  show (if Region.wanted o (yielded ops a.tmps) then _ else _)
  rw [if_pos hgd]
  refine .inl ?_
  unfold Oper.wp execOp
  simp only [ho, resolve, invoke, builtin, Sem.run_bind, Sem.run_pure, Result.andThen_ok, List.map_toArray, List.map_cons, List.map_nil, hs, hx, hr]
  exact h v' w' h2 h3

theorem cells_newM (w : World) (x : MirD) (t : TypeId) : ∀ j u, (mirC x)[j]? = some u → (w.alloc (.cells #[.int .i64 x.line, .int .i32 x.frm, .int .i32 x.to, .bool x.best] t)).cell? ((⟨w.heap.size, 0, none⟩ : Addr).add j) = some u := by
  intro j u hj
  match j, hj with
  | 0, hj => simp at hj; subst hj; simp [Addr.add]
  | 1, hj => simp at hj; subst hj; simp [Addr.add]
  | 2, hj => simp at hj; subst hj; simp [Addr.add]
  | 3, hj => simp at hj; subst hj; simp [Addr.add]
  | j + 4, hj => simp at hj
abbrev markM : MirD := ⟨-77, 0, 0, false⟩
/-- mirrors of their own, a mark behind them -/
def LentM (w : World) (base : Nat) (v : Value) (n : Nat) (l : List MirD) : Prop := ∃ g cap, v = .slice (some ⟨g, 0, none⟩) n cap ∧ n + 1 ≤ cap ∧ cap ≤ maxLen ∧ base ≤ g ∧ MrMem w (some ⟨g, 0, none⟩) (l ++ [markM])
theorem ownsRow_succM {w : World} {base : Nat} {e : TypeId} {size n : Nat} {v : Value} {xs : List Value} (h : w.ownsRow base e size v (n + 1) xs) : ∃ g cap, v = .slice (some ⟨g, 0, none⟩) (n + 1) cap := by
  rcases h.2 with ⟨_, h0⟩ | ⟨g, cap, cur, rfl, _⟩
  · omega
  · exact ⟨g, cap, rfl⟩

set_option maxRecDepth 100000 in
set_option maxHeartbeats 2000000 in
theorem lent9_any (l : List MirD) (a : Option Addr) (n c : Nat) (w : World) (hn : l.length = n) (hc : n ≤ c) (hb : n ≤ 1099511627776) (h : MrMem w a l) :
    Calls Tryz.prog 17 #[.slice a n c] w fun e w' => ∃ v, e = .returned v ∧ LentM w' w.heap.size v n l ∧ Below w.heap.size w w' := by
  obtain ⟨i0, hi0, hz0, hz1, hz2⟩ := info_parts infoMir
  have HRW := hideM h
  have HN := hideM hn
  clear h hn
  go_enter Tryz.func17, Tryz.ntmps17
  go_wp2_with (at_builtin; first | (refine wpList_append_mr rfl _ _ rfl w.heap.size _ 0 [] rfl (World.ownsRow_nil w _ _ _) _ _ _ l rfl (unhideM HN) hc (unhideM HRW) (by unfold maxLen; omega) (by omega) (Nat.le_refl _) ?_; intro v' w4 hown hgrow; rw [Nat.zero_add, List.nil_append] at hown; obtain ⟨fa, fc, rfl⟩ := row_slice2 hown; replace hgrow : w.grownBy w4 none := hgrow; have hs4 : w.heap.size ≤ w4.heap.size := hgrow.size) | (refine wpList_append_own_at _ rfl _ _ 35 rfl w.heap.size 27 i0 _ 4 24 Tryz.underlying35 hi0 hz0 hz1 hz2 rfl (by decide) _ _ _ rfl (hown.alloc _) ⟨w4.heap.size, 0, none⟩ 1 1 (mirC markM) rfl rfl (cells_newM w4 markM _) (by simp [Value.oneCell']) (by unfold maxLen; omega) (by omega) (by simp; omega) ?_; intro v'' w5 hown5 hgrow5 _ _; replace hgrow5 : World.grownBy _ w5 (Value.slice fa n fc).ownBlock := hgrow5; obtain ⟨g', cap', rfl⟩ := ownsRow_succM hown5; obtain ⟨hcc1, hcc2, hcc3⟩ := row_capM hown5))
  have hB4 : Below w.heap.size w w4 := belowG (e := 27) (size := 4) (v := .slice none 0 0) (Below.refl _ w) (Nat.le_refl _) (World.ownsRow_nil w w.heap.size _ _) hgrow
  have hB5 : Below w.heap.size w w5 := belowG (hB4.alloc hB4.size _) (by have := hB4.size; simp; omega) (hown.alloc _) hgrow5
  go_ret
  refine ⟨_, rfl, ⟨g', cap', rfl, hcc1, hcc2, hcc3, ?_⟩, hB5⟩
  have hra : MirsAt w5 w.heap.size (.slice (some ⟨g', 0, none⟩) (n + 1) cap') (l ++ [markM]) := by
    have e1 : (l ++ [markM]).length = n + 1 := by rw [List.length_append, unhideM HN]; rfl
    unfold MirsAt
    rw [e1, mirsC_snoc]
    exact hown5
  obtain ⟨a', c', e, _, hm⟩ := mirsAt_mem hra
  simp only [Value.slice.injEq] at e
  obtain ⟨rfl, _, _⟩ := e
  exact hm

set_option maxRecDepth 100000 in
set_option maxHeartbeats 4000000 in
theorem sameMirrors_yes (l : List MirD) (a b : Option Addr) (n ca cb : Nat) (w : World) (hn : l.length = n) (hnb : n ≤ 1099511627776) (ha : MrMem w a l) (hb : MrMem w b l) :
    Calls Tryz.prog 26 #[.slice a n ca, .slice b n cb] w fun e w' => e = .returned (.bool true) ∧ Below w.heap.size w w' := by
  have HA := hideM ha
  have HB := hideM hb
  have HN := hideM hn
  clear ha hb hn
  have hnn : ((n : Int) != (n : Int)) = false := by simp
  go_enter Tryz.func26, Tryz.ntmps26
  go_wp2
  go_loopw [5] (fun v5 wr => ∃ i m : Nat, i ≤ n ∧ v5 = .int .i64 i ∧ wr = w.drewN m) (fun v5 _ => n - (RowKit.intOf v5).toNat)
  case atStart => exact ⟨0, 0, Nat.zero_le _, rfl, rfl⟩
  case round =>
    obtain ⟨i, m, hi, rfl, rfl⟩ := hrel
    obtain ⟨WX, hWX⟩ : ∃ WX, w.drewN m = WX := ⟨_, rfl⟩
    by_cases hlt : i < n
    · obtain ⟨x, hx⟩ : ∃ x, l[i]? = some x := ⟨_, List.getElem?_eq_getElem (by rw [unhideM HN]; exact hlt)⟩
      have hbx : Below w.heap.size w WX := by rw [← hWX]; exact below_drewN (Below.refl _ _) m
      obtain ⟨g, off, rfl, hc⟩ := ((unhideM HA).below hbx) i x hx
      obtain ⟨g', off', rfl, hd⟩ := ((unhideM HB).below hbx) i x hx
      have cx0 := hc 0 _ rfl
      have cx1 := hc 1 _ rfl
      have cx2 := hc 2 _ rfl
      have cx3 := hc 3 _ rfl
      have dx0 := hd 0 _ rfl
      have dx1 := hd 1 _ rfl
      have dx2 := hd 2 _ rfl
      have dx3 := hd 3 _ rfl
      simp only [Nat.add_zero] at cx0 dx0
      have hlt' : (i : Int) < (n : Int) := by omega
      have hq1 : IntKind.i64.wrap ((i : Int) + 1) = (i : Int) + 1 := by rw [IntKind.wrap_i64]; omega
      rw [hWX]
      have HWX := hideM hWX
      clear hWX hc hd hx hbx
      go_wp2
      go_quiet (fail)
      go_wp2
      go_roundw
      case rel => exact ⟨i + 1, m + nq, by omega, by go_num, by rw [← unhideM HWX]; exact World.drewN_drewN _ _ _⟩
      case measure => simp [RowKit.intOf]; omega
    · rw [hWX]
      have HWX := hideM hWX
      clear hWX
      obtain rfl : i = n := by omega
      go_wp2
      go_ret
      exact ⟨rfl, by rw [← unhideM HWX]; exact below_drewN (Below.refl _ _) m⟩

set_option maxRecDepth 100000 in
set_option maxHeartbeats 2000000 in
theorem kept9_yes (l : List MirD) (g cap : Nat) (a : Option Addr) (n c : Nat) (w : World) (hn : l.length = n) (hnb : n ≤ 1099511627776) (hcap : n + 1 ≤ cap) (hc : cap ≤ 9223372036854775807) (hf : MrMem w (some ⟨g, 0, none⟩) (l ++ [markM])) (h : MrMem w a l) :
    Calls Tryz.prog 22 #[.slice (some ⟨g, 0, none⟩) n cap, .slice a n c] w fun e w' => e = .returned (.bool true) ∧ Below w.heap.size w w' := by
  have HS := hideM (sameMirrors_yes l (some ⟨g, 0, none⟩) a n cap c w hn hnb hf.left h)
  obtain ⟨g', off', e, hcl⟩ := hf n markM (by rw [List.getElem?_append_right (by omega), hn, Nat.sub_self]; rfl)
  simp only [Option.some.injEq, Addr.mk.injEq] at e
  obtain ⟨rfl, rfl, _⟩ := e
  have k0 := hcl 0 _ rfl
  simp only [Nat.zero_add, Nat.add_zero] at k0
  have hlt := World.block_lt_of_cell? _ _ k0
  have hlt' : g < w.heap.size := hlt
  have hq1 : IntKind.i64.wrap ((n : Int) + 1) = (n : Int) + 1 := by rw [IntKind.wrap_i64]; omega
  have K0 := hideM k0
  clear hf h hcl hn k0 hlt
  go_enter Tryz.func22, Tryz.ntmps22
  go_wp2_with (go_at_call 26; refine (unhideM HS).mono ?_; rintro e w1 ⟨rfl, hb1⟩; have q0 : w1.cell? ⟨g, n * 4, none⟩ = some (.int .i64 (-77)) := (hb1.cell (p := ⟨g, n * 4, none⟩) hlt').trans (unhideM K0); clear K0)
  go_ret
  exact ⟨rfl, hb1⟩
end Go.Proofs.YtnabbahdmajfpaaGreatDoor

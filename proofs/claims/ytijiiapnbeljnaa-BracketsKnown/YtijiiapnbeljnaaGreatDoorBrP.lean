/-
  placed of package brackets: an iterator that tells rows with their places.
-/
import Derived.Test.YtijiiapnbeljnaaGreatDoorBrK
namespace Go.Proofs.YtijiiapnbeljnaaGreatDoor
open Go.RowKit Go.PlainAid Go.Lib Go.Shelf Go.Seq4
attribute [local go_sem] Oper.semAt_some
set_option linter.unusedVariables false
set_option linter.unusedSimpArgs false

/-- rows in memory, wherever they lie -/
def BrMem (w : World) (a : Option Addr) (rs : List BrD) : Prop := ∀ (i : Nat) (x : BrD), rs[i]? = some x → ∃ g off, a = some ⟨g, off, none⟩ ∧ ∀ j v, (brC x)[j]? = some v → w.cell? ⟨g, off + i * 3 + j, none⟩ = some v
theorem BrMem.below {w w' : World} {a : Option Addr} {rs : List BrD} (h : BrMem w a rs) (hb : Below w.heap.size w w') : BrMem w' a rs := fun i x hx => by
  obtain ⟨g, off, rfl, hc⟩ := h i x hx
  exact ⟨g, off, rfl, fun j v hv => (hb.cell (World.block_lt_of_cell? _ _ (hc j v hv))).trans (hc j v hv)⟩
theorem cell_block {w : World} {g k : Nat} {v : Value} (h : w.cell? ⟨g, k, none⟩ = some v) : ∃ o : Obj, w.heap[g]? = some o ∧ o.isCells = true := by
  unfold World.cell? at h
  cases hh : w.heap[g]? with
  | none => simp [hh] at h
  | some o =>
    refine ⟨o, rfl, ?_⟩
    cases o <;> simp [hh] at h <;> rfl
abbrev plBs (Bs : Nat) (a : Option Addr) (k : Nat) : Prop := k = Bs ∨ ∃ off, a = some ⟨k, off, none⟩
theorem BrMem.kp {W W' : World} {a : Option Addr} {rs : List BrD} {Bs m B : Nat} (h : BrMem W a rs) (hk : KpR m (plBs Bs a) B W W') : BrMem W' a rs := fun i x hx => by
  obtain ⟨g, off, rfl, hc⟩ := h i x hx
  refine ⟨g, off, rfl, fun j v hv => ?_⟩
  have h1 := hc j v hv
  obtain ⟨o, ho, hi⟩ := cell_block h1
  have h2 := hk.2 g o (.inr (.inr ⟨off, rfl⟩)) hi ho
  unfold World.cell? at h1 ⊢
  simp only [ho, h2] at h1 ⊢
  exact h1
def placedI : Nat → List BrD → List ItD
  | _, [] => []
  | i, r :: t => ⟨(i : Int), r, 0⟩ :: placedI (i + 1) t
def placedL (rows : List BrD) : List ItD := placedI 0 rows
theorem placedI_row (rows : List BrD) : ∀ i, (placedI i rows).map (·.row) = rows := by
  induction rows with
  | nil => intro i; rfl
  | cons r t ih => intro i; simp [placedI, ih]
theorem placedI_len (rows : List BrD) : ∀ i, (placedI i rows).length = rows.length := by
  induction rows with
  | nil => intro i; rfl
  | cons r t ih => intro i; simp [placedI, ih]
theorem placedI_step (rows : List BrD) (i : Nat) (x : BrD) (hx : rows[i]? = some x) : placedI i (rows.drop i) = ⟨(i : Int), x, 0⟩ :: placedI (i + 1) (rows.drop (i + 1)) := by
  have hil := (List.getElem?_eq_some_iff.1 hx).1
  rw [List.drop_eq_getElem_cons hil, (List.getElem?_eq_some_iff.1 hx).2]
  rfl

set_option maxRecDepth 100000 in
set_option maxHeartbeats 2000000 in
theorem placed1_in (rows : List BrD) (a : Option Addr) (nn c : Nat) (hnn : rows.length = nn) (hnb : nn ≤ 1099511627776) (n l Bs : Nat) (hn : 2 ≤ n) (J Jx : List ItD → World → Prop) (W : World)
    (hY : ∀ pre x W1, J pre W1 → (pre ++ [x]) <+: placedL rows → W.heap.size + 0 ≤ W1.heap.size → YieldAt Fence.wide (n - 1) Tryz.prog l (itE x) W1 fun e W' =>
      (e = .returned (.bool true) ∧ J (pre ++ [x]) W' ∧ Kp4 0 (plBs Bs a) W.heap.size W1 W') ∨ (e = .returned (.bool false) ∧ Jx (pre ++ [x]) W' ∧ KeepsFrom W.heap.size W1 W'))
    (hJ : OwnFrom W.heap.size J) (hBs : Boxed W Bs 22 (.slice a nn c)) (hm : BrMem W a rows) (h0 : J [] W) :
    CallsIn Fence.wide n Tryz.prog 57 #[.func (.yield l) #[] #[], .pointer (some ⟨Bs, 0, none⟩)] W fun e W' => (∃ v, e = .returned v) ∧
      ((∃ xs, xs = placedL rows ∧ J xs W') ∨ (∃ pre, pre <+: placedL rows ∧ Jx pre W')) := by
  have HYY := hide hY
  have HN := hide hnn
  have HM := hide hm
  clear hY hnn hm
  refine callsIn_of_wp Tryz.func57 rfl trivial ?_ rfl
  simp only [Tryz.ntmps57, List.size_toArray, List.length_cons, List.length_nil, Nat.reduceAdd, Nat.reduceSub, Array.replicate_succ, Array.replicate_zero, List.push_toArray, List.append_toArray, List.nil_append, List.cons_append]
  have hc := hBs.cell
  have hn1 : 1 ≤ n := by omega
  have hn2 : 1 ≤ n - 1 := by omega
  have hF : ∀ f, Fence.wide.fn f := fun _ => trivial
  gi_wp2
  gi_loopw [7] (fun v7 wr => ∃ (i : Nat) (pre : List ItD), v7 = .int .i64 (i : Nat) ∧ i ≤ nn ∧ Hid (pre ++ placedI i (rows.drop i) = placedL rows) ∧ Boxed wr Bs 22 (.slice a nn c) ∧ Hid (BrMem wr a rows) ∧ W.heap.size ≤ wr.heap.size ∧ J pre wr)
    (fun v7 _ => nn - (RowKit.intOf v7).toNat)
  case atStart => exact ⟨0, [], rfl, Nat.zero_le _, by show _ = _; rfl, hBs, HM, Nat.le_refl _, h0⟩
  case round =>
    obtain ⟨i, pre, rfl, hi, HP, hbx, HMM, hsz, hJ1⟩ := hrel
    by_cases hlt : i < nn
    · obtain ⟨x, hx⟩ : ∃ x, rows[i]? = some x := ⟨_, List.getElem?_eq_getElem (by rw [unhide HN]; exact hlt)⟩
      obtain ⟨g, off, rfl, hcx⟩ := (unhide HMM) i x hx
      have cx0 := hcx 0 _ rfl
      have cx1 := hcx 1 _ rfl
      have cx2 := hcx 2 _ rfl
      simp only [Nat.add_zero] at cx0
      have hlt' : (i : Int) < (nn : Int) := by omega
      have hq1 : IntKind.i64.wrap ((i : Int) + 1) = (i : Int) + 1 := by rw [IntKind.wrap_i64]; omega
      have HS : Hid (pre ++ [⟨(i : Int), x, 0⟩] ++ placedI (i + 1) (rows.drop (i + 1)) = placedL rows) := by
        show _ = _
        rw [← HP.out, placedI_step rows i x hx]; simp
      obtain ⟨xa, xo, xd⟩ := x
      simp only at cx0 cx1 cx2
      obtain ⟨W1, hW1⟩ : ∃ W1, wr.alloc (.cells #[.int .i32 xa, .int .i32 xo, .int .u8 xd] 26) = W1 := ⟨_, rfl⟩
      have hb1 : Below wr.heap.size wr W1 := by rw [← hW1]; exact below_alloc _ _
      have hJ2 : J pre W1 := by rw [← hW1]; exact hJ.alloc _ hJ1
      have bX : Blk W1 wr.heap.size [.int .i32 xa, .int .i32 xo, .int .u8 xd] 26 := by rw [← hW1]; exact Blk.new wr [.int .i32 xa, .int .i32 xo, .int .u8 xd] _
      have d0 := bX.cell (j := 0) rfl
      have d1 := bX.cell (j := 1) rfl
      have d2 := bX.cell (j := 2) rfl
      have hbx1 : Boxed W1 Bs _ _ := (hb1.block _ hbx.lt).trans hbx
      have HM1 := hide ((unhide HMM).below hb1)
      have hsz1 : W.heap.size ≤ W1.heap.size := Nat.le_trans hsz hb1.size
      obtain ⟨fn, tmps, assign, body, hy, hR⟩ := unhide HYY pre ⟨(i : Int), ⟨xa, xo, xd⟩, 0⟩ W1 hJ2 ⟨_, HS.out⟩ hsz1
      dsimp only [itE] at hy
      clear hcx hx HP hb1 bX HMM
      gi_wp2
      refine hR.mono ?_
      rintro e W5 (⟨rfl, hJ5, hk5⟩ | ⟨rfl, hJx5, hk5⟩)
      · have hbx5 : Boxed W5 Bs _ _ := hk5.2.2 Bs _ (.inr (.inl rfl)) rfl hbx1
        have hm5 := (unhide HM1).kp hk5.2
        have hsz5 := Nat.le_trans hsz1 hk5.1.size
        gi_wp2
        go_roundw
        case rel => exact ⟨i + 1, _, by simp, by omega, HS, hbx5, hide hm5, hsz5, hJ5⟩
        case measure => simp [RowKit.intOf]; omega
      · gi_wp2
        refine bodyPost_ret (results_none rfl _ _ _) rfl ?_
        exact ⟨⟨_, rfl⟩, .inr ⟨_, ⟨_, HS.out⟩, hJx5⟩⟩
    · obtain rfl : i = nn := by omega
      gi_wp2
      refine bodyPost_end (results_none rfl _ _ _) rfl ?_
      refine ⟨⟨_, rfl⟩, .inl ⟨pre, ?_, hJ1⟩⟩
      have := HP.out
      rw [List.drop_eq_nil_of_le (by rw [unhide HN]; exact Nat.le_refl _)] at this
      simpa [placedI] using this
theorem placed_gives (rows : List BrD) (a : Option Addr) (nn c : Nat) (hnn : rows.length = nn) (hnb : nn ≤ 1099511627776) (Bs : Nat) (w : World) (hBs : Boxed w Bs 22 (.slice a nn c)) (hm : BrMem w a rows) (n : Nat) (hn : 2 ≤ n) :
    Gives4 n Tryz.prog 57 #[.pointer (some ⟨Bs, 0, none⟩)] itE 0 (plBs Bs a) 0 0 (fun xs => xs = placedL rows) (fun pre => pre <+: placedL rows) w :=
  fun l J Jx W hW hJ hJx hcalm hY h0 => placed1_in rows a nn c hnn hnb n l Bs hn J Jx W hY hJ ((hW.block Bs hBs.lt).trans hBs) (hm.below hW) h0
theorem placed_any (a : Option Addr) (n c : Nat) (w : World) : Calls Tryz.prog 29 #[.slice a n c] w fun e w' => e = .returned (.func (.func 57) #[] #[.pointer (some ⟨w.heap.size, 0, none⟩)]) ∧ w' = w.alloc (.cells #[.slice a n c] 22) := by
  go_enter Tryz.func29, Tryz.ntmps29
  go_wp2
  go_ret
  exact ⟨rfl, rfl⟩
end Go.Proofs.YtijiiapnbeljnaaGreatDoor

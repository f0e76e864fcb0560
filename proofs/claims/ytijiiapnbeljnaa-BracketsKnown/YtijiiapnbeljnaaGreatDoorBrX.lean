/-
  written and Write of package brackets.
-/
import Derived.Test.YtijiiapnbeljnaaGreatDoorBrY
import Derived.Test.YtijiiapnbeljnaaGreatDoorRwShD
import Derived.Test.YtijiiapnbeljnaaGreatDoorWb
namespace Go.Proofs.YtijiiapnbeljnaaGreatDoor
open Go.RowKit Go.PlainAid Go.Lib Go.Shelf
open Go.Seq5 (Gives4 Kp4 KpR CalmR range4B)
attribute [local go_sem] Oper.semAt_some
set_option linter.unusedVariables false
set_option linter.unusedSimpArgs false

/-- a row's line -/
def wrT (a o : Nat) (s : Int) : ByteArray := hexS (showLen a) a ++ ⟨#[59, 32]⟩ ++ hexS (showLen o) o ++ ⟨#[59, 32]⟩ ++ letterS s ++ ⟨#[10]⟩
theorem tz16_below {w w' : World} (h : tz16At w) (hb : Below w.heap.size w w') : tz16At w' := (hb.cell (World.block_lt_of_cell? _ _ h)).trans h
theorem showLen_le (a : Nat) : showLen a ≤ 6 := by unfold showLen; split <;> (try split) <;> omega
theorem letter_le (s : Int) : (letterS s).size ≤ 1 := by
  unfold letterS
  split
  · decide
  · split
    · decide
    · split <;> decide

set_option maxRecDepth 100000 in
theorem written_any (a o : Nat) (s : Int) (ha : a ≤ 1114111) (ho : o ≤ 1114111) (w : World) (hg : tz16At w) :
    Calls Tryz.prog 53 #[brV ⟨(a : Nat), (o : Nat), s⟩] w fun e w' => e = .returned (.string (wrT a o s)) ∧ Below w.heap.size w w' := by
  obtain ⟨W1, hW1⟩ : ∃ W1, w.alloc (.cells #[.int .i32 (a : Nat), .int .i32 (o : Nat), .int .u8 s] 26) = W1 := ⟨_, rfl⟩
  have hb1 : Below w.heap.size w W1 := by rw [← hW1]; exact below_alloc _ _
  have b1 : Blk W1 w.heap.size [.int .i32 (a : Nat), .int .i32 (o : Nat), .int .u8 s] 26 := by rw [← hW1]; exact Blk.new w [.int .i32 (a : Nat), .int .i32 (o : Nat), .int .u8 s] _
  have HW : Hid (∀ X, Below W1.heap.size W1 X → X.cell? ⟨w.heap.size, 0, none⟩ = some (.int .i32 (a : Nat)) ∧ X.cell? ⟨w.heap.size, 1, none⟩ = some (.int .i32 (o : Nat)) ∧ X.cell? ⟨w.heap.size, 2, none⟩ = some (.int .u8 s) ∧ tz16At X ∧ Below w.heap.size w X) := fun X hb => by
    have b := b1.below hb
    exact ⟨b.cell (j := 0) rfl, b.cell (j := 1) rfl, b.cell (j := 2) rfl, tz16_below (tz16_below hg hb1) hb, hb1.trans (hb.mono hb1.size)⟩
  have c0 := b1.cell (j := 0) rfl
  have HA := hide (fun X (hx : tz16At X) => show_any a ha X hx)
  have HO := hide (fun X (hx : tz16At X) => show_any o ho X hx)
  have HL := hide (fun X => letter_any s X)
  have z1 := hexS_size (showLen a) a
  have z2 := hexS_size (showLen o) o
  have l1 := showLen_le a
  have l2 := showLen_le o
  have l3 := letter_le s
  have HE : Hid (wrT a o s = hexS (showLen a) a ++ ⟨#[59, 32]⟩ ++ hexS (showLen o) o ++ ⟨#[59, 32]⟩ ++ letterS s ++ ⟨#[10]⟩) := rfl
  have HG1 := hide (tz16_below hg hb1)
  generalize hexS (showLen a) a = A at *
  generalize hexS (showLen o) o = O at *
  generalize letterS s = T at *
  have lA : A.size ≤ 6 := by omega
  have lO : O.size ≤ 6 := by omega
  clear z1 z2 l1 l2 b1 hb1 hg
  have n1 : ¬ 9223372036854775807 < A.size + 2 := by omega
  have e2 : (⟨#[59, 32]⟩ : ByteArray).size = 2 := rfl
  have n2 : ¬ 9223372036854775807 < (A ++ ⟨#[59, 32]⟩).size + O.size := by simp only [ByteArray.size_append]; omega
  have n3 : ¬ 9223372036854775807 < (A ++ ⟨#[59, 32]⟩ ++ O).size + 2 := by simp only [ByteArray.size_append]; omega
  have n4 : ¬ 9223372036854775807 < (A ++ ⟨#[59, 32]⟩ ++ O ++ ⟨#[59, 32]⟩).size + T.size := by simp only [ByteArray.size_append]; omega
  have n5 : ¬ 9223372036854775807 < (A ++ ⟨#[59, 32]⟩ ++ O ++ ⟨#[59, 32]⟩ ++ T).size + 1 := by simp only [ByteArray.size_append]; omega
  clear e2
  have tok : True := trivial
  go_enter Tryz.func53, Tryz.ntmps53
  go_wp2_with (first | (go_at_call 87; have _t := tok; with_reducible refine (unhide HA _ (unhide HG1)).mono ?_; rintro e w2 ⟨rfl, hb2⟩; obtain ⟨k0, k1, k2, k3, k4⟩ := unhide HW w2 hb2; have HT2 := hide k3; clear k3 k4 tok) | (go_at_call 87; with_reducible refine (unhide HO _ (unhide HT2)).mono ?_; rintro e w3 ⟨rfl, hb3⟩; have hb3' := hb2.trans (hb3.mono hb2.size); obtain ⟨j0, j1, j2, j3, j4⟩ := unhide HW w3 hb3'; have HB4 := hide j4; clear j3 j4 hb3') | (go_at_call 88; with_reducible refine (unhide HL _).mono ?_; rintro e w4 ⟨rfl, h⟩; have h' := h.symm; subst h'))
  go_ret
  exact ⟨by rw [HE.out]; rfl, unhide HB4⟩

theorem isBF_kept {T e : TypeId} {B b : Nat} {bs : List Value} {V V' : World} (h : Lib.IsBuilderF T e B b bs V) (hk : ∀ k o, V.heap[k]? = some o → o.isCells = true → B ≤ k → V'.heap[k]? = some o) : Lib.IsBuilderF T e B b bs V' := by
  have one : ∀ p, Lib.BuilderAtF T e B b p bs V → Lib.BuilderAtF T e B b p bs V' := by
    rintro p ⟨hB, v, hb, ho, hne⟩
    refine ⟨hB, v, hk b _ hb rfl hB, ⟨ho.1, ho.2.imp id ?_⟩, hne⟩
    rintro ⟨g, cap, cur, fz, rfl, hb', hg, hr⟩
    exact ⟨g, cap, cur, fz, rfl, hb', hk g _ hg rfl hb', hr⟩
  exact h.imp (one _) (one _)
def textW (l : List (Nat × Nat × Int)) : List UInt8 := l.flatMap fun x => (wrT x.1 x.2.1 x.2.2).data.toList
abbrev brN (x : Nat × Nat × Int) : BrD := ⟨(x.1 : Nat), (x.2.1 : Nat), x.2.2⟩
theorem wrT_size (a o : Nat) (s : Int) : (wrT a o s).size ≤ 18 := by
  have e2 : (⟨#[59, 32]⟩ : ByteArray).size = 2 := rfl
  have e1 : (⟨#[10]⟩ : ByteArray).size = 1 := rfl
  have z1 := hexS_size (showLen a) a
  have z2 := hexS_size (showLen o) o
  have l1 := showLen_le a
  have l2 := showLen_le o
  have l3 := letter_le s
  unfold wrT
  simp only [ByteArray.size_append]
  omega
/-- what holds between two rounds of Write -/
def WI (w : World) (bk : Nat) (x y : Nat × Nat × Int) (pre : List BrD) (V : World) : Prop :=
  V.heap[w.heap.size + 1]? = some (.cells #[.pointer (some ⟨bk, 0, none⟩)] 27 (0, 0)) ∧
  (∃ l : List (Nat × Nat × Int), pre = l.map brN ∧ l <+: [x, y] ∧ Lib.IsBuilderF 118 5 w.heap.size w.heap.size (Lib.byteCells (textW l)) V) ∧ Below w.heap.size w V
theorem own_WI {B : Nat} (w : World) (bk : Nat) (x y : Nat × Nat × Int) (hB : w.heap.size ≤ B) : OwnFrom B (WI w bk x y) := by
  rintro s A C row ⟨e0, ⟨l, e1, e2, e3⟩, e9⟩ hg hr
  exact ⟨(grownBy_keeps_cells hg (fun r e => (hr r e).2) e0 rfl).trans e0, ⟨l, e1, e2, isBF_kept e3 fun k o ho hc _ => (grownBy_keeps_cells hg (fun r e => (hr r e).2) ho hc).trans ho⟩, e9.grown hg (by have := e9.size; omega) (fun k e => by have := (hr k e).1; omega)⟩
theorem brN_inj {x y : Nat × Nat × Int} (h : brN x = brN y) : x = y := by
  obtain ⟨a, b, c⟩ := x
  obtain ⟨a', b', c'⟩ := y
  simp only [brN, BrD.mk.injEq] at h
  obtain ⟨h1, h2, h3⟩ := h
  have : a = a' := by omega
  have : b = b' := by omega
  subst_vars
  rfl

theorem pre_step {x y : Nat × Nat × Int} {l : List (Nat × Nat × Int)} {z : BrD} (h : l <+: [x, y]) (hz : (l.map brN ++ [z]) <+: [brN x, brN y]) : ∃ u, z = brN u ∧ (l ++ [u]) <+: [x, y] ∧ (u = x ∨ u = y) := by
  match l, h, hz with
  | [], _, hz =>
    have : z = brN x := by simpa using hz
    exact ⟨x, this, ⟨[y], rfl⟩, .inl rfl⟩
  | [a], h, hz =>
    have ha : a = x := by simpa using h
    subst ha
    have : z = brN y := by simpa using hz
    exact ⟨y, this, ⟨[], rfl⟩, .inr rfl⟩
  | a :: b :: l, h, hz =>
    have := hz.length_le
    simp at this
theorem textW_snoc (l : List (Nat × Nat × Int)) (u : Nat × Nat × Int) : Lib.byteCells (textW (l ++ [u])) = Lib.byteCells (textW l) ++ Lib.strCells (wrT u.1 u.2.1 u.2.2) := by
  simp [textW, Lib.byteCells, Lib.strCells]
theorem textW_len {x y : Nat × Nat × Int} {l : List (Nat × Nat × Int)} (h : l <+: [x, y]) : (Lib.byteCells (textW l)).length ≤ 36 := by
  have hw := fun u : Nat × Nat × Int => wrT_size u.1 u.2.1 u.2.2
  match l, h with
  | [], _ => simp [textW, Lib.byteCells]
  | [a], _ => have := hw a; simp [textW, Lib.byteCells]; omega
  | [a, b], _ => have := hw a; have := hw b; simp [textW, Lib.byteCells]; omega
  | a :: b :: c :: l, h => have := h.length_le; simp at this

theorem two_of {x y : Nat × Nat × Int} {l : List (Nat × Nat × Int)} (h : l.map brN = [brN x, brN y]) : l = [x, y] := by
  match l, h with
  | [], h => cases h
  | [a], h => simp at h
  | [a, b], h =>
    simp only [List.map_cons, List.map_nil, List.cons.injEq, and_true] at h
    rw [brN_inj h.1, brN_inj h.2]
  | a :: b :: c :: l, h => simp at h

set_option maxRecDepth 100000 in
set_option maxHeartbeats 2000000 in
theorem write2_any (x y : Nat × Nat × Int) (hxy : x.1 < y.1) (hx1 : x.1 ≤ 1114111) (hx2 : x.2.1 ≤ 1114111) (hy1 : y.1 ≤ 1114111) (hy2 : y.2.1 ≤ 1114111) (rows : List BrD) (tw : List (Int × Int)) (hfp : findB rows (x.1 : Nat) = some (brN x)) (hfq : findB rows (y.1 : Nat) = some (brN y)) (hrs : ∀ r, (findB rows r).isSome = true ↔ r = (x.1 : Nat) ∨ r = (y.1 : Nat)) (hlen : rows.length ≤ 1099511627776)
    (bk : Nat) (w : World) (hbk : Book w bk rows tw) (hg : tz16At w) :
    Calls Tryz.prog 24 #[.pointer (some ⟨bk, 0, none⟩)] w fun e w' => e = .returned (.string ⟨(textW [x, y]).toArray⟩) ∧ Below w.heap.size w w' := by
  obtain ⟨m, tv, h1, h2, h3⟩ := hbk.ex
  obtain ⟨Wa, hWa⟩ : ∃ Wa, w.alloc (.cells #[.pointer none, .slice none 0 0] 118) = Wa := ⟨_, rfl⟩
  have hba : Below w.heap.size w Wa := by rw [← hWa]; exact below_alloc _ _
  have hsa : Wa.heap.size = w.heap.size + 1 := by rw [← hWa]; simp
  have bla : Wa.heap[w.heap.size]? = some (.cells #[.pointer none, .slice none 0 0] 118 (0, 0)) := by rw [← hWa]; exact heap_alloc_new w _
  obtain ⟨W0, hW0⟩ : ∃ W0, Wa.alloc (.cells #[.pointer (some ⟨bk, 0, none⟩)] 27) = W0 := ⟨_, rfl⟩
  have hb0 : Below Wa.heap.size Wa W0 := by rw [← hW0]; exact below_alloc _ _
  have hs0 : W0.heap.size = w.heap.size + 2 := by rw [← hW0]; simp [hsa]
  have bx0 : Boxed W0 Wa.heap.size 27 (.pointer (some ⟨bk, 0, none⟩)) := by rw [← hW0]; exact heap_alloc_new Wa _
  have hbw := hba.trans (hb0.mono hba.size)
  have lbk := (Array.getElem?_eq_some_iff.1 h1).1
  have HRO := hide (rows_any (some ⟨bk, 0, none⟩) Wa)
  rw [hW0] at HRO
  have hI0 : WI w bk x y [] W0 := by
    refine ⟨by rw [hsa] at bx0; exact bx0, ⟨[], rfl, List.nil_prefix, .inl ⟨Nat.le_refl _, _, (hb0.block _ (by omega)).trans bla, ⟨rfl, .inl ⟨rfl, rfl⟩⟩, by simp [Value.ownBlock]⟩⟩, hbw⟩
  refine (callsIn_wide (n := 9)).1 ?_
  refine callsIn_of_wp_marks Tryz.func24 rfl trivial ?_ rfl
  simp only [Tryz.ntmps24, List.size_toArray, List.length_cons, List.length_nil, Nat.reduceAdd, Nat.reduceSub, Array.replicate_succ, Array.replicate_zero, List.push_toArray, List.append_toArray, List.nil_append, List.cons_append]
  have hF : ∀ f, Fence.wide.fn f := fun _ => trivial
  gi_wp2_with (gi_at_call 21; with_reducible refine CallsIn.mono (callsIn_wide.2 (unhide HRO)) ?_; rintro e w' ⟨rfl, h⟩; cases h)
  clear hWa hW0
  refine range4B (by omega) (gf := 49) (lb := #[.pointer (some ⟨Wa.heap.size, 0, none⟩)]) (by simp [hsa]; rfl) (enters_of Tryz.func49 (by kernel_rfl) rfl)
    (rows_gives (brN x) (brN y) (by show ((x.1 : Nat) : Int) < (y.1 : Nat); omega) ⟨by show (-2147483648 : Int) ≤ (x.1 : Nat); omega, by show ((x.1 : Nat) : Int) ≤ _; omega⟩ ⟨by show (-2147483648 : Int) ≤ (y.1 : Nat); omega, by show ((y.1 : Nat) : Int) ≤ _; omega⟩ rows hfp hfq hrs hlen Wa.heap.size bk m tv W0 bx0 ((hbw.block bk lbk).trans h1) (h2.below hbw) _ (by omega)) (Below.refl _ _) (fun _ => rfl)
    (WI w bk x y) (fun _ _ _ => False) (own_WI w bk x y (by omega)) (fun c _ _ _ _ h _ _ => h) (Seq5.CalmR.none _ _ _) hI0
    (fun z => .cells (brC z).toArray 26 (0, 0)) (fun _ => rfl) ?fr ?assign ?body ?done ?stop
  case assign =>
    intro l2 z V K hK
    gi_wp2
    generalize hBx : V.heap.size = Bx
    exact hK Bx hBx.symm
  case body =>
    rintro l2 pre z Bx V hl hsz2 ⟨r, hr⟩ ⟨hbq, ⟨l, rfl, hl2, hbd⟩, h8⟩ hx1' hx2' hSp
    obtain ⟨u, rfl, hlu, hu⟩ := pre_step hl2 hSp
    have hu1 : u.1 ≤ 1114111 ∧ u.2.1 ≤ 1114111 := by rcases hu with rfl | rfl <;> exact ⟨by assumption, by assumption⟩
    have bX : Blk V Bx (brC (brN u)) 26 := hx1'
    have cx0 := bX.cell (j := 0) rfl
    have cx1 := bX.cell (j := 1) rfl
    have cx2 := bX.cell (j := 2) rfl
    obtain ⟨ua, uo, us⟩ := u
    simp only [brN] at cx0 cx1 cx2
    have HWR := hide (written_any ua uo us hu1.1 hu1.2 V (tz16_below hg h8))
    have hTs := wrT_size ua uo us
    have hln := textW_len hl2
    have HWS : Hid (∀ w1, Below V.heap.size V w1 → Calls Tryz.prog 52 #[.pointer (some ⟨w.heap.size, 0, none⟩), .string (wrT ua uo us)] w1 fun e w2 => e = .returned (.tuple #[.int .i64 (wrT ua uo us).size, .nilIface]) ∧ KeepsFrom W0.heap.size V w2 ∧ Seq5.KpR 0 (roBs Wa.heap.size bk) (W0.heap.size + 2) V w2 ∧ WI w bk x y ((l ++ [(ua, uo, us)]).map brN) w2) := fun w1 hb1 => by
      have hbd1 : Lib.IsBuilderF 118 5 w.heap.size w.heap.size (Lib.byteCells (textW l)) w1 := isBF_kept hbd fun k o ho _ _ => (hb1.block k (Array.getElem?_eq_some_iff.1 ho).1).trans ho
      have h81 := h8.trans (hb1.mono h8.size)
      refine (Tryz.Builder_WriteString_k w.heap.size w.heap.size (Lib.byteCells (textW l)) (wrT ua uo us) w1 hbd1 (by omega) h81.size).mono ?_
      rintro e w2 ⟨rfl, hA, hB2, hO⟩
      have keep : ∀ k o, V.heap[k]? = some o → k ≠ w.heap.size → (∀ c fz, o ≠ .cells c 5 fz) → w2.heap[k]? = some o := fun k o ho hk hc => hO k o ((hb1.block k (Array.getElem?_eq_some_iff.1 ho).1).trans ho) (by simpa using hk) hc
      have hsz : V.heap.size ≤ w2.heap.size := Nat.le_trans hb1.size hB2.size
      refine ⟨rfl, ⟨hsz, fun k o hk ho hc => keep k o ho (by omega) (fun c fz e => by rw [e] at hc; cases hc)⟩, ⟨⟨hsz, fun k o ho hw => keep k o ho (fun e => ?_) (fun c fz e => by rw [e] at hw; cases hw)⟩, fun k o hk hc ho => ?_⟩, keep _ _ hbq (by omega) (fun c fz e => by cases e), ⟨l ++ [(ua, uo, us)], rfl, hlu, .inr ?_⟩, h81.trans hB2⟩
      · rw [e] at ho
        rcases hbd with ⟨_, v, hb, _⟩ | ⟨_, v, hb, _⟩ <;> rw [hb] at ho <;> cases ho <;> cases hw
      · rcases hk with hk | (rfl | rfl) | ⟨hk, cs, fr, rfl⟩
        · omega
        · rw [hsa, hbq] at ho
          cases ho
          rw [hsa]
          exact keep _ _ hbq (by omega) (fun c fz e => by cases e)
        · have hbkV := (h8.block k lbk).trans h1
          rw [hbkV] at ho
          cases ho
          exact keep _ _ hbkV (by omega) (fun c fz e => by cases e)
        · exact keep _ _ ho (by omega) (fun c fz e => by cases e)
      · rw [textW_snoc]; exact hA
    have hsz8 := h8.size
    clear hbd h8 hln hTs hlu hbq hx1' bX hSp hl2
    gi_wp2_with (first | (gi_at_call 53; with_reducible refine CallsIn.mono (CallsIn.inRound _ (callsIn_wide.2 (unhide HWR))) ?_; rintro e w1 ⟨rfl, hb1⟩) | (gi_at_call 52; with_reducible refine CallsIn.mono (CallsIn.inRound _ (callsIn_wide.2 (unhide HWS _ hb1))) ?_; rintro e w2 ⟨rfl, k1, k2, k3⟩))
    rw [List.map_append] at k3
    exact ⟨k1, k2, k3⟩
  case done =>
    rintro D xs V hD hS ⟨e0, ⟨l, e1, e2, e3⟩, e9⟩ hK
    obtain rfl : l = [x, y] := by
      rw [hS] at e1
      exact two_of e1.symm
    have HSS := hide (Tryz.Builder_String_any_k w.heap.size w.heap.size (textW [x, y]) V e3 e9.size)
    clear hI0 bla
    gi_wp2_with (gi_at_call 54; with_reducible refine CallsIn.mono (callsIn_wide.2 (unhide HSS)) ?_; rintro e w5 ⟨rfl, _, hb5, ho5⟩)
    have hKX : w5.heap[D]? = some (.deferred (some [])) := ho5 D _ hK (by simp; omega) (fun c fz e => by cases e)
    refine ⟨by simp, .inl ⟨_, _, rfl, run_takeDeferred hKX, ?_⟩⟩
    have hbX := e9.trans hb5
    refine ⟨_, results_tmp rfl _ _ _, rfl, hbX.grown (grownBy_putObj' w5 D _) hbX.size (fun k e => by cases e; omega)⟩
  case stop =>
    rintro D c pre V hD hSp h hK
    exact h.elim
end Go.Proofs.YtijiiapnbeljnaaGreatDoor

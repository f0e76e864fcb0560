/-
  UtfChecks: whether a byte is wrong, which and why; by parts; mended: all as the document says, for every text of at most 1048575 bytes.
-/
import Derived.Test.YtjkchpjopgpeeaaRefChk
import Derived.Test.YtjkchpjopgpeeaaRefPie
import Derived.Test.YtjkchpjopgpeeaaRefRunes
import Derived.Test.YtjkchpjopgpeeaaFresh
import Derived.Test.YtjkchpjopgpeeaaParts
import Derived.Test.YtjkchpjopgpeeaaMend
import Derived.Test.YtjkchpjopgpeeaaRefB
import Derived.Test.YtjkchpjopgpeeaaLives
import Derived.Test.YtjkchpjopgpeeaaBulk
import Derived.Lib.Strings
import Derived.Deep.QuietTactic
import Derived.BigQuiet
import Derived.ProofKit
import Derived.OpenShut
import Derived.ShutString
import Derived.ChangeOld
import Derived.JoinedCond
namespace Go.Proofs.Ytjkchpjopgpeeaa.utfChecks
open Go.ChangeShapes Go.WideShapes Go.ChangeAt Go.RowKit Go.PlainAid Go.Lib Go.Shelf Go.Seq2
open Go.ChangeMaps (open_string shut_string)
attribute [local go_sem] Oper.semAt_some
set_option linter.unusedVariables false

theorem below2 {a b c : World} (h : Below a.heap.size a b) (k : Below b.heap.size b c) : Below a.heap.size a c := h.trans (k.mono h.size)
theorem boxed_below {W W' : World} {B : Nat} {t : TypeId} {v : Value} (h : Boxed W B t v) (hb : Below W.heap.size W W') : Boxed W' B t v := (hb.block B h.lt).trans h
theorem pieces_some (f : Nat) (x : Value) (w : World) (h : f = 37) : (binOp .eql 53 (.func (.func f) #[] #[x]) .nilFunc).run Try.prog w = .ok (.bool false) w := by subst h; kernel_rfl
theorem check_one (s : ByteArray) (a a' : Nat) (c c' : Int) (h : checkV s a c) (h' : checkV s a' c') : a = a' ∧ c = c' := by
  have key : ∀ (l p p' r r' : List Nat) (x y : Nat), l = p ++ x :: r → l = p' ++ y :: r' → (∀ j ∈ p, why s j = 0) → (∀ j ∈ p', why s j = 0) → why s x ≠ 0 → why s y ≠ 0 → x = y := by
    intro l
    induction l with
    | nil => intro p p' r r' x y h; simp at h
    | cons z l ih =>
      intro p p' r r' x y h1 h2 h3 h4 h5 h6
      cases p with
      | nil =>
        cases p' with
        | nil => simp at h1 h2; rw [← h1.1, ← h2.1]
        | cons q p' =>
          simp at h1 h2
          exact absurd (by rw [← h1.1, h2.1]; exact h4 q (by simp)) h5
      | cons q p =>
        cases p' with
        | nil =>
          simp at h1 h2
          exact absurd (by rw [← h2.1, h1.1]; exact h3 q (by simp)) h6
        | cons q' p' =>
          simp at h1 h2
          exact ih p p' r r' x y h1.2 h2.2 (fun j hj => h3 j (by simp [hj])) (fun j hj => h4 j (by simp [hj])) h5 h6
  rcases h with ⟨h1, rfl, rfl⟩ | ⟨p, r, h1, h2, h3, rfl⟩
  · rcases h' with ⟨_, rfl, rfl⟩ | ⟨p', r', k1, k2, k3, rfl⟩
    · exact ⟨rfl, rfl⟩
    · exact absurd (h1 a' (by rw [k1]; simp)) k3
  · rcases h' with ⟨k1, rfl, rfl⟩ | ⟨p', r', k1, k2, k3, rfl⟩
    · exact absurd (k1 a (by rw [h1]; simp)) h3
    · obtain rfl := key _ p p' r r' a a' h1 k1 h2 k2 h3 k3
      exact ⟨rfl, rfl⟩
theorem set_sameC {W : World} {b : Nat} {t : TypeId} {v : Value} (h : Boxed W b t v) : W.setCell ⟨b, 0, none⟩ v = W := by
  have hb : W.heap[b]? = some (.cells #[v] t) := h
  have key : ∀ f : Obj → Obj, f (.cells #[v] t) = .cells #[v] t → W.heap.modify b f = W.heap := by
    intro f hf
    apply Array.ext_getElem?
    intro i
    rw [Array.getElem?_modify]
    split
    · rename_i e; subst e; rw [hb]; simp [hf]
    · rfl
  unfold World.setCell
  rw [key _ (by simp)]
def PieAt (w : World) (s : ByteArray) (a : Option Addr) (l : List Nat) : Prop := ∀ (i x : Nat), l[i]? = some x → ∃ g, a = some ⟨g, 0, none⟩ ∧ g < w.heap.size ∧ w.cell? ⟨g, i * 2, none⟩ = some (.string (s.extract x (pieceEnd s x))) ∧ w.cell? ⟨g, i * 2 + 1, none⟩ = some (.int .i32 ((Utf8.decode s x).1 : Nat))
theorem pie_at (s : ByteArray) : ∀ (l : List Nat) (i x : Nat), l[i]? = some x → (pieCs s l)[i * 2]? = some (.string (s.extract x (pieceEnd s x))) ∧ (pieCs s l)[i * 2 + 1]? = some (.int .i32 ((Utf8.decode s x).1 : Nat)) := by
  intro l
  induction l with
  | nil => intro i x h; simp at h
  | cons y l ih =>
    intro i x h
    cases i with
    | zero =>
      obtain rfl : y = x := by simpa using h
      exact ⟨rfl, rfl⟩
    | succ i =>
      have := ih i x (by simpa using h)
      have e1 : (i + 1) * 2 = i * 2 + 1 + 1 := by omega
      rw [e1]
      exact this
theorem pie_row {w : World} {base : Nat} {s : ByteArray} {v : Value} {l : List Nat} (h : w.ownsRow base 51 2 v l.length (pieCs s l)) : ∃ a c, v = .slice a l.length c ∧ PieAt w s a l := by
  rcases h.2 with ⟨rfl, h0⟩ | ⟨g, cap, cur, rfl, _, hg, _⟩
  · refine ⟨none, 0, by rw [h0], fun i x hx => ?_⟩
    have := (List.getElem?_eq_some_iff.1 hx).1
    omega
  · refine ⟨_, _, rfl, fun i x hx => ⟨g, rfl, (Array.getElem?_eq_some_iff.1 hg).1, ?_, ?_⟩⟩ <;> have hi := (List.getElem?_eq_some_iff.1 hx).1
    · exact (h.cellAt _ (by omega)).trans (pie_at s l i x hx).1
    · exact (h.cellAt _ (by omega)).trans (pie_at s l i x hx).2
theorem PieAt.below {w w' : World} {B : Nat} {s : ByteArray} {a : Option Addr} {l : List Nat} (h : PieAt w s a l) (hb : Below B w w') (hB : ∀ g, a = some ⟨g, 0, none⟩ → g < B) : PieAt w' s a l := by
  intro i x hx
  obtain ⟨g, h1, h2, h3, h4⟩ := h i x hx
  have := hB g h1
  exact ⟨g, h1, Nat.lt_of_lt_of_le h2 hb.size, (hb.cell (p := ⟨g, i * 2, none⟩) this).trans h3, (hb.cell (p := ⟨g, i * 2 + 1, none⟩) this).trans h4⟩
theorem fresh3 {X : World} {B n : Nat} {zs : List Int} {va vb : Value} {aw : Option Addr} {cw : Nat} (hn : zs.length = n) (hnb : n ≤ 1099511627776) (hB : B ≤ X.heap.size) (ra : X.ownsRow B 21 1 va n (i32s zs)) (rb : X.ownsRow B 21 1 vb n (i32s zs))
    (dab : va.ownBlock = none ∨ va.ownBlock ≠ vb.ownBlock) (rw : Reads X aw zs) (dwa : ∀ x, aw = some x → some x.block ≠ va.ownBlock) (dwb : ∀ x, aw = some x → some x.block ≠ vb.ownBlock) :
    Calls Try.prog 12 #[va, vb, .slice aw n cw] X fun e w' => e = .returned (.bool true) ∧ Below B X w' :=
  fresh_any X B va vb n aw cw zs hn hnb hB ⟨ra, rb, dab, rw, dwa, dwb⟩

set_option maxRecDepth 100000 in
set_option maxHeartbeats 8000000 in
theorem walk (s : ByteArray) (w : World) (hs : s.size ≤ 1048576) :
    Calls Try.prog 4 #[.string s] w fun e w' => e = .returned (.bool true) ∧ Below w.heap.size w w' := by
  refine (callsIn_wide (n := 12)).1 ?_
  refine callsIn_of_wp_marks Try.func4 rfl trivial ?_ rfl
  simp only [Try.ntmps4, List.size_toArray, List.length_cons, List.length_nil, Nat.reduceAdd, Nat.reduceSub, Array.replicate_succ, Array.replicate_zero, List.push_toArray, List.append_toArray, List.nil_append, List.cons_append]
  have hF : ∀ f, Fence.wide.fn f := fun _ => trivial
  refine wpIn_wide.2 ?_
  have hcl := chars_length s 0
  go_wp2_with fail
  refine (check_any s _ (by unfold maxLen; omega)).mono ?_
  rintro e w1 ⟨a, c, hck, rfl, hb1⟩
  have x1 := boxed_below (Boxed.new w 4 (.bool false)) hb1
  have hB1 : Below w.heap.size w w1 := below_after _ hb1 rfl
  have HCK := hide hck
  clear hb1 hck
  go_wp2_with fail
  refine (refCheck_any s _ (by omega)).mono ?_
  rintro e w2 ⟨a', c', hck', rfl, hb2⟩
  obtain ⟨rfl, rfl⟩ := check_one s a a' c c' (unhide HCK) hck'
  have x2 := boxed_below x1 hb2
  have hB2 := below2 hB1 hb2
  clear hb2 hck' x1 hB1
  go_wp2_with fail
  refine (strict_any s _ (by omega)).mono ?_
  rintro e w3 ⟨hst3, hb3⟩
  rcases unhide HCK with ⟨hall, ha, hc0⟩ | ⟨pre, rest, hpl, hpre, hwa, hca⟩
  · subst hc0
    rcases hst3 with ⟨_, v3, rfl, hr3⟩ | ⟨_, i, _, _, h1, _, h3, _⟩
    rotate_left
    · exact absurd (hall i (by rw [h1]; simp)) h3
    obtain ⟨a3, c3, rfl⟩ := row_slice hr3
    have x3 := boxed_below x2 hb3
    have hB3 := below2 hB2 hb3
    have HALL := hide hall
    clear hall ha HCK
    go_wp2_with fail
    refine (strict_any s _ (by omega)).mono ?_
    rintro e w4 ⟨hst4, hb4⟩
    rcases hst4 with ⟨_, v4, rfl, hr4⟩ | ⟨_, i, _, _, h1, _, h3, _⟩
    rotate_left
    · exact absurd (unhide HALL i (by rw [h1]; simp)) h3
    obtain ⟨a4, c4, rfl⟩ := row_slice hr4
    have x4 := boxed_below x3 hb4
    have hB4 := below2 hB3 hb4
    have z2 : w2.heap.size ≤ w3.heap.size := hb3.size
    have z3 : w3.heap.size ≤ w4.heap.size := hb4.size
    have hr3' := row_below2 hr3 hb4
    have HAP : Hid ((Value.slice a3 (chars s 0).length c3).ownBlock = none ∨ (Value.slice a3 (chars s 0).length c3).ownBlock ≠ (Value.slice a4 (chars s 0).length c4).ownBlock) := by
      show _ ∨ _
      cases hv : (Value.slice a3 (chars s 0).length c3).ownBlock with
      | none => exact .inl rfl
      | some g =>
        refine .inr fun e => ?_
        have h1 := (hr3.lt g hv).2
        have h2 := (hr4.lt g e.symm).1
        omega
    have HR3 := hide hr3'
    have HR4 := hide (World.ownsRow.mono hr4 z2)
    clear hb3 hb4 hr3 hr4 hr3' x3 hB3 HALL
    have HN : Hid ((runeInts s).length = (chars s 0).length) := runeInts_len s
    rw [runeInts_vals] at HR3 HR4
    generalize hn : (chars s 0).length = n at *
    have HRR : Hid (∀ W, Calls Try.prog 14 #[.string s] W fun e w' => ∃ v, e = .returned v ∧ w'.ownsRow W.heap.size 21 1 v n (i32s (runeInts s)) ∧ Below W.heap.size W w') := fun W => by
      have := refRunes_any s W (by omega)
      rw [hn] at this
      first | exact this | (rw [runeInts_vals] at this; exact this)
    go_wp2_with fail
    refine (unhide HRR _).mono ?_
    rintro e w5 ⟨v5, rfl, hr5, hb5⟩
    obtain ⟨a5, c5, rfl⟩ := row_slice hr5
    have x5 := boxed_below x4 hb5
    have hB5 := below2 hB4 hb5
    have z5 : w4.heap.size ≤ w5.heap.size := hb5.size
    have r3 := row_below2 (unhide HR3) hb5
    have r4 := row_below2 (unhide HR4) hb5
    have l3 : ∀ g, (Value.slice a3 n c3).ownBlock = some g → g < w4.heap.size := fun g e => ((unhide HR3).lt g e).2
    have l4 : ∀ g, (Value.slice a4 n c4).ownBlock = some g → g < w4.heap.size := fun g e => ((unhide HR4).lt g e).2
    have l5 : ∀ g, (Value.slice a5 n c5).ownBlock = some g → w4.heap.size ≤ g := fun g e => (hr5.lt g e).1
    have HFR := hide (fresh3 (cw := c5) (unhide HN) (by omega) (show w2.heap.size ≤ w5.heap.size by omega) r3 r4 HAP.out (reads_own hr5)
      (fun x hx e => by have h1 := l3 _ e.symm; have h2 := l5 x.block (by rw [hx]; rfl); omega)
      (fun x hx e => by have h1 := l4 _ e.symm; have h2 := l5 x.block (by rw [hx]; rfl); omega))
    have hlx := x2.lt
    clear r3 r4 l3 l4 l5 hr5 hb5 HR3 HR4 HAP x4 hB4
    go_wp2_with fail
    refine (unhide HFR).mono ?_
    rintro e w6 ⟨rfl, hb6⟩
    have x6 : Boxed w6 w.heap.size 4 (.bool false) := (hb6.block _ hlx).trans x5
    have hB6 : Below w.heap.size w w6 := hB5.trans (hb6.mono hB2.size)
    clear hb6 x5 hB5 HFR z2 z3 z5 hlx x2 hB2 HN hn
    have hNs := pieces_len s s.size 0 (by omega)
    rw [← pieces_from] at hNs
    obtain ⟨i1, hi1, hy0, hy1, hy2⟩ := info_parts infoRune2
    go_wp2_with fail
    refine (refPieces01_any s _ (by omega)).mono ?_
    rintro e v1 ⟨v, rfl, hrow, hb⟩
    obtain ⟨pa, pc, rfl, hpa⟩ := pie_row hrow
    have xu := boxed_below x6 hb
    have hBu : Below w.heap.size w v1 := hB6.trans (hb.mono hB6.size)
    obtain ⟨N, hN⟩ : ∃ N, (pieces s).length = N := ⟨_, rfl⟩
    rw [hN] at hNs
    rw [hN]
    have HNN := hide hN
    obtain ⟨U, hU⟩ : ∃ U, v1.alloc (.cells #[.slice pa N pc] 48) = U := ⟨_, rfl⟩
    have belU : Below v1.heap.size v1 U := by rw [← hU]; go_grown
    have bU : Boxed U v1.heap.size 48 (.slice pa N pc) := by rw [← hU]; exact Boxed.new v1 _ _
    have xU := boxed_below xu belU
    have hBU : Below w.heap.size w U := hBu.trans (belU.mono hBu.size)
    have hUs : U.heap.size = v1.heap.size + 1 := by rw [← hU]; simp
    have HPA : Hid (∀ B W, U.heap.size ≤ B → Below B U W → PieAt W s pa (pieces s)) := fun B W h1 h2 => by
      refine PieAt.below (PieAt.below hpa belU (fun g hg => ?_)) h2 (fun g hg => ?_)
      · rcases hrow.2 with ⟨he, _⟩ | ⟨g', cap, cur, he, _, hg', _⟩
        · simp at he; rw [he.1] at hg; cases hg
        · simp at he; rw [he.1] at hg; cases hg; exact (Array.getElem?_eq_some_iff.1 hg').1
      · rcases hrow.2 with ⟨he, _⟩ | ⟨g', cap, cur, he, _, hg', _⟩
        · simp at he; rw [he.1] at hg; cases hg
        · simp at he; rw [he.1] at hg; cases hg
          have := (Array.getElem?_eq_some_iff.1 hg').1
          omega
    have cU := bU.cell
    have hlx2 := xU.lt
    clear hrow hpa hb xu hBu belU hN x6 hB6
    go_wp2
    go_loopw [13, 14] (fun v13 v14 wr => ∃ i : Nat, i ≤ N ∧ v14 = .int .i64 (i : Nat) ∧ wr.ownsRow U.heap.size 21 1 v13 i (partVals s ((pieces s).take i)) ∧ Below U.heap.size U wr) (fun _ v14 _ => N - (intOf v14).toNat)
    case atStart => exact ⟨0, Nat.zero_le _, rfl, by simpa [partVals] using World.ownsRow_nil U _ _ _, Below.refl _ _⟩
    case round =>
      obtain ⟨i, hi, rfl, hr, hB⟩ := hrel
      have cW := (boxed_below bU hB).cell
      have hBs := hB.size
      obtain ⟨a13, c13, rfl⟩ := row_slice hr
      by_cases hlt2 : i < N
      · obtain ⟨x, hx⟩ : ∃ x, (pieces s)[i]? = some x := ⟨_, List.getElem?_eq_getElem (by rw [unhide HNN]; exact hlt2)⟩
        obtain ⟨g, rfl, _, p0, p1⟩ := unhide HPA _ wr (Nat.le_refl _) hB i x hx
        have HX1 : Hid (partVals s ((pieces s).take (i + 1)) = partVals s ((pieces s).take i) ++ [.int .i32 ((Utf8.decode s x).1 : Nat)]) := by
          show _ = _
          rw [List.take_add_one, hx]; exact partVals_snoc s _ x
        clear hx
        generalize (Utf8.decode s x).1 = R at *
        go_wp2_with (at_builtin; refine wpList_append_own_at _ rfl _ _ 38 rfl U.heap.size 21 i1 (.int .i32 0) 1 4 Try.underlying38 hi1 hy0 hy1 hy2 rfl (by decide) _ _ _ rfl (hr.alloc _) ⟨wr.heap.size, 0, none⟩ 1 1 [.int .i32 (R : Nat)] rfl rfl (cell_one_new _ _ _) (by simp [Value.oneCell']) (by unfold maxLen; omega) (by omega) (by simp; omega) ?_; intro v' w4 hown' hgrow _ _)
        have HB4 := hide (below_grown2 (hB.alloc hBs _) (by simp; omega) (hr.alloc _) hgrow)
        go_roundw
        case rel => exact ⟨i + 1, by omega, by go_num, by rw [HX1.out]; exact hown', unhide HB4⟩
        case measure => simp [intOf]; omega
      · obtain rfl : i = N := by omega
        rw [List.take_of_length_le (by rw [unhide HNN]; exact Nat.le_refl _)] at hr
        have xW := boxed_below xU hB
        have bW := boxed_below bU hB
        have hBW : Below w.heap.size w wr := hBU.trans (hB.mono hBU.size)
        have HPW := hide (fun B W (h1 : wr.heap.size ≤ B) (h2 : Below B wr W) => unhide HPA U.heap.size W (Nat.le_refl _) (hB.trans (h2.mono (by omega))))
        have HR := hide hr
        have hws := fun x w => pieces_some _ x w rfl
        have lbW := bW.lt
        have lxW := xW.lt
        clear hr HPA bU xU hBU cU hU hB
        go_wp2_with (go_at_call 21; refine (piecesIt_in s _).mono ?_; rintro e w' ⟨rfl, rfl⟩)
        obtain ⟨W0, hW0⟩ : ∃ W0, (wr.alloc (Obj.cells #[Value.int IntKind.i64 0] 3)).alloc (Obj.cells #[Value.string s] 9) = W0 := ⟨_, rfl⟩
        have hbel0 : Below wr.heap.size wr W0 := by rw [← hW0]; exact ((Below.refl _ wr).alloc (Nat.le_refl _) _).alloc (by simp) _
        have b0 : Boxed W0 wr.heap.size 3 (.int .i64 (0 : Nat)) := by rw [← hW0]; exact (Boxed.new wr _ _).alloc _
        have b1 : Boxed W0 (wr.heap.size + 1) 9 (.string s) := by rw [← hW0]; simpa using Boxed.new (wr.alloc (Obj.cells #[Value.int IntKind.i64 0] 3)) 9 (.string s)
        have hszX : W0.heap.size = wr.heap.size + 2 := by rw [← hW0]; simp
        rw [hW0]
        clear hW0
        refine (wpIn_wide (n := 12)).1 ?_
        refine range2G (by omega) (gf := 37) (lb := #[.pointer (some ⟨wr.heap.size + 1, 0, none⟩)]) rfl (enters_of Try.func37 (by kernel_rfl) rfl)
          (pieces_gives s (by unfold maxLen; omega) _ (wr.heap.size + 1) (by omega) W0 b1) (Below.refl _ _) (fun _ => rfl)
          (fun pre W => Boxed W wr.heap.size 3 (.int .i64 (pre.length : Nat)) ∧ Below wr.heap.size wr W)
          (fun _ pre _ => ¬ vals pre <+: pieces s)
          ((Own.from (boxed_own _ _ _) _).and (ownFrom_below (by omega) (by omega)))
          (fun c => own_pure _ _)
          ((calm_boxed _ _ _ _ _ _ (by omega)).and (calm_below _ (by omega)))
          ⟨b0, hbel0⟩
          ?a1 ?assign1 ?body1 ?done1 ?stop1
        case assign1 =>
          intro l x W K hK
          gi_wp2
          exact hK
        case body1 =>
          rintro l pre x W hl hle hrec ⟨hbx, hbel⟩ hlen
          have ct := hbx.cell
          have ft := hbx.frozen
          have bp := boxed_below bW hbel
          have cp := bp.cell
          have xp := boxed_below xW hbel
          have cx := xp.cell
          have fx := xp.frozen
          have hse : W.setCell ⟨w.heap.size, 0, none⟩ (.bool false) = W := set_sameC xp
          have hplen : pre.length < s.size := hlen
          have HSET : Hid (Boxed (W.setCell ⟨wr.heap.size, 0, none⟩ (.int .i64 ((pre.length : Int) + 1))) wr.heap.size 3 (.int .i64 ((pre ++ [x]).length : Nat))) := by
            have := hbx.set (.int .i64 ((pre.length : Int) + 1))
            rw [List.length_append]
            exact this
          have hlw := hbx.lt
          generalize hk : pre.length = k at *
          by_cases hkN : k < i
          · have dge : decide ((i : Int) ≤ (k : Int)) = false := decide_eq_false (by omega)
            obtain ⟨y, hy⟩ : ∃ y, (pieces s)[k]? = some y := ⟨_, List.getElem?_eq_getElem (by rw [unhide HNN]; exact hkN)⟩
            obtain ⟨g, rfl, _, p0, p1⟩ := unhide HPW _ W (Nat.le_refl _) hbel k y hy
            have HPF : Hid (vals (pre ++ [x]) <+: pieces s → s.extract x.1 (pieceEnd s x.1) = s.extract y (pieceEnd s y) ∧ (Utf8.decode s x.1).1 = (Utf8.decode s y).1) := fun h => by
              rw [vals_snoc] at h
              obtain ⟨r, hr'⟩ := h
              have : (pieces s)[k]? = some x.1 := by
                rw [← hr', List.append_assoc, List.getElem?_append_right (by rw [vals_length]; omega), vals_length, hk, Nat.sub_self]; rfl
              rw [hy] at this
              rw [Option.some.inj this]; exact ⟨rfl, rfl⟩
            clear hy hrec
            generalize s.extract x.1 (pieceEnd s x.1) = T at *
            generalize s.extract y (pieceEnd s y) = T' at *
            generalize (Utf8.decode s x.1).1 = R at *
            generalize (Utf8.decode s y).1 = R' at *
            by_cases hT : T = T'
            · subst hT
              by_cases hR : R = R'
              · subst hR
                clear HPF
                gi_wp2
                exact ⟨(KeepsOthers.setCell _ _ _).from _, ⟨(KeepsOthers.setCell _ _ _).walks, fun k t v hk ht' hb => hb.other (by rcases hk with hk | hk <;> omega) _⟩, unhide HSET, hbel.setCell (p := ⟨wr.heap.size, 0, none⟩) (Nat.le_refl _) _⟩
              · have dR : ((R : Int) != (R' : Int)) = true := by simp; omega
                have HNP : Hid (¬ vals (pre ++ [x]) <+: pieces s) := fun h => hR (HPF.out h).2
                clear HPF
                gi_wp2
                first | exact ⟨KeepsFrom.refl _ _, HNP.out⟩ | (rw [hse]; exact ⟨KeepsFrom.refl _ _, HNP.out⟩)
            · have hTL : ¬ T.toList = T'.toList := fun h => hT (by
                rw [toList_data, toList_data] at h
                exact ByteArray.ext (Array.toList_inj.1 h))
              have dT : (T.toList != T'.toList) = true := by simpa using hTL
              have HNP : Hid (¬ vals (pre ++ [x]) <+: pieces s) := fun h => hT (HPF.out h).1
              clear HPF
              gi_wp2
              first | exact ⟨KeepsFrom.refl _ _, HNP.out⟩ | (rw [hse]; exact ⟨KeepsFrom.refl _ _, HNP.out⟩)
          · have dge : decide ((i : Int) ≤ (k : Int)) = true := decide_eq_true (by omega)
            have HNP : Hid (¬ vals (pre ++ [x]) <+: pieces s) := fun h => by
              have := h.length_le
              rw [vals_length, List.length_append, unhide HNN, hk] at this
              simp at this
              omega
            gi_wp2
            first | exact ⟨KeepsFrom.refl _ _, HNP.out⟩ | (rw [hse]; exact ⟨KeepsFrom.refl _ _, HNP.out⟩)
        case done1 =>
          rintro D ys W hD hS ⟨hbx, hbel⟩ hK
          have hyl : ys.length = i := by rw [← vals_length, show vals ys = pieces s from hS]; exact unhide HNN
          rw [hyl] at hbx
          have ct := hbx.cell
          have bp := boxed_below bW hbel
          have cp := bp.cell
          have xp := boxed_below xW hbel
          have hBp : Below w.heap.size w W := hBW.trans (hbel.mono hBW.size)
          have HR1 := hide (row_below2 (unhide HR) hbel)
          obtain ⟨zs, hzs⟩ : ∃ zs : List Int, (pieces s).map (fun i => (((Utf8.decode s i).1 : Nat) : Int)) = zs := ⟨_, rfl⟩
          have hpv : partVals s (pieces s) = i32s zs := by rw [← hzs]; unfold partVals i32s; rw [List.map_map]; rfl
          have hzl : zs.length = i := by rw [← hzs, List.length_map]; exact unhide HNN
          rw [hpv] at HR1
          have HPT : Hid (∀ W, Calls Try.prog 22 #[.string s] W fun e w' => ∃ v, e = .returned v ∧ w'.ownsRow W.heap.size 21 1 v i (i32s zs) ∧ Below W.heap.size W w') := fun W => by
            have := parts_any s W (by omega)
            rw [hpv, unhide HNN] at this
            exact this
          have HRR2 : Hid (∀ W, Calls Try.prog 14 #[.string s] W fun e w' => ∃ a c, e = .returned (.slice a (runeInts s).length c) ∧ Reads w' a (runeInts s) ∧ Below W.heap.size W w') := fun W => by
            refine (refRunes_any s W (by omega)).mono ?_
            rintro e w' ⟨v, rfl, hr, hb⟩
            obtain ⟨a, c, rfl⟩ := row_slice hr
            exact ⟨a, c, by rw [runeInts_len], reads_own hr, hb⟩
          have hrl : (runeInts s).length ≤ 1099511627776 := by rw [runeInts_len]; have := chars_length s 0; omega
          have HME := hide (fun W => mend_any s W (by omega))
          have HEN : Hid (∀ (W : World) a c, Reads W a (runeInts s) → Calls Try.prog 24 #[.slice a (runeInts s).length c] W fun e w' => e = .returned (.string (runesBytes (runeInts s))) ∧ Below W.heap.size W w') := fun W a c h => refEncode_any a c (runeInts s) W h hrl
          have hmB : mendB s = runesBytes (runeInts s) := rfl
          rw [hmB] at HME
          generalize runesBytes (runeInts s) = MB at *
          clear hpv hzs hws
          generalize (runeInts s).length = rl at *
          gi_wp2
          go_wp2_with fail
          refine (unhide HPT _).mono ?_
          rintro e y1 ⟨va, rfl, hra, hb1⟩
          obtain ⟨aa, ca, rfl⟩ := row_slice hra
          go_wp2_with fail
          refine (unhide HPT _).mono ?_
          rintro e y2 ⟨vb, rfl, hrb, hb2⟩
          obtain ⟨ab, cb, rfl⟩ := row_slice hrb
          have k1 : W.heap.size ≤ y1.heap.size := hb1.size
          have k2 : y1.heap.size ≤ y2.heap.size := hb2.size
          have l0 : ∀ g, (Value.slice a13 i c13).ownBlock = some g → g < W.heap.size := fun g e => ((unhide HR1).lt g e).2
          have l1 : ∀ g, (Value.slice aa i ca).ownBlock = some g → W.heap.size ≤ g ∧ g < y1.heap.size := fun g e => hra.lt g e
          have l2 : ∀ g, (Value.slice ab i cb).ownBlock = some g → y1.heap.size ≤ g := fun g e => (hrb.lt g e).1
          have HFR := hide (fresh3 (cw := c13) hzl (by omega) (show W.heap.size ≤ y2.heap.size by omega) (row_below2 hra hb2) (World.ownsRow.mono hrb k1)
            (by
              cases hv : (Value.slice aa i ca).ownBlock with
              | none => exact .inl rfl
              | some g =>
                refine .inr fun e => ?_
                have h1 := (l1 g hv).2
                have h2 := l2 g e.symm
                omega)
            (reads_own (row_below2 (row_below2 (unhide HR1) hb1) hb2))
            (fun x hx e => by have h1 := l0 x.block (by rw [hx]; rfl); have h2 := (l1 _ e.symm).1; omega)
            (fun x hx e => by have h1 := l0 x.block (by rw [hx]; rfl); have h2 := l2 _ e.symm; omega))
          have b12 : Below W.heap.size W y2 := hb1.trans (hb2.mono k1)
          clear l0 l1 l2 hra hrb hb1 hb2 HR1 HR
          go_wp2_with fail
          refine (unhide HFR).mono ?_
          rintro e y3 ⟨rfl, hb3⟩
          have b3 : Below W.heap.size W y3 := b12.trans hb3
          clear HFR hb3 b12
          go_wp2_with fail
          refine (unhide HME _).mono ?_
          rintro e y4 ⟨rfl, hb4⟩
          go_wp2_with fail
          refine (unhide HRR2 _).mono ?_
          rintro e y5 ⟨a5', c5', rfl, hrd, hb5⟩
          go_wp2_with fail
          refine (unhide HEN _ _ _ hrd).mono ?_
          rintro e y6 ⟨rfl, hb6⟩
          have hMM : (MB.toList == MB.toList) = true := by simp
          go_wp2_with fail
          refine (lives_any _).mono ?_
          rintro e y7 ⟨rfl, hb7⟩
          have b7 : Below W.heap.size W y7 := (((b3.trans (hb4.mono b3.size)).trans (hb5.mono (by have := b3.size; have := hb4.size; omega))).trans (hb6.mono (by have := b3.size; have := hb4.size; have := hb5.size; omega))).trans (hb7.mono (by have := b3.size; have := hb4.size; have := hb5.size; have := hb6.size; omega))
          have hK' := (b7.block D (Array.getElem?_eq_some_iff.1 hK).1).trans hK
          have x8 := boxed_below xp b7
          have c8 := x8.cell
          have f8 := x8.frozen
          have hB8 : Below w.heap.size w y7 := hBp.trans (b7.mono hBp.size)
          clear hb4 hb5 hb6 hb7 b3 b7
          go_wp2
          have hK2 := (KeepsOthers.setCell y7 ⟨w.heap.size, 0, none⟩ (.bool true)).same D _ hK' rfl
          have hB9 := hB8.setCell (p := ⟨w.heap.size, 0, none⟩) (Nat.le_refl _) (.bool true)
          have d8 := x8.set (.bool true)
          refine ⟨by simp, .inl ⟨_, _, rfl, run_takeDeferred hK2, ?_⟩⟩
          have hc5 := cell_kept d8.cell (grownBy_putObj' _ D (.deferred none)) (fun r e => by cases e; exact ⟨_, hK2, rfl⟩)
          exact ⟨.bool true, by simp [results, Try.f4, go_sem, hc5], rfl, hB9.trans (belowK_b (w := w) (Nat.le_refl _) _ D _ _ (by omega) hK2 rfl rfl)⟩
        case stop1 =>
          rintro D c pre W _ hSp h _
          exact absurd hSp h
  · have hlt : a < s.size := places_lt s a (by rw [hpl]; simp)
    rcases hst3 with ⟨hall, _⟩ | ⟨p', i', r', b3, h1, h2, h3, hb3', rfl, hg3⟩
    · exact absurd (hall a (by rw [hpl]; simp)) hwa
    obtain ⟨rfl, -⟩ := check_one s a i' c (why s i') (unhide HCK) (.inr ⟨p', r', h1, h2, h3, rfl⟩)
    have x3 := boxed_below x2 hb3
    have hB3 := below2 hB2 hb3
    have HHH : Hid (places s = pre ++ a :: rest ∧ (∀ j ∈ pre, why s j = 0)) := ⟨hpl, hpre⟩
    have HG3 : Hid (w3.heap[b3]? = some (.cells #[.int .i64 (a : Nat), .int .i64 ((Utf8.decode s a).2 : Nat), .int .i32 ((Utf8.decode s a).1 : Nat), .int .i64 (why s a)] 27)) := hg3
    have HAT : Hid (∀ W, Calls Try.prog 19 #[.string s, .int .i64 (a : Nat)] W fun e w' => e = .returned (.agg #[.int .i64 (a : Nat), .int .i64 ((Utf8.decode s a).2 : Nat), .int .i32 ((Utf8.decode s a).1 : Nat), .int .i64 (why s a)]) ∧ Below W.heap.size W w') := fun W => refAt_any s a W (by omega) hlt
    have hwa' := hwa
    clear h1 h2 h3 hg3 hpl hpre
    go_wp2_with fail
    refine (strict_any s _ (by omega)).mono ?_
    rintro e w4 ⟨hst4, hb4⟩
    rcases hst4 with ⟨hall, _⟩ | ⟨p', i', r', b4, h1, h2, h3, hb4', rfl, hg4⟩
    · exact absurd (hall a (by rw [(unhide HHH).1]; simp)) hwa
    obtain ⟨rfl, -⟩ := check_one s a i' c (why s i') (unhide HCK) (.inr ⟨p', r', h1, h2, h3, rfl⟩)
    have x4 := boxed_below x3 hb4
    have hB4 := below2 hB3 hb4
    have l3 : b3 < w3.heap.size := (Array.getElem?_eq_some_iff.1 (unhide HG3)).1
    have HG34 := hide ((hb4.block b3 l3).trans (unhide HG3))
    have HG4 : Hid (w4.heap[b4]? = some (.cells #[.int .i64 (a : Nat), .int .i64 ((Utf8.decode s a).2 : Nat), .int .i32 ((Utf8.decode s a).1 : Nat), .int .i64 (why s a)] 27)) := hg4
    have z2 : w2.heap.size ≤ w3.heap.size := hb3.size
    have z3 : w3.heap.size ≤ w4.heap.size := hb4.size
    have hlx := x2.lt
    clear h1 h2 h3 hg4 HHH HG3 hb3 hb4 x3 hB3 HCK
    subst hca
    have dY : (why s a != 0) = true := by simpa using hwa
    have dY2 : (why s a == 0) = false := by simpa using hwa
    clear hwa hwa'
    generalize (Utf8.decode s a).1 = R at *
    generalize (Utf8.decode s a).2 = D at *
    generalize why s a = Y at *
    go_wp2_with fail
    refine (unhide HAT _).mono ?_
    rintro e w5 ⟨rfl, hb5⟩
    have x5 := boxed_below x4 hb5
    have hB5 := below2 hB4 hb5
    obtain ⟨W6, hW6⟩ : ∃ W6, w5.alloc (.cells #[.int .i64 (a : Nat), .int .i64 (D : Nat), .int .i32 (R : Nat), .int .i64 Y] 27) = W6 := ⟨_, rfl⟩
    have bel6 : Below w5.heap.size w5 W6 := by rw [← hW6]; go_grown
    have x6 := boxed_below x5 bel6
    have hB6 := below2 hB5 bel6
    have l4 : b4 < w4.heap.size := (Array.getElem?_eq_some_iff.1 (unhide HG4)).1
    have z5 : w4.heap.size ≤ w5.heap.size := hb5.size
    have z6 : w5.heap.size ≤ W6.heap.size := bel6.size
    have g3 := (bel6.block b3 (by omega)).trans ((hb5.block b3 (by omega)).trans (unhide HG34))
    have g4 := (bel6.block b4 (by omega)).trans ((hb5.block b4 (by omega)).trans (unhide HG4))
    have g6 : W6.heap[w5.heap.size]? = some (.cells #[.int .i64 (a : Nat), .int .i64 (D : Nat), .int .i32 (R : Nat), .int .i64 Y] 27) := by rw [← hW6]; exact heap_alloc_new w5 _
    obtain ⟨p0, p1, p2, p3⟩ := cell_four W6 b3 _ _ _ _ _ g3
    obtain ⟨q0, q1, q2, q3⟩ := cell_four W6 b4 _ _ _ _ _ g4
    obtain ⟨r0, r1, r2, r3⟩ := cell_four W6 w5.heap.size _ _ _ _ _ g6
    have HG3 := hide g3
    have HG4' := hide g4
    have HG6 := hide g6
    clear HG34 HG4 HAT hb5 bel6 x4 x5 hB4 hB5 g3 g4 g6
    go_wp2
    go_quiet (fail)
    obtain ⟨W7, hW7⟩ : ∃ W7, W6.drewN nq = W7 := ⟨_, rfl⟩
    have x7 : Boxed W7 w.heap.size 4 (.bool false) := by rw [← hW7]; exact x6
    have hB7 : Below w.heap.size w W7 := by rw [← hW7]; exact below_drewN hB6 nq
    have g3 : W7.heap[b3]? = some (spotCells (a : Nat) (D : Nat) (R : Nat) Y) := by rw [← hW7]; exact unhide HG3
    have g4 : W7.heap[b4]? = some (spotCells (a : Nat) (D : Nat) (R : Nat) Y) := by rw [← hW7]; exact unhide HG4'
    have g6 : W7.heap[w5.heap.size]? = some (spotCells (a : Nat) (D : Nat) (R : Nat) Y) := by rw [← hW7]; exact unhide HG6
    have z7 : W7.heap.size = W6.heap.size := by rw [← hW7]; rfl
    rw [hW7]
    obtain ⟨p0, p1, p2, p3⟩ := spot_cells g3
    obtain ⟨f0, f1, f2, f3⟩ := spot_frozen g3
    obtain ⟨q0, q1, q2, q3⟩ := spot_cells g4
    obtain ⟨W8, hW8⟩ : ∃ W8, (((W7.setCell ⟨b3, 0, none⟩ (.int .i64 (-5))).setCell ⟨b3, 1, none⟩ (.int .i64 0)).setCell ⟨b3, 2, none⟩ (.int .i32 0)).setCell ⟨b3, 3, none⟩ (.int .i64 0) = W8 := ⟨_, rfl⟩
    have hoth : ∀ k, k ≠ b3 → W8.heap[k]? = W7.heap[k]? := fun k hk => by
      rw [← hW8, Below.heap_setCell _ _ _ _ (by simpa using hk), Below.heap_setCell _ _ _ _ (by simpa using hk), Below.heap_setCell _ _ _ _ (by simpa using hk), Below.heap_setCell _ _ _ _ (by simpa using hk)]
    have x8 : Boxed W8 w.heap.size 4 (.bool false) := (hoth _ (by omega)).trans x7
    have hB8 : Below w.heap.size w W8 := by
      rw [← hW8]
      exact (((hB7.setCell (p := ⟨b3, 0, none⟩) (by show _ ≤ b3; omega) _).setCell (p := ⟨b3, 1, none⟩) (by show _ ≤ b3; omega) _).setCell (p := ⟨b3, 2, none⟩) (by show _ ≤ b3; omega) _).setCell (p := ⟨b3, 3, none⟩) (by show _ ≤ b3; omega) _
    obtain ⟨s0, s1, s2, s3⟩ := spot_cells ((hoth b4 (by omega)).trans g4)
    obtain ⟨t0, t1, t2, t3⟩ := spot_cells ((hoth w5.heap.size (by omega)).trans g6)
    clear hW7 hW6 x6 hB6 r0 r1 r2 r3 HG3 HG4' HG6 g3 g4 g6 hoth
    go_wp2
    go_quiet (fail)
    obtain ⟨W9, hW9⟩ : ∃ W9, W8.drewN nq = W9 := ⟨_, rfl⟩
    have x9 : Boxed W9 w.heap.size 4 (.bool false) := by rw [← hW9]; exact x8
    have hB9 : Below w.heap.size w W9 := by rw [← hW9]; exact below_drewN hB8 nq
    rw [hW9]
    clear hW9 hW8 x7 hB7 x8 hB8 p0 p1 p2 p3 f0 f1 f2 f3 q0 q1 q2 q3 s0 s1 s2 s3 t0 t1 t2 t3 x2 hB2 z2 z3 z5 z6 z7 l3 l4 hlx hlt dY dY2 hb3' hb4'
    have hNs := pieces_len s s.size 0 (by omega)
    rw [← pieces_from] at hNs
    obtain ⟨i1, hi1, hy0, hy1, hy2⟩ := info_parts infoRune2
    go_wp2_with fail
    refine (refPieces01_any s _ (by omega)).mono ?_
    rintro e v1 ⟨v, rfl, hrow, hb⟩
    obtain ⟨pa, pc, rfl, hpa⟩ := pie_row hrow
    have xu := boxed_below x9 hb
    have hBu : Below w.heap.size w v1 := hB9.trans (hb.mono hB9.size)
    obtain ⟨N, hN⟩ : ∃ N, (pieces s).length = N := ⟨_, rfl⟩
    rw [hN] at hNs
    rw [hN]
    have HNN := hide hN
    obtain ⟨U, hU⟩ : ∃ U, v1.alloc (.cells #[.slice pa N pc] 48) = U := ⟨_, rfl⟩
    have belU : Below v1.heap.size v1 U := by rw [← hU]; go_grown
    have bU : Boxed U v1.heap.size 48 (.slice pa N pc) := by rw [← hU]; exact Boxed.new v1 _ _
    have xU := boxed_below xu belU
    have hBU : Below w.heap.size w U := hBu.trans (belU.mono hBu.size)
    have hUs : U.heap.size = v1.heap.size + 1 := by rw [← hU]; simp
    have HPA : Hid (∀ B W, U.heap.size ≤ B → Below B U W → PieAt W s pa (pieces s)) := fun B W h1 h2 => by
      refine PieAt.below (PieAt.below hpa belU (fun g hg => ?_)) h2 (fun g hg => ?_)
      · rcases hrow.2 with ⟨he, _⟩ | ⟨g', cap, cur, he, _, hg', _⟩
        · simp at he; rw [he.1] at hg; cases hg
        · simp at he; rw [he.1] at hg; cases hg; exact (Array.getElem?_eq_some_iff.1 hg').1
      · rcases hrow.2 with ⟨he, _⟩ | ⟨g', cap, cur, he, _, hg', _⟩
        · simp at he; rw [he.1] at hg; cases hg
        · simp at he; rw [he.1] at hg; cases hg
          have := (Array.getElem?_eq_some_iff.1 hg').1
          omega
    have cU := bU.cell
    have hlx2 := xU.lt
    clear hrow hpa hb xu hBu belU hN x9 hB9
    go_wp2
    go_loopw [13, 14] (fun v13 v14 wr => ∃ i : Nat, i ≤ N ∧ v14 = .int .i64 (i : Nat) ∧ wr.ownsRow U.heap.size 21 1 v13 i (partVals s ((pieces s).take i)) ∧ Below U.heap.size U wr) (fun _ v14 _ => N - (intOf v14).toNat)
    case atStart => exact ⟨0, Nat.zero_le _, rfl, by simpa [partVals] using World.ownsRow_nil U _ _ _, Below.refl _ _⟩
    case round =>
      obtain ⟨i, hi, rfl, hr, hB⟩ := hrel
      have cW := (boxed_below bU hB).cell
      have hBs := hB.size
      obtain ⟨a13, c13, rfl⟩ := row_slice hr
      by_cases hlt2 : i < N
      · obtain ⟨x, hx⟩ : ∃ x, (pieces s)[i]? = some x := ⟨_, List.getElem?_eq_getElem (by rw [unhide HNN]; exact hlt2)⟩
        obtain ⟨g, rfl, _, p0, p1⟩ := unhide HPA _ wr (Nat.le_refl _) hB i x hx
        have HX1 : Hid (partVals s ((pieces s).take (i + 1)) = partVals s ((pieces s).take i) ++ [.int .i32 ((Utf8.decode s x).1 : Nat)]) := by
          show _ = _
          rw [List.take_add_one, hx]; exact partVals_snoc s _ x
        clear hx
        generalize (Utf8.decode s x).1 = R at *
        go_wp2_with (at_builtin; refine wpList_append_own_at _ rfl _ _ 38 rfl U.heap.size 21 i1 (.int .i32 0) 1 4 Try.underlying38 hi1 hy0 hy1 hy2 rfl (by decide) _ _ _ rfl (hr.alloc _) ⟨wr.heap.size, 0, none⟩ 1 1 [.int .i32 (R : Nat)] rfl rfl (cell_one_new _ _ _) (by simp [Value.oneCell']) (by unfold maxLen; omega) (by omega) (by simp; omega) ?_; intro v' w4 hown' hgrow _ _)
        have HB4 := hide (below_grown2 (hB.alloc hBs _) (by simp; omega) (hr.alloc _) hgrow)
        go_roundw
        case rel => exact ⟨i + 1, by omega, by go_num, by rw [HX1.out]; exact hown', unhide HB4⟩
        case measure => simp [intOf]; omega
      · obtain rfl : i = N := by omega
        rw [List.take_of_length_le (by rw [unhide HNN]; exact Nat.le_refl _)] at hr
        have xW := boxed_below xU hB
        have bW := boxed_below bU hB
        have hBW : Below w.heap.size w wr := hBU.trans (hB.mono hBU.size)
        have HPW := hide (fun B W (h1 : wr.heap.size ≤ B) (h2 : Below B wr W) => unhide HPA U.heap.size W (Nat.le_refl _) (hB.trans (h2.mono (by omega))))
        have HR := hide hr
        have hws := fun x w => pieces_some _ x w rfl
        have lbW := bW.lt
        have lxW := xW.lt
        clear hr HPA bU xU hBU cU hU hB
        go_wp2_with (go_at_call 21; refine (piecesIt_in s _).mono ?_; rintro e w' ⟨rfl, rfl⟩)
        obtain ⟨W0, hW0⟩ : ∃ W0, (wr.alloc (Obj.cells #[Value.int IntKind.i64 0] 3)).alloc (Obj.cells #[Value.string s] 9) = W0 := ⟨_, rfl⟩
        have hbel0 : Below wr.heap.size wr W0 := by rw [← hW0]; exact ((Below.refl _ wr).alloc (Nat.le_refl _) _).alloc (by simp) _
        have b0 : Boxed W0 wr.heap.size 3 (.int .i64 (0 : Nat)) := by rw [← hW0]; exact (Boxed.new wr _ _).alloc _
        have b1 : Boxed W0 (wr.heap.size + 1) 9 (.string s) := by rw [← hW0]; simpa using Boxed.new (wr.alloc (Obj.cells #[Value.int IntKind.i64 0] 3)) 9 (.string s)
        have hszX : W0.heap.size = wr.heap.size + 2 := by rw [← hW0]; simp
        rw [hW0]
        clear hW0
        refine (wpIn_wide (n := 12)).1 ?_
        refine range2G (by omega) (gf := 37) (lb := #[.pointer (some ⟨wr.heap.size + 1, 0, none⟩)]) rfl (enters_of Try.func37 (by kernel_rfl) rfl)
          (pieces_gives s (by unfold maxLen; omega) _ (wr.heap.size + 1) (by omega) W0 b1) (Below.refl _ _) (fun _ => rfl)
          (fun pre W => Boxed W wr.heap.size 3 (.int .i64 (pre.length : Nat)) ∧ Below wr.heap.size wr W)
          (fun _ pre _ => ¬ vals pre <+: pieces s)
          ((Own.from (boxed_own _ _ _) _).and (ownFrom_below (by omega) (by omega)))
          (fun c => own_pure _ _)
          ((calm_boxed _ _ _ _ _ _ (by omega)).and (calm_below _ (by omega)))
          ⟨b0, hbel0⟩
          ?a2 ?assign2 ?body2 ?done2 ?stop2
        case assign2 =>
          intro l x W K hK
          gi_wp2
          exact hK
        case body2 =>
          rintro l pre x W hl hle hrec ⟨hbx, hbel⟩ hlen
          have ct := hbx.cell
          have ft := hbx.frozen
          have bp := boxed_below bW hbel
          have cp := bp.cell
          have xp := boxed_below xW hbel
          have cx := xp.cell
          have fx := xp.frozen
          have hse : W.setCell ⟨w.heap.size, 0, none⟩ (.bool false) = W := set_sameC xp
          have hplen : pre.length < s.size := hlen
          have HSET : Hid (Boxed (W.setCell ⟨wr.heap.size, 0, none⟩ (.int .i64 ((pre.length : Int) + 1))) wr.heap.size 3 (.int .i64 ((pre ++ [x]).length : Nat))) := by
            have := hbx.set (.int .i64 ((pre.length : Int) + 1))
            rw [List.length_append]
            exact this
          have hlw := hbx.lt
          generalize hk : pre.length = k at *
          by_cases hkN : k < i
          · have dge : decide ((i : Int) ≤ (k : Int)) = false := decide_eq_false (by omega)
            obtain ⟨y, hy⟩ : ∃ y, (pieces s)[k]? = some y := ⟨_, List.getElem?_eq_getElem (by rw [unhide HNN]; exact hkN)⟩
            obtain ⟨g, rfl, _, p0, p1⟩ := unhide HPW _ W (Nat.le_refl _) hbel k y hy
            have HPF : Hid (vals (pre ++ [x]) <+: pieces s → s.extract x.1 (pieceEnd s x.1) = s.extract y (pieceEnd s y) ∧ (Utf8.decode s x.1).1 = (Utf8.decode s y).1) := fun h => by
              rw [vals_snoc] at h
              obtain ⟨r, hr'⟩ := h
              have : (pieces s)[k]? = some x.1 := by
                rw [← hr', List.append_assoc, List.getElem?_append_right (by rw [vals_length]; omega), vals_length, hk, Nat.sub_self]; rfl
              rw [hy] at this
              rw [Option.some.inj this]; exact ⟨rfl, rfl⟩
            clear hy hrec
            generalize s.extract x.1 (pieceEnd s x.1) = T at *
            generalize s.extract y (pieceEnd s y) = T' at *
            generalize (Utf8.decode s x.1).1 = R at *
            generalize (Utf8.decode s y).1 = R' at *
            by_cases hT : T = T'
            · subst hT
              by_cases hR : R = R'
              · subst hR
                clear HPF
                gi_wp2
                exact ⟨(KeepsOthers.setCell _ _ _).from _, ⟨(KeepsOthers.setCell _ _ _).walks, fun k t v hk ht' hb => hb.other (by rcases hk with hk | hk <;> omega) _⟩, unhide HSET, hbel.setCell (p := ⟨wr.heap.size, 0, none⟩) (Nat.le_refl _) _⟩
              · have dR : ((R : Int) != (R' : Int)) = true := by simp; omega
                have HNP : Hid (¬ vals (pre ++ [x]) <+: pieces s) := fun h => hR (HPF.out h).2
                clear HPF
                gi_wp2
                first | exact ⟨KeepsFrom.refl _ _, HNP.out⟩ | (rw [hse]; exact ⟨KeepsFrom.refl _ _, HNP.out⟩)
            · have hTL : ¬ T.toList = T'.toList := fun h => hT (by
                rw [toList_data, toList_data] at h
                exact ByteArray.ext (Array.toList_inj.1 h))
              have dT : (T.toList != T'.toList) = true := by simpa using hTL
              have HNP : Hid (¬ vals (pre ++ [x]) <+: pieces s) := fun h => hT (HPF.out h).1
              clear HPF
              gi_wp2
              first | exact ⟨KeepsFrom.refl _ _, HNP.out⟩ | (rw [hse]; exact ⟨KeepsFrom.refl _ _, HNP.out⟩)
          · have dge : decide ((i : Int) ≤ (k : Int)) = true := decide_eq_true (by omega)
            have HNP : Hid (¬ vals (pre ++ [x]) <+: pieces s) := fun h => by
              have := h.length_le
              rw [vals_length, List.length_append, unhide HNN, hk] at this
              simp at this
              omega
            gi_wp2
            first | exact ⟨KeepsFrom.refl _ _, HNP.out⟩ | (rw [hse]; exact ⟨KeepsFrom.refl _ _, HNP.out⟩)
        case done2 =>
          rintro D ys W hD hS ⟨hbx, hbel⟩ hK
          have hyl : ys.length = i := by rw [← vals_length, show vals ys = pieces s from hS]; exact unhide HNN
          rw [hyl] at hbx
          have ct := hbx.cell
          have bp := boxed_below bW hbel
          have cp := bp.cell
          have xp := boxed_below xW hbel
          have hBp : Below w.heap.size w W := hBW.trans (hbel.mono hBW.size)
          have HR1 := hide (row_below2 (unhide HR) hbel)
          obtain ⟨zs, hzs⟩ : ∃ zs : List Int, (pieces s).map (fun i => (((Utf8.decode s i).1 : Nat) : Int)) = zs := ⟨_, rfl⟩
          have hpv : partVals s (pieces s) = i32s zs := by rw [← hzs]; unfold partVals i32s; rw [List.map_map]; rfl
          have hzl : zs.length = i := by rw [← hzs, List.length_map]; exact unhide HNN
          rw [hpv] at HR1
          have HPT : Hid (∀ W, Calls Try.prog 22 #[.string s] W fun e w' => ∃ v, e = .returned v ∧ w'.ownsRow W.heap.size 21 1 v i (i32s zs) ∧ Below W.heap.size W w') := fun W => by
            have := parts_any s W (by omega)
            rw [hpv, unhide HNN] at this
            exact this
          have HRR2 : Hid (∀ W, Calls Try.prog 14 #[.string s] W fun e w' => ∃ a c, e = .returned (.slice a (runeInts s).length c) ∧ Reads w' a (runeInts s) ∧ Below W.heap.size W w') := fun W => by
            refine (refRunes_any s W (by omega)).mono ?_
            rintro e w' ⟨v, rfl, hr, hb⟩
            obtain ⟨a, c, rfl⟩ := row_slice hr
            exact ⟨a, c, by rw [runeInts_len], reads_own hr, hb⟩
          have hrl : (runeInts s).length ≤ 1099511627776 := by rw [runeInts_len]; have := chars_length s 0; omega
          have HME := hide (fun W => mend_any s W (by omega))
          have HEN : Hid (∀ (W : World) a c, Reads W a (runeInts s) → Calls Try.prog 24 #[.slice a (runeInts s).length c] W fun e w' => e = .returned (.string (runesBytes (runeInts s))) ∧ Below W.heap.size W w') := fun W a c h => refEncode_any a c (runeInts s) W h hrl
          have hmB : mendB s = runesBytes (runeInts s) := rfl
          rw [hmB] at HME
          generalize runesBytes (runeInts s) = MB at *
          clear hpv hzs hws
          generalize (runeInts s).length = rl at *
          gi_wp2
          go_wp2_with fail
          refine (unhide HPT _).mono ?_
          rintro e y1 ⟨va, rfl, hra, hb1⟩
          obtain ⟨aa, ca, rfl⟩ := row_slice hra
          go_wp2_with fail
          refine (unhide HPT _).mono ?_
          rintro e y2 ⟨vb, rfl, hrb, hb2⟩
          obtain ⟨ab, cb, rfl⟩ := row_slice hrb
          have k1 : W.heap.size ≤ y1.heap.size := hb1.size
          have k2 : y1.heap.size ≤ y2.heap.size := hb2.size
          have l0 : ∀ g, (Value.slice a13 i c13).ownBlock = some g → g < W.heap.size := fun g e => ((unhide HR1).lt g e).2
          have l1 : ∀ g, (Value.slice aa i ca).ownBlock = some g → W.heap.size ≤ g ∧ g < y1.heap.size := fun g e => hra.lt g e
          have l2 : ∀ g, (Value.slice ab i cb).ownBlock = some g → y1.heap.size ≤ g := fun g e => (hrb.lt g e).1
          have HFR := hide (fresh3 (cw := c13) hzl (by omega) (show W.heap.size ≤ y2.heap.size by omega) (row_below2 hra hb2) (World.ownsRow.mono hrb k1)
            (by
              cases hv : (Value.slice aa i ca).ownBlock with
              | none => exact .inl rfl
              | some g =>
                refine .inr fun e => ?_
                have h1 := (l1 g hv).2
                have h2 := l2 g e.symm
                omega)
            (reads_own (row_below2 (row_below2 (unhide HR1) hb1) hb2))
            (fun x hx e => by have h1 := l0 x.block (by rw [hx]; rfl); have h2 := (l1 _ e.symm).1; omega)
            (fun x hx e => by have h1 := l0 x.block (by rw [hx]; rfl); have h2 := l2 _ e.symm; omega))
          have b12 : Below W.heap.size W y2 := hb1.trans (hb2.mono k1)
          clear l0 l1 l2 hra hrb hb1 hb2 HR1 HR
          go_wp2_with fail
          refine (unhide HFR).mono ?_
          rintro e y3 ⟨rfl, hb3⟩
          have b3 : Below W.heap.size W y3 := b12.trans hb3
          clear HFR hb3 b12
          go_wp2_with fail
          refine (unhide HME _).mono ?_
          rintro e y4 ⟨rfl, hb4⟩
          go_wp2_with fail
          refine (unhide HRR2 _).mono ?_
          rintro e y5 ⟨a5', c5', rfl, hrd, hb5⟩
          go_wp2_with fail
          refine (unhide HEN _ _ _ hrd).mono ?_
          rintro e y6 ⟨rfl, hb6⟩
          have hMM : (MB.toList == MB.toList) = true := by simp
          go_wp2_with fail
          refine (lives_any _).mono ?_
          rintro e y7 ⟨rfl, hb7⟩
          have b7 : Below W.heap.size W y7 := (((b3.trans (hb4.mono b3.size)).trans (hb5.mono (by have := b3.size; have := hb4.size; omega))).trans (hb6.mono (by have := b3.size; have := hb4.size; have := hb5.size; omega))).trans (hb7.mono (by have := b3.size; have := hb4.size; have := hb5.size; have := hb6.size; omega))
          have hK' := (b7.block D (Array.getElem?_eq_some_iff.1 hK).1).trans hK
          have x8 := boxed_below xp b7
          have c8 := x8.cell
          have f8 := x8.frozen
          have hB8 : Below w.heap.size w y7 := hBp.trans (b7.mono hBp.size)
          clear hb4 hb5 hb6 hb7 b3 b7
          go_wp2
          have hK2 := (KeepsOthers.setCell y7 ⟨w.heap.size, 0, none⟩ (.bool true)).same D _ hK' rfl
          have hB9 := hB8.setCell (p := ⟨w.heap.size, 0, none⟩) (Nat.le_refl _) (.bool true)
          have d8 := x8.set (.bool true)
          refine ⟨by simp, .inl ⟨_, _, rfl, run_takeDeferred hK2, ?_⟩⟩
          have hc5 := cell_kept d8.cell (grownBy_putObj' _ D (.deferred none)) (fun r e => by cases e; exact ⟨_, hK2, rfl⟩)
          exact ⟨.bool true, by simp [results, Try.f4, go_sem, hc5], rfl, hB9.trans (belowK_b (w := w) (Nat.le_refl _) _ D _ _ (by omega) hK2 rfl rfl)⟩
        case stop2 =>
          rintro D c pre W _ hSp h _
          exact absurd hSp h
end Go.Proofs.Ytjkchpjopgpeeaa.utfChecks

/-
  ParasBytes: a byte that stands for no character has the class of U+FFFD, and the paragraphs' bytes are together the text. The condition: the bulk of props and text is at most 1048576.
-/
import Derived.Test.YtkckkchnmgidgaaBulk
import Derived.Test.YtkckkchnmgidgaaPaAw
import Derived.Test.YtkckkchnmgidgaaPaOq
import Derived.Test.YtkckkchnmgidgaaPaMy
import Derived.Test.YtkckkchnmgidgaaPaE
import Derived.Test.YtkckkchnmgidgaaPaBm
import Derived.ProofKit
import Derived.OwnWalkIn
import Derived.RangeFuncSeq
import Derived.Test.YtkckkchnmgidgaaRegInv
import Derived.BigFrameIn
import Derived.BigGuardIn
import Derived.BigRegionIn
import Derived.ControlIn
import Derived.LoopIn
import Derived.OpenShut
import Derived.ShutString
import Derived.ChangeOld
namespace Go.Proofs.Ytkckkchnmgidgaa.parasBytes
open Go.Seq4 Go.Seq6 Go.ChangeShapes Go.WideShapes Go.ChangeAt Go.RowKit Go.PlainAid Go.Lib Go.ChangeMaps
set_option linter.unusedVariables false
attribute [local go_sem] Oper.semAt_some

set_option maxRecDepth 100000 in
set_option maxHeartbeats 4000000 in
theorem walk (rest : Int) (pa : Option Addr) (pn pc : Nat) (l : List CharD) (s : ByteArray) (W : World) (hpl : l.length = pn) (hpn : pn ≤ 1048576) (hp : ReadsC W pa l) (hs : s.size ≤ 1048576) :
    Calls Try.prog 12 #[propsV rest pa pn pc, .string s] W fun e w' => e = .returned (.bool true) ∧ Below W.heap.size W w' := by
  have HAW := hide (fun w => awake_any w)
  have HMAY := hide (fun (w : World) (hb : Below W.heap.size W w) => may_any rest pa pn pc l w hpl (hp.below hb) (by omega))
  have hrl : (runesL s).length ≤ 1048576 := by rw [runesL_len]; have := chars_length s 0; omega
  have hmz : (mendB s).size ≤ 4 * 1048576 := Nat.le_trans (mendB_size s) (by omega)
  have HCL := hide (fun (w : World) (g c' : Nat) (hb : Below W.heap.size W w) (h : Reads w (some ⟨g, 0, none⟩) (runesL s)) => classes_any rest pa pn pc l (runesL s).length c' (some ⟨g, 0, none⟩) (runesL s) w hpl (hp.below hb) (by omega) rfl h (by omega))
  have HNO := hide (fun (n : Nat) (hn : 7 ≤ n) (w : World) (hb : Below W.heap.size W w) (Bp Bt : Nat) (h1 : w.heap[Bp]? = some (.cells #[.iface 25 (propsV rest pa pn pc)] 84 (0, 0))) (h2 : w.heap[Bt]? = some (.cells #[.string s] 9 (0, 0))) => each_gives n Bp Bt hn rest pa pn pc l s w hpl (hp.below hb) (by omega) (by omega) h1 h2)
  have HNM := hide (fun (n : Nat) (hn : 7 ≤ n) (w : World) (hb : Below W.heap.size W w) (Bp Bt : Nat) (h1 : w.heap[Bp]? = some (.cells #[.iface 25 (propsV rest pa pn pc)] 84 (0, 0))) (h2 : w.heap[Bt]? = some (.cells #[.string (mendB s)] 9 (0, 0))) => each_gives n Bp Bt hn rest pa pn pc l (mendB s) w hpl (hp.below hb) (by omega) (by omega) h1 h2)
  have HRU := hide (fun w => paRunes_any s w (by omega))
  have HRM := hide (fun w => paRunes_any (mendB s) w (by omega))
  rw [runes_mend] at HRM
  have HCV := hide (fun w => conv_runes s w (by omega))
  rw [runeVals_L, ← runesL_len] at HCV
  have HSM := hide (fun (w : World) (x y : Option Addr) (cx cy : Nat) (h1 : ReadsB w x (classesL rest l (runesL s))) (h2 : ReadsB w y (classesL rest l (runesL s))) => same_yes x y cx cy (runesL s).length (classesL rest l (runesL s)) w (by simp [classesL]) h1 h2 (by omega))
  have hme : runesBytes (runesL s) = mendB s := rfl
  have HME := hide hme
  clear hme
  have HUT : Hid ((classesL rest l (runesL s)).length = (runesL s).length ∧ (chars s 0).length = (runesL s).length) := ⟨by simp [classesL], by rw [runesL_len]⟩
  unfold eachL at HNO HNM
  rw [runes_mend] at HNM
  generalize hts : runesL s = ts at *
  generalize classesL rest l ts = us at *
  generalize hmd : mendB s = md at *
  unfold propsV at *
  obtain ⟨W2, hW2⟩ : ∃ W2, W.alloc (.cells #[.int .u8 rest, .slice pa pn pc] 25) = W2 := ⟨_, rfl⟩
  have hb0 : Below W.heap.size W W2 := by rw [← hW2]; exact (Below.refl _ W).alloc (Nat.le_refl _) _
  have x0 : Blk W2 W.heap.size [.int .u8 rest, .slice pa pn pc] 25 := by rw [← hW2]; exact Blk.new W [.int .u8 rest, .slice pa pn pc] _
  have HW2 := hide hW2
  have HX0 := hide x0
  have HB0 := hide hb0
  clear hW2 x0 hb0 hpl hp
  refine (callsIn_wide (n := 20)).1 ?_
  refine callsIn_of_wp_marks Try.func12 rfl trivial ?_ rfl
  simp only [Try.ntmps12, List.size_toArray, List.length_cons, List.length_nil, Nat.reduceAdd, Nat.reduceSub, Array.replicate_succ, Array.replicate_zero, List.push_toArray, List.append_toArray, List.nil_append, List.cons_append]
  have hF : ∀ f, Fence.wide.fn f := fun _ => trivial
  gi_wp2_with fail
  rw [unhide HW2]
  with_reducible refine CallsIn.mono (callsIn_wide.2 (unhide HAW _)) ?_
  rintro e w1 ⟨rfl, hb1⟩
  have HX1 := hide ((unhide HX0).below hb1)
  have HB1 := hide ((unhide HB0).trans (hb1.mono (unhide HB0).size))
  clear hb1
  have d0 := (unhide HX1).cell (j := 0) rfl
  have d1 := (unhide HX1).cell (j := 1) rfl
  gi_wp2_with fail
  with_reducible refine CallsIn.mono (callsIn_wide.2 (unhide HMAY _ (unhide HB1))) ?_
  rintro e w2 ⟨⟨z, rfl⟩, hb2⟩
  have HX2 := hide ((unhide HX1).below hb2)
  have HB2 := hide ((unhide HB1).trans (hb2.mono (unhide HB1).size))
  clear hb2 d0 d1
  cases z
  · gi_wp2_with fail
    with_reducible refine CallsIn.mono (callsIn_wide.2 (unhide HAW _)) ?_
    rintro e w3 ⟨rfl, hb3⟩
    have HB3 := hide ((unhide HB2).trans (hb3.mono (unhide HB2).size))
    clear hb3
    gi_wp2
    exact ⟨_, results_tmp rfl _ _ _, rfl, unhide HB3⟩
  · obtain ⟨ec, w3, hconv, hown3, hb3⟩ := unhide HCV w2
    have hcs := conv_own hown3
    rw [unhide HME] at hcs
    have HX3 := hide ((unhide HX2).below hb3)
    have HB3 := hide ((unhide HB2).trans (hb3.mono (unhide HB2).size))
    clear hown3 hb3
    gi_wp2_with fail
    obtain ⟨Inv, hInv⟩ : ∃ Inv : (Nat → Bool) → Act → World → Prop, Inv = (fun D a' V => ∃ y0 y1 y2 y3 y4 y5 y6 y7 y8 y9 : Value, a' = { tmps := #[.agg #[.int .u8 rest, .slice pa pn pc], .string s, .pointer (some ⟨W.heap.size, 0, none⟩), undef, .bool false, .string md, y8, y9, undef, undef, undef, undef, undef, undef, undef, undef, .bool true, .bool false, .bool false, .agg #[.int .u8 rest, .slice pa pn pc], .bool true, .bool false, .bool false, undef, .string s, .slice (some ⟨w2.heap.size, 0, none⟩) ts.length ec, .string md, y5, y0, y1, y2, y3, y4, y6, y7, undef, undef, undef, undef, undef, undef, undef, undef, undef, undef, undef, undef, undef, undef, undef, undef, undef, undef, undef, undef, undef, undef, undef, undef, undef, undef, undef, undef, undef, undef, undef, undef, undef, undef, undef, undef, undef, undef, undef, undef, undef, undef, undef, undef, undef, undef, undef, undef, undef, undef, undef, undef, undef, undef, undef, undef, undef, undef, undef, undef, undef, undef, undef, undef], defers := [] } ∧ (D 0 = true → y0 = .agg #[.int .u8 rest, .slice pa pn pc]) ∧ (D 1 = true → y1 = .iface 25 (.agg #[.int .u8 rest, .slice pa pn pc])) ∧ (D 2 = true → y2 = .string s) ∧ (D 3 = true → ∃ g c, y3 = .slice (some ⟨g, 0, none⟩) ts.length c ∧ Reads V (some ⟨g, 0, none⟩) ts) ∧ (D 4 = true → ∃ g, y4 = .tuple #[.slice (some ⟨g, 0, none⟩) ts.length ts.length, .int .i64 0] ∧ Blk V g (u8l us) 22) ∧ (D 5 = true → y5 = y4) ∧ (D 6 = true → y4 = .tuple #[y6, .int .i64 0]) ∧ (D 7 = true → y7 = .int .i64 0) ∧ (D 8 = true → y8 = y6) ∧ (D 9 = true → y9 = .int .i64 0) ∧ Below w3.heap.size w3 V) := ⟨_, rfl⟩
    have HInv := hide hInv
    clear hInv
    refine RegInv.region Inv (by kernel_rfl) (by kernel_rfl) (by kernel_rfl) ?h0 ?hs ?he
    case h0 =>
      rw [unhide HInv]
      exact ⟨_, _, _, _, _, _, _, _, _, _, rfl, (fun h => (by cases h)), (fun h => (by cases h)), (fun h => (by cases h)), (fun h => (by cases h)), (fun h => (by cases h)), (fun h => (by cases h)), (fun h => (by cases h)), (fun h => (by cases h)), (fun h => (by cases h)), (fun h => (by cases h)), ⟨rfl, rfl, rfl, Nat.le_refl _, fun _ _ => rfl⟩⟩
    case hs =>
      refine ⟨?o0, ?o1, ?o2, ?o3, ?o4, ?o5, ?o6, ?o7, ?o8, ?o9, trivial⟩
      case o0 =>
        rintro D a' V hn hd hdn hI
        rw [unhide HInv] at hI
        obtain ⟨y0, y1, y2, y3, y4, y5, y6, y7, y8, y9, rfl, c0, c1, c2, c3, c4, c5, c6, c7, c8, c9, hB⟩ := hI
        have hX := (unhide HX3).below hB
        have e0 := hX.cell (j := 0) rfl
        have e1 := hX.cell (j := 1) rfl
        clear hX
        gi_wp2
        show Inv _ _ _
        rw [unhide HInv]
        exact ⟨_, _, _, _, _, _, _, _, _, _, rfl, fun _ => rfl, fun h => c1 (by simpa using h), fun h => c2 (by simpa using h), fun h => c3 (by simpa using h), fun h => c4 (by simpa using h), fun h => c5 (by simpa using h), fun h => c6 (by simpa using h), fun h => c7 (by simpa using h), fun h => c8 (by simpa using h), fun h => c9 (by simpa using h), hB⟩
      case o1 =>
        rintro D a' V hn hd hdn hI
        rw [unhide HInv] at hI
        obtain ⟨y0, y1, y2, y3, y4, y5, y6, y7, y8, y9, rfl, c0, c1, c2, c3, c4, c5, c6, c7, c8, c9, hB⟩ := hI
        obtain rfl := c0 (hd 0 (by decide))
        gi_wp2
        show Inv _ _ _
        rw [unhide HInv]
        exact ⟨_, _, _, _, _, _, _, _, _, _, rfl, fun _ => rfl, fun _ => rfl, fun h => c2 (by simpa using h), fun h => c3 (by simpa using h), fun h => c4 (by simpa using h), fun h => c5 (by simpa using h), fun h => c6 (by simpa using h), fun h => c7 (by simpa using h), fun h => c8 (by simpa using h), fun h => c9 (by simpa using h), hB⟩
      case o2 =>
        rintro D a' V hn hd hdn hI
        rw [unhide HInv] at hI
        obtain ⟨y0, y1, y2, y3, y4, y5, y6, y7, y8, y9, rfl, c0, c1, c2, c3, c4, c5, c6, c7, c8, c9, hB⟩ := hI
        gi_wp2
        show Inv _ _ _
        rw [unhide HInv]
        exact ⟨_, _, _, _, _, _, _, _, _, _, rfl, fun h => c0 (by simpa using h), fun h => c1 (by simpa using h), fun _ => rfl, fun h => c3 (by simpa using h), fun h => c4 (by simpa using h), fun h => c5 (by simpa using h), fun h => c6 (by simpa using h), fun h => c7 (by simpa using h), fun h => c8 (by simpa using h), fun h => c9 (by simpa using h), hB⟩
      case o3 =>
        rintro D a' V hn hd hdn hI
        rw [unhide HInv] at hI
        obtain ⟨y0, y1, y2, y3, y4, y5, y6, y7, y8, y9, rfl, c0, c1, c2, c3, c4, c5, c6, c7, c8, c9, hB⟩ := hI
        obtain rfl := c2 (hd 2 (by decide))
        gi_wp2_with (gi_at_call 21; with_reducible refine CallsIn.mono (callsIn_wide.2 (unhide HRU V)) ?_; rintro e w4 ⟨rc4, rfl, hr4, hb4⟩)
        show Inv _ _ _
        rw [unhide HInv]
        exact ⟨_, _, _, _, _, _, _, _, _, _, rfl, fun h => c0 (by simpa using h), fun h => c1 (by simpa using h), fun _ => rfl, fun _ => ⟨_, _, rfl, reads_own hr4⟩, fun h => (by obtain ⟨g, e, hk⟩ := c4 (by simpa using h); exact ⟨g, e, hk.below hb4⟩), fun h => c5 (by simpa using h), fun h => c6 (by simpa using h), fun h => c7 (by simpa using h), fun h => c8 (by simpa using h), fun h => c9 (by simpa using h), hB.trans (hb4.mono hB.size)⟩
      case o4 =>
        rintro D a' V hn hd hdn hI
        rw [unhide HInv] at hI
        obtain ⟨y0, y1, y2, y3, y4, y5, y6, y7, y8, y9, rfl, c0, c1, c2, c3, c4, c5, c6, c7, c8, c9, hB⟩ := hI
        obtain rfl := c1 (hd 1 (by decide))
        obtain ⟨g3, cc3, rfl, hr3⟩ := c3 (hd 3 (by decide))
        gi_wp2_with (gi_at_call 17; with_reducible refine CallsIn.mono (callsIn_wide.2 (unhide HCL V _ _ ((unhide HB3).trans (hB.mono (unhide HB3).size)) hr3)) ?_; rintro e w4 ⟨rfl, hk4, hb4⟩)
        show Inv _ _ _
        rw [unhide HInv]
        exact ⟨_, _, _, _, _, _, _, _, _, _, rfl, fun h => c0 (by simpa using h), fun _ => rfl, fun h => c2 (by simpa using h), fun _ => ⟨_, _, rfl, hr3.below hb4⟩, fun _ => ⟨_, rfl, hk4⟩, fun h => absurd (hdn 5 _ rfl (by simpa using h) 4 (by decide)) (by rw [hn]; decide), fun h => absurd (hdn 5 _ rfl (hdn 6 _ rfl (by simpa using h) 5 (by decide)) 4 (by decide)) (by rw [hn]; decide), fun h => c7 (by simpa using h), fun h => c8 (by simpa using h), fun h => c9 (by simpa using h), hB.trans (hb4.mono hB.size)⟩
      case o5 =>
        rintro D a' V hn hd hdn hI
        rw [unhide HInv] at hI
        obtain ⟨y0, y1, y2, y3, y4, y5, y6, y7, y8, y9, rfl, c0, c1, c2, c3, c4, c5, c6, c7, c8, c9, hB⟩ := hI
        gi_wp2
        show Inv _ _ _
        rw [unhide HInv]
        exact ⟨_, _, _, _, _, _, _, _, _, _, rfl, fun h => c0 (by simpa using h), fun h => c1 (by simpa using h), fun h => c2 (by simpa using h), fun h => c3 (by simpa using h), fun h => c4 (by simpa using h), fun _ => rfl, fun h => c6 (by simpa using h), fun h => c7 (by simpa using h), fun h => c8 (by simpa using h), fun h => c9 (by simpa using h), hB⟩
      case o6 =>
        rintro D a' V hn hd hdn hI
        rw [unhide HInv] at hI
        obtain ⟨y0, y1, y2, y3, y4, y5, y6, y7, y8, y9, rfl, c0, c1, c2, c3, c4, c5, c6, c7, c8, c9, hB⟩ := hI
        obtain rfl := c5 (hd 5 (by decide))
        obtain ⟨g4, rfl, hk4⟩ := c4 (hdn 5 _ rfl (hd 5 (by decide)) 4 (by decide))
        gi_wp2
        show Inv _ _ _
        rw [unhide HInv]
        exact ⟨_, _, _, _, _, _, _, _, _, _, rfl, fun h => c0 (by simpa using h), fun h => c1 (by simpa using h), fun h => c2 (by simpa using h), fun h => c3 (by simpa using h), fun _ => ⟨_, rfl, hk4⟩, fun _ => rfl, fun _ => rfl, fun h => c7 (by simpa using h), fun h => absurd (hdn 8 _ rfl (by simpa using h) 6 (by decide)) (by rw [hn]; decide), fun h => c9 (by simpa using h), hB⟩
      case o7 =>
        rintro D a' V hn hd hdn hI
        rw [unhide HInv] at hI
        obtain ⟨y0, y1, y2, y3, y4, y5, y6, y7, y8, y9, rfl, c0, c1, c2, c3, c4, c5, c6, c7, c8, c9, hB⟩ := hI
        obtain rfl := c5 (hd 5 (by decide))
        obtain ⟨g4, rfl, hk4⟩ := c4 (hdn 5 _ rfl (hd 5 (by decide)) 4 (by decide))
        gi_wp2
        show Inv _ _ _
        rw [unhide HInv]
        exact ⟨_, _, _, _, _, _, _, _, _, _, rfl, fun h => c0 (by simpa using h), fun h => c1 (by simpa using h), fun h => c2 (by simpa using h), fun h => c3 (by simpa using h), fun _ => ⟨_, rfl, hk4⟩, fun _ => rfl, fun h => c6 (by simpa using h), fun _ => rfl, fun h => c8 (by simpa using h), fun h => c9 (by simpa using h), hB⟩
      case o8 =>
        rintro D a' V hn hd hdn hI
        rw [unhide HInv] at hI
        obtain ⟨y0, y1, y2, y3, y4, y5, y6, y7, y8, y9, rfl, c0, c1, c2, c3, c4, c5, c6, c7, c8, c9, hB⟩ := hI
        gi_wp2
        show Inv _ _ _
        rw [unhide HInv]
        exact ⟨_, _, _, _, _, _, _, _, _, _, rfl, fun h => c0 (by simpa using h), fun h => c1 (by simpa using h), fun h => c2 (by simpa using h), fun h => c3 (by simpa using h), fun h => c4 (by simpa using h), fun h => c5 (by simpa using h), fun h => c6 (by simpa using h), fun h => c7 (by simpa using h), fun _ => rfl, fun h => c9 (by simpa using h), hB⟩
      case o9 =>
        rintro D a' V hn hd hdn hI
        rw [unhide HInv] at hI
        obtain ⟨y0, y1, y2, y3, y4, y5, y6, y7, y8, y9, rfl, c0, c1, c2, c3, c4, c5, c6, c7, c8, c9, hB⟩ := hI
        obtain rfl := c7 (hd 7 (by decide))
        gi_wp2
        show Inv _ _ _
        rw [unhide HInv]
        exact ⟨_, _, _, _, _, _, _, _, _, _, rfl, fun h => c0 (by simpa using h), fun h => c1 (by simpa using h), fun h => c2 (by simpa using h), fun h => c3 (by simpa using h), fun h => c4 (by simpa using h), fun h => c5 (by simpa using h), fun h => c6 (by simpa using h), fun _ => rfl, fun h => c8 (by simpa using h), fun _ => rfl, hB⟩
    case he =>
      intro D a' V4 hall hI
      rw [unhide HInv] at hI
      obtain ⟨y0, y1, y2, y3, y4, y5, y6, y7, y8, y9, rfl, c0, c1, c2, c3, c4, c5, c6, c7, c8, c9, hB⟩ := hI
      obtain rfl := c0 (hall 0 (by decide))
      obtain rfl := c1 (hall 1 (by decide))
      obtain rfl := c2 (hall 2 (by decide))
      obtain ⟨gr4, cr4, rfl, hrr⟩ := c3 (hall 3 (by decide))
      obtain rfl := c5 (hall 5 (by decide))
      obtain ⟨g4, rfl, hk4⟩ := c4 (hall 4 (by decide))
      have e6 := c6 (hall 6 (by decide))
      obtain rfl : y6 = .slice (some ⟨g4, 0, none⟩) ts.length ts.length := by simpa using e6.symm
      obtain rfl := c7 (hall 7 (by decide))
      obtain rfl := c8 (hall 8 (by decide))
      obtain rfl := c9 (hall 9 (by decide))
      have HK4 := hide hk4
      have HC4 := hide hB
      clear c0 c1 c2 c3 c4 c5 c6 c7 c8 c9 hB hk4 hrr e6 HInv
      have HX4 := hide ((unhide HX3).below (unhide HC4))
      have HB4 := hide ((unhide HB3).trans ((unhide HC4).mono (unhide HB3).size))
      gi_wp2_with fail
      obtain ⟨Inv, hInv⟩ : ∃ Inv : (Nat → Bool) → Act → World → Prop, Inv = (fun D a' V => ∃ y0 y1 y2 y3 y4 y5 y6 y7 y8 y9 : Value, a' = { tmps := #[.agg #[.int .u8 rest, .slice pa pn pc], .string s, .pointer (some ⟨W.heap.size, 0, none⟩), undef, .bool false, .string md, .slice (some ⟨g4, 0, none⟩) ts.length ts.length, .int .i64 0, y8, y9, undef, undef, undef, undef, undef, undef, .bool true, .bool false, .bool false, .agg #[.int .u8 rest, .slice pa pn pc], .bool true, .bool false, .bool false, undef, .string s, .slice (some ⟨w2.heap.size, 0, none⟩) ts.length ec, .string md, .tuple #[.slice (some ⟨g4, 0, none⟩) ts.length ts.length, .int .i64 0], .agg #[.int .u8 rest, .slice pa pn pc], .iface 25 (.agg #[.int .u8 rest, .slice pa pn pc]), .string s, .slice (some ⟨gr4, 0, none⟩) ts.length cr4, .tuple #[.slice (some ⟨g4, 0, none⟩) ts.length ts.length, .int .i64 0], .slice (some ⟨g4, 0, none⟩) ts.length ts.length, .int .i64 0, y5, y0, y1, y2, y3, y4, y6, y7, undef, undef, undef, undef, undef, undef, undef, undef, undef, undef, undef, undef, undef, undef, undef, undef, undef, undef, undef, undef, undef, undef, undef, undef, undef, undef, undef, undef, undef, undef, undef, undef, undef, undef, undef, undef, undef, undef, undef, undef, undef, undef, undef, undef, undef, undef, undef, undef, undef, undef, undef, undef, undef, undef, undef, undef], defers := [] } ∧ (D 0 = true → y0 = .agg #[.int .u8 rest, .slice pa pn pc]) ∧ (D 1 = true → y1 = .iface 25 (.agg #[.int .u8 rest, .slice pa pn pc])) ∧ (D 2 = true → y2 = .string md) ∧ (D 3 = true → ∃ g c, y3 = .slice (some ⟨g, 0, none⟩) ts.length c ∧ Reads V (some ⟨g, 0, none⟩) ts) ∧ (D 4 = true → ∃ g, y4 = .tuple #[.slice (some ⟨g, 0, none⟩) ts.length ts.length, .int .i64 0] ∧ Blk V g (u8l us) 22) ∧ (D 5 = true → y5 = y4) ∧ (D 6 = true → y4 = .tuple #[y6, .int .i64 0]) ∧ (D 7 = true → y7 = .int .i64 0) ∧ (D 8 = true → y8 = y6) ∧ (D 9 = true → y9 = .int .i64 0) ∧ Below V4.heap.size V4 V) := ⟨_, rfl⟩
      have HInv := hide hInv
      clear hInv
      refine RegInv.region Inv (by kernel_rfl) (by kernel_rfl) (by kernel_rfl) ?h0 ?hs ?he
      case h0 =>
        rw [unhide HInv]
        exact ⟨_, _, _, _, _, _, _, _, _, _, rfl, (fun h => (by cases h)), (fun h => (by cases h)), (fun h => (by cases h)), (fun h => (by cases h)), (fun h => (by cases h)), (fun h => (by cases h)), (fun h => (by cases h)), (fun h => (by cases h)), (fun h => (by cases h)), (fun h => (by cases h)), ⟨rfl, rfl, rfl, Nat.le_refl _, fun _ _ => rfl⟩⟩
      case hs =>
        refine ⟨?o0, ?o1, ?o2, ?o3, ?o4, ?o5, ?o6, ?o7, ?o8, ?o9, trivial⟩
        case o0 =>
          rintro D a' V hn hd hdn hI
          rw [unhide HInv] at hI
          obtain ⟨y0, y1, y2, y3, y4, y5, y6, y7, y8, y9, rfl, c0, c1, c2, c3, c4, c5, c6, c7, c8, c9, hB⟩ := hI
          have hX := (unhide HX4).below hB
          have e0 := hX.cell (j := 0) rfl
          have e1 := hX.cell (j := 1) rfl
          clear hX
          gi_wp2
          show Inv _ _ _
          rw [unhide HInv]
          exact ⟨_, _, _, _, _, _, _, _, _, _, rfl, fun _ => rfl, fun h => c1 (by simpa using h), fun h => c2 (by simpa using h), fun h => c3 (by simpa using h), fun h => c4 (by simpa using h), fun h => c5 (by simpa using h), fun h => c6 (by simpa using h), fun h => c7 (by simpa using h), fun h => c8 (by simpa using h), fun h => c9 (by simpa using h), hB⟩
        case o1 =>
          rintro D a' V hn hd hdn hI
          rw [unhide HInv] at hI
          obtain ⟨y0, y1, y2, y3, y4, y5, y6, y7, y8, y9, rfl, c0, c1, c2, c3, c4, c5, c6, c7, c8, c9, hB⟩ := hI
          obtain rfl := c0 (hd 0 (by decide))
          gi_wp2
          show Inv _ _ _
          rw [unhide HInv]
          exact ⟨_, _, _, _, _, _, _, _, _, _, rfl, fun _ => rfl, fun _ => rfl, fun h => c2 (by simpa using h), fun h => c3 (by simpa using h), fun h => c4 (by simpa using h), fun h => c5 (by simpa using h), fun h => c6 (by simpa using h), fun h => c7 (by simpa using h), fun h => c8 (by simpa using h), fun h => c9 (by simpa using h), hB⟩
        case o2 =>
          rintro D a' V hn hd hdn hI
          rw [unhide HInv] at hI
          obtain ⟨y0, y1, y2, y3, y4, y5, y6, y7, y8, y9, rfl, c0, c1, c2, c3, c4, c5, c6, c7, c8, c9, hB⟩ := hI
          gi_wp2
          show Inv _ _ _
          rw [unhide HInv]
          exact ⟨_, _, _, _, _, _, _, _, _, _, rfl, fun h => c0 (by simpa using h), fun h => c1 (by simpa using h), fun _ => rfl, fun h => c3 (by simpa using h), fun h => c4 (by simpa using h), fun h => c5 (by simpa using h), fun h => c6 (by simpa using h), fun h => c7 (by simpa using h), fun h => c8 (by simpa using h), fun h => c9 (by simpa using h), hB⟩
        case o3 =>
          rintro D a' V hn hd hdn hI
          rw [unhide HInv] at hI
          obtain ⟨y0, y1, y2, y3, y4, y5, y6, y7, y8, y9, rfl, c0, c1, c2, c3, c4, c5, c6, c7, c8, c9, hB⟩ := hI
          obtain rfl := c2 (hd 2 (by decide))
          gi_wp2_with (gi_at_call 21; with_reducible refine CallsIn.mono (callsIn_wide.2 (unhide HRM V)) ?_; rintro e w4 ⟨rc4, rfl, hr4, hb4⟩)
          show Inv _ _ _
          rw [unhide HInv]
          exact ⟨_, _, _, _, _, _, _, _, _, _, rfl, fun h => c0 (by simpa using h), fun h => c1 (by simpa using h), fun _ => rfl, fun _ => ⟨_, _, rfl, reads_own hr4⟩, fun h => (by obtain ⟨g, e, hk⟩ := c4 (by simpa using h); exact ⟨g, e, hk.below hb4⟩), fun h => c5 (by simpa using h), fun h => c6 (by simpa using h), fun h => c7 (by simpa using h), fun h => c8 (by simpa using h), fun h => c9 (by simpa using h), hB.trans (hb4.mono hB.size)⟩
        case o4 =>
          rintro D a' V hn hd hdn hI
          rw [unhide HInv] at hI
          obtain ⟨y0, y1, y2, y3, y4, y5, y6, y7, y8, y9, rfl, c0, c1, c2, c3, c4, c5, c6, c7, c8, c9, hB⟩ := hI
          obtain rfl := c1 (hd 1 (by decide))
          obtain ⟨g3, cc3, rfl, hr3⟩ := c3 (hd 3 (by decide))
          gi_wp2_with (gi_at_call 17; with_reducible refine CallsIn.mono (callsIn_wide.2 (unhide HCL V _ _ ((unhide HB4).trans (hB.mono (unhide HB4).size)) hr3)) ?_; rintro e w4 ⟨rfl, hk4, hb4⟩)
          show Inv _ _ _
          rw [unhide HInv]
          exact ⟨_, _, _, _, _, _, _, _, _, _, rfl, fun h => c0 (by simpa using h), fun _ => rfl, fun h => c2 (by simpa using h), fun _ => ⟨_, _, rfl, hr3.below hb4⟩, fun _ => ⟨_, rfl, hk4⟩, fun h => absurd (hdn 5 _ rfl (by simpa using h) 4 (by decide)) (by rw [hn]; decide), fun h => absurd (hdn 5 _ rfl (hdn 6 _ rfl (by simpa using h) 5 (by decide)) 4 (by decide)) (by rw [hn]; decide), fun h => c7 (by simpa using h), fun h => c8 (by simpa using h), fun h => c9 (by simpa using h), hB.trans (hb4.mono hB.size)⟩
        case o5 =>
          rintro D a' V hn hd hdn hI
          rw [unhide HInv] at hI
          obtain ⟨y0, y1, y2, y3, y4, y5, y6, y7, y8, y9, rfl, c0, c1, c2, c3, c4, c5, c6, c7, c8, c9, hB⟩ := hI
          gi_wp2
          show Inv _ _ _
          rw [unhide HInv]
          exact ⟨_, _, _, _, _, _, _, _, _, _, rfl, fun h => c0 (by simpa using h), fun h => c1 (by simpa using h), fun h => c2 (by simpa using h), fun h => c3 (by simpa using h), fun h => c4 (by simpa using h), fun _ => rfl, fun h => c6 (by simpa using h), fun h => c7 (by simpa using h), fun h => c8 (by simpa using h), fun h => c9 (by simpa using h), hB⟩
        case o6 =>
          rintro D a' V hn hd hdn hI
          rw [unhide HInv] at hI
          obtain ⟨y0, y1, y2, y3, y4, y5, y6, y7, y8, y9, rfl, c0, c1, c2, c3, c4, c5, c6, c7, c8, c9, hB⟩ := hI
          obtain rfl := c5 (hd 5 (by decide))
          obtain ⟨g4, rfl, hk4⟩ := c4 (hdn 5 _ rfl (hd 5 (by decide)) 4 (by decide))
          gi_wp2
          show Inv _ _ _
          rw [unhide HInv]
          exact ⟨_, _, _, _, _, _, _, _, _, _, rfl, fun h => c0 (by simpa using h), fun h => c1 (by simpa using h), fun h => c2 (by simpa using h), fun h => c3 (by simpa using h), fun _ => ⟨_, rfl, hk4⟩, fun _ => rfl, fun _ => rfl, fun h => c7 (by simpa using h), fun h => absurd (hdn 8 _ rfl (by simpa using h) 6 (by decide)) (by rw [hn]; decide), fun h => c9 (by simpa using h), hB⟩
        case o7 =>
          rintro D a' V hn hd hdn hI
          rw [unhide HInv] at hI
          obtain ⟨y0, y1, y2, y3, y4, y5, y6, y7, y8, y9, rfl, c0, c1, c2, c3, c4, c5, c6, c7, c8, c9, hB⟩ := hI
          obtain rfl := c5 (hd 5 (by decide))
          obtain ⟨g4, rfl, hk4⟩ := c4 (hdn 5 _ rfl (hd 5 (by decide)) 4 (by decide))
          gi_wp2
          show Inv _ _ _
          rw [unhide HInv]
          exact ⟨_, _, _, _, _, _, _, _, _, _, rfl, fun h => c0 (by simpa using h), fun h => c1 (by simpa using h), fun h => c2 (by simpa using h), fun h => c3 (by simpa using h), fun _ => ⟨_, rfl, hk4⟩, fun _ => rfl, fun h => c6 (by simpa using h), fun _ => rfl, fun h => c8 (by simpa using h), fun h => c9 (by simpa using h), hB⟩
        case o8 =>
          rintro D a' V hn hd hdn hI
          rw [unhide HInv] at hI
          obtain ⟨y0, y1, y2, y3, y4, y5, y6, y7, y8, y9, rfl, c0, c1, c2, c3, c4, c5, c6, c7, c8, c9, hB⟩ := hI
          gi_wp2
          show Inv _ _ _
          rw [unhide HInv]
          exact ⟨_, _, _, _, _, _, _, _, _, _, rfl, fun h => c0 (by simpa using h), fun h => c1 (by simpa using h), fun h => c2 (by simpa using h), fun h => c3 (by simpa using h), fun h => c4 (by simpa using h), fun h => c5 (by simpa using h), fun h => c6 (by simpa using h), fun h => c7 (by simpa using h), fun _ => rfl, fun h => c9 (by simpa using h), hB⟩
        case o9 =>
          rintro D a' V hn hd hdn hI
          rw [unhide HInv] at hI
          obtain ⟨y0, y1, y2, y3, y4, y5, y6, y7, y8, y9, rfl, c0, c1, c2, c3, c4, c5, c6, c7, c8, c9, hB⟩ := hI
          obtain rfl := c7 (hd 7 (by decide))
          gi_wp2
          show Inv _ _ _
          rw [unhide HInv]
          exact ⟨_, _, _, _, _, _, _, _, _, _, rfl, fun h => c0 (by simpa using h), fun h => c1 (by simpa using h), fun h => c2 (by simpa using h), fun h => c3 (by simpa using h), fun h => c4 (by simpa using h), fun h => c5 (by simpa using h), fun h => c6 (by simpa using h), fun _ => rfl, fun h => c8 (by simpa using h), fun _ => rfl, hB⟩
      case he =>
        intro D a' V5 hall hI
        rw [unhide HInv] at hI
        obtain ⟨y0, y1, y2, y3, y4, y5, y6, y7, y8, y9, rfl, c0, c1, c2, c3, c4, c5, c6, c7, c8, c9, hB⟩ := hI
        obtain rfl := c0 (hall 0 (by decide))
        obtain rfl := c1 (hall 1 (by decide))
        obtain rfl := c2 (hall 2 (by decide))
        obtain ⟨gr5, cr5, rfl, hrr⟩ := c3 (hall 3 (by decide))
        obtain rfl := c5 (hall 5 (by decide))
        obtain ⟨g5, rfl, hk5⟩ := c4 (hall 4 (by decide))
        have e6 := c6 (hall 6 (by decide))
        obtain rfl : y6 = .slice (some ⟨g5, 0, none⟩) ts.length ts.length := by simpa using e6.symm
        obtain rfl := c7 (hall 7 (by decide))
        obtain rfl := c8 (hall 8 (by decide))
        obtain rfl := c9 (hall 9 (by decide))
        have HK5 := hide hk5
        have HC5 := hide hB
        clear c0 c1 c2 c3 c4 c5 c6 c7 c8 c9 hB hk5 hrr e6 HInv
        have fnil : ∀ (x y : Value) (W : World), (binOp .eql 50 (.func (.func 48) #[] #[x, y]) .nilFunc).run Try.prog W = .ok (.bool false) W := fun _ _ _ => by kernel_rfl
        gi_wp2_with fail
        with_reducible refine CallsIn.mono (callsIn_wide.2 (unhide HSM _ _ _ _ _ ((unhide HK4).below (unhide HC5)).readsB (unhide HK5).readsB)) ?_
        rintro e w6 ⟨rfl, hb6⟩
        have HX5 := hide ((unhide HX4).below (unhide HC5))
        have HB5 := hide ((unhide HB4).trans ((unhide HC5).mono (unhide HB4).size))
        have hX6 := (unhide HX5).below hb6
        have hB6 := (unhide HB5).trans (hb6.mono (unhide HB5).size)
        have hz6 := hX6.lt
        have HX6 := hide hX6
        have HB6 := hide hB6
        clear hb6 HX5 HB5 HK4 HC5 HK5 HB4 HX4 HC4 HB3 HX3 HRU HRM HCL hconv hcs HB2 HX2 HB1 HX1 HX0 HB0 HME HCV hX6 hB6
        obtain ⟨W7, hW7⟩ : ∃ W7, W7 = ((w6.alloc (.cells #[.slice none 0 0] 39)).alloc (.cells #[.slice none 0 0] 39)).alloc (.cells #[.string ⟨#[]⟩] 9) := ⟨_, rfl⟩
        have hb7 : Below w6.heap.size w6 W7 := by rw [hW7]; exact (((Below.refl _ _).alloc (Nat.le_refl _) _).alloc (by simp) _).alloc (by simp; omega) _
        have hz7 : W7.heap.size = w6.heap.size + 3 := by rw [hW7]; simp
        have hX7 := (unhide HX6).below hb7
        have d0 := hX7.cell (j := 0) rfl
        have d1 := hX7.cell (j := 1) rfl
        have kx : W7.heap[w6.heap.size]? = some (.cells #[.slice none 0 0] 39 (0, 0)) := by
          rw [hW7]; exact (Below.heap_alloc _ _ _ (by simp; omega)).trans ((Below.heap_alloc _ _ _ (by simp)).trans (heap_alloc_new w6 _))
        have ky : W7.heap[w6.heap.size + 1]? = some (.cells #[.slice none 0 0] 39 (0, 0)) := by
          rw [hW7]; refine (Below.heap_alloc _ _ _ (by simp)).trans ?_
          have := heap_alloc_new (w6.alloc (.cells #[.slice none 0 0] 39)) (.cells #[.slice none 0 0] 39)
          rw [World.size_alloc] at this; exact this
        have kw : W7.heap[w6.heap.size + 2]? = some (.cells #[.string ⟨#[]⟩] 9 (0, 0)) := by
          rw [hW7]
          have := heap_alloc_new ((w6.alloc (.cells #[.slice none 0 0] 39)).alloc (.cells #[.slice none 0 0] 39)) (.cells #[.string ⟨#[]⟩] 9)
          rw [World.size_alloc, World.size_alloc] at this; exact this
        rw [hW7] at d0 d1
        have HX7 := hide hX7
        have HB7 := hide ((unhide HB6).trans (hb7.mono (unhide HB6).size))
        have HKX := hide (And.intro kx (And.intro ky kw))
        clear hX7 hb7 kx ky kw
        gi_wp2_with fail
        rw [← hW7]
        with_reducible refine CallsIn.mono (callsIn_wide.2 (each_any _ _ s W7)) ?_
        rintro e w8 ⟨rfl, hw8⟩
        have hb8 : Below W7.heap.size W7 w8 := by rw [hw8]; exact ((Below.refl _ _).alloc (Nat.le_refl _) _).alloc (by simp) _
        have hz8 : w8.heap.size = W7.heap.size + 2 := by rw [hw8]; simp
        have hX8 := (unhide HX7).below hb8
        clear d0 d1 hw8 hW7
        have d0 := hX8.cell (j := 0) rfl
        have d1 := hX8.cell (j := 1) rfl
        have HX8 := hide hX8
        have HB8 := hide hb8
        have HZ8 := hide (And.intro hz7 hz8)
        clear hX8 hb8 hz7 hz8
        gi_wp2_with fail
        with_reducible refine CallsIn.mono (callsIn_wide.2 (each_any _ _ s w8)) ?_
        rintro e w9 ⟨rfl, hw9⟩
        have hb9 : Below w8.heap.size w8 w9 := by rw [hw9]; exact ((Below.refl _ _).alloc (Nat.le_refl _) _).alloc (by simp) _
        have hz9 : w9.heap.size = w8.heap.size + 2 := by rw [hw9]; simp
        have p1 : w9.heap[w8.heap.size]? = some (.cells #[.iface 25 (.agg #[.int .u8 rest, .slice pa pn pc])] 84 (0, 0)) := by
          rw [hw9]; exact (Below.heap_alloc _ _ _ (by simp)).trans (heap_alloc_new w8 _)
        have p2 : w9.heap[w8.heap.size + 1]? = some (.cells #[.string s] 9 (0, 0)) := by
          rw [hw9]
          have := heap_alloc_new (w8.alloc (.cells #[.iface 25 (.agg #[.int .u8 rest, .slice pa pn pc])] 84)) (.cells #[.string s] 9)
          rw [World.size_alloc] at this; exact this
        have hb79 : Below W7.heap.size W7 w9 := (unhide HB8).trans (hb9.mono (unhide HB8).size)
        have hB9 : Below W.heap.size W w9 := (unhide HB7).trans (hb79.mono (unhide HB7).size)
        have HX9 := hide ((unhide HX7).below hb79)
        obtain ⟨kx, ky, kw⟩ := unhide HKX
        obtain ⟨hz7, hz8⟩ := unhide HZ8
        have kx9 := (hb79.block _ (by omega)).trans kx
        have ky9 := (hb79.block _ (by omega)).trans ky
        have kw9 := (hb79.block _ (by omega)).trans kw
        have hI0 : ∀ m, IB1 W w9 s w6.heap.size (w6.heap.size + 2) (w9.heap.size + 2 + m) [] w9 := fun m =>
          ⟨⟨_, kx9, World.ownsRow_nil _ _ _ _⟩, by rw [kw9]; simp [lastE, start_zero]; rfl, fun k o _ _ _ _ h => h, hB9, Nat.le_refl _⟩
        have hG := unhide HNO
        have HZ9 := hide (And.intro hz7 (And.intro hz8 hz9))
        have HY9 := hide ky9
        have HB9 := hide hB9
        obtain ⟨i0, hi0, hz0, hz1, hz2⟩ := info_parts infoPiece
        clear d0 d1 hw9 hz7 hz8 hz9 kx ky kw kx9 ky9 kw9 hb79 HB7 HKX HX7 HB8 HX8 HX6 HB6
        gi_wp2_with fail
        refine range6B (by omega) (gf := 48) (lb := #[.pointer (some ⟨w8.heap.size, 0, none⟩), .pointer (some ⟨w8.heap.size + 1, 0, none⟩)]) rfl (enters_of Try.func48 (by kernel_rfl) rfl)
          (hG _ (by omega) w9 hB9 _ _ p1 p2) (Below.refl _ _) (fun _ => rfl)
          (fun m => IB1 W w9 s w6.heap.size (w6.heap.size + 2) (w9.heap.size + 2 + m)) (fun _ _ _ => False) (fun m => own_IB1 _ _ _ _ _ _ hB9.size) (fun c _ _ _ _ h _ _ => h) hI0
          (fun x => .cells #[.int .i64 (x.1 : Nat), .int .i64 (x.2 : Nat)] 46 (0, 0)) (fun _ => rfl) ?fr ?assign ?body ?done ?stop
        case assign =>
          intro l2 x V K hK
          dsimp only [eaE, pcV]
          gi_wp2
          generalize hBx : V.heap.size = Bx
          exact hK Bx hBx.symm
        case stop =>
          rintro D c pre V hD hSp h hK
          exact h.elim
        case body =>
          rintro m l2 pre x Bx V hl hsz2 ⟨r, hr⟩ ⟨⟨vs, h1, h2⟩, h3, h4, h8, h9⟩ hx1 hx2 hSp
          obtain ⟨f1, f2, f3⟩ := first_is _ _ _ _ hSp
          obtain ⟨hut, hct⟩ := unhide HUT
          have hpl : pre.length + 1 ≤ 1099511627776 := by have := hSp.length_le; have := splitL_len ts us; simp only [List.length_append, List.length_cons, List.length_nil] at *; omega
          have hst := whole_step s x.1 x.2 (by omega) (by omega)
          rw [f1] at hst
          obtain ⟨x1, x2⟩ := x
          simp only at f1 f2 f3 hst
          have bX : Blk V Bx [.int .i64 (x1 : Nat), .int .i64 (x2 : Nat)] 46 := hx1
          have y1 := bX.cell (j := 0) rfl
          have y2 := bX.cell (j := 1) rfl
          obtain ⟨sa, sn, sc, rfl⟩ : ∃ a n c, vs = .slice a n c := by
            obtain ⟨a, c, e⟩ := row_is h2
            exact ⟨_, _, _, e⟩
          have cF : V.cell? ⟨w6.heap.size, 0, none⟩ = some (.slice sa sn sc) := by simp [World.cell?, h1]
          have hz : w6.heap.size + 7 ≤ w9.heap.size := by obtain ⟨h7, h8, h9⟩ := unhide HZ9; omega
          have H8 := hide (And.intro h4 (And.intro h8 h9))
          have HST := hide hst
          have F1 := hide f1
          clear h4 h8 hSp hst
          generalize s.extract 0 (startN s (lastE pre)) = S at *
          subst f1
          generalize s.extract (startN s (lastE pre)) (startN s x2) = T at *
          have hcs : S.size + T.size ≤ 1048576 := by
            have := congrArg ByteArray.size (unhide HST)
            rw [ByteArray.size_append, ByteArray.size_extract] at this
            omega
          have hcs2 : S.size + T.size ≤ maxLen := by unfold maxLen; omega
          have hcs3 : ¬ maxLen < S.size + T.size := by omega
          gi_wp2_with (gi_at_builtin; refine wpListIn_append_own _ rfl _ _ 39 rfl (w9.heap.size + 2 + m) 46 i0 (.agg #[.int .i64 0, .int .i64 0]) 2 16 Try.underlying39 hi0 hz0 hz1 hz2 rfl (by decide) _ _ _ rfl (h2.alloc _) ⟨V.heap.size, 0, none⟩ 1 1 [.int .i64 ((lastE pre : Nat) : Int), .int .i64 (x2 : Nat)] rfl rfl (cells_new _ _ _) (by simp [Value.oneCell']) (by unfold maxLen; omega) (by omega) (by simp; omega) ?_; intro v' w7' hown' hgrow _; obtain ⟨g', cap', rfl⟩ := ownsRow_succ hown'; obtain ⟨q5, hbx', hrow', ko, hs', hkeep, hos⟩ := box_put h1 h2 (by omega) hown' hgrow; have c5 : w7'.cell? ⟨w6.heap.size, 0, none⟩ = some (.slice sa sn sc) := (by simp [World.cell?, q5]); have f5 : w7'.frozen? ⟨w6.heap.size, 0, none⟩ = false := (by simp [World.frozen?, q5]); have hw5 : Blk (w7'.setCell ⟨w6.heap.size, 0, none⟩ (.slice (some ⟨g', 0, none⟩) (pre.length + 1) cap')) (w6.heap.size + 2) [.string S] 9 := (hkeep _ (by omega) (by omega) (by omega)).trans h3; have cw5 := hw5.cell (j := 0) rfl; have fw5 := hw5.frozen 0)
          rw [unhide HST]
          obtain ⟨h4, h8, h9'⟩ := unhide H8
          have hw6 := hw5.set 0 (.string (s.extract 0 (startN s x2))) (l' := [.string (s.extract 0 (startN s x2))]) rfl
          have hlr := hrow'.lt
          refine ⟨(ko.trans (KeepsOthers.setCell _ _ _)).from _, ⟨(ko.trans (KeepsOthers.setCell _ _ _)).walks, fun k ob hk hc hx => ?_⟩, ⟨_, (Below.heap_setCell _ _ _ _ (by show w6.heap.size ≠ w6.heap.size + 2; omega)).trans hbx', ?_⟩, ?_, fun k ob k1 k2 k3 k4 k5 => ?_, ?_, ?_⟩
          · rcases hk with hk | hk
            · exact (Below.heap_setCell _ _ _ _ (by show k ≠ w6.heap.size + 2; omega)).trans ((hkeep k (by omega) (by omega) (by omega)).trans hx)
            · exact hk.elim
          · rw [pcsC_app, List.length_append]
            exact row_other (c := w6.heap.size + 1 + 1) hrow' (by omega) 0 (.string (s.extract 0 (startN s x2)))
          · rw [lastE_snoc]; exact hw6
          · exact (Below.heap_setCell _ _ _ _ k3).trans ((hkeep k (by omega) k2 (by omega)).trans (h4 k ob k1 k2 k3 k4 k5))
          · refine Below.setCell ?_ (by show _ ≤ w6.heap.size + 2; omega) _
            exact ⟨hos.1.trans h8.os, hos.2.1.trans h8.tape, hos.2.2.trans h8.output, Nat.le_trans h8.size (by omega), fun k hk => (hkeep k (by omega) (by omega) (by omega)).trans (h8.block k hk)⟩
          · simp only [World.setCell] at hs' ⊢; simp at hs' ⊢; omega
        case done =>
          rintro D m xs V hD hS ⟨⟨vs, h1, h2⟩, h3, h4, h8, h9⟩ hK
          subst hS
          obtain ⟨hut, hct⟩ := unhide HUT
          obtain ⟨hz7, hz8, hz9⟩ := unhide HZ9
          have hXV := h4 _ _ (by have := hB9.size; omega) (by omega) (by omega) rfl (unhide HX9)
          have hYV := h4 _ _ (by omega) (by omega) (by omega) rfl (unhide HY9)
          have hXV' : Blk V W.heap.size [.int .u8 rest, .slice pa pn pc] 25 := hXV
          have d0 := hXV'.cell (j := 0) rfl
          have d1 := hXV'.cell (j := 1) rfl
          have hend : s.extract 0 (startN s (lastE (splitL ts us))) = s := by rw [last_is, hut, ← hct]; exact whole_end s
          rw [hend] at h3
          have hlt := h2.lt
          obtain ⟨xa, xc, rfl⟩ := row_is h2
          have H1 := hide (And.intro h1 (And.intro h2 (And.intro h3 (And.intro hYV (And.intro h8 (And.intro h9 hlt))))))
          have HXV := hide hXV'
          have HKD := hide hK
          clear h1 h2 h3 h4 h8 h9 hK hXV hYV hXV' hlt hend
          gi_wp2_with fail
          with_reducible refine CallsIn.mono (callsIn_wide.2 (each_any _ _ md V)) ?_
          rintro e u8 ⟨rfl, hw8⟩
          have hb8 : Below V.heap.size V u8 := by rw [hw8]; exact ((Below.refl _ _).alloc (Nat.le_refl _) _).alloc (by simp) _
          have hX8 := (unhide HXV).below hb8
          clear d0 d1 hw8
          have d0 := hX8.cell (j := 0) rfl
          have d1 := hX8.cell (j := 1) rfl
          have HB8 := hide hb8
          clear hX8 hb8
          gi_wp2_with fail
          with_reducible refine CallsIn.mono (callsIn_wide.2 (each_any _ _ md u8)) ?_
          rintro e u9 ⟨rfl, hw9⟩
          have hb9 : Below u8.heap.size u8 u9 := by rw [hw9]; exact ((Below.refl _ _).alloc (Nat.le_refl _) _).alloc (by simp) _
          have p1 : u9.heap[u8.heap.size]? = some (.cells #[.iface 25 (.agg #[.int .u8 rest, .slice pa pn pc])] 84 (0, 0)) := by
            rw [hw9]; exact (Below.heap_alloc _ _ _ (by simp)).trans (heap_alloc_new u8 _)
          have p2 : u9.heap[u8.heap.size + 1]? = some (.cells #[.string md] 9 (0, 0)) := by
            rw [hw9]
            have := heap_alloc_new (u8.alloc (.cells #[.iface 25 (.agg #[.int .u8 rest, .slice pa pn pc])] 84)) (.cells #[.string md] 9)
            rw [World.size_alloc] at this; exact this
          obtain ⟨h1, h2, h3, hYV, h8, h9, hlt⟩ := unhide H1
          have hbV9 : Below V.heap.size V u9 := (unhide HB8).trans (hb9.mono (unhide HB8).size)
          have hU9 : Below W.heap.size W u9 := h8.trans (hbV9.mono h8.size)
          have hz9' := hbV9.size
          have hDV := (Array.getElem?_eq_some_iff.1 (unhide HKD)).1
          have hI2 : ∀ m, IB2 W u9 D (w6.heap.size + 1) (u9.heap.size + 2 + m) [] u9 := fun m =>
            ⟨⟨_, (hbV9.block _ (by omega)).trans hYV, World.ownsRow_nil _ _ _ _⟩, fun k o _ _ _ h => h, hU9, Nat.le_refl _, (hbV9.block _ hDV).trans (unhide HKD)⟩
          have k1 := (hbV9.block _ (by omega)).trans h1
          have k2 := rowBelow h2 hbV9
          have k3 := (hbV9.block _ (by omega)).trans h3
          have k0 := (hbV9.block _ (by omega)).trans hYV
          have HK1 := hide (And.intro k1 (And.intro k2 (And.intro k3 k0)))
          have hG2 := unhide HNM
          clear d0 d1 hw9 h1 h2 h3 hYV h8 h9 hlt hbV9 HB8 hb9 k0 k1 k2 k3
          gi_wp2_with fail
          refine range6B (by omega) (gf := 48) (lb := #[.pointer (some ⟨u8.heap.size, 0, none⟩), .pointer (some ⟨u8.heap.size + 1, 0, none⟩)]) rfl (enters_of Try.func48 (by kernel_rfl) rfl)
            (hG2 _ (by omega) u9 hU9 _ _ p1 p2) (Below.refl _ _) (fun _ => rfl)
            (fun m => IB2 W u9 D (w6.heap.size + 1) (u9.heap.size + 2 + m)) (fun _ _ _ => False) (fun m => own_IB2 _ _ _ _ _ hU9.size (by omega)) (fun c _ _ _ _ h _ _ => h) hI2
            (fun x => .cells #[.int .i64 (x.1 : Nat), .int .i64 (x.2 : Nat)] 46 (0, 0)) (fun _ => rfl) ?fr2 ?assign2 ?body2 ?done2 ?stop2
          case assign2 =>
            intro l2 x V K hK
            dsimp only [eaE, pcV]
            gi_wp2
            generalize hBx : V.heap.size = Bx
            exact hK Bx hBx.symm
          case stop2 =>
            rintro D c pre V hD hSp h hK
            exact h.elim
          case body2 =>
            rintro m l2 pre x Bx V2 hl hsz2 ⟨r, hr⟩ ⟨⟨vs, h1, h2⟩, h4, h8, h9, h10⟩ hx1 hx2 hSp
            have hpl : pre.length + 1 ≤ 1099511627776 := by have := hSp.length_le; have := splitL_len ts us; simp only [List.length_append, List.length_cons, List.length_nil] at *; omega
            obtain ⟨x1, x2⟩ := x
            have bX : Blk V2 Bx [.int .i64 (x1 : Nat), .int .i64 (x2 : Nat)] 46 := hx1
            have y1 := bX.cell (j := 0) rfl
            have y2 := bX.cell (j := 1) rfl
            obtain ⟨sa, sn, sc, rfl⟩ : ∃ a n c, vs = .slice a n c := by
              obtain ⟨a, c, e⟩ := row_is h2
              exact ⟨_, _, _, e⟩
            have cF : V2.cell? ⟨w6.heap.size + 1, 0, none⟩ = some (.slice sa sn sc) := by simp [World.cell?, h1]
            have H8 := hide (And.intro h4 (And.intro h8 (And.intro h9 h10)))
            clear h4 h8 h10 hSp
            gi_wp2_with (gi_at_builtin; refine wpListIn_append_own _ rfl _ _ 39 rfl (u9.heap.size + 2 + m) 46 i0 (.agg #[.int .i64 0, .int .i64 0]) 2 16 Try.underlying39 hi0 hz0 hz1 hz2 rfl (by decide) _ _ _ rfl (h2.alloc _) ⟨V2.heap.size, 0, none⟩ 1 1 [.int .i64 (x1 : Nat), .int .i64 (x2 : Nat)] rfl rfl (cells_new _ _ _) (by simp [Value.oneCell']) (by unfold maxLen; omega) (by omega) (by simp; omega) ?_; intro v' w7' hown' hgrow _; obtain ⟨g', cap', rfl⟩ := ownsRow_succ hown'; obtain ⟨q5, hbx', hrow', ko, hs', hkeep, hos⟩ := box_put h1 h2 (by omega) hown' hgrow; have c5 : w7'.cell? ⟨w6.heap.size + 1, 0, none⟩ = some (.slice sa sn sc) := (by simp [World.cell?, q5]); have f5 : w7'.frozen? ⟨w6.heap.size + 1, 0, none⟩ = false := (by simp [World.frozen?, q5]))
            obtain ⟨h4, h8, h9', h10⟩ := unhide H8
            refine ⟨ko.from _, ⟨ko.walks, fun k ob hk hc hx => ?_⟩, ⟨_, hbx', ?_⟩, fun k ob k1 k2 k4 k5 => ?_, ?_, by omega, ?_⟩
            · rcases hk with hk | hk
              · exact (hkeep k (by omega) (by omega) (by omega)).trans hx
              · exact hk.elim
            · rw [pcsC_app, List.length_append]
              exact hrow'
            · exact (hkeep k (by omega) k2 (by omega)).trans (h4 k ob k1 k2 k4 k5)
            · exact ⟨hos.1.trans h8.os, hos.2.1.trans h8.tape, hos.2.2.trans h8.output, Nat.le_trans h8.size (by omega), fun k hk => (hkeep k (by omega) (by omega) (by omega)).trans (h8.block k hk)⟩
            · exact (hkeep D (by omega) (fun e => by subst e; rw [h1] at h10; cases h10) (by omega)).trans h10
          case done2 =>
            rintro D2 m2 xs V2 hD2 hS2 ⟨⟨vs, h1, h2⟩, h4, h8, h9, h10⟩ hK2
            subst hS2
            obtain ⟨k1, k2, k3, k0⟩ := unhide HK1
            have hu9 : w9.heap.size ≤ u9.heap.size := by omega
            have hxb := h4 _ _ (by omega) (by omega) rfl k1
            have hwb := h4 _ _ (by omega) (by omega) rfl k3
            have hxr := row_keptB k2 (W' := V2) (fun g cur hh _ ho => (h4 g _ (Array.getElem?_eq_some_iff.1 hh).1 (fun e => by
              subst e; rw [k0] at hh
              have := Option.some.inj hh
              injection this with _ e2 _
              exact absurd e2 (by decide)) rfl hh).trans hh.symm)
            obtain ⟨ya, yc, rfl⟩ := row_is h2
            have c1 : V2.cell? ⟨w6.heap.size, 0, none⟩ = some (.slice xa (splitL ts us).length xc) := by simp [World.cell?, hxb]
            have c2 : V2.cell? ⟨w6.heap.size + 1, 0, none⟩ = some (.slice ya (splitL ts us).length yc) := by simp [World.cell?, h1]
            have hlen : (splitL ts us).length ≤ 1099511627776 := by have := splitL_len ts us; omega
            have HSP := hide (samePieces_yes (splitL ts us) xa ya (splitL ts us).length xc yc V2 rfl hlen (row_readsP hxr) (row_readsP h2))
            have HWB := hide hwb
            have H8 := hide h8
            have HD2 := hide (And.intro hK2 (And.intro h10 h9))
            clear h1 h2 h4 h8 h10 hK2 k0 k1 k2 k3 hxb hwb hxr HK1 H1
            gi_wp2_with fail
            with_reducible refine CallsIn.mono (callsIn_wide.2 (unhide HSP)) ?_
            rintro e v3 ⟨rfl, hb3⟩
            have cw : v3.cell? ⟨w6.heap.size + 2, 0, none⟩ = some (.string s) := by
              have := (hb3.block _ (Array.getElem?_eq_some_iff.1 (unhide HWB)).1).trans (unhide HWB)
              simp [World.cell?, this]
            have HB3 := hide ((unhide H8).trans (hb3.mono (unhide H8).size))
            have HE3 := hide hb3
            clear hb3
            have e2 : (s.toList == s.toList) = true := by exact beq_self_eq_true _
            gi_wp2_with fail
            with_reducible refine CallsIn.mono (callsIn_wide.2 (unhide HAW _)) ?_
            rintro e v4 ⟨rfl, hb4⟩
            have hB4 := (unhide HB3).trans (hb4.mono (unhide HB3).size)
            have hE4 := (unhide HE3).trans (hb4.mono (unhide HE3).size)
            obtain ⟨g1, g2, g3⟩ := unhide HD2
            have hD2l := (Array.getElem?_eq_some_iff.1 g1).1
            have hDl := (Array.getElem?_eq_some_iff.1 g2).1
            have q1 := (hE4.block _ hD2l).trans g1
            have q2 := (hE4.block _ hDl).trans g2
            have HQ := hide (And.intro hB4 (And.intro q1 q2))
            clear hB4 hE4 g1 g2 g3 hb4 q1 q2
            gi_wp2
            obtain ⟨hB4, q1, q2⟩ := unhide HQ
            have hws := hB9.size
            refine ⟨by simp, .inl ⟨_, _, rfl, run_takeDeferred q1, ?_⟩⟩
            refine ⟨by simp, .inl ⟨_, _, rfl, run_takeDeferred ((World.putObj_heap_other (by omega)).trans q2), ?_⟩⟩
            exact ⟨_, results_tmp rfl _ _ _, rfl, below_put (below_put hB4 (by omega) _) (by omega) _⟩

theorem own : ownKnob Try.prog.godebug = none := by kernel_rfl
theorem laidOut : laidOutB Try.prog = true := by kernel_rfl

set_option maxRecDepth 100000 in
theorem contract (H : Type) (enc : TypeId × Value → H) (W : World) (base : Nat) (args : Array Value) (ds gs : List (DataW H)) (before : List MemPlace)
    (hval : ∀ (j : Nat) t v, Try.f12.params[j]? = some t → args[j]? = some v → Value.okWide Try.prog W .any base t v)
    (hW : DataW.Whole enc Try.prog Try.f12.params.toList Rows.parasBytesSpec.vars false W args.toList ds gs before) (hk : Rows.uptoSmall H (ds ++ gs) = true) :
    Calls Try.prog 12 args W fun e W' => ∃ v, e = .returned v ∧ Rows.parasBytesSpec.post enc Try.prog Try.f12 false true false false W args v W' := by
  have hW' := hW
  obtain ⟨p, q, hA0, hV, rfl, hfz, hnd⟩ := hW
  have hA : DataW.TrodAll enc Try.prog W 0 (fun _ => true) true Try.f12.params.toList args.toList ds p := hA0
  rw [Try.params12] at hA hval
  obtain ⟨v0, vs0, d0, ds0, p0, q0, hargs, rfl, rfl, h0, r0⟩ := trodAll_cons hA
  obtain ⟨v1, vs1, d1, ds1, p1, q1, rfl, rfl, rfl, h1, r1⟩ := trodAll_cons r0
  obtain ⟨rfl, rfl, rfl⟩ := trodAll_nil r1
  obtain rfl : args = #[v0, v1] := by cases args; simp_all
  obtain ⟨rfl, rfl⟩ := trodVars_none hV
  obtain ⟨a1, rfl, rfl, rfl, w1⟩ := open_string Try.underlying9 (hval 1 9 v1 rfl rfl) h1
  have hk' : Rows.uptoSmall H [d0, .lit (.string a1.data.toList)] = true := hk
  have hb := bulk_bound hk'
  simp only [Rows.uptoBulkAll] at hb
  have k0 := h0
  have lt0 : ∀ x ∈ p0, x.block < W.heap.size := by obtain ⟨m, hm⟩ := k0; exact DataW.trod_lt m _ _ _ hm
  obtain ⟨rest0, a0, n0, c0, l0, rfl, hl0, hn0, hp0⟩ := open_props (hval 0 25 v0 rfl rfl) h0 (by omega)
  rw [bulk_string a1] at hb
  have c1 : a1.size ≤ 1048576 := by omega
  clear hA0
  have hwk := walk rest0 a0 n0 c0 l0 a1 W hl0 hn0 hp0 c1
  refine hwk.mono fun e W' ⟨he, bel⟩ => ?_
  subst he
  exact ⟨_, rfl, _, _, _, [], _, [], hW', trodAll_mk1 (shut_bool Try.underlying4 _), (trodAll_cons_mk (Below.trod laidOut (by kernel_rfl) (of_decide_eq_true (by kernel_rfl)) k0 bel lt0) (trodAll_cons_mk (shut_string Try.underlying9 w1) trodAll_mk0)), rfl, bel.frame _, fun h => by cases h⟩

set_option maxRecDepth 100000 in
theorem lifted (os : Os) (started : os.Started) (H : Type) (enc : TypeId × Value → H) (F : Stop.Interp) :
    ReturnsInHanded {} Try.checked os 12 .any ((Rows.OpenSpec.upto Rows.parasBytesSpec).pre6 enc Try.prog Try.f12 Rows.parasBytesUptoRow.domain false) (((Rows.OpenSpec.upto Rows.parasBytesSpec).at F).post enc Try.prog Try.f12 false true false false) := by
  refine returnsInHanded_of_cond (C := Try.checked) (s := Rows.OpenSpec.upto Rows.parasBytesSpec) (k := Rows.uptoSmall) rfl own started (by kernel_rfl) Try.func12
    (OpenSpec.witness (enc := enc) (C := Try.checked) (s := Rows.OpenSpec.upto Rows.parasBytesSpec) (k := Rows.uptoSmall) rfl false ⟨#[], #[.agg #[.int .u8 0, .slice none 0 0], .string ByteArray.empty], []⟩ 8 (by kernel_rfl) (by kernel_rfl) (by kernel_rfl)
      (x := ([.agg [.lit (.int .u8 0), .nil], .lit (.string [])], [], [])) (by kernel_rfl) rfl (by kernel_rfl)) ?_
  intro W base args ds gs before hval hW _ hk _
  exact contract H enc W base args ds gs before hval hW hk

theorem over : Rows.parasBytesUptoRow.holds Try.pinned (Rows.OpenSpec.upto Rows.parasBytesSpec) :=
  OpenClaim.holds_of_cond 12 Try.f12 rfl rfl rfl rfl rfl rfl rfl ⟨rfl, rfl, rfl, rfl, rfl⟩ rfl rfl rfl rfl rfl (by kernel_rfl) Try.func12 (by kernel_rfl)
    (of_decide_eq_true (by kernel_rfl)) (by unfold Func.isWrapper; first | (rw [if_pos (by decide +kernel)]; kernel_rfl) | (rw [if_neg (by decide +kernel)]; exact ⟨rfl, rfl⟩))
    (fun os started H enc _ F => lifted os started H enc F)

end Go.Proofs.Ytkckkchnmgidgaa.parasBytes
namespace Go.Proofs.Ytkckkchnmgidgaa
theorem parasBytes_upto : Rows.ParasBytesUptoSaid := parasBytes.over
end Go.Proofs.Ytkckkchnmgidgaa


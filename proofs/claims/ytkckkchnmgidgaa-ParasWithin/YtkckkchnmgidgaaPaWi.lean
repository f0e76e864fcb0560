/-
  ParasWithin: what stands in an isolate changes nothing of the level. The condition: the arguments hold together at most 1048576 values (a bulk of at most 1048576).
-/
import Derived.Test.YtkckkchnmgidgaaBulk
import Derived.Test.YtkckkchnmgidgaaPaAw
import Derived.ProofKit
import Derived.OpenShut
import Derived.ShutString
import Derived.ChangeOld
namespace Go.Proofs.Ytkckkchnmgidgaa.parasWithin
open Go.ChangeShapes Go.WideShapes Go.ChangeAt Go.RowKit Go.PlainAid Go.Lib Go.ChangeMaps
set_option linter.unusedVariables false

/-- classes that are put behind a list of the law's own -/
theorem wpList_appB {ops : Array Oper} {rest : List Oper} {o : Oper} {a : Act} {Q : Exit → Act → World → Prop} {w : World} (hgd : o.guard = none) (s x : Operand)
    (ho : o.op = .call { callee := .builtin .append, args := #[s, x], argTypes := #[29, 29] }) (B : Nat) (v : Value) (n : Nat) (xs : List Int) (hs : a.eval s = v)
    (hown : w.ownsRow B 22 1 v n (u8l xs)) (aa : Option Addr) (m c : Nat) (us : List Int) (hm : us.length = m) (hx : a.eval x = .slice aa m c) (hr : ReadsB w aa us) (hn : n + m ≤ 35184372088832) (hb : B ≤ w.heap.size)
    (h : ∀ v' w', w'.ownsRow B 22 1 v' (n + m) (u8l (xs ++ us)) → w.grownBy w' v.ownBlock → wpList Try.prog ops Q rest (a.put o.dst v') w') : wpList Try.prog ops Q (o :: rest) a w := by
  subst hm
  obtain ⟨v', w', h1, h2, h3, _⟩ := appB w B v n xs us aa c hown hr hn hb
  exact wpList_append_run w hgd s x 29 ho v _ hs hx v' w' h1 (h v' w' h2 h3)
theorem one_reads (w : World) (u : Int) (B : Nat) (hB : w.heap.size = B) : ReadsB (w.alloc (.cells #[.int .u8 u] 22)) (some ⟨B, 0, none⟩) [u] := by
  subst hB
  have h : Blk (w.alloc (.cells #[.int .u8 u] 22)) w.heap.size (u8l [u]) 22 := Blk.new w [.int .u8 u] 22
  exact h.readsB
set_option maxRecDepth 100000 in
set_option maxHeartbeats 1000000 in
theorem within_any (a : Option Addr) (n c : Nat) (cs : List Int) (w : World) (hl : cs.length = n) (h : ReadsB w a cs) (hn : n ≤ 1099511627776) :
    Calls Try.prog 36 #[.slice a n c] w fun e w' => e = .returned (.bool (withinF 0 cs)) ∧ w' = w := by
  have HA := hide h
  have HLEN := hide hl
  obtain ⟨R, hR⟩ : ∃ R, withinF 0 cs = R := ⟨_, rfl⟩
  rw [hR]
  have HR := hide hR
  clear h hl hR
  go_enter Try.func36, Try.ntmps36
  go_wp2
  go_loopw [3, 4] (fun v3 v4 wr => ∃ k o : Nat, k ≤ n ∧ o ≤ k ∧ v4 = .int .i64 k ∧ v3 = .int .i64 o ∧ wr = w ∧ Hid (withinF o (cs.drop k) = R)) (fun _ v4 _ => n - (intOf v4).toNat)
  case atStart => exact ⟨0, 0, Nat.zero_le _, Nat.le_refl _, rfl, rfl, rfl, by show _ = _; rw [List.drop_zero]; exact unhide HR⟩
  case round =>
    obtain ⟨k, o, hk, ho, rfl, rfl, rfl, HK⟩ := hrel
    by_cases hlt : k < n
    · obtain ⟨b, off, rfl, c1⟩ := unhide HA k (by rw [unhide HLEN]; exact hlt)
      have hst := unhide HK
      rw [drop_cons cs k (by rw [unhide HLEN]; exact hlt), withinF] at hst
      generalize cA cs k = x at *
      by_cases h11 : x = 11
      · subst h11
        rw [if_pos rfl] at hst
        have HR2 := hide hst
        clear hst HK
        go_wp2
        go_ret
        exact ⟨by rw [← unhide HR2]; rfl, rfl⟩
      · rw [if_neg h11] at hst
        by_cases hb : begC x = true
        · rw [if_pos hb] at hst
          have HK2 := hide hst
          clear hst HK
          go_wp2_with (go_at_call 35; refine (rBegins_any _ _).mono ?_; rintro e w' ⟨rfl, rfl⟩; rw [hb])
          go_roundw
          case rel => exact ⟨k + 1, o + 1, by omega, by omega, by go_num, by go_num, trivial, HK2⟩
          case measure => simp [intOf]; omega
        · rw [if_neg hb] at hst
          have hb' : begC x = false := by simpa using hb
          by_cases h23 : x = 23
          · rw [if_pos h23] at hst
            subst h23
            by_cases ho0 : o = 0
            · rw [if_pos ho0] at hst
              subst ho0
              have HR2 := hide hst
              clear hst HK
              go_wp2_with (go_at_call 35; refine (rBegins_any _ _).mono ?_; rintro e w' ⟨rfl, rfl⟩; rw [hb'])
              go_ret
              exact ⟨by rw [← unhide HR2]; rfl, rfl⟩
            · rw [if_neg ho0] at hst
              obtain ⟨o', rfl⟩ : ∃ o', o = o' + 1 := ⟨o - 1, by omega⟩
              have HK2 := hide hst
              clear hst HK
              go_wp2_with (go_at_call 35; refine (rBegins_any _ _).mono ?_; rintro e w' ⟨rfl, rfl⟩; rw [hb'])
              go_roundw
              case rel => exact ⟨k + 1, o', by omega, by omega, by go_num, by go_num, trivial, HK2⟩
              case measure => simp [intOf]; omega
          · rw [if_neg h23] at hst
            have HK2 := hide hst
            clear hst HK
            go_wp2_with (go_at_call 35; refine (rBegins_any _ _).mono ?_; rintro e w' ⟨rfl, rfl⟩; rw [hb'])
            go_roundw
            case rel => exact ⟨k + 1, o, by omega, by omega, by go_num, rfl, trivial, HK2⟩
            case measure => simp [intOf]; omega
    · have HR2 : Hid ((o == 0) = R) := by
        have := unhide HK
        rw [List.drop_eq_nil_of_le (by rw [unhide HLEN]; omega), withinF] at this
        exact this
      generalize hoo : (o == 0) = oo at *
      cases oo
      · have h1 : ((o : Int) == 0) = false := by simpa using hoo
        go_wp2
        go_ret
        exact ⟨by rw [← unhide HR2]; rfl, rfl⟩
      · have h1 : o = 0 := by simpa using hoo
        subst h1
        go_wp2
        go_ret
        exact ⟨by rw [← unhide HR2]; rfl, rfl⟩
set_option maxRecDepth 100000 in
set_option maxHeartbeats 4000000 in
theorem walk (a0 : Option Addr) (z0 : List Int) (cap0 : Nat) (a1 : Option Addr) (z1 : List Int) (cap1 : Nat) (a2 : Option Addr) (z2 : List Int) (cap2 : Nat) (a3 : Option Addr) (z3 : List Int) (cap3 : Nat) (kind b : Int) (W : World)
    (hr0 : ReadsB W a0 z0) (hf0 : FitsB z0) (hl0 : z0.length ≤ cap0) (hc0 : cap0 ≤ 1048576) (hr1 : ReadsB W a1 z1) (hf1 : FitsB z1) (hl1 : z1.length ≤ cap1) (hc1 : cap1 ≤ 1048576)
    (hr2 : ReadsB W a2 z2) (hf2 : FitsB z2) (hl2 : z2.length ≤ cap2) (hc2 : cap2 ≤ 1048576) (hr3 : ReadsB W a3 z3) (hf3 : FitsB z3) (hl3 : z3.length ≤ cap3) (hc3 : cap3 ≤ 1048576) (hk0 : 0 ≤ kind) (hk1 : kind ≤ 255) :
    Calls Try.prog 11 #[.slice a0 z0.length cap0, .slice a1 z1.length cap1, .slice a2 z2.length cap2, .slice a3 z3.length cap3, .int .u8 kind, .int .i8 b] W fun e w' => e = .returned (.bool true) ∧ Below W.heap.size W w' := by
  have HAW := hide (fun w => awake_any w)
  have HR0 := hide hr0
  have HR1 := hide hr1
  have HR2 := hide hr2
  have HR3 := hide hr3
  have HW2 := hide (fun (w : World) (h : ReadsB w a2 z2) => within_any a2 z2.length cap2 z2 w rfl h (by omega))
  have HW3 := hide (fun (w : World) (h : ReadsB w a3 z3) => within_any a3 z3.length cap3 z3 w rfl h (by omega))
  have HLE := hide (fun (h1 : begC kind = true) (h2 : withinF 0 z2 = true) (h3 : withinF 0 z3 = true) => level_within z0 z1 z2 z3 kind b h1 h2 h3)
  have HLV := hide (fun (zs : List Int) (w : World) (x : Option Addr) (n c : Nat) (hl : zs.length = n) (h : ReadsB w x zs) (hn : n ≤ 1099511627776) => level_any x n c zs b w hl h hn)
  generalize hn0 : z0.length = n0 at *
  generalize hn1 : z1.length = n1 at *
  generalize hn2 : z2.length = n2 at *
  generalize hn3 : z3.length = n3 at *
  have HN := hide (And.intro (And.intro hn0 hn1) (And.intro hn2 hn3))
  clear hr0 hr1 hr2 hr3 hf0 hf1 hf2 hf3 hn0 hn1 hn2 hn3
  cases hkb : begC kind with
  | false =>
    go_enter Try.func11, Try.ntmps11
    go_wp2_with (first | (go_at_call 15; refine (unhide HAW _).mono ?_; rintro e w1 ⟨rfl, hb1⟩) | (go_at_call 35; refine (rBegins_any _ _).mono ?_; rintro e w2 ⟨rfl, rfl⟩; rw [hkb]))
    go_ret
    exact ⟨rfl, hb1⟩
  | true =>
    cases hw2 : withinF 0 z2 with
    | false =>
      rw [hw2] at HW2
      go_enter Try.func11, Try.ntmps11
      go_wp2_with (first | (go_at_call 15; refine (unhide HAW _).mono ?_; rintro e w1 ⟨rfl, hb1⟩; have HB1 := hide hb1; clear hb1) | (go_at_call 35; refine (rBegins_any _ _).mono ?_; rintro e w2 ⟨rfl, rfl⟩; rw [hkb]) | (go_at_call 36; refine (unhide HW2 _ ((unhide HR2).below (unhide HB1))).mono ?_; rintro e w3 ⟨rfl, rfl⟩))
      go_ret
      exact ⟨rfl, unhide HB1⟩
    | true =>
      cases hw3 : withinF 0 z3 with
      | false =>
        rw [hw2] at HW2
        rw [hw3] at HW3
        have tok : True := trivial
        go_enter Try.func11, Try.ntmps11
        go_wp2_with (first | (go_at_call 15; refine (unhide HAW _).mono ?_; rintro e w1 ⟨rfl, hb1⟩; have HB1 := hide hb1; clear hb1) | (go_at_call 35; refine (rBegins_any _ _).mono ?_; rintro e w2 ⟨rfl, rfl⟩; rw [hkb]) | (go_at_call 36; have _t := tok; refine (unhide HW2 _ ((unhide HR2).below (unhide HB1))).mono ?_; rintro e w3 ⟨rfl, rfl⟩; clear tok) | (go_at_call 36; refine (unhide HW3 _ ((unhide HR3).below (unhide HB1))).mono ?_; rintro e w3 ⟨rfl, rfl⟩))
        go_ret
        exact ⟨rfl, unhide HB1⟩
      | true =>
        have HLV2 := hide (unhide HLE hkb hw2 hw3)
        rw [hw2] at HW2
        rw [hw3] at HW3
        have HL1 : Hid (([] ++ z0 ++ [kind] ++ z2 ++ [23] ++ z1).length = 0 + n0 + 1 + n2 + 1 + n1) := by
          obtain ⟨⟨q0, q1⟩, q2, q3⟩ := unhide HN
          show _ = _
          simp [q0, q1, q2]; omega
        have HL2 : Hid (([] ++ z0 ++ [kind] ++ z3 ++ [23] ++ z1).length = 0 + n0 + 1 + n3 + 1 + n1) := by
          obtain ⟨⟨q0, q1⟩, q2, q3⟩ := unhide HN
          show _ = _
          simp [q0, q1, q3]; omega
        have HE1 : Hid (levV ([] ++ z0 ++ [kind] ++ z2 ++ [23] ++ z1) b = levV (z0 ++ kind :: (z2 ++ 23 :: z1)) b) := by
          show _ = _
          congr 1; simp
        have HE2 : Hid (levV ([] ++ z0 ++ [kind] ++ z3 ++ [23] ++ z1) b = levV (z0 ++ kind :: (z2 ++ 23 :: z1)) b) := by
          show _ = _
          have : [] ++ z0 ++ [kind] ++ z3 ++ [23] ++ z1 = z0 ++ kind :: (z3 ++ 23 :: z1) := by simp
          rw [this]
          unfold levV
          rw [← unhide HLV2]
        obtain ⟨lx, ly, hlv⟩ : ∃ x y : Int, levV (z0 ++ kind :: (z2 ++ 23 :: z1)) b = .tuple #[.int .i8 x, .int .i64 y] := ⟨_, _, rfl⟩
        rw [hlv] at HE1 HE2
        clear hlv
        have t1 : True := trivial
        have tok : True := trivial
        go_enter Try.func11, Try.ntmps11
        go_wp2_with (first | (go_at_call 15; refine (unhide HAW _).mono ?_; rintro e w1 ⟨rfl, hb1⟩; have HB1 := hide hb1; clear hb1) | (go_at_call 35; refine (rBegins_any _ _).mono ?_; rintro e w2 ⟨rfl, rfl⟩; rw [hkb]) | (go_at_call 36; have _t := tok; refine (unhide HW2 _ ((unhide HR2).below (unhide HB1))).mono ?_; rintro e w3 ⟨rfl, rfl⟩; clear tok) | (go_at_call 36; refine (unhide HW3 _ ((unhide HR3).below (unhide HB1))).mono ?_; rintro e w3 ⟨rfl, rfl⟩)
                                        | (at_builtin; have _t := t1; refine wpList_appB rfl _ _ rfl W.heap.size (.slice none 0 0) (0) ([]) rfl (World.ownsRow_nil _ _ _ _) a0 n0 cap0 z0 (unhide HN).1.1 rfl ((unhide HR0).below (unhide HB1)) (by omega) (unhide HB1).size ?_; intro v1 x1 r1 g1; have HX1 := hide (And.intro r1 (And.intro (belowGrown (unhide HB1) (unhide HB1).size (World.ownsRow_nil _ _ 22 1) g1) (belowGrown (unhide HB1) (unhide HB1).size (World.ownsRow_nil _ _ 22 1) g1))); clear t1 r1 g1; have t2 : True := trivial)
                                        | (at_builtin; have _t := t2; refine wpList_appB rfl _ _ rfl W.heap.size (v1) (0 + n0) ([] ++ z0) rfl ((unhide HX1).1.alloc _) (some ⟨x1.heap.size, 0, none⟩) 1 1 [kind] rfl rfl (one_reads _ kind _ rfl) (by omega) (by rw [World.size_alloc]; have := (unhide HX1).2.1.size; omega) ?_; intro v2 x2 r2 g2; have HX2 := hide (And.intro r2 (And.intro (belowGrown ((unhide HX1).2.1.alloc (unhide HX1).2.1.size _) (by rw [World.size_alloc]; have := (unhide HX1).2.1.size; omega) ((unhide HX1).1.alloc _) g2) (belowGrown ((unhide HX1).2.1.alloc (unhide HX1).2.1.size _) (by rw [World.size_alloc]; have := (unhide HX1).2.1.size; omega) ((unhide HX1).1.alloc _) g2))); clear t2 r2 g2; have t3 : True := trivial)
                                        | (at_builtin; have _t := t3; refine wpList_appB rfl _ _ rfl W.heap.size (v2) (0 + n0 + 1) ([] ++ z0 ++ [kind]) rfl (unhide HX2).1 a2 n2 cap2 z2 (unhide HN).2.1 rfl ((unhide HR2).below (unhide HX2).2.2) (by omega) (unhide HX2).2.1.size ?_; intro v3 x3 r3 g3; have HX3 := hide (And.intro r3 (And.intro (belowGrown (unhide HX2).2.1 (unhide HX2).2.1.size (unhide HX2).1 g3) (belowGrown (unhide HX2).2.1 (unhide HX2).2.1.size (unhide HX2).1 g3))); clear t3 r3 g3; have t4 : True := trivial)
                                        | (at_builtin; have _t := t4; refine wpList_appB rfl _ _ rfl W.heap.size (v3) (0 + n0 + 1 + n2) ([] ++ z0 ++ [kind] ++ z2) rfl ((unhide HX3).1.alloc _) (some ⟨x3.heap.size, 0, none⟩) 1 1 [23] rfl rfl (one_reads _ 23 _ rfl) (by omega) (by rw [World.size_alloc]; have := (unhide HX3).2.1.size; omega) ?_; intro v4 x4 r4 g4; have HX4 := hide (And.intro r4 (And.intro (belowGrown ((unhide HX3).2.1.alloc (unhide HX3).2.1.size _) (by rw [World.size_alloc]; have := (unhide HX3).2.1.size; omega) ((unhide HX3).1.alloc _) g4) (belowGrown ((unhide HX3).2.1.alloc (unhide HX3).2.1.size _) (by rw [World.size_alloc]; have := (unhide HX3).2.1.size; omega) ((unhide HX3).1.alloc _) g4))); clear t4 r4 g4; have t5 : True := trivial)
                                        | (at_builtin; have _t := t5; refine wpList_appB rfl _ _ rfl W.heap.size (v4) (0 + n0 + 1 + n2 + 1) ([] ++ z0 ++ [kind] ++ z2 ++ [23]) rfl (unhide HX4).1 a1 n1 cap1 z1 (unhide HN).1.2 rfl ((unhide HR1).below (unhide HX4).2.2) (by omega) (unhide HX4).2.1.size ?_; intro v5 x5 r5 g5; have HX5 := hide (And.intro r5 (And.intro (belowGrown (unhide HX4).2.1 (unhide HX4).2.1.size (unhide HX4).1 g5) (belowGrown (unhide HX4).2.1 (unhide HX4).2.1.size (unhide HX4).1 g5))); clear t5 r5 g5; have t6 : True := trivial)
                                        | (at_builtin; have _t := t6; refine wpList_appB rfl _ _ rfl x5.heap.size (.slice none 0 0) (0) ([]) rfl (World.ownsRow_nil _ _ _ _) a0 n0 cap0 z0 (unhide HN).1.1 rfl ((unhide HR0).below (unhide HX5).2.2) (by omega) (Nat.le_refl _) ?_; intro v6 x6 r6 g6; have HX6 := hide (And.intro r6 (And.intro (belowGrown (Below.refl _ _) (Nat.le_refl _) (World.ownsRow_nil _ _ 22 1) g6) ((unhide HX5).2.2.trans ((belowGrown (Below.refl _ _) (Nat.le_refl _) (World.ownsRow_nil _ _ 22 1) g6).mono (unhide HX5).2.2.size)))); clear t6 r6 g6; have t7 : True := trivial)
                                        | (at_builtin; have _t := t7; refine wpList_appB rfl _ _ rfl x5.heap.size (v6) (0 + n0) ([] ++ z0) rfl ((unhide HX6).1.alloc _) (some ⟨x6.heap.size, 0, none⟩) 1 1 [kind] rfl rfl (one_reads _ kind _ rfl) (by omega) (by rw [World.size_alloc]; have := (unhide HX6).2.1.size; omega) ?_; intro v7 x7 r7 g7; have HX7 := hide (And.intro r7 (And.intro (belowGrown ((unhide HX6).2.1.alloc (unhide HX6).2.1.size _) (by rw [World.size_alloc]; have := (unhide HX6).2.1.size; omega) ((unhide HX6).1.alloc _) g7) ((unhide HX5).2.2.trans ((belowGrown ((unhide HX6).2.1.alloc (unhide HX6).2.1.size _) (by rw [World.size_alloc]; have := (unhide HX6).2.1.size; omega) ((unhide HX6).1.alloc _) g7).mono (unhide HX5).2.2.size)))); clear t7 r7 g7; have t8 : True := trivial)
                                        | (at_builtin; have _t := t8; refine wpList_appB rfl _ _ rfl x5.heap.size (v7) (0 + n0 + 1) ([] ++ z0 ++ [kind]) rfl (unhide HX7).1 a3 n3 cap3 z3 (unhide HN).2.2 rfl ((unhide HR3).below (unhide HX7).2.2) (by omega) (unhide HX7).2.1.size ?_; intro v8 x8 r8 g8; have HX8 := hide (And.intro r8 (And.intro (belowGrown (unhide HX7).2.1 (unhide HX7).2.1.size (unhide HX7).1 g8) ((unhide HX5).2.2.trans ((belowGrown (unhide HX7).2.1 (unhide HX7).2.1.size (unhide HX7).1 g8).mono (unhide HX5).2.2.size)))); clear t8 r8 g8; have t9 : True := trivial)
                                        | (at_builtin; have _t := t9; refine wpList_appB rfl _ _ rfl x5.heap.size (v8) (0 + n0 + 1 + n3) ([] ++ z0 ++ [kind] ++ z3) rfl ((unhide HX8).1.alloc _) (some ⟨x8.heap.size, 0, none⟩) 1 1 [23] rfl rfl (one_reads _ 23 _ rfl) (by omega) (by rw [World.size_alloc]; have := (unhide HX8).2.1.size; omega) ?_; intro v9 x9 r9 g9; have HX9 := hide (And.intro r9 (And.intro (belowGrown ((unhide HX8).2.1.alloc (unhide HX8).2.1.size _) (by rw [World.size_alloc]; have := (unhide HX8).2.1.size; omega) ((unhide HX8).1.alloc _) g9) ((unhide HX5).2.2.trans ((belowGrown ((unhide HX8).2.1.alloc (unhide HX8).2.1.size _) (by rw [World.size_alloc]; have := (unhide HX8).2.1.size; omega) ((unhide HX8).1.alloc _) g9).mono (unhide HX5).2.2.size)))); clear t9 r9 g9; have t10 : True := trivial)
                                        | (at_builtin; have _t := t10; refine wpList_appB rfl _ _ rfl x5.heap.size (v9) (0 + n0 + 1 + n3 + 1) ([] ++ z0 ++ [kind] ++ z3 ++ [23]) rfl (unhide HX9).1 a1 n1 cap1 z1 (unhide HN).1.2 rfl ((unhide HR1).below (unhide HX9).2.2) (by omega) (unhide HX9).2.1.size ?_; intro v10 x10 r10 g10; have HX10 := hide (And.intro r10 (And.intro (belowGrown (unhide HX9).2.1 (unhide HX9).2.1.size (unhide HX9).1 g10) ((unhide HX5).2.2.trans ((belowGrown (unhide HX9).2.1 (unhide HX9).2.1.size (unhide HX9).1 g10).mono (unhide HX5).2.2.size)))); clear t10 r10 g10; have t11 : True := trivial)
                                        | (go_at_call 33; have _t := t11; obtain ⟨p5, c5, rfl⟩ := row_is (unhide HX5).1; refine (unhide HLV _ _ _ _ _ (unhide HL1) (readsB_own (rowBelow (unhide HX5).1 (unhide HX10).2.1)) (by omega)).mono ?_; rintro e y1 ⟨rfl, hy1⟩; have HY1 := hide hy1; clear hy1 t11; rw [unhide HE1])
                                        | (go_at_call 33; obtain ⟨p10, c10, rfl⟩ := row_is (unhide HX10).1; refine (unhide HLV _ _ _ _ _ (unhide HL2) ((readsB_own (unhide HX10).1).below (unhide HY1)) (by omega)).mono ?_; rintro e y2 ⟨rfl, hy2⟩; have HY2 := hide hy2; clear hy2; rw [unhide HE2]))
        go_ret
        exact ⟨rfl, (unhide HX10).2.2.trans (((unhide HY1).mono (unhide HX10).2.2.size).trans ((unhide HY2).mono (Nat.le_trans (unhide HX10).2.2.size (unhide HY1).size)))⟩

theorem own : ownKnob Try.prog.godebug = none := by kernel_rfl
theorem laidOut : laidOutB Try.prog = true := by kernel_rfl

set_option maxRecDepth 100000 in
theorem contract (H : Type) (enc : TypeId × Value → H) (W : World) (base : Nat) (args : Array Value) (ds gs : List (DataW H)) (before : List MemPlace)
    (hval : ∀ (j : Nat) t v, Try.f11.params[j]? = some t → args[j]? = some v → Value.okWide Try.prog W .any base t v)
    (hW : DataW.Whole enc Try.prog Try.f11.params.toList Rows.parasWithinSpec.vars false W args.toList ds gs before) (hk : Rows.uptoSmall H (ds ++ gs) = true) :
    Calls Try.prog 11 args W fun e W' => ∃ v, e = .returned v ∧ Rows.parasWithinSpec.post enc Try.prog Try.f11 false true false false W args v W' := by
  have hW' := hW
  obtain ⟨p, q, hA0, hV, rfl, hfz, hnd⟩ := hW
  have hA : DataW.TrodAll enc Try.prog W 0 (fun _ => true) true Try.f11.params.toList args.toList ds p := hA0
  rw [Try.params11] at hA hval
  obtain ⟨v0, vs0, d0, ds0, p0, q0, hargs, rfl, rfl, h0, r0⟩ := trodAll_cons hA
  obtain ⟨v1, vs1, d1, ds1, p1, q1, rfl, rfl, rfl, h1, r1⟩ := trodAll_cons r0
  obtain ⟨v2, vs2, d2, ds2, p2, q2, rfl, rfl, rfl, h2, r2⟩ := trodAll_cons r1
  obtain ⟨v3, vs3, d3, ds3, p3, q3, rfl, rfl, rfl, h3, r3⟩ := trodAll_cons r2
  obtain ⟨v4, vs4, d4, ds4, p4, q4, rfl, rfl, rfl, h4, r4⟩ := trodAll_cons r3
  obtain ⟨v5, vs5, d5, ds5, p5, q5, rfl, rfl, rfl, h5, r5⟩ := trodAll_cons r4
  obtain ⟨rfl, rfl, rfl⟩ := trodAll_nil r5
  obtain rfl : args = #[v0, v1, v2, v3, v4, v5] := by cases args; simp_all
  obtain ⟨rfl, rfl⟩ := trodVars_none hV
  obtain ⟨a0, len0, cap0, rfl⟩ := okWide_slice Try.underlying29 (hval 0 29 v0 rfl rfl)
  have k0 := h0
  have lt0 : ∀ x ∈ p0, x.block < W.heap.size := by obtain ⟨m, hm⟩ := k0; exact DataW.trod_lt m _ _ _ hm
  obtain ⟨a1, len1, cap1, rfl⟩ := okWide_slice Try.underlying29 (hval 1 29 v1 rfl rfl)
  have k1 := h1
  have lt1 : ∀ x ∈ p1, x.block < W.heap.size := by obtain ⟨m, hm⟩ := k1; exact DataW.trod_lt m _ _ _ hm
  obtain ⟨a2, len2, cap2, rfl⟩ := okWide_slice Try.underlying29 (hval 2 29 v2 rfl rfl)
  have k2 := h2
  have lt2 : ∀ x ∈ p2, x.block < W.heap.size := by obtain ⟨m, hm⟩ := k2; exact DataW.trod_lt m _ _ _ hm
  obtain ⟨a3, len3, cap3, rfl⟩ := okWide_slice Try.underlying29 (hval 3 29 v3 rfl rfl)
  have k3 := h3
  have lt3 : ∀ x ∈ p3, x.block < W.heap.size := by obtain ⟨m, hm⟩ := k3; exact DataW.trod_lt m _ _ _ hm
  obtain ⟨a4, rfl, hd4, rfl, w4⟩ := open_int Try.underlying22 (hval 4 22 v4 rfl rfl) h4
  have x4 : 0 ≤ a4 ∧ a4 ≤ 255 := wf_u8 w4
  obtain ⟨a5, rfl, hd5, rfl, w5⟩ := open_int Try.underlying64 (hval 5 64 v5 rfl rfl) h5
  have hk' : Rows.uptoSmall H [d0, d1, d2, d3, d4, d5] = true := hk
  have hb := bulk_bound hk'
  simp only [Rows.uptoBulkAll] at hb
  obtain ⟨z0, w0, c0, wf0⟩ : ∃ zs : List Int, ((a0 = none ∧ len0 = 0 ∧ cap0 = 0 ∧ zs = []) ∨ ∃ x, a0 = some x ∧ len0 ≤ cap0 ∧ cap0 ≤ maxLen ∧ zs.length = cap0 ∧ (∀ i, i < zs.length → W.cell? (x.add i) = some (.int .u8 (zs.getD i 0)))) ∧ cap0 ≤ 1048576 ∧ (∀ n ∈ zs, (Lit.int .u8 n).wf = true) := by
    obtain ⟨fuel, hf⟩ := h0
    rcases open_ints Try.underlying29 Try.underlying22 (by kernel_rfl) hf with ⟨hcs, _⟩ | ⟨x, l, c, zs, hcs, _, hl, hm, hz, hx, hcell, hwz⟩
    · simp [Value.cells] at hcs
      obtain ⟨rfl, rfl, rfl⟩ := hcs
      exact ⟨[], .inl ⟨rfl, rfl, rfl, rfl⟩, by omega, by simp⟩
    · simp [Value.cells] at hcs
      obtain ⟨rfl, rfl, rfl⟩ := hcs
      have hz' : zs.length = cap0 := by simpa using hz
      refine ⟨zs, .inr ⟨_, rfl, hl, hm, hz', hcell⟩, ?_, hwz⟩
      have hd : d0 = .slice (lits .u8 (zs.take len0)) (lits .u8 (zs.drop len0)) := by simp only [Prod.mk.injEq] at hx; exact hx.1
      rw [hd] at hb
      have h2 := bulk_slice (H := H) (lits .u8 (zs.take len0)) (lits .u8 (zs.drop len0))
      have e1 : (lits (H := H) .u8 (zs.take len0)).length = (zs.take len0).length := by simp [lits]
      have e2 : (lits (H := H) .u8 (zs.drop len0)).length = (zs.drop len0).length := by simp [lits]
      rw [e1, e2, List.length_take, List.length_drop] at h2
      omega
  have hlc0 : len0 ≤ cap0 := by rcases w0 with ⟨_, h, h', _⟩ | ⟨_, _, h, _⟩ <;> omega
  have hzc0 : z0.length = cap0 := w0.elim (fun ⟨_, _, h, h'⟩ => by rw [h', h]; rfl) (fun ⟨_, _, _, _, h, _⟩ => h)
  have hle0 : (z0.take len0).length = len0 := by rw [List.length_take]; omega
  have hrd0 : ReadsB W a0 (z0.take len0) := by
    intro i hi
    rw [hle0] at hi
    rcases w0 with ⟨_, h, _⟩ | ⟨x, h1, h2, h3, h4, h5⟩
    · omega
    · obtain ⟨b, off, rfl, hc⟩ := ints_at h5 (by omega)
      refine ⟨b, off, h1, (hc i (by omega)).trans ?_⟩
      simp [cA, List.getD, hi]
  have hfi0 : FitsB (z0.take len0) := by
    intro x hx
    exact wf_u8 (wf0 x (List.mem_of_mem_take hx))
  obtain ⟨z1, w1, c1, wf1⟩ : ∃ zs : List Int, ((a1 = none ∧ len1 = 0 ∧ cap1 = 0 ∧ zs = []) ∨ ∃ x, a1 = some x ∧ len1 ≤ cap1 ∧ cap1 ≤ maxLen ∧ zs.length = cap1 ∧ (∀ i, i < zs.length → W.cell? (x.add i) = some (.int .u8 (zs.getD i 0)))) ∧ cap1 ≤ 1048576 ∧ (∀ n ∈ zs, (Lit.int .u8 n).wf = true) := by
    obtain ⟨fuel, hf⟩ := h1
    rcases open_ints Try.underlying29 Try.underlying22 (by kernel_rfl) hf with ⟨hcs, _⟩ | ⟨x, l, c, zs, hcs, _, hl, hm, hz, hx, hcell, hwz⟩
    · simp [Value.cells] at hcs
      obtain ⟨rfl, rfl, rfl⟩ := hcs
      exact ⟨[], .inl ⟨rfl, rfl, rfl, rfl⟩, by omega, by simp⟩
    · simp [Value.cells] at hcs
      obtain ⟨rfl, rfl, rfl⟩ := hcs
      have hz' : zs.length = cap1 := by simpa using hz
      refine ⟨zs, .inr ⟨_, rfl, hl, hm, hz', hcell⟩, ?_, hwz⟩
      have hd : d1 = .slice (lits .u8 (zs.take len1)) (lits .u8 (zs.drop len1)) := by simp only [Prod.mk.injEq] at hx; exact hx.1
      rw [hd] at hb
      have h2 := bulk_slice (H := H) (lits .u8 (zs.take len1)) (lits .u8 (zs.drop len1))
      have e1 : (lits (H := H) .u8 (zs.take len1)).length = (zs.take len1).length := by simp [lits]
      have e2 : (lits (H := H) .u8 (zs.drop len1)).length = (zs.drop len1).length := by simp [lits]
      rw [e1, e2, List.length_take, List.length_drop] at h2
      omega
  have hlc1 : len1 ≤ cap1 := by rcases w1 with ⟨_, h, h', _⟩ | ⟨_, _, h, _⟩ <;> omega
  have hzc1 : z1.length = cap1 := w1.elim (fun ⟨_, _, h, h'⟩ => by rw [h', h]; rfl) (fun ⟨_, _, _, _, h, _⟩ => h)
  have hle1 : (z1.take len1).length = len1 := by rw [List.length_take]; omega
  have hrd1 : ReadsB W a1 (z1.take len1) := by
    intro i hi
    rw [hle1] at hi
    rcases w1 with ⟨_, h, _⟩ | ⟨x, h1, h2, h3, h4, h5⟩
    · omega
    · obtain ⟨b, off, rfl, hc⟩ := ints_at h5 (by omega)
      refine ⟨b, off, h1, (hc i (by omega)).trans ?_⟩
      simp [cA, List.getD, hi]
  have hfi1 : FitsB (z1.take len1) := by
    intro x hx
    exact wf_u8 (wf1 x (List.mem_of_mem_take hx))
  obtain ⟨z2, w2, c2, wf2⟩ : ∃ zs : List Int, ((a2 = none ∧ len2 = 0 ∧ cap2 = 0 ∧ zs = []) ∨ ∃ x, a2 = some x ∧ len2 ≤ cap2 ∧ cap2 ≤ maxLen ∧ zs.length = cap2 ∧ (∀ i, i < zs.length → W.cell? (x.add i) = some (.int .u8 (zs.getD i 0)))) ∧ cap2 ≤ 1048576 ∧ (∀ n ∈ zs, (Lit.int .u8 n).wf = true) := by
    obtain ⟨fuel, hf⟩ := h2
    rcases open_ints Try.underlying29 Try.underlying22 (by kernel_rfl) hf with ⟨hcs, _⟩ | ⟨x, l, c, zs, hcs, _, hl, hm, hz, hx, hcell, hwz⟩
    · simp [Value.cells] at hcs
      obtain ⟨rfl, rfl, rfl⟩ := hcs
      exact ⟨[], .inl ⟨rfl, rfl, rfl, rfl⟩, by omega, by simp⟩
    · simp [Value.cells] at hcs
      obtain ⟨rfl, rfl, rfl⟩ := hcs
      have hz' : zs.length = cap2 := by simpa using hz
      refine ⟨zs, .inr ⟨_, rfl, hl, hm, hz', hcell⟩, ?_, hwz⟩
      have hd : d2 = .slice (lits .u8 (zs.take len2)) (lits .u8 (zs.drop len2)) := by simp only [Prod.mk.injEq] at hx; exact hx.1
      rw [hd] at hb
      have h2 := bulk_slice (H := H) (lits .u8 (zs.take len2)) (lits .u8 (zs.drop len2))
      have e1 : (lits (H := H) .u8 (zs.take len2)).length = (zs.take len2).length := by simp [lits]
      have e2 : (lits (H := H) .u8 (zs.drop len2)).length = (zs.drop len2).length := by simp [lits]
      rw [e1, e2, List.length_take, List.length_drop] at h2
      omega
  have hlc2 : len2 ≤ cap2 := by rcases w2 with ⟨_, h, h', _⟩ | ⟨_, _, h, _⟩ <;> omega
  have hzc2 : z2.length = cap2 := w2.elim (fun ⟨_, _, h, h'⟩ => by rw [h', h]; rfl) (fun ⟨_, _, _, _, h, _⟩ => h)
  have hle2 : (z2.take len2).length = len2 := by rw [List.length_take]; omega
  have hrd2 : ReadsB W a2 (z2.take len2) := by
    intro i hi
    rw [hle2] at hi
    rcases w2 with ⟨_, h, _⟩ | ⟨x, h1, h2, h3, h4, h5⟩
    · omega
    · obtain ⟨b, off, rfl, hc⟩ := ints_at h5 (by omega)
      refine ⟨b, off, h1, (hc i (by omega)).trans ?_⟩
      simp [cA, List.getD, hi]
  have hfi2 : FitsB (z2.take len2) := by
    intro x hx
    exact wf_u8 (wf2 x (List.mem_of_mem_take hx))
  obtain ⟨z3, w3, c3, wf3⟩ : ∃ zs : List Int, ((a3 = none ∧ len3 = 0 ∧ cap3 = 0 ∧ zs = []) ∨ ∃ x, a3 = some x ∧ len3 ≤ cap3 ∧ cap3 ≤ maxLen ∧ zs.length = cap3 ∧ (∀ i, i < zs.length → W.cell? (x.add i) = some (.int .u8 (zs.getD i 0)))) ∧ cap3 ≤ 1048576 ∧ (∀ n ∈ zs, (Lit.int .u8 n).wf = true) := by
    obtain ⟨fuel, hf⟩ := h3
    rcases open_ints Try.underlying29 Try.underlying22 (by kernel_rfl) hf with ⟨hcs, _⟩ | ⟨x, l, c, zs, hcs, _, hl, hm, hz, hx, hcell, hwz⟩
    · simp [Value.cells] at hcs
      obtain ⟨rfl, rfl, rfl⟩ := hcs
      exact ⟨[], .inl ⟨rfl, rfl, rfl, rfl⟩, by omega, by simp⟩
    · simp [Value.cells] at hcs
      obtain ⟨rfl, rfl, rfl⟩ := hcs
      have hz' : zs.length = cap3 := by simpa using hz
      refine ⟨zs, .inr ⟨_, rfl, hl, hm, hz', hcell⟩, ?_, hwz⟩
      have hd : d3 = .slice (lits .u8 (zs.take len3)) (lits .u8 (zs.drop len3)) := by simp only [Prod.mk.injEq] at hx; exact hx.1
      rw [hd] at hb
      have h2 := bulk_slice (H := H) (lits .u8 (zs.take len3)) (lits .u8 (zs.drop len3))
      have e1 : (lits (H := H) .u8 (zs.take len3)).length = (zs.take len3).length := by simp [lits]
      have e2 : (lits (H := H) .u8 (zs.drop len3)).length = (zs.drop len3).length := by simp [lits]
      rw [e1, e2, List.length_take, List.length_drop] at h2
      omega
  have hlc3 : len3 ≤ cap3 := by rcases w3 with ⟨_, h, h', _⟩ | ⟨_, _, h, _⟩ <;> omega
  have hzc3 : z3.length = cap3 := w3.elim (fun ⟨_, _, h, h'⟩ => by rw [h', h]; rfl) (fun ⟨_, _, _, _, h, _⟩ => h)
  have hle3 : (z3.take len3).length = len3 := by rw [List.length_take]; omega
  have hrd3 : ReadsB W a3 (z3.take len3) := by
    intro i hi
    rw [hle3] at hi
    rcases w3 with ⟨_, h, _⟩ | ⟨x, h1, h2, h3, h4, h5⟩
    · omega
    · obtain ⟨b, off, rfl, hc⟩ := ints_at h5 (by omega)
      refine ⟨b, off, h1, (hc i (by omega)).trans ?_⟩
      simp [cA, List.getD, hi]
  have hfi3 : FitsB (z3.take len3) := by
    intro x hx
    exact wf_u8 (wf3 x (List.mem_of_mem_take hx))
  clear hA0
  have hwk := walk a0 (z0.take len0) cap0 a1 (z1.take len1) cap1 a2 (z2.take len2) cap2 a3 (z3.take len3) cap3 a4 a5 W hrd0 hfi0 (by rw [hle0]; omega) c0 hrd1 hfi1 (by rw [hle1]; omega) c1 hrd2 hfi2 (by rw [hle2]; omega) c2 hrd3 hfi3 (by rw [hle3]; omega) c3 x4.1 x4.2
  rw [hle0] at hwk
  rw [hle1] at hwk
  rw [hle2] at hwk
  rw [hle3] at hwk
  subst hd4
  subst hd5
  refine hwk.mono fun e W' ⟨he, bel⟩ => ?_
  subst he
  exact ⟨_, rfl, _, _, _, [], _, [], hW', trodAll_mk1 (shut_bool Try.underlying4 _), (trodAll_cons_mk (Below.trod laidOut (by kernel_rfl) (of_decide_eq_true (by kernel_rfl)) k0 bel lt0) (trodAll_cons_mk (Below.trod laidOut (by kernel_rfl) (of_decide_eq_true (by kernel_rfl)) k1 bel lt1) (trodAll_cons_mk (Below.trod laidOut (by kernel_rfl) (of_decide_eq_true (by kernel_rfl)) k2 bel lt2) (trodAll_cons_mk (Below.trod laidOut (by kernel_rfl) (of_decide_eq_true (by kernel_rfl)) k3 bel lt3) (trodAll_cons_mk (shut_int Try.underlying22 w4) (trodAll_cons_mk (shut_int Try.underlying64 w5) trodAll_mk0)))))), rfl, bel.frame _, fun h => by cases h⟩

set_option maxRecDepth 100000 in
theorem lifted (os : Os) (started : os.Started) (H : Type) (enc : TypeId × Value → H) (F : Stop.Interp) :
    ReturnsInHanded {} Try.checked os 11 .any ((Rows.OpenSpec.upto Rows.parasWithinSpec).pre6 enc Try.prog Try.f11 Rows.parasWithinUptoRow.domain false) (((Rows.OpenSpec.upto Rows.parasWithinSpec).at F).post enc Try.prog Try.f11 false true false false) := by
  refine returnsInHanded_of_cond (C := Try.checked) (s := Rows.OpenSpec.upto Rows.parasWithinSpec) (k := Rows.uptoSmall) rfl own started (by kernel_rfl) Try.func11
    (OpenSpec.witness (enc := enc) (C := Try.checked) (s := Rows.OpenSpec.upto Rows.parasWithinSpec) (k := Rows.uptoSmall) rfl false ⟨#[], #[.slice none 0 0, .slice none 0 0, .slice none 0 0, .slice none 0 0, .int .u8 0, .int .i8 0], []⟩ 8 (by kernel_rfl) (by kernel_rfl) (by kernel_rfl)
      (x := ([.nil, .nil, .nil, .nil, .lit (.int .u8 0), .lit (.int .i8 0)], [], [])) (by kernel_rfl) rfl (by kernel_rfl)) ?_
  intro W base args ds gs before hval hW _ hk _
  exact contract H enc W base args ds gs before hval hW hk

theorem over : Rows.parasWithinUptoRow.holds Try.pinned (Rows.OpenSpec.upto Rows.parasWithinSpec) :=
  OpenClaim.holds_of_cond 11 Try.f11 rfl rfl rfl rfl rfl rfl rfl ⟨rfl, rfl, rfl, rfl, rfl⟩ rfl rfl rfl rfl rfl (by kernel_rfl) Try.func11 (by kernel_rfl)
    (of_decide_eq_true (by kernel_rfl)) (by unfold Func.isWrapper; first | (rw [if_pos (by decide +kernel)]; kernel_rfl) | (rw [if_neg (by decide +kernel)]; exact ⟨rfl, rfl⟩))
    (fun os started H enc _ F => lifted os started H enc F)

end Go.Proofs.Ytkckkchnmgidgaa.parasWithin
namespace Go.Proofs.Ytkckkchnmgidgaa
theorem parasWithin_upto : Rows.ParasWithinUptoSaid := parasWithin.over
end Go.Proofs.Ytkckkchnmgidgaa


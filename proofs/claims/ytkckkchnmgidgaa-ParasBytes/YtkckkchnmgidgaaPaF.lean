/-
  firstStrong, Level of paras.
-/
import Derived.Test.YtkckkchnmgidgaaPaA
import Derived.Deep.LoopGhost
namespace Go.Proofs.Ytkckkchnmgidgaa
open Go.RowKit Go.PlainAid Go.Lib
set_option linter.unusedVariables false
set_option maxRecDepth 100000
set_option maxHeartbeats 2000000

/-- what is left of a list of classes from place k on, the isolates that are open being d: the answer, by places of the whole -/
def fsA (cs : List Int) (d k : Nat) : Option Nat := ansF cs cs.length d k
theorem fsA_zero (cs : List Int) : fsA cs 0 0 = frst 0 cs := by simp [fsA, ansF]
def optV : Option Nat → Value
  | some j => .tuple #[.int .i64 (j : Nat), .bool true]
  | none => .tuple #[.int .i64 0, .bool false]
theorem firstStrong_any (a : Option Addr) (n c : Nat) (cs : List Int) (w : World) (hl : cs.length = n) (h : ReadsB w a cs) (hn : n ≤ 1099511627776) :
    Calls Try.prog 52 #[.slice a n c] w fun e w' => e = .returned (optV (frst 0 cs)) ∧ Below w.heap.size w w' := by
  have HA := hide h
  have HLEN := hide hl
  have HST := hide (fun (k : Nat) (hk : k < n) => ansF_step cs cs.length k (by omega) (Nat.le_refl _))
  have HIN := hide (fun (d k : Nat) (hk : k < n) => ansF_in cs cs.length d k (by omega) (Nat.le_refl _))
  have HPD := hide (fun (k : Nat) (hk : k < n) => ansF_pdi cs cs.length k (by omega) (Nat.le_refl _))
  have HEN := hide (fun (d k : Nat) (hk : n ≤ k) => ansF_end cs cs.length d k (by omega))
  rw [← fsA_zero]
  obtain ⟨R, hR⟩ : ∃ R, optV (fsA cs 0 0) = R := ⟨_, rfl⟩
  rw [hR]
  have HR := hide hR
  clear h hl hR
  go_enter Try.func52, Try.ntmps52
  go_wp2
  go_step3
  go_wp2
  go_step3
  go_wp2
  go_loopg [4] n (fun g v4 wx => ∃ k : Nat, k + g = n ∧ v4 = .int .i64 k ∧ Below w.heap.size w wx ∧ Hid (optV (fsA cs 0 k) = R))
  case atStart => exact ⟨0, by omega, rfl, Below.refl _ _, HR⟩
  case round =>
    obtain ⟨k, hkg, rfl, hB, HF⟩ := hrel
    by_cases hlt : k < n
    · obtain ⟨b, off, rfl, c1⟩ := (unhide HA).below hB k (by rw [unhide HLEN]; exact hlt)
      have hst : fsA cs 0 k = if strongC (cA cs k) = true then some k else fsA cs (if begC (cA cs k) = true then 1 else 0) (k + 1) := unhide HST k hlt
      have HC1 := hide c1
      generalize hc : cA cs k = x at *
      by_cases hs : strongC x = true
      · have HR2 : Hid (R = .tuple #[.int .i64 (k : Nat), .bool true]) := by
          show _ = _
          rw [← unhide HF, hst, if_pos hs]; rfl
        clear hst
        go_wp2_with (go_at_call 60; refine (strong_any _ _).mono ?_; rintro e w' ⟨rfl, rfl⟩; rw [hs])
        try rw [Exit.noGoto_ret]
        go_ret2
        exact ⟨by rw [unhide HR2]; rfl, hB⟩
      · rw [if_neg hs] at hst
        have hs' : strongC x = false := by simpa using hs
        by_cases hb : begC x = true
        · rw [if_pos hb] at hst
          have HF1 : Hid (optV (fsA cs 1 (k + 1)) = R) := by show _ = _; rw [← hst]; exact unhide HF
          clear hst HF
          go_wp2_with (first
            | (go_at_call 60; refine (strong_any _ _).mono ?_; rintro e w' ⟨rfl, rfl⟩; rw [hs'])
            | (go_at_call 51; refine (begins_any _ _).mono ?_; rintro e w' ⟨rfl, rfl⟩; rw [hb]))
          go_loopg [4, 6] (n - (k + 1)) (fun g v4 v6 wy => ∃ j d : Nat, j + g = n ∧ k + 1 ≤ j ∧ d ≤ j ∧ v4 = .int .i64 j ∧ v6 = .int .i64 ((d + 1 : Nat) : Int) ∧ Below w.heap.size w wy ∧ Hid (optV (fsA cs (d + 1) j) = R))
          case atStart => exact ⟨k + 1, 0, by omega, Nat.le_refl _, by omega, by go_num, rfl, hB, HF1⟩
          case round =>
            obtain ⟨j, d, hjg, hkj, hdj, rfl, rfl, hB2, HF2⟩ := hrel
            by_cases hlt2 : j < n
            · obtain ⟨b, off, e2, c2⟩ := (unhide HA).below hB2 j (by rw [unhide HLEN]; exact hlt2)
              cases e2
              have hin : fsA cs (d + 1) j = if begC (cA cs j) = true then fsA cs (d + 2) (j + 1) else if cA cs j = 23 then fsA cs d (j + 1) else if cA cs j = 11 then none else fsA cs (d + 1) (j + 1) := unhide HIN d j hlt2
              have HP2 := hide (fun (e : cA cs j = 23) => unhide HPD j hlt2 e)
              generalize cA cs j = y at *
              by_cases hby : begC y = true
              · rw [if_pos hby] at hin
                have HF3 : Hid (optV (fsA cs (d + 2) (j + 1)) = R) := by show _ = _; rw [← hin]; exact unhide HF2
                clear hin HF2
                go_wp2_with (go_at_call 51; refine (begins_any _ _).mono ?_; rintro e w' ⟨rfl, rfl⟩; rw [hby])
                go_roundg (n - (j + 1))
                case measure => omega
                case rel => exact ⟨j + 1, d + 1, by omega, by omega, by omega, by go_num, by go_num, hB2, HF3⟩
              · rw [if_neg hby] at hin
                have hby' : begC y = false := by simpa using hby
                by_cases h23 : y = 23
                · rw [if_pos h23] at hin
                  have HF3 : Hid (optV (fsA cs d (j + 1)) = R) := by show _ = _; rw [← hin]; exact unhide HF2
                  have HP3 := hide (unhide HP2 h23)
                  subst h23
                  clear hin HF2 HP2
                  cases d with
                  | zero =>
                    have HF4 : Hid (optV (fsA cs 0 j) = R) := by
                      show _ = _
                      rw [show fsA cs 0 j = fsA cs 0 (j + 1) from unhide HP3]; exact unhide HF3
                    go_wp2_with (go_at_call 51; refine (begins_any _ _).mono ?_; rintro e w' ⟨rfl, rfl⟩; rw [hby'])
                    go_roundg (n - j)
                    case measure => omega
                    case rel => exact ⟨j, by omega, rfl, hB2, HF4⟩
                  | succ d =>
                    go_wp2_with (go_at_call 51; refine (begins_any _ _).mono ?_; rintro e w' ⟨rfl, rfl⟩; rw [hby'])
                    go_roundg (n - (j + 1))
                    case measure => omega
                    case rel => exact ⟨j + 1, d, by omega, by omega, by omega, by go_num, by go_num, hB2, HF3⟩
                · rw [if_neg h23] at hin
                  by_cases h11 : y = 11
                  · rw [if_pos h11] at hin
                    have HR2 : Hid (R = .tuple #[.int .i64 0, .bool false]) := by
                      show _ = _
                      rw [← unhide HF2, hin]; rfl
                    subst h11
                    clear hin HF2
                    go_wp2_with (go_at_call 51; refine (begins_any _ _).mono ?_; rintro e w' ⟨rfl, rfl⟩; rw [hby'])
                    try rw [Exit.noGoto_ret]
                    go_ret2
                    exact ⟨by rw [unhide HR2]; rfl, hB2⟩
                  · rw [if_neg h11] at hin
                    have HF3 : Hid (optV (fsA cs (d + 1) (j + 1)) = R) := by show _ = _; rw [← hin]; exact unhide HF2
                    clear hin HF2
                    go_wp2_with (go_at_call 51; refine (begins_any _ _).mono ?_; rintro e w' ⟨rfl, rfl⟩; rw [hby'])
                    go_roundg (n - (j + 1))
                    case measure => omega
                    case rel => exact ⟨j + 1, d, by omega, by omega, by omega, by go_num, rfl, hB2, HF3⟩
            · have HF3 : Hid (optV (fsA cs 0 j) = R) := by
                show _ = _
                rw [← unhide HF2, show fsA cs 0 j = none from unhide HEN 0 j (by omega), show fsA cs (d + 1) j = none from unhide HEN (d + 1) j (by omega)]
              go_wp2
              go_roundg 0
              case measure => omega
              case rel => exact ⟨j, by omega, rfl, hB2, HF3⟩
        · rw [if_neg hb] at hst
          have hb' : begC x = false := by simpa using hb
          have HF1 : Hid (optV (fsA cs 0 (k + 1)) = R) := by show _ = _; rw [← hst]; exact unhide HF
          clear hst HF
          go_wp2_with (first
            | (go_at_call 60; refine (strong_any _ _).mono ?_; rintro e w' ⟨rfl, rfl⟩; rw [hs'])
            | (go_at_call 51; refine (begins_any _ _).mono ?_; rintro e w' ⟨rfl, rfl⟩; rw [hb']))
          go_roundg (n - (k + 1))
          case measure => omega
          case rel => exact ⟨k + 1, by omega, by go_num, hB, HF1⟩
    · have HR2 : Hid (R = .tuple #[.int .i64 0, .bool false]) := by
        show _ = _
        rw [← unhide HF, show fsA cs 0 k = none from unhide HEN 0 k (by omega)]; rfl
      go_wp2
      try rw [Exit.noGoto_ret]
      go_ret2
      exact ⟨by rw [unhide HR2]; rfl, hB⟩
end Go.Proofs.Ytkckkchnmgidgaa
